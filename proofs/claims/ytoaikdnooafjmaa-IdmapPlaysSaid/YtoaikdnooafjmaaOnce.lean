/- A region that draws its order, each operation shown once, whatever came before it: what holds of the world hangs on which operations have been done. -/
import Derived.Test.YtoaikdnooafjmaaHeld
namespace Go.Proofs.Ytoaikdnooafjmaa
open Go.RowKit

def updL (L : Nat → Bool) (i : Nat) : Nat → Bool := fun j => if j = i then true else L j
/-- What stands while a region goes on: whatever was done has its value. -/
structure JInv (md : Region.Mode) (ops : Array Oper) (V : Nat → Value → Prop) (J : (Nat → Bool) → World → Prop) (a0 : Act) (listed : Array Bool) (a : Act) (W : World) : Prop where
  inv : J (fun i => listed.getD i false) W
  tsz : a.tmps.size = a0.tmps.size
  dfr : a.defers = a0.defers
  old : ∀ s, (∀ (i : Nat) o, ops[i]? = some o → o.dst ≠ some s) → a.eval (.tmp s) = a0.eval (.tmp s)
  val : ∀ (i : Nat) o s, ops[i]? = some o → o.dst = some s → listed.getD i false = true → V i (a.eval (.tmp s))
  cl : ∀ (j : Nat) oj, ops[j]? = some oj → listed.getD j false = true → ∀ e ∈ oj.after, Region.binds md e = true → listed.getD e.on false = true
section
variable {P : Program} {ops : Array Oper} {md : Region.Mode} {Q : Exit → Act → World → Prop} {V : Nat → Value → Prop} {J : (Nat → Bool) → World → Prop} {a0 : Act}
/-- One operation's step. -/
def StepN (P : Program) (md : Region.Mode) (ops : Array Oper) (Q : Exit → Act → World → Prop) (V : Nat → Value → Prop) (J : (Nat → Bool) → World → Prop) (a0 : Act) (i : Nat) (o : Oper) : Prop :=
  ∀ (L : Nat → Bool) (a : Act) (W : World), J L W → (∀ s, (∀ (j : Nat) oj, ops[j]? = some oj → oj.dst ≠ some s) → a.eval (.tmp s) = a0.eval (.tmp s)) → L i = false →
    (∀ j k : Nat, L j = true → Region.waitsFor md ops j k = true → L k = true) →
    (∀ j : Nat, Region.waitsFor md ops i j = true → L j = true ∧ ∀ s : Nat, (ops[j]?.bind (·.dst)) = some s → V j (a.eval (.tmp s))) →
    if Region.wanted o (yielded ops a.tmps) = true then Oper.wp P o a W (fun a' W' => ∃ v, a' = a.put o.dst v ∧ V i v ∧ J (updL L i) W') Q else V i undef ∧ J (updL L i) W
theorem listed_upd {listed : Array Bool} {i : Nat} (hi : i < listed.size) : (fun j => (listed.setIfInBounds i true).getD j false) = updL (fun j => listed.getD j false) i := by
  funext j
  unfold updL
  by_cases e : j = i
  · subst e
    rw [if_pos rfl]
    simp [hi]
  · rw [if_neg e, getD_set_ne false (fun e2 => e e2.symm)]
theorem wpAny_once (hidx : ∀ (i : Nat) o, ops[i]? = some o → ∀ e ∈ o.after, Region.binds md e = true → e.on < i) (hdst : ∀ (i j : Nat) oi oj s, ops[i]? = some oi → ops[j]? = some oj → oi.dst = some s → oj.dst = some s → i = j)
    (hrange : ∀ (i : Nat) o s, ops[i]? = some o → o.dst = some s → s < a0.tmps.size)
    (step : ∀ (i : Nat) o, ops[i]? = some o → StepN P md ops Q V J a0 i o)
    (fin : ∀ listed a W, (∀ k, k < ops.size → listed.getD k false = true) → JInv md ops V J a0 listed a W → Q .normal a W) :
    ∀ (fuel : Nat) (listed : Array Bool) (a : Act) (W : World), listed.size = ops.size → JInv md ops V J a0 listed a W → unl listed ≤ fuel → wpAny P md ops Q fuel listed a W := by
  have hall : ∀ (listed : Array Bool) (a : Act) (W : World), listed.size = ops.size → JInv md ops V J a0 listed a W → Region.ready md ops listed = [] → Q .normal a W := by
    intro listed a W hsz inv hr
    have hl : ∀ k, k < ops.size → listed.getD k false = true := by
      intro k
      induction k using Nat.strongRecOn with
      | ind k ih =>
        intro hk
        cases h : listed.getD k true with
        | true =>
          have : k < listed.size := by omega
          simpa [this] using h
        | false =>
          have hm : k ∈ Region.ready md ops listed := by
            refine mem_ready.2 ⟨h, ops[k], by simp [hk], fun e he hb => ?_⟩
            have hlt := hidx k ops[k] (by simp [hk]) e he hb
            exact ih e.on hlt (by omega)
          rw [hr] at hm
          cases hm
    exact fin listed a W hl inv
  intro fuel
  induction fuel with
  | zero =>
    intro listed a W hsz inv hf
    have hr : Region.ready md ops listed = [] := by
      refine List.eq_nil_iff_forall_not_mem.2 fun i hi => ?_
      obtain ⟨hli, o, ho, _⟩ := mem_ready.1 hi
      have hil : i < listed.size := by rw [hsz]; exact (Array.getElem?_eq_some_iff.1 ho).1
      have : false ∈ listed.toList := by
        have hli' : listed[i] = false := by simpa [hil] using hli
        exact Array.mem_toList_iff.2 (hli' ▸ Array.getElem_mem hil)
      have := List.count_pos_iff.2 this
      unfold unl at hf
      omega
    exact ⟨hr, hall listed a W hsz inv hr⟩
  | succ fuel ih =>
    intro listed a W hsz inv hf
    refine ⟨hall listed a W hsz inv, fun i hi => ?_⟩
    obtain ⟨hli, o, ho, hdep⟩ := mem_ready.1 hi
    have hil : i < listed.size := by rw [hsz]; exact (Array.getElem?_eq_some_iff.1 ho).1
    have hst := step i o ho (fun j => listed.getD j false) a W inv.inv inv.old (getD_both hli) (fun j k hj hw => by
      obtain ⟨oj, hoj, e, he, hb, hon⟩ := Region.waitsFor_spec hw
      have := inv.cl j oj hoj hj e he hb
      rw [hon] at this
      exact this) (fun j hw => by
      obtain ⟨o', ho', e, he, hb, hon⟩ := Region.waitsFor_spec hw
      have : o' = o := Option.some.inj (ho'.symm.trans ho)
      subst this
      have h1 := hdep e he hb
      rw [hon] at h1
      refine ⟨h1, fun s hs => ?_⟩
      cases hj : ops[j]? with
      | none => rw [hj] at hs; cases hs
      | some oj => rw [hj] at hs; exact inv.val j oj s hj hs h1)
    have hcnt : unl (listed.setIfInBounds i true) ≤ fuel := by
      have hli' : listed[i] = false := by simpa [hil] using hli
      unfold unl at *
      have h2 : (listed.setIfInBounds i true).toList = listed.toList.set i true := by simp
      rw [h2, List.count_set (by simpa using hil)]
      have h3 : listed.toList[i]'(by simpa using hil) = false := by simpa using hli'
      rw [h3]
      have h4 : false ∈ listed.toList := Array.mem_toList_iff.2 (hli' ▸ Array.getElem_mem hil)
      have := List.count_pos_iff.2 h4
      show listed.toList.count false - 1 + 0 ≤ fuel
      omega
    have hnext : ∀ (v : Value) (W' : World), V i v → J (updL (fun j => listed.getD j false) i) W' → wpAny P md ops Q fuel (listed.setIfInBounds i true) (a.put o.dst v) W' := by
      intro v W' hv hJJ
      refine ih _ _ _ (by simp [hsz]) ⟨by rw [listed_upd hil]; exact hJJ, by rw [put_size]; exact inv.tsz, by rw [put_defers]; exact inv.dfr, ?_, ?_, ?_⟩ hcnt
      · intro s hs
        cases hd : o.dst with
        | none => rw [Act.put]; exact inv.old s hs
        | some d =>
          rw [eval_put a d v s (by rw [inv.tsz]; exact hrange i o d ho hd), if_neg (fun e => hs i o ho (by rw [hd, e]))]
          exact inv.old s hs
      · intro j oj s hj hs hlj
        cases hd : o.dst with
        | none =>
          by_cases hij : j = i
          · subst hij
            have : oj = o := Option.some.inj (hj.symm.trans ho)
            subst this
            rw [hd] at hs
            cases hs
          · rw [getD_set_ne false (fun e => hij e.symm)] at hlj
            rw [Act.put]
            exact inv.val j oj s hj hs hlj
        | some d =>
          rw [eval_put a d v s (by rw [inv.tsz]; exact hrange i o d ho hd)]
          by_cases hij : j = i
          · subst hij
            have : oj = o := Option.some.inj (hj.symm.trans ho)
            subst this
            rw [hd] at hs
            injection hs with hs
            rw [if_pos hs.symm]
            exact hv
          · rw [getD_set_ne false (fun e => hij e.symm)] at hlj
            rw [if_neg (fun e => hij (hdst j i oj o s hj ho hs (by rw [hd, e])))]
            exact inv.val j oj s hj hs hlj
      · intro j oj hj hlj e he hb
        by_cases hij : j = i
        · subst hij
          have : oj = o := Option.some.inj (hj.symm.trans ho)
          subst this
          exact getD_set_true (hdep e he hb)
        · rw [getD_set_ne false (fun e => hij e.symm)] at hlj
          exact getD_set_true (inv.cl j oj hj hlj e he hb)
    refine wpOp_step ho fun K' hK => ?_
    by_cases hw : Region.wanted o (yielded ops a.tmps) = true
    · rw [if_pos hw] at hst ⊢
      refine Oper.wp_mono ?_ hst
      rintro a' W' ⟨v, rfl, hv, hj⟩
      exact hK _ _ (hnext v W' hv hj)
    · rw [if_neg hw] at hst ⊢
      exact hK _ _ (hnext undef W hst.1 hst.2)
end

/-- One operation's step, by the list. -/
def StepJ (P : Program) (md : Region.Mode) (l : List Oper) (Q : Exit → Act → World → Prop) (V : Nat → Value → Prop) (J : (Nat → Bool) → World → Prop) (a0 : Act) (i : Nat) (o : Oper) : Prop :=
  ∀ (L : Nat → Bool) (a : Act) (W : World), J L W → (∀ s, notDstL l s = true → a.eval (.tmp s) = a0.eval (.tmp s)) → L i = false →
    (∀ j k : Nat, waitsL md l j k = true → L j = true → L k = true) →
    (∀ j : Nat, waitsL md l i j = true → L j = true ∧ ∀ s : Nat, (l[j]?.bind (·.dst)) = some s → V j (a.eval (.tmp s))) →
    if Region.wanted o (yielded l.toArray a.tmps) = true then Oper.wp P o a W (fun a' W' => ∃ v, a' = a.put o.dst v ∧ V i v ∧ J (updL L i) W') Q else V i undef ∧ J (updL L i) W
theorem waits_of {md : Region.Mode} {l : List Oper} {i j : Nat} (hw : waitsL md l i j = true) : Region.waitsFor md l.toArray i j = true := by
  unfold waitsL at hw
  unfold Region.waitsFor
  rw [List.getElem?_toArray]
  cases hli : l[i]? with
  | none => rw [hli] at hw; cases hw
  | some oi =>
    rw [hli] at hw
    simpa using hw
theorem StepJ.ok {P : Program} {md : Region.Mode} {l : List Oper} {Q : Exit → Act → World → Prop} {V : Nat → Value → Prop} {J : (Nat → Bool) → World → Prop} {a0 : Act} {i : Nat} {o : Oper} (h : StepJ P md l Q V J a0 i o) : StepN P md l.toArray Q V J a0 i o := by
  intro L a W hj ho hl hc hg
  refine h L a W hj (fun s hs => ho s fun j oj hj => ?_) hl (fun j k hw hj => hc j k hj (waits_of hw)) (fun j hw => ?_)
  · have hm : oj ∈ l := List.mem_of_getElem? (by simpa using hj)
    have := List.all_eq_true.1 hs oj hm
    simpa using this
  · obtain ⟨h1, h2⟩ := hg j (waits_of hw)
    exact ⟨h1, fun s hs => h2 s (by simpa using hs)⟩
/-- THE REGION: each operation's step once. -/
theorem region_once {P : Program} {id : Nat} {l : List Oper} {Q : Exit → Act → World → Prop} {a : Act} {w : World} (n : Nat) (hm : P.follows .mixedOrders = true) (hn : a.tmps.size = n) (V : Nat → Value → Prop) (J : (Nat → Bool) → World → Prop) (hB : textB .any l n = true)
    (h0 : J (fun _ => false) w.drew) (steps : EachAt (StepJ P .any l Q V J a) 0 l) (dsts : List Nat) (hd : l.filterMap (·.dst) = dsts)
    (fin : ∀ (L : Nat → Bool) (g : Nat → Value) W, J L W → (∀ k, k < l.length → L k = true) → (∀ i s : Nat, (l[i]?.bind (·.dst)) = some s → V i (g s)) → Q .normal { tmps := dsts.foldl (fun t s => t.setIfInBounds s (g s)) a.tmps, defers := a.defers } W) : (Code.region id l.toArray true).wp P Q a w := by
  subst hn
  obtain ⟨h1, h2, h3⟩ := textB_spec hB
  refine wp_region_any hm ?_
  refine wpAny_once (V := V) (J := J) (a0 := a) (fun i o ho => h1 i o (by simpa using ho)) (fun i j oi oj s hi hj => h2 i j oi oj s (by simpa using hi) (by simpa using hj)) (fun i o s ho => h3 i o s (by simpa using ho))
    (fun i o ho => by have := EachAt.get l 0 i o (EachAt.imp (fun _ _ h => StepJ.ok h) l 0 steps) (by simpa using ho); rwa [Nat.zero_add] at this) (fun listed a' W hl inv => ?_) _ _ _ _ (by simp) ⟨?_, rfl, rfl, fun _ _ => rfl, fun i o s _ _ hl => ?_, fun j oj _ hl => ?_⟩ ?_
  · have hval : ∀ i s : Nat, (l[i]?.bind (·.dst)) = some s → V i (a'.eval (.tmp s)) := fun i s hs => by
      cases hi : l[i]? with
      | none => rw [hi] at hs; cases hs
      | some o =>
        rw [hi] at hs
        exact inv.val i o s (by simpa using hi) hs (hl i (by simpa using (List.getElem?_eq_some_iff.1 hi).1))
    have hfr : a' = { tmps := dsts.foldl (fun t s => t.setIfInBounds s (a'.eval (.tmp s))) a.tmps, defers := a.defers } := by
      obtain ⟨ts, df⟩ := a'
      have h1 : ts.size = a.tmps.size := inv.tsz
      have h2 : df = a.defers := inv.dfr
      subst h2
      congr 1
      apply Array.ext
      · rw [size_foldl]; exact h1
      · intro i hi1 hi2
        have hi : i < a.tmps.size := by omega
        have h3 := getD_foldl (fun s => Act.eval ⟨ts, a.defers⟩ (.tmp s)) dsts a.tmps i hi
        have e1 : ts[i] = ts.getD i undef := by simp [hi1]
        have e2 : (dsts.foldl (fun t s => t.setIfInBounds s (Act.eval ⟨ts, a.defers⟩ (.tmp s))) a.tmps)[i] = (dsts.foldl (fun t s => t.setIfInBounds s (Act.eval ⟨ts, a.defers⟩ (.tmp s))) a.tmps).getD i undef := by simp [hi2]
        rw [e1, e2, h3]
        by_cases hm : i ∈ dsts
        · rw [if_pos hm]; rfl
        · rw [if_neg hm]
          refine inv.old i fun j o hj hs => hm ?_
          rw [← hd]
          exact List.mem_filterMap.2 ⟨o, List.mem_of_getElem? (by simpa using hj), hs⟩
    rw [hfr]
    exact fin _ (fun s => a'.eval (.tmp s)) W inv.inv (fun k hk => hl k (by simpa using hk)) hval
  · have e : (fun i => (Array.replicate l.toArray.size false).getD i false) = fun _ => false := by
      funext i
      exact getD_replicate_false _ _
    rw [e]
    exact h0
  · rw [getD_replicate_false] at hl
    cases hl
  · rw [getD_replicate_false] at hl
    cases hl
  · unfold unl
    simp

theorem ls_false {L : Nat → Bool} {i j : Nat} (h : L j = true → L i = true) (hi : L i = false) : L j = false := by
  cases hj : L j with
  | false => rfl
  | true =>
    have := h hj
    rw [hi] at this
    cases this
/-- What a slot holds, or nothing of it. -/
def VO (ds : List (Option Value)) (i : Nat) (v : Value) : Prop := ∀ u, ds.getD i none = some u → v = u
section
variable {P : Program} {l : List Oper} {Q : Exit → Act → World → Prop} {V : Nat → Value → Prop} {J : (Nat → Bool) → World → Prop} {L : Nat → Bool} {i : Nat} {o : Oper} {a : Act} {W W' : World} {v : Value}
theorem wantO_none (hg : o.guard = none) : Region.wanted o (yielded l.toArray a.tmps) = true := by simp [Region.wanted, hg]
theorem yieldO {g sl : Nat} {b : Bool} (hgo : (l[g]?.bind (·.dst)) = some sl) (e : a.eval (.tmp sl) = .bool b) : yielded l.toArray a.tmps g = some b := by
  unfold yielded
  rw [show (l.toArray[g]?.bind (·.dst)) = some sl by simpa using hgo]
  change a.tmps.getD sl undef = .bool b at e
  cases h : a.tmps[sl]? with
  | none => rw [Array.getD_eq_getD_getElem?, h] at e; cases e
  | some x =>
    rw [Array.getD_eq_getD_getElem?, h] at e
    simp only [Option.getD_some] at e
    subst e
    simp [h]
theorem wantO_some {g sl : Nat} {b : Bool} (hg : o.guard = some (g, b)) (hgo : (l[g]?.bind (·.dst)) = some sl) (e : a.eval (.tmp sl) = .bool b) : Region.wanted o (yielded l.toArray a.tmps) = true := by
  simp [Region.wanted, hg, yieldO hgo e]
theorem wantO_not {g sl : Nat} {b : Bool} (hg : o.guard = some (g, b)) (hgo : (l[g]?.bind (·.dst)) = some sl) (e : a.eval (.tmp sl) = .bool (!b)) : Region.wanted o (yielded l.toArray a.tmps) = false := by
  simp [Region.wanted, hg, yieldO hgo e]
theorem wantO_undef {g sl : Nat} {b : Bool} (hg : o.guard = some (g, b)) (hgo : (l[g]?.bind (·.dst)) = some sl) (e : a.eval (.tmp sl) = undef) : Region.wanted o (yielded l.toArray a.tmps) = false := by
  have h : yielded l.toArray a.tmps g = none := by
    unfold yielded
    rw [show (l.toArray[g]?.bind (·.dst)) = some sl by simpa using hgo]
    change a.tmps.getD sl undef = undef at e
    cases h : a.tmps[sl]? with
    | none => simp [h]
    | some x =>
      rw [Array.getD_eq_getD_getElem?, h] at e
      simp only [Option.getD_some] at e
      subst e
      simp [h, undef]
  simp [Region.wanted, hg, h]
/-- One operation, M, turns the memory (F: what it is then), all else reads. -/
def JTurn (WD : World) (F : World → Prop) (M : Nat) (L : Nat → Bool) (W : World) : Prop := (L M = false → W = WD) ∧ (L M = true → F W)
theorem JTurn.start (WD : World) (F : World → Prop) (M : Nat) : JTurn WD F M (fun _ => false) WD := ⟨fun _ => rfl, fun e => (by cases e)⟩
theorem JTurn.read {WD : World} {F : World → Prop} {M : Nat} (h : JTurn WD F M L W) (hM : i ≠ M) : JTurn WD F M (updL L i) W := by
  unfold JTurn updL at *
  rw [if_neg (show ¬ M = i from fun e => hM e.symm)]
  exact h
theorem JTurn.turn {WD : World} {F : World → Prop} {M : Nat} (hF : F W') : JTurn WD F M (updL L M) W' := by
  unfold JTurn updL
  rw [if_pos rfl]
  exact ⟨fun e => (by cases e), fun _ => hF⟩
abbrev NextO (V : Nat → Value → Prop) (J : (Nat → Bool) → World → Prop) (L : Nat → Bool) (i : Nat) (o : Oper) (a : Act) : Act → World → Prop := fun a' W' => ∃ v, a' = a.put o.dst v ∧ V i v ∧ J (updL L i) W'
theorem once_run (hw : Region.wanted o (yielded l.toArray a.tmps) = true) (h : (execOp a.eval o).run P W = .ok (.value v) W') (hv : V i v) (hj : J (updL L i) W') : if Region.wanted o (yielded l.toArray a.tmps) = true then Oper.wp P o a W (NextO V J L i o a) Q else V i undef ∧ J (updL L i) W := by
  rw [if_pos hw]
  unfold Oper.wp
  rw [h]
  exact ⟨v, rfl, hv, hj⟩
theorem once_store (hw : Region.wanted o (yielded l.toArray a.tmps) = true) (hd : o.dst = none) (h : (execOp a.eval o).run P W = .ok .skip W') (hv : V i undef) (hj : J (updL L i) W') : if Region.wanted o (yielded l.toArray a.tmps) = true then Oper.wp P o a W (NextO V J L i o a) Q else V i undef ∧ J (updL L i) W := by
  rw [if_pos hw]
  unfold Oper.wp
  rw [h]
  exact ⟨undef, by rw [hd], hv, hj⟩
theorem once_not (hw : Region.wanted o (yielded l.toArray a.tmps) = false) (hv : V i undef) (hj : J (updL L i) W) : if Region.wanted o (yielded l.toArray a.tmps) = true then Oper.wp P o a W (NextO V J L i o a) Q else V i undef ∧ J (updL L i) W := by
  rw [if_neg (by rw [hw]; decide)]
  exact ⟨hv, hj⟩
theorem once_call {f : FuncId} {xs : Array Operand} {ats : Array TypeId} {args : Array Value} {R : Ending → World → Prop} (hw : Region.wanted o (yielded l.toArray a.tmps) = true) (ho : o.op = .call { callee := .value (.func f), args := xs, argTypes := ats }) (hargs : xs.map a.eval = args)
    (hent : (callFunc f args).run P W = .ok (.enter f args) W) (hc : Calls P f args W R) (hR : ∀ e W', R e W' → ∃ v, e = .returned v ∧ V i v ∧ J (updL L i) W') : if Region.wanted o (yielded l.toArray a.tmps) = true then Oper.wp P o a W (NextO V J L i o a) Q else V i undef ∧ J (updL L i) W := by
  rw [if_pos hw]
  have h1 : (execOp a.eval o).run P W = .ok (.enter f args) W := by
    simp only [execOp, ho, resolve, hargs]
    simp [Deferred.ofValue, Act.eval, invoke, hent]
  unfold Oper.wp
  rw [h1]
  refine Calls.mono hc ?_
  intro e W' h
  obtain ⟨v, rfl, hv, hj⟩ := hR e W' h
  exact ⟨v, rfl, hv, hj⟩
end

end Go.Proofs.Ytoaikdnooafjmaa
