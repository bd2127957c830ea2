/- A region inside a fence that draws its order: its head, each operation shown once, whatever came before it; then its tail, which waits for all of the head. -/
import Derived.Test.YtajmnhnepoomjaaHeld
import Derived.OrdersIn
import Derived.RangeFuncNested
namespace Go.Proofs.Ytajmnhnepoomjaa
open Go.RowKit

section
variable {fn : Nat} {P : Program} {ops : Array Oper} {md : Region.Mode} {Q : Exit → Act → World → Prop} {V : Nat → Value → World → Prop} {X : World} {a0 : Act}

/-- One operation's step, inside the fence. -/
def StepIn (fn : Nat) (P : Program) (md : Region.Mode) (ops : Array Oper) (Q : Exit → Act → World → Prop) (V : Nat → Value → World → Prop) (X : World) (a0 : Act) (i : Nat) (o : Oper) : Prop :=
  ∀ (a : Act) (W : World), Below X.heap.size X W → (∀ s, (∀ (j : Nat) oj, ops[j]? = some oj → oj.dst ≠ some s) → a.eval (.tmp s) = a0.eval (.tmp s)) →
    (∀ (j s : Nat), Region.waitsFor md ops i j = true → (ops[j]?.bind (·.dst)) = some s → V j (a.eval (.tmp s)) W) →
    Region.wanted o (yielded ops a.tmps) = true ∧ Oper.wpIn Fence.wide fn P o a W (fun a' W' => ∃ v, a' = a.put o.dst v ∧ Below W.heap.size W W' ∧ V i v W') Q

theorem ready_all (hidx : ∀ (i : Nat) o, ops[i]? = some o → ∀ e ∈ o.after, Region.binds md e = true → e.on < i) {listed : Array Bool} (hsz : listed.size = ops.size) (hr : Region.ready md ops listed = []) : ∀ k, k < ops.size → listed.getD k false = true := by
  intro k
  induction k using Nat.strongRecOn with
  | ind k ih =>
    intro hk
    cases h : listed.getD k true with
    | true =>
      have : k < listed.size := by omega
      simpa [this] using h
    | false =>
      have hm : k ∈ Region.ready md ops listed := by
        refine mem_ready.2 ⟨h, ops[k], by simp [hk], fun e he hb => ?_⟩
        have hlt := hidx k ops[k] (by simp [hk]) e he hb
        exact ih e.on hlt (by omega)
      rw [hr] at hm
      cases hm

theorem wpAnyIn_head {h : Nat} (hn : h < ops.size) (hs : Region.sinkB md ops h = true) (hc : Region.chainB md ops h = true) (hidx : ∀ (i : Nat) o, ops[i]? = some o → ∀ e ∈ o.after, Region.binds md e = true → e.on < i) (hdst : ∀ (i j : Nat) oi oj s, ops[i]? = some oi → ops[j]? = some oj → oi.dst = some s → oj.dst = some s → i = j)
    (hrange : ∀ (i : Nat) o s, ops[i]? = some o → o.dst = some s → s < a0.tmps.size) (hV : ∀ i v W W', Below W.heap.size W W' → V i v W → V i v W')
    (step : ∀ (i : Nat) o, i < h → ops[i]? = some o → StepIn fn P md ops Q V X a0 i o)
    (tail : ∀ fuel listed a W, HInv ops V X a0 listed a W → listed.size = ops.size → (∀ i, i < h → listed.getD i false = true) → (∀ t, h ≤ t → t < ops.size → listed.getD t true = false) → unl listed = fuel → wpAnyIn Fence.wide fn P md ops Q fuel listed a W) :
    ∀ (fuel : Nat) (listed : Array Bool) (a : Act) (W : World), HeadInv md ops h listed → HInv ops V X a0 listed a W → unl listed = fuel → wpAnyIn Fence.wide fn P md ops Q fuel listed a W := by
  intro fuel
  induction fuel with
  | zero =>
    intro listed a W hinv inv hf
    refine tail 0 listed a W inv hinv.size (fun i hi => ?_) hinv.tail hf
    cases hl : listed.getD i false with
    | true => rfl
    | false =>
      exfalso
      have hil : i < listed.size := by rw [hinv.size]; omega
      have h3 : false ∈ listed.toList := by
        have hl' : listed[i] = false := by simpa [hil] using hl
        exact Array.mem_toList_iff.2 (hl' ▸ Array.getElem_mem hil)
      have := List.count_pos_iff.2 h3
      unfold unl at hf
      omega
  | succ fuel ih =>
    intro listed a W hinv inv hf
    by_cases hall : ∀ i, i < h → listed.getD i false = true
    · exact tail _ listed a W inv hinv.size hall hinv.tail hf
    · obtain ⟨i1, hi1, hu1⟩ : ∃ i, i < h ∧ listed.getD i false = false := by
        by_cases hx : ∃ i, i < h ∧ listed.getD i false = false
        · exact hx
        · refine absurd (fun i hi => ?_) hall
          cases hl : listed.getD i false with
          | true => rfl
          | false => exact absurd ⟨i, hi, hl⟩ hx
      have hun : listed.getD i1 true = false := getD_in (by rw [hinv.size]; omega) hu1
      refine ⟨fun hr => ?_, fun i hi => ?_⟩
      · have := ready_all hidx hinv.size hr i1 (by omega)
        rw [hu1] at this
        cases this
      · have hih : i < h := by
          rcases Nat.lt_or_ge i h with h' | h'
          · exact h'
          · exact absurd hi (tail_waits hs hc hn hinv _ i1 rfl hi1 hun i h')
        obtain ⟨hli, o, ho, hdep⟩ := mem_ready.1 hi
        have hil : i < listed.size := by rw [hinv.size]; exact (Array.getElem?_eq_some_iff.1 ho).1
        obtain ⟨hw, hst⟩ := step i o hih ho a W inv.hb inv.old (fun j s hw hs => by
          obtain ⟨o', ho', e, he, hb, hon⟩ := Region.waitsFor_spec hw
          have : o' = o := Option.some.inj (ho'.symm.trans ho)
          subst this
          have h1 := hdep e he hb
          rw [hon] at h1
          cases hj : ops[j]? with
          | none => rw [hj] at hs; cases hs
          | some oj => rw [hj] at hs; exact inv.val j oj s hj hs h1)
        have hcnt : unl (listed.setIfInBounds i true) = fuel := by
          have hli' : listed[i] = false := by simpa [hil] using hli
          unfold unl at *
          have h2 : (listed.setIfInBounds i true).toList = listed.toList.set i true := by simp
          rw [h2, List.count_set (by simpa using hil)]
          have h3 : listed.toList[i]'(by simpa using hil) = false := by simpa using hli'
          rw [h3]
          show listed.toList.count false - 1 + 0 = fuel
          omega
        unfold wpOpIn
        rw [ho]
        simp only
        rw [if_pos hw]
        refine Oper.wpIn_mono ?_ hst
        rintro a' W' ⟨v, rfl, hb, hv⟩
        refine ih _ _ _ (hinv.set hi hih) ⟨inv.hb.trans (hb.mono inv.hb.size), by rw [put_size]; exact inv.tsz, by rw [put_defers]; exact inv.dfr, ?_, ?_⟩ hcnt
        · intro s hs
          cases hd : o.dst with
          | none => rw [Act.put]; exact inv.old s hs
          | some d =>
            rw [eval_put a d v s (by rw [inv.tsz]; exact hrange i o d ho hd), if_neg (fun e => hs i o ho (by rw [hd, e]))]
            exact inv.old s hs
        · intro j oj s hj hs hlj
          cases hd : o.dst with
          | none =>
            by_cases hij : j = i
            · subst hij
              have : oj = o := Option.some.inj (hj.symm.trans ho)
              subst this
              rw [hd] at hs
              cases hs
            · rw [getD_set_ne false (fun e => hij e.symm)] at hlj
              rw [Act.put]
              exact hV j _ W W' hb (inv.val j oj s hj hs hlj)
          | some d =>
            rw [eval_put a d v s (by rw [inv.tsz]; exact hrange i o d ho hd)]
            by_cases hij : j = i
            · subst hij
              have : oj = o := Option.some.inj (hj.symm.trans ho)
              subst this
              rw [hd] at hs
              injection hs with hs
              rw [if_pos hs.symm]
              exact hv
            · rw [getD_set_ne false (fun e => hij e.symm)] at hlj
              rw [if_neg (fun e => hij (hdst j i oj o s hj ho hs (by rw [hd, e])))]
              exact hV j _ W W' hb (inv.val j oj s hj hs hlj)
end

/-- One operation's step, by the list. -/
def StepLI (fn : Nat) (P : Program) (md : Region.Mode) (l : List Oper) (Q : Exit → Act → World → Prop) (V : Nat → Value → World → Prop) (X : World) (a0 : Act) (i : Nat) (o : Oper) : Prop :=
  ∀ (a : Act) (W : World), Below X.heap.size X W → (∀ s, notDstL l s = true → a.eval (.tmp s) = a0.eval (.tmp s)) →
    (∀ (j s : Nat), waitsL md l i j = true → (l[j]?.bind (·.dst)) = some s → V j (a.eval (.tmp s)) W) →
    Region.wanted o (yielded l.toArray a.tmps) = true ∧ Oper.wpIn Fence.wide fn P o a W (fun a' W' => ∃ v, a' = a.put o.dst v ∧ Below W.heap.size W W' ∧ V i v W') Q
theorem StepLI.ok {fn : Nat} {P : Program} {md : Region.Mode} {l : List Oper} {Q : Exit → Act → World → Prop} {V : Nat → Value → World → Prop} {X : World} {a0 : Act} {i : Nat} {o : Oper} (h : StepLI fn P md l Q V X a0 i o) : StepIn fn P md l.toArray Q V X a0 i o := by
  intro a W hb ho hg
  refine h a W hb (fun s hs => ho s fun j oj hj => ?_) (fun j s hw hs => hg j s ?_ (by simpa using hs))
  · have hm : oj ∈ l := List.mem_of_getElem? (by simpa using hj)
    have := List.all_eq_true.1 hs oj hm
    simpa using this
  · unfold waitsL at hw
    unfold Region.waitsFor
    rw [List.getElem?_toArray]
    cases hli : l[i]? with
    | none => rw [hli] at hw; cases hw
    | some oi =>
      rw [hli] at hw
      simpa using hw
theorem listed_lit {l : List Oper} {h : Nat} {listed : Array Bool} (hsz : listed.size = l.length) (h1 : ∀ i, i < h → listed.getD i false = true) (h2 : ∀ t, h ≤ t → t < l.length → listed.getD t true = false) (hh : h ≤ l.length) : listed = Array.replicate h true ++ Array.replicate (l.length - h) false := by
  apply Array.ext
  · simp
    omega
  · intro i hi1 hi2
    by_cases hi : i < h
    · have := h1 i hi
      rw [Array.getElem_append_left (by simpa using hi)]
      simpa [hi1] using this
    · have := h2 i (by omega) (by omega)
      rw [Array.getElem_append_right (by simp; omega)]
      simpa [hi1] using this
/-- THE REGION: its head by steps, then its tail. -/
theorem region_headIn {fn : Nat} {P : Program} {id : Nat} {l : List Oper} {Q : Exit → Act → World → Prop} {a : Act} {w : World} (n h : Nat) (hm : P.follows .mixedOrders = true) (hn : a.tmps.size = n) (V : Nat → Value → World → Prop)
    (hV : ∀ i v W W', Below W.heap.size W W' → V i v W → V i v W') (hB : textB .any l n = true) (hh : h < l.length) (hs : Region.sinkB .any l.toArray h = true) (hc : Region.chainB .any l.toArray h = true)
    (steps : EachAt (StepLI fn P .any l Q V { w with drawn := w.drawn + 1 } a) 0 (l.take h))
    (fin : ∀ a' W, HInv l.toArray V { w with drawn := w.drawn + 1 } a (Array.replicate h true ++ Array.replicate (l.length - h) false) a' W → wpAnyIn Fence.wide fn P .any l.toArray Q (l.length - h) (Array.replicate h true ++ Array.replicate (l.length - h) false) a' W) : (Code.region id l.toArray true).wpIn Fence.wide fn P Q a w := by
  subst hn
  obtain ⟨h1, h2, h3⟩ := textB_spec hB
  refine wpIn_region_any hm ?_
  refine wpAnyIn_head (X := { w with drawn := w.drawn + 1 }) (a0 := a) (h := h) (by simpa using hh) hs hc (fun i o ho => h1 i o (by simpa using ho)) (fun i j oi oj s hi hj => h2 i j oi oj s (by simpa using hi) (by simpa using hj)) (fun i o s ho => h3 i o s (by simpa using ho)) hV
    (fun i o hi ho => ?_) (fun fuel listed a' W inv hsz k1 k2 hf => ?_) _ _ _ _ ⟨by simp, fun j oj hj hl => ?_, fun t _ ht => ?_⟩ ⟨Below.refl _ _, rfl, rfl, fun _ _ => rfl, fun i o s _ _ hl => ?_⟩ ?_
  · have ho' : (l.take h)[i]? = some o := by rw [List.getElem?_take, if_pos hi]; simpa using ho
    have := EachAt.get (l.take h) 0 i o (EachAt.imp (fun _ _ h => StepLI.ok h) _ 0 steps) ho'
    rwa [Nat.zero_add] at this
  · have e := listed_lit (l := l) (by simpa using hsz) k1 (fun t a b => k2 t a (by simpa using b)) (Nat.le_of_lt hh)
    subst e
    have hfe : fuel = l.length - h := by
      rw [← hf]
      unfold unl
      simp [List.count_replicate]
    subst hfe
    exact fin a' W inv
  · rw [getD_replicate_false] at hl
    cases hl
  · simp at ht
    simp [ht]
  · rw [getD_replicate_false] at hl
    cases hl
  · unfold unl
    simp

section
variable {fn : Nat} {P : Program} {ops : Array Oper} {md : Region.Mode} {Q : Exit → Act → World → Prop} {V : Nat → Value → World → Prop} {i : Nat} {o : Oper} {a : Act} {W : World} {s t u : Operand} {v : Value}
theorem want_none (hg : o.guard = none) : Region.wanted o (yielded ops a.tmps) = true := by simp [Region.wanted, hg]
theorem want_of {g sl : Nat} {b : Bool} (hgo : (ops[g]?.bind (·.dst)) = some sl) (e : a.eval (.tmp sl) = .bool b) : yielded ops a.tmps g = some b := by
  unfold yielded
  rw [hgo]
  change a.tmps.getD sl undef = .bool b at e
  cases h : a.tmps[sl]? with
  | none => rw [Array.getD_eq_getD_getElem?, h] at e; cases e
  | some x =>
    rw [Array.getD_eq_getD_getElem?, h] at e
    simp only [Option.getD_some] at e
    subst e
    simp [h]
theorem want_some {l : List Oper} {g sl : Nat} {b : Bool} (hg : o.guard = some (g, b)) (hgo : (l[g]?.bind (·.dst)) = some sl) (e : a.eval (.tmp sl) = .bool b) : Region.wanted o (yielded l.toArray a.tmps) = true := by
  simp [Region.wanted, hg, want_of (ops := l.toArray) (by simpa using hgo) e]
abbrev NextI (V : Nat → Value → World → Prop) (i : Nat) (o : Oper) (a : Act) (W : World) : Act → World → Prop := fun a' W' => ∃ v, a' = a.put o.dst v ∧ Below W.heap.size W W' ∧ V i v W'
theorem in_val {K : Act → World → Prop} (h : (execOp a.eval o).run P W = .ok (.value v) W) (hk : K (a.put o.dst v) W) : Oper.wpIn Fence.wide fn P o a W K Q := by
  unfold Oper.wpIn
  refine ⟨fun _ _ => trivial, ?_⟩
  rw [Fence.wide_round, Oper.semAt_none, h]
  exact hk
theorem in_run (h : (execOp a.eval o).run P W = .ok (.value v) W) (hv : V i v W) : Oper.wpIn Fence.wide fn P o a W (NextI V i o a W) Q := in_val h ⟨v, rfl, Below.refl _ _, hv⟩
theorem in_round {l f : Nat} {tmps : Array Value} {assign body : Code} {R : Ending → World → Prop} {K : Act → World → Prop} (h : (execOp a.eval o).run P W = .ok (.round l f tmps assign body) W) (hr : RoundIn Fence.wide (fn - 1) P l f tmps assign body W R)
    (hR : ∀ e W', R e W' → ∃ v, e = .returned v ∧ K (a.put o.dst v) W') : Oper.wpIn Fence.wide fn P o a W K Q := by
  unfold Oper.wpIn
  refine ⟨fun _ _ => trivial, ?_⟩
  rw [Fence.wide_round, Oper.semAt_none, h, Oper.uponIn_round]
  refine ⟨fun h => (by cases h), hr.mono ?_⟩
  intro e W' h
  obtain ⟨v, rfl, hk⟩ := hR e W' h
  exact hk
theorem in_call {f : FuncId} {xs : Array Operand} {ats : Array TypeId} {args : Array Value} {R : Ending → World → Prop} (ho : o.op = .call { callee := .value (.func f), args := xs, argTypes := ats }) (hargs : xs.map a.eval = args)
    (hent : (callFunc f args).run P W = .ok (.enter f args) W) (hc : Calls P f args W R) (hR : ∀ e W', R e W' → ∃ v, e = .returned v ∧ Below W.heap.size W W' ∧ V i v W') : Oper.wpIn Fence.wide fn P o a W (NextI V i o a W) Q := by
  unfold Oper.wpIn
  have h1 : (execOp a.eval o).run P W = .ok (.enter f args) W := by
    simp only [execOp, ho, resolve, hargs]
    simp [Deferred.ofValue, Act.eval, invoke, hent]
  refine ⟨fun _ _ => trivial, ?_⟩
  rw [Fence.wide_round, Oper.semAt_none, h1, Oper.uponIn_enter]
  refine ⟨fun h => (by cases h), CallsIn.mono (callsIn_wide.2 hc) ?_⟩
  intro e W' h
  obtain ⟨v, rfl, hb, hv⟩ := hR e W' h
  exact ⟨v, rfl, hb, hv⟩
theorem in_not {ty : TypeId} {b : Bool} {K : Act → World → Prop} (ho : o.op = .unOp .not ty s) (e : a.eval s = .bool b) (hk : K (a.put o.dst (.bool (!b))) W) : Oper.wpIn Fence.wide fn P o a W K Q := in_val (by simp only [execOp, ho, e]; rfl) hk
theorem in_pick {b : Bool} {K : Act → World → Prop} (ho : o.op = .pick s t u) (e : a.eval s = .bool b) (e1 : b = true → a.eval t = v) (e2 : b = false → a.eval u = v) (hk : K (a.put o.dst v) W) : Oper.wpIn Fence.wide fn P o a W K Q := by
  refine in_val ?_ hk
  simp only [execOp, ho, e]
  cases b
  · rw [← e2 rfl]; rfl
  · rw [← e1 rfl]; rfl
theorem tail_one {k fuel : Nat} {listed : Array Bool} (hr : Region.ready md ops listed = [k]) (ho : ops[k]? = some o) (hw : Region.wanted o (yielded ops a.tmps) = true) (h : o.wpIn Fence.wide fn P a W (wpAnyIn Fence.wide fn P md ops Q fuel (listed.setIfInBounds k true)) Q) : wpAnyIn Fence.wide fn P md ops Q (fuel + 1) listed a W := by
  refine ⟨fun h0 => (by rw [hr] at h0; cases h0), fun i hi => ?_⟩
  rw [hr] at hi
  obtain rfl : i = k := by simpa using hi
  unfold wpOpIn
  rw [ho]
  simp only
  rw [if_pos hw]
  exact h
theorem tail_end {listed : Array Bool} (hr : Region.ready md ops listed = []) (h : Q .normal a W) : wpAnyIn Fence.wide fn P md ops Q 0 listed a W := ⟨hr, h⟩
/-- What a slot holds, or nothing of it. -/
def VL (ds : List (Option Value)) (i : Nat) (v : Value) (_ : World) : Prop := ∀ u, ds.getD i none = some u → v = u
theorem VL_later (ds : List (Option Value)) (i : Nat) (v : Value) (W W' : World) (_ : Below W.heap.size W W') (h : VL ds i v W) : VL ds i v W' := h
end
end Go.Proofs.Ytajmnhnepoomjaa
