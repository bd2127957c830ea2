/- A region that draws its order, each operation shown once, whatever came before it: what is done already has its value, worlds only grow. -/
import Derived.Test.YtdgmcaehadigaaaMem
import Derived.StillTail
namespace Go.Proofs.Ytdgmcaehadigaaa
open Go.RowKit

section
variable {P : Program} {ops : Array Oper} {md : Region.Mode} {Q : Exit → Act → World → Prop} {V : Nat → Value → World → Prop} {X : World} {a0 : Act}

/-- What stands while a region goes on: whatever was done has its value. -/
structure HInv (ops : Array Oper) (V : Nat → Value → World → Prop) (X : World) (a0 : Act) (listed : Array Bool) (a : Act) (W : World) : Prop where
  hb : Below X.heap.size X W
  tsz : a.tmps.size = a0.tmps.size
  dfr : a.defers = a0.defers
  old : ∀ s, (∀ (i : Nat) o, ops[i]? = some o → o.dst ≠ some s) → a.eval (.tmp s) = a0.eval (.tmp s)
  val : ∀ (i : Nat) o s, ops[i]? = some o → o.dst = some s → listed.getD i false = true → V i (a.eval (.tmp s)) W

theorem eval_put (a : Act) (d : Nat) (v : Value) (s : Nat) (hd : d < a.tmps.size) : (a.put (some d) v).eval (.tmp s) = if s = d then v else a.eval (.tmp s) := by
  unfold Act.put Act.eval
  simp only
  by_cases h : s = d
  · subst h
    simp [hd]
  · rw [if_neg h]
    simp [Array.getD_eq_getD_getElem?, Array.getElem?_setIfInBounds_ne (fun e => h e.symm)]
theorem eval_get {a : Act} {s : Nat} {v : Value} (e : a.eval (.tmp s) = v) : a.tmps[s]?.getD undef = v := by
  rw [← Array.getD_eq_getD_getElem?]
  exact e
theorem put_size (a : Act) (d : Option Nat) (v : Value) : (a.put d v).tmps.size = a.tmps.size := by
  cases d <;> simp [Act.put]
theorem put_defers (a : Act) (d : Option Nat) (v : Value) : (a.put d v).defers = a.defers := by
  cases d <;> simp [Act.put]

/-- One operation's step. -/
def StepOK (P : Program) (md : Region.Mode) (ops : Array Oper) (Q : Exit → Act → World → Prop) (V : Nat → Value → World → Prop) (X : World) (a0 : Act) (i : Nat) (o : Oper) : Prop :=
  ∀ (a : Act) (W : World), Below X.heap.size X W → (∀ s, (∀ (j : Nat) oj, ops[j]? = some oj → oj.dst ≠ some s) → a.eval (.tmp s) = a0.eval (.tmp s)) →
    (∀ (j s : Nat), Region.waitsFor md ops i j = true → (ops[j]?.bind (·.dst)) = some s → V j (a.eval (.tmp s)) W) →
    if Region.wanted o (yielded ops a.tmps) = true then Oper.wp P o a W (fun a' W' => ∃ v, a' = a.put o.dst v ∧ Below W.heap.size W W' ∧ V i v W') Q else V i undef W

def unl (listed : Array Bool) : Nat := listed.toList.count false

theorem wpAny_held (hidx : ∀ (i : Nat) o, ops[i]? = some o → ∀ e ∈ o.after, Region.binds md e = true → e.on < i) (hdst : ∀ (i j : Nat) oi oj s, ops[i]? = some oi → ops[j]? = some oj → oi.dst = some s → oj.dst = some s → i = j)
    (hrange : ∀ (i : Nat) o s, ops[i]? = some o → o.dst = some s → s < a0.tmps.size) (hV : ∀ i v W W', Below W.heap.size W W' → V i v W → V i v W')
    (step : ∀ (i : Nat) o, ops[i]? = some o → StepOK P md ops Q V X a0 i o)
    (fin : ∀ a W, HInv ops V X a0 (Array.replicate ops.size true) a W → Q .normal a W) :
    ∀ (fuel : Nat) (listed : Array Bool) (a : Act) (W : World), listed.size = ops.size → HInv ops V X a0 listed a W → unl listed ≤ fuel → wpAny P md ops Q fuel listed a W := by
  have hall : ∀ (listed : Array Bool) (a : Act) (W : World), listed.size = ops.size → HInv ops V X a0 listed a W → Region.ready md ops listed = [] → Q .normal a W := by
    intro listed a W hsz inv hr
    have hl : ∀ k, k < ops.size → listed.getD k false = true := by
      intro k
      induction k using Nat.strongRecOn with
      | ind k ih =>
        intro hk
        cases h : listed.getD k true with
        | true =>
          have : k < listed.size := by omega
          simpa [this] using h
        | false =>
          have hm : k ∈ Region.ready md ops listed := by
            refine mem_ready.2 ⟨h, ops[k], by simp [hk], fun e he hb => ?_⟩
            have hlt := hidx k ops[k] (by simp [hk]) e he hb
            exact ih e.on hlt (by omega)
          rw [hr] at hm
          cases hm
    refine fin a W ⟨inv.hb, inv.tsz, inv.dfr, inv.old, fun i o s hi hs _ => inv.val i o s hi hs (hl i ?_)⟩
    exact (Array.getElem?_eq_some_iff.1 hi).1
  intro fuel
  induction fuel with
  | zero =>
    intro listed a W hsz inv hf
    have hr : Region.ready md ops listed = [] := by
      refine List.eq_nil_iff_forall_not_mem.2 fun i hi => ?_
      obtain ⟨hli, o, ho, _⟩ := mem_ready.1 hi
      have hil : i < listed.size := by rw [hsz]; exact (Array.getElem?_eq_some_iff.1 ho).1
      have : false ∈ listed.toList := by
        have hli' : listed[i] = false := by simpa [hil] using hli
        exact Array.mem_toList_iff.2 (hli' ▸ Array.getElem_mem hil)
      have := List.count_pos_iff.2 this
      unfold unl at hf
      omega
    exact ⟨hr, hall listed a W hsz inv hr⟩
  | succ fuel ih =>
    intro listed a W hsz inv hf
    refine ⟨hall listed a W hsz inv, fun i hi => ?_⟩
    obtain ⟨hli, o, ho, hdep⟩ := mem_ready.1 hi
    have hil : i < listed.size := by rw [hsz]; exact (Array.getElem?_eq_some_iff.1 ho).1
    have hst := step i o ho a W inv.hb inv.old (fun j s hw hs => by
      obtain ⟨o', ho', e, he, hb, hon⟩ := Region.waitsFor_spec hw
      have : o' = o := Option.some.inj (ho'.symm.trans ho)
      subst this
      have h1 := hdep e he hb
      rw [hon] at h1
      cases hj : ops[j]? with
      | none => rw [hj] at hs; cases hs
      | some oj => rw [hj] at hs; exact inv.val j oj s hj hs h1)
    have hcnt : unl (listed.setIfInBounds i true) ≤ fuel := by
      have hli' : listed[i] = false := by simpa [hil] using hli
      unfold unl at *
      have h2 : (listed.setIfInBounds i true).toList = listed.toList.set i true := by simp
      rw [h2, List.count_set (by simpa using hil)]
      have h3 : listed.toList[i]'(by simpa using hil) = false := by simpa using hli'
      rw [h3]
      have h4 : false ∈ listed.toList := Array.mem_toList_iff.2 (hli' ▸ Array.getElem_mem hil)
      have := List.count_pos_iff.2 h4
      show listed.toList.count false - 1 + 0 ≤ fuel
      omega
    have hnext : ∀ (v : Value) (W' : World), Below W.heap.size W W' → V i v W' → wpAny P md ops Q fuel (listed.setIfInBounds i true) (a.put o.dst v) W' := by
      intro v W' hb hv
      refine ih _ _ _ (by simp [hsz]) ⟨inv.hb.trans (hb.mono inv.hb.size), by rw [put_size]; exact inv.tsz, by rw [put_defers]; exact inv.dfr, ?_, ?_⟩ hcnt
      · intro s hs
        cases hd : o.dst with
        | none => rw [Act.put]; exact inv.old s hs
        | some d =>
          rw [eval_put a d v s (by rw [inv.tsz]; exact hrange i o d ho hd), if_neg (fun e => hs i o ho (by rw [hd, e]))]
          exact inv.old s hs
      · intro j oj s hj hs hlj
        cases hd : o.dst with
        | none =>
          by_cases hij : j = i
          · subst hij
            have : oj = o := Option.some.inj (hj.symm.trans ho)
            subst this
            rw [hd] at hs
            cases hs
          · rw [getD_set_ne false (fun e => hij e.symm)] at hlj
            rw [Act.put]
            exact hV j _ W W' hb (inv.val j oj s hj hs hlj)
        | some d =>
          rw [eval_put a d v s (by rw [inv.tsz]; exact hrange i o d ho hd)]
          by_cases hij : j = i
          · subst hij
            have : oj = o := Option.some.inj (hj.symm.trans ho)
            subst this
            rw [hd] at hs
            injection hs with hs
            rw [if_pos hs.symm]
            exact hv
          · rw [getD_set_ne false (fun e => hij e.symm)] at hlj
            rw [if_neg (fun e => hij (hdst j i oj o s hj ho hs (by rw [hd, e])))]
            exact hV j _ W W' hb (inv.val j oj s hj hs hlj)
    refine wpOp_step ho fun K' hK => ?_
    by_cases hw : Region.wanted o (yielded ops a.tmps) = true
    · rw [if_pos hw] at hst ⊢
      refine Oper.wp_mono ?_ hst
      rintro a' W' ⟨v, rfl, hb, hv⟩
      exact hK _ _ (hnext v W' hb hv)
    · rw [if_neg hw] at hst ⊢
      exact hK _ _ (hnext undef W (Below.refl _ _) hst)

end

/-- All operations of a list, by their places. -/
def EachAt (F : Nat → Oper → Prop) : Nat → List Oper → Prop
  | _, [] => True
  | k, o :: l => F k o ∧ EachAt F (k + 1) l
theorem EachAt.get {F : Nat → Oper → Prop} : ∀ (l : List Oper) (k i : Nat) (o : Oper), EachAt F k l → l[i]? = some o → F (k + i) o
  | [], _, _, _, _, h => by simp at h
  | o' :: l, k, 0, o, hE, h => by
    simp at h
    subst h
    exact hE.1
  | o' :: l, k, i + 1, o, hE, h => by
    have := EachAt.get l (k + 1) i o hE.2 (by simpa using h)
    rw [show k + (i + 1) = k + 1 + i by omega]
    exact this
/-- What the region's text says: who waits comes later, no two write one slot, all slots are there. -/
def textB (md : Region.Mode) (l : List Oper) (n : Nat) : Bool :=
  (List.range l.length).all fun i => match l[i]? with
    | some o => (o.after.all fun e => !Region.binds md e || decide (e.on < i)) && (match o.dst with
      | some s => decide (s < n) && (List.range i).all fun j => match l[j]? with
        | some oj => oj.dst != some s
        | none => true
      | none => true)
    | none => true
theorem textB_spec {md : Region.Mode} {l : List Oper} {n : Nat} (h : textB md l n = true) : (∀ (i : Nat) o, l[i]? = some o → ∀ e ∈ o.after, Region.binds md e = true → e.on < i) ∧
    (∀ (i j : Nat) oi oj s, l[i]? = some oi → l[j]? = some oj → oi.dst = some s → oj.dst = some s → i = j) ∧ (∀ (i : Nat) o s, l[i]? = some o → o.dst = some s → s < n) := by
  have hi : ∀ (i : Nat) o, l[i]? = some o → (o.after.all fun e => !Region.binds md e || decide (e.on < i)) = true ∧ (∀ s, o.dst = some s → s < n ∧ ∀ (j : Nat) oj, j < i → l[j]? = some oj → oj.dst ≠ some s) := by
    intro i o ho
    have h1 := List.all_eq_true.1 h i (List.mem_range.2 (List.getElem?_eq_some_iff.1 ho).1)
    rw [ho] at h1
    simp only [Bool.and_eq_true] at h1
    refine ⟨h1.1, fun s hs => ?_⟩
    have h2 := h1.2
    rw [hs] at h2
    simp only [Bool.and_eq_true, decide_eq_true_eq] at h2
    refine ⟨h2.1, fun j oj hj hoj => ?_⟩
    have h3 := List.all_eq_true.1 h2.2 j (List.mem_range.2 hj)
    rw [hoj] at h3
    simpa using h3
  refine ⟨fun i o ho e he hb => ?_, fun i j oi oj s hoi hoj hsi hsj => ?_, fun i o s ho hs => ((hi i o ho).2 s hs).1⟩
  · obtain ⟨k, hk, rfl⟩ := Array.mem_iff_getElem.1 he
    have := Array.all_eq_true.1 (hi i o ho).1 k hk
    simpa [hb] using this
  · rcases Nat.lt_trichotomy i j with h | h | h
    · exact absurd hsi (((hi j oj hoj).2 s hsj).2 i oi h hoi)
    · exact h
    · exact absurd hsj (((hi i oi hoi).2 s hsi).2 j oj h hoj)

/-- Who waits for whom, and who writes what, by the list: so that it is seen by reckoning. -/
def waitsL (md : Region.Mode) (l : List Oper) (i j : Nat) : Bool := match l[i]? with
  | some o => o.after.toList.any fun e => Region.binds md e && e.on == j
  | none => false
def notDstL (l : List Oper) (s : Nat) : Bool := l.all fun o => o.dst != some s
/-- One operation's step, by the list. -/
def StepL (P : Program) (md : Region.Mode) (l : List Oper) (Q : Exit → Act → World → Prop) (V : Nat → Value → World → Prop) (X : World) (a0 : Act) (i : Nat) (o : Oper) : Prop :=
  ∀ (a : Act) (W : World), Below X.heap.size X W → (∀ s, notDstL l s = true → a.eval (.tmp s) = a0.eval (.tmp s)) →
    (∀ (j s : Nat), waitsL md l i j = true → (l[j]?.bind (·.dst)) = some s → V j (a.eval (.tmp s)) W) →
    if Region.wanted o (yielded l.toArray a.tmps) = true then Oper.wp P o a W (fun a' W' => ∃ v, a' = a.put o.dst v ∧ Below W.heap.size W W' ∧ V i v W') Q else V i undef W
theorem StepL.ok {P : Program} {md : Region.Mode} {l : List Oper} {Q : Exit → Act → World → Prop} {V : Nat → Value → World → Prop} {X : World} {a0 : Act} {i : Nat} {o : Oper} (h : StepL P md l Q V X a0 i o) : StepOK P md l.toArray Q V X a0 i o := by
  intro a W hb ho hg
  refine h a W hb (fun s hs => ho s fun j oj hj => ?_) (fun j s hw hs => hg j s ?_ (by simpa using hs))
  · have hm : oj ∈ l := List.mem_of_getElem? (by simpa using hj)
    have := List.all_eq_true.1 hs oj hm
    simpa using this
  · unfold waitsL at hw
    unfold Region.waitsFor
    rw [List.getElem?_toArray]
    cases hli : l[i]? with
    | none => rw [hli] at hw; cases hw
    | some oi =>
      rw [hli] at hw
      simpa using hw
theorem EachAt.imp {F G : Nat → Oper → Prop} (h : ∀ k o, F k o → G k o) : ∀ (l : List Oper) (k : Nat), EachAt F k l → EachAt G k l
  | [], _, _ => trivial
  | _ :: l, k, hE => ⟨h _ _ hE.1, EachAt.imp h l (k + 1) hE.2⟩

/-- THE REGION: each operation's step once, in its own world. -/
theorem region_held {P : Program} {id : Nat} {l : List Oper} {Q : Exit → Act → World → Prop} {a : Act} {w : World} (n : Nat) (hm : P.follows .mixedOrders = true) (hn : a.tmps.size = n) (V : Nat → Value → World → Prop)
    (hV : ∀ i v W W', Below W.heap.size W W' → V i v W → V i v W') (hB : textB .any l n = true)
    (steps : EachAt (StepL P .any l Q V { w with drawn := w.drawn + 1 } a) 0 l)
    (fin : ∀ a' W, HInv l.toArray V { w with drawn := w.drawn + 1 } a (Array.replicate l.length true) a' W → Q .normal a' W) : (Code.region id l.toArray true).wp P Q a w := by
  subst hn
  obtain ⟨h1, h2, h3⟩ := textB_spec hB
  refine wp_region_any hm ?_
  refine wpAny_held (X := { w with drawn := w.drawn + 1 }) (a0 := a) (fun i o ho => h1 i o (by simpa using ho)) (fun i j oi oj s hi hj => h2 i j oi oj s (by simpa using hi) (by simpa using hj)) (fun i o s ho => h3 i o s (by simpa using ho)) hV
    (fun i o ho => by have := EachAt.get l 0 i o (EachAt.imp (fun _ _ h => StepL.ok h) l 0 steps) (by simpa using ho); rwa [Nat.zero_add] at this) (fun a' W h => fin a' W (by simpa using h)) _ _ _ _ (by simp) ⟨Below.refl _ _, rfl, rfl, fun _ _ => rfl, fun i o s _ _ hl => ?_⟩ ?_
  · rw [getD_replicate_false] at hl
    cases hl
  · unfold unl
    simp
/-- What a slot has behind the region. -/
theorem HInv.at_ {l : List Oper} {V : Nat → Value → World → Prop} {X : World} {a0 a : Act} {W : World} (h : HInv l.toArray V X a0 (Array.replicate l.length true) a W) (i s : Nat) (hs : (l[i]?.bind (·.dst)) = some s) : V i (a.eval (.tmp s)) W := by
  cases hi : l[i]? with
  | none => rw [hi] at hs; cases hs
  | some o =>
    rw [hi] at hs
    refine h.val i o s (by simpa using hi) hs ?_
    have : i < l.length := (List.getElem?_eq_some_iff.1 hi).1
    simp [this]

theorem getD_foldl (g : Nat → Value) : ∀ (ds : List Nat) (t : Array Value) (i : Nat), i < t.size → (ds.foldl (fun t s => t.setIfInBounds s (g s)) t).getD i undef = if i ∈ ds then g i else t.getD i undef
  | [], t, i, _ => by simp
  | d :: ds, t, i, hi => by
    rw [List.foldl_cons, getD_foldl g ds _ i (by simpa using hi)]
    by_cases h : i ∈ ds
    · rw [if_pos h, if_pos (List.mem_cons_of_mem _ h)]
    · rw [if_neg h]
      by_cases e : i = d
      · subst e
        rw [if_pos (List.mem_cons_self ..)]
        simp [hi]
      · rw [if_neg (fun h' => (List.mem_cons.1 h').elim e h)]
        simp [Array.getD_eq_getD_getElem?, Array.getElem?_setIfInBounds_ne (fun e' => e e'.symm)]
theorem size_foldl (g : Nat → Value) : ∀ (ds : List Nat) (t : Array Value), (ds.foldl (fun t s => t.setIfInBounds s (g s)) t).size = t.size
  | [], t => rfl
  | d :: ds, t => by rw [List.foldl_cons, size_foldl g ds]; simp
/-- The frame behind the region: what it wrote are letters. -/
theorem HInv.frame {l : List Oper} {V : Nat → Value → World → Prop} {X : World} {a0 a : Act} {W : World} {listed : Array Bool} (h : HInv l.toArray V X a0 listed a W) (dsts : List Nat) (hd : l.filterMap (·.dst) = dsts) :
    ∃ g : Nat → Value, a = { tmps := dsts.foldl (fun t s => t.setIfInBounds s (g s)) a0.tmps, defers := a0.defers } ∧ ∀ s, a.eval (.tmp s) = g s := by
  refine ⟨fun s => a.eval (.tmp s), ?_, fun _ => rfl⟩
  obtain ⟨ts, df⟩ := a
  have h1 : ts.size = a0.tmps.size := h.tsz
  have h2 : df = a0.defers := h.dfr
  subst h2
  congr 1
  apply Array.ext
  · rw [size_foldl]; exact h1
  · intro i hi1 hi2
    have hi : i < a0.tmps.size := by omega
    have h3 := getD_foldl (fun s => Act.eval ⟨ts, a0.defers⟩ (.tmp s)) dsts a0.tmps i hi
    have e1 : ts[i] = ts.getD i undef := by simp [hi1]
    have e2 : (dsts.foldl (fun t s => t.setIfInBounds s (Act.eval ⟨ts, a0.defers⟩ (.tmp s))) a0.tmps)[i] = (dsts.foldl (fun t s => t.setIfInBounds s (Act.eval ⟨ts, a0.defers⟩ (.tmp s))) a0.tmps).getD i undef := by simp [hi2]
    rw [e1, e2, h3]
    by_cases hm : i ∈ dsts
    · rw [if_pos hm]; rfl
    · rw [if_neg hm]
      refine h.old i fun j o hj hs => hm ?_
      rw [← hd]
      exact List.mem_filterMap.2 ⟨o, List.mem_of_getElem? (by simpa using hj), hs⟩

end Go.Proofs.Ytdgmcaehadigaaa
