/- A region that is held, one of whose operations writes: what it writes to is not read before it, and all that reads it comes behind it. -/
import Derived.Test.YtdgmcaehadigaaaHeldT
namespace Go.Proofs.Ytdgmcaehadigaaa
open Go.RowKit

/-- Does an operation come behind the one that writes? -/
def afterB (md : Region.Mode) (l : List Oper) (s i : Nat) : Bool := (reachL md l l.length (depsL md l i)).contains s
theorem afterB_listed {md : Region.Mode} {l : List Oper} {s i : Nat} {T : Nat → Prop} (hT : ∀ i, T i → ∀ j ∈ depsL md l i, T j) (hd : ∀ j ∈ depsL md l i, T j) (h : afterB md l s i = true) : T s :=
  reachL_all hT _ _ hd s (by simpa [afterB] using h)
section
variable {P : Program} {l : List Oper} {md : Region.Mode} {Q : Exit → Act → World → Prop} {V : Nat → Value → World → Prop} {a0 : Act} {I0 I1 : World → Prop} {s : Nat}
/-- One operation's step, by the list. -/
def StepW (P : Program) (md : Region.Mode) (l : List Oper) (Q : Exit → Act → World → Prop) (V : Nat → Value → World → Prop) (I0 I1 : World → Prop) (s : Nat) (a0 : Act) (i : Nat) (o : Oper) : Prop :=
  ∀ (a : Act) (W : World), (I0 W ∨ I1 W) → (afterB md l s i = true → I1 W) → (∀ sl, notDstL l sl = true → a.eval (.tmp sl) = a0.eval (.tmp sl)) →
    (∀ (j sl : Nat), waitsL md l i j = true → (l[j]?.bind (·.dst)) = some sl → V j (a.eval (.tmp sl)) W) →
    if Region.wanted o (yielded l.toArray a.tmps) = true then Oper.wp P o a W (fun a' W' => ∃ v, a' = a.put o.dst v ∧ Below W.heap.size W W' ∧ V i v W') Q else V i undef W
/-- The step of the one that writes. -/
def StepS (P : Program) (md : Region.Mode) (l : List Oper) (Q : Exit → Act → World → Prop) (V : Nat → Value → World → Prop) (I0 I1 : World → Prop) (s : Nat) (a0 : Act) (o : Oper) : Prop :=
  ∀ (a : Act) (W : World), I0 W → (∀ sl, notDstL l sl = true → a.eval (.tmp sl) = a0.eval (.tmp sl)) →
    (∀ (j sl : Nat), waitsL md l s j = true → (l[j]?.bind (·.dst)) = some sl → V j (a.eval (.tmp sl)) W) →
    Oper.wp P o a W (fun a' W' => ∃ v, a' = a.put o.dst v ∧ I1 W' ∧ V s v W') Q
theorem old_list {a : Act} (h : ∀ sl, (∀ (i : Nat) o, l.toArray[i]? = some o → o.dst ≠ some sl) → a.eval (.tmp sl) = a0.eval (.tmp sl)) : ∀ sl, notDstL l sl = true → a.eval (.tmp sl) = a0.eval (.tmp sl) := fun sl hs => h sl fun j oj hj => by
  have hm : oj ∈ l := List.mem_of_getElem? (by simpa using hj)
  have := List.all_eq_true.1 hs oj hm
  simpa using this
theorem wpAny_heldW (hidx : ∀ (i : Nat) o, l[i]? = some o → ∀ e ∈ o.after, Region.binds md e = true → e.on < i) (hdst : ∀ (i j : Nat) oi oj s, l[i]? = some oi → l[j]? = some oj → oi.dst = some s → oj.dst = some s → i = j)
    (hrange : ∀ (i : Nat) o s, l[i]? = some o → o.dst = some s → s < a0.tmps.size) (hV : ∀ i v W W', Below W.heap.size W W' → V i v W → V i v W') (hI0 : ∀ W W', Below W.heap.size W W' → I0 W → I0 W') (hI1 : ∀ W W', Below W.heap.size W W' → I1 W → I1 W')
    (hs : s < l.length) (hVs : ∀ j, j < l.length → j ≠ s → afterB md l s j = false → ∀ v W W', V j v W → V j v W') (hgs : ∀ o, l[s]? = some o → o.guard = none)
    (step : ∀ (i : Nat) o, i ≠ s → l[i]? = some o → StepW P md l Q V I0 I1 s a0 i o) (stepS : ∀ o, l[s]? = some o → StepS P md l Q V I0 I1 s a0 o)
    (fin : ∀ a W, I1 W → HInv l.toArray V W a0 (Array.replicate l.length true) a W → Q .normal a W) :
    ∀ (fuel : Nat) (listed : Array Bool) (a : Act) (W : World), listed.size = l.length → HInv l.toArray V W a0 listed a W → (listed.getD s false = true → I1 W) → (listed.getD s false = false → I0 W) → (∀ i, listed.getD i false = true → ∀ j ∈ depsL md l i, listed.getD j false = true) → unl listed ≤ fuel → wpAny P md l.toArray Q fuel listed a W := by
  have hall : ∀ (listed : Array Bool), listed.size = l.length → Region.ready md l.toArray listed = [] → ∀ k, k < l.length → listed.getD k false = true := by
    intro listed hsz hr k
    induction k using Nat.strongRecOn with
    | ind k ih =>
      intro hk
      cases h : listed.getD k true with
      | true =>
        have : k < listed.size := by omega
        simpa [this] using h
      | false =>
        have hm : k ∈ Region.ready md l.toArray listed := by
          refine mem_ready.2 ⟨h, l[k], by simp [hk], fun e he hb => ?_⟩
          have hlt := hidx k l[k] (by simp [hk]) e he hb
          exact ih e.on hlt (by omega)
        rw [hr] at hm
        cases hm
  have hend : ∀ (listed : Array Bool) (a : Act) (W : World), listed.size = l.length → HInv l.toArray V W a0 listed a W → (listed.getD s false = true → I1 W) → Region.ready md l.toArray listed = [] → Q .normal a W := by
    intro listed a W hsz inv h1 hr
    have hl := hall listed hsz hr
    exact fin a W (h1 (hl s hs)) ⟨inv.hb, inv.tsz, inv.dfr, inv.old, fun i o sl hi hsl _ => inv.val i o sl hi hsl (hl i (by simpa using (Array.getElem?_eq_some_iff.1 hi).1))⟩
  intro fuel
  induction fuel with
  | zero =>
    intro listed a W hsz inv h1 h0 hcl hf
    have hr : Region.ready md l.toArray listed = [] := by
      refine List.eq_nil_iff_forall_not_mem.2 fun i hi => ?_
      obtain ⟨hli, o, ho, _⟩ := mem_ready.1 hi
      have hil : i < listed.size := by rw [hsz]; simpa using (Array.getElem?_eq_some_iff.1 ho).1
      have : false ∈ listed.toList := by
        have hli' : listed[i] = false := by simpa [hil] using hli
        exact Array.mem_toList_iff.2 (hli' ▸ Array.getElem_mem hil)
      have := List.count_pos_iff.2 this
      unfold unl at hf
      omega
    exact ⟨hr, hend listed a W hsz inv h1 hr⟩
  | succ fuel ih =>
    intro listed a W hsz inv h1 h0 hcl hf
    refine ⟨hend listed a W hsz inv h1, fun i hi => ?_⟩
    obtain ⟨hli, o, ho, hdep⟩ := mem_ready.1 hi
    have hil : i < listed.size := by rw [hsz]; simpa using (Array.getElem?_eq_some_iff.1 ho).1
    have hol : l[i]? = some o := by simpa using ho
    have hli2 : listed.getD i false = false := by
      have hli' : listed[i] = false := by simpa [hil] using hli
      simp [hil, hli']
    have hdeps : ∀ j ∈ depsL md l i, listed.getD j false = true := fun j hj => by
      unfold depsL at hj
      rw [hol] at hj
      obtain ⟨e, he, rfl⟩ := List.mem_map.1 hj
      obtain ⟨g1, g2⟩ := List.mem_filter.1 he
      exact hdep e (Array.mem_toList_iff.1 g1) (by simpa using g2)
    have hgot : ∀ (j sl : Nat), waitsL md l i j = true → (l[j]?.bind (·.dst)) = some sl → V j (a.eval (.tmp sl)) W := fun j sl hw hsl => by
      have hj : j ∈ depsL md l i := by
        unfold waitsL at hw
        unfold depsL
        rw [hol] at hw ⊢
        obtain ⟨e, he, hb⟩ := List.any_eq_true.1 hw
        rw [Bool.and_eq_true] at hb
        exact List.mem_map.2 ⟨e, List.mem_filter.2 ⟨he, hb.1⟩, by simpa using hb.2⟩
      cases hlj : l[j]? with
      | none => rw [hlj] at hsl; cases hsl
      | some oj => rw [hlj] at hsl; exact inv.val j oj sl (by simpa using hlj) hsl (hdeps j hj)
    have hcnt : unl (listed.setIfInBounds i true) ≤ fuel := by
      have hli' : listed[i] = false := by simpa [hil] using hli
      unfold unl at *
      have h2 : (listed.setIfInBounds i true).toList = listed.toList.set i true := by simp
      rw [h2, List.count_set (by simpa using hil)]
      have h3 : listed.toList[i]'(by simpa using hil) = false := by simpa using hli'
      rw [h3]
      have h4 : false ∈ listed.toList := Array.mem_toList_iff.2 (hli' ▸ Array.getElem_mem hil)
      have := List.count_pos_iff.2 h4
      show listed.toList.count false - 1 + 0 ≤ fuel
      omega
    have hgrow : ∀ j, listed.getD j false = true → (listed.setIfInBounds i true).getD j false = true := fun j hj => by
      by_cases e : j = i
      · subst e; simp [hil]
      · rw [getD_set_ne false (fun e2 => e e2.symm)]; exact hj
    have hcl2 : ∀ j, (listed.setIfInBounds i true).getD j false = true → ∀ k ∈ depsL md l j, (listed.setIfInBounds i true).getD k false = true := fun j hj k hk => by
      by_cases e : j = i
      · subst e; exact hgrow k (hdeps k hk)
      · rw [getD_set_ne false (fun e2 => e e2.symm)] at hj
        exact hgrow k (hcl j hj k hk)
    have hnext : ∀ (v : Value) (W' : World), V i v W' → (∀ j v, j < l.length → j ≠ i → listed.getD j false = true → V j v W → V j v W') → ((listed.setIfInBounds i true).getD s false = true → I1 W') → ((listed.setIfInBounds i true).getD s false = false → I0 W') → wpAny P md l.toArray Q fuel (listed.setIfInBounds i true) (a.put o.dst v) W' := by
      intro v W' hv hk hh1 hh0
      refine ih _ _ _ (by simp [hsz]) ⟨Below.refl _ _, by rw [put_size]; exact inv.tsz, by rw [put_defers]; exact inv.dfr, ?_, ?_⟩ hh1 hh0 hcl2 hcnt
      · intro sl hsl
        cases hd : o.dst with
        | none => rw [Act.put]; exact inv.old sl hsl
        | some d =>
          rw [eval_put a d v sl (by rw [inv.tsz]; exact hrange i o d hol hd), if_neg (fun e => hsl i o ho (by rw [hd, e]))]
          exact inv.old sl hsl
      · intro j oj sl hj hsl hlj
        have hjl : l[j]? = some oj := by simpa using hj
        have hjlt := (List.getElem?_eq_some_iff.1 hjl).1
        cases hd : o.dst with
        | none =>
          by_cases hij : j = i
          · subst hij
            have : oj = o := Option.some.inj (hj.symm.trans ho)
            subst this
            rw [hd] at hsl
            cases hsl
          · rw [getD_set_ne false (fun e => hij e.symm)] at hlj
            rw [Act.put]
            exact hk j _ hjlt hij hlj (inv.val j oj sl hj hsl hlj)
        | some d =>
          rw [eval_put a d v sl (by rw [inv.tsz]; exact hrange i o d hol hd)]
          by_cases hij : j = i
          · subst hij
            have : oj = o := Option.some.inj (hj.symm.trans ho)
            subst this
            rw [hd] at hsl
            injection hsl with hsl
            rw [if_pos hsl.symm]
            exact hv
          · rw [getD_set_ne false (fun e => hij e.symm)] at hlj
            rw [if_neg (fun e => hij (hdst j i oj o sl hjl hol hsl (by rw [hd, e])))]
            exact hk j _ hjlt hij hlj (inv.val j oj sl hj hsl hlj)
    refine wpOp_step ho fun K' hK => ?_
    by_cases his : i = s
    · subst his
      rw [if_pos (by simp [Region.wanted, hgs o hol])]
      refine Oper.wp_mono ?_ (stepS o hol a W (h0 hli2) (old_list inv.old) hgot)
      rintro a' W' ⟨v, rfl, hi1, hv⟩
      refine hK _ _ (hnext v W' hv (fun j u hjl hji hlj hvj => ?_) (fun _ => hi1) (fun e => by simp [hil] at e))
      refine hVs j hjl hji ?_ u W W' hvj
      cases hab : afterB md l i j with
      | false => rfl
      | true =>
        have := afterB_listed (T := fun k => listed.getD k false = true) hcl (hcl j hlj) hab
        rw [hli2] at this
        cases this
    · have hsd : (listed.setIfInBounds i true).getD s false = listed.getD s false := getD_set_ne false his
      have hor : I0 W ∨ I1 W := by
        cases h : listed.getD s false with
        | true => exact .inr (h1 h)
        | false => exact .inl (h0 h)
      have hst := step i o his hol a W hor (fun hab => h1 (afterB_listed (T := fun k => listed.getD k false = true) hcl hdeps hab)) (old_list inv.old) hgot
      by_cases hw : Region.wanted o (yielded l.toArray a.tmps) = true
      · rw [if_pos hw] at hst ⊢
        refine Oper.wp_mono ?_ hst
        rintro a' W' ⟨v, rfl, hb, hv⟩
        exact hK _ _ (hnext v W' hv (fun j u _ _ _ hvj => hV j u W W' hb hvj) (fun e => hI1 W W' hb (h1 (hsd ▸ e))) (fun e => hI0 W W' hb (h0 (hsd ▸ e))))
      · rw [if_neg hw] at hst ⊢
        exact hK _ _ (hnext undef W hst (fun _ _ _ _ _ h => h) (fun e => h1 (hsd ▸ e)) (fun e => h0 (hsd ▸ e)))
end
theorem region_heldW {P : Program} {id : Nat} {l : List Oper} {Q : Exit → Act → World → Prop} {a : Act} {w : World} (n s : Nat) (hm : P.follows .mixedOrders = true) (hn : a.tmps.size = n) (V : Nat → Value → World → Prop) (I0 I1 : World → Prop)
    (hV : ∀ i v W W', Below W.heap.size W W' → V i v W → V i v W') (hI0 : ∀ W W', Below W.heap.size W W' → I0 W → I0 W') (hI1 : ∀ W W', Below W.heap.size W W' → I1 W → I1 W') (hB : textB .any l n = true) (hs : s < l.length)
    (hVs : ∀ j, j < l.length → j ≠ s → afterB .any l s j = false → ∀ v W W', V j v W → V j v W') {os : Oper} (hos : l[s]? = some os) (hgs : os.guard = none)
    (h0 : I0 { w with drawn := w.drawn + 1 }) (stepS : StepS P .any l Q V I0 I1 s a os)
    (steps : EachAt (fun i o => i ≠ s → StepW P .any l Q V I0 I1 s a i o) 0 l)
    (fin : ∀ a' W, I1 W → HInv l.toArray V W a (Array.replicate l.length true) a' W → Q .normal a' W) : (Code.region id l.toArray true).wp P Q a w := by
  subst hn
  obtain ⟨h1, h2, h3⟩ := textB_spec hB
  refine wp_region_any hm ?_
  refine wpAny_heldW (a0 := a) h1 h2 h3 hV hI0 hI1 hs hVs (fun o ho => by rw [hos] at ho; injection ho with ho; rw [← ho]; exact hgs) (fun i o hi ho => ?_) (fun o ho => by rw [hos] at ho; injection ho with ho; rw [← ho]; exact stepS) fin _ _ _ _ (by simp) ⟨Below.refl _ _, rfl, rfl, fun _ _ => rfl, fun i o sl _ _ hl => ?_⟩ ?_ ?_ ?_ ?_
  · have := EachAt.get l 0 i o steps ho
    rw [Nat.zero_add] at this
    exact this hi
  · rw [getD_replicate_false] at hl
    cases hl
  · intro e
    rw [getD_replicate_false] at e
    cases e
  · exact fun _ => h0
  · intro i hi
    rw [getD_replicate_false] at hi
    cases hi
  · unfold unl
    simp
end Go.Proofs.Ytdgmcaehadigaaa
