/- A region that is held, its last operation, which writes, behind all others. -/
import Derived.Test.YtdgmcaehadigaaaHeld
namespace Go.Proofs.Ytdgmcaehadigaaa
open Go.RowKit

/-- Whom an operation waits for; and whom those wait for, in turn. -/
def depsL (md : Region.Mode) (l : List Oper) (i : Nat) : List Nat := match l[i]? with
  | some o => (o.after.toList.filter fun e => Region.binds md e).map (·.on)
  | none => []
def reachL (md : Region.Mode) (l : List Oper) : Nat → List Nat → List Nat
  | 0, acc => acc
  | n + 1, acc => reachL md l n (if acc.contains n then acc ++ depsL md l n else acc)
/-- The last operation comes behind all others. -/
def lastB (md : Region.Mode) (l : List Oper) : Bool := (List.range (l.length - 1)).all fun i => (reachL md l (l.length - 1) (depsL md l (l.length - 1))).contains i
theorem reachL_all {md : Region.Mode} {l : List Oper} {T : Nat → Prop} (hT : ∀ i, T i → ∀ j ∈ depsL md l i, T j) : ∀ (n : Nat) (acc : List Nat), (∀ x ∈ acc, T x) → ∀ x ∈ reachL md l n acc, T x
  | 0, _, h => h
  | n + 1, acc, h => by
    refine reachL_all hT n _ fun x hx => ?_
    by_cases hc : acc.contains n = true
    · rw [if_pos hc] at hx
      rcases List.mem_append.1 hx with hx | hx
      · exact h x hx
      · exact hT n (h n (by simpa using hc)) x hx
    · rw [if_neg hc] at hx
      exact h x hx
theorem lastB_all {md : Region.Mode} {l : List Oper} {T : Nat → Prop} (hB : lastB md l = true) (hT : ∀ i, T i → ∀ j ∈ depsL md l i, T j) (h : ∀ j ∈ depsL md l (l.length - 1), T j) (i : Nat) (hi : i < l.length - 1) : T i := by
  have := List.all_eq_true.1 hB i (List.mem_range.2 hi)
  exact reachL_all hT _ _ h i (by simpa using this)

section
variable {P : Program} {l : List Oper} {md : Region.Mode} {Q : Exit → Act → World → Prop} {V : Nat → Value → World → Prop} {X : World} {a0 : Act}
/-- All but the last are done. -/
def AllBut (l : List Oper) (listed : Array Bool) : Prop := ∀ i, i < l.length - 1 → listed.getD i false = true
theorem wpAny_heldT (hidx : ∀ (i : Nat) o, l[i]? = some o → ∀ e ∈ o.after, Region.binds md e = true → e.on < i) (hdst : ∀ (i j : Nat) oi oj s, l[i]? = some oi → l[j]? = some oj → oi.dst = some s → oj.dst = some s → i = j)
    (hrange : ∀ (i : Nat) o s, l[i]? = some o → o.dst = some s → s < a0.tmps.size) (hV : ∀ i v W W', Below W.heap.size W W' → V i v W → V i v W') (hlast : lastB md l = true)
    (ol : Oper) (hol : l[l.length - 1]? = some ol) (hgl : ol.guard = none)
    (step : ∀ (i : Nat) o, i < l.length - 1 → l[i]? = some o → StepOK P md l.toArray Q V X a0 i o)
    (fin : ∀ listed a W, AllBut l listed → HInv l.toArray V X a0 listed a W → Oper.wp P ol a W (fun a' W' => Q .normal a' W') Q) :
    ∀ (fuel : Nat) (listed : Array Bool) (a : Act) (W : World), listed.size = l.length → HInv l.toArray V X a0 listed a W → listed.getD (l.length - 1) false = false → (∀ i, listed.getD i false = true → ∀ j ∈ depsL md l i, listed.getD j false = true) → unl listed ≤ fuel → wpAny P md l.toArray Q fuel listed a W := by
  have hpos : l.length ≠ 0 := fun e => by
    rw [e] at hol
    have := (List.getElem?_eq_some_iff.1 hol).1
    omega
  have hnr : ∀ (listed : Array Bool), listed.size = l.length → listed.getD (l.length - 1) false = false → Region.ready md l.toArray listed ≠ [] := by
    intro listed hsz hun hr
    have hl : ∀ k, k < l.length → listed.getD k false = true := by
      intro k
      induction k using Nat.strongRecOn with
      | ind k ih =>
        intro hk
        cases h : listed.getD k true with
        | true =>
          have : k < listed.size := by omega
          simpa [this] using h
        | false =>
          have hm : k ∈ Region.ready md l.toArray listed := by
            refine mem_ready.2 ⟨h, l[k], by simp [hk], fun e he hb => ?_⟩
            have hlt := hidx k l[k] (by simp [hk]) e he hb
            exact ih e.on hlt (by omega)
          rw [hr] at hm
          cases hm
    rw [hl (l.length - 1) (by omega)] at hun
    cases hun
  intro fuel
  induction fuel with
  | zero =>
    intro listed a W hsz inv hun hcl hf
    exfalso
    have hil : l.length - 1 < listed.size := by omega
    have hli' : listed[l.length - 1] = false := by simpa [hil] using hun
    have h4 : false ∈ listed.toList := Array.mem_toList_iff.2 (hli' ▸ Array.getElem_mem hil)
    have := List.count_pos_iff.2 h4
    unfold unl at hf
    omega
  | succ fuel ih =>
    intro listed a W hsz inv hun hcl hf
    refine ⟨fun hr => absurd hr (hnr listed hsz hun), fun i hi => ?_⟩
    obtain ⟨hli, o, ho, hdep⟩ := mem_ready.1 hi
    have hil : i < listed.size := by rw [hsz]; simpa using (Array.getElem?_eq_some_iff.1 ho).1
    have hol' : l[i]? = some o := by simpa using ho
    have hdeps : ∀ j ∈ depsL md l i, listed.getD j false = true := fun j hj => by
      unfold depsL at hj
      rw [hol'] at hj
      obtain ⟨e, he, rfl⟩ := List.mem_map.1 hj
      obtain ⟨h1, h2⟩ := List.mem_filter.1 he
      exact hdep e (Array.mem_toList_iff.1 h1) (by simpa using h2)
    by_cases hlst : i = l.length - 1
    · subst hlst
      rw [hol] at hol'
      injection hol' with hol'
      subst hol'
      have hab : AllBut l listed := fun k hk => lastB_all (T := fun j => listed.getD j false = true) hlast hcl hdeps k hk
      have hw := fin listed a W hab inv
      refine wpOp_step ho fun K' hK => ?_
      rw [if_pos (by simp [Region.wanted, hgl])]
      refine Oper.wp_mono (fun a' W' hq => hK _ _ ?_) hw
      have hsz2 : (listed.setIfInBounds (l.length - 1) true).size = l.length := by simpa using hsz
      have hnone : Region.ready md l.toArray (listed.setIfInBounds (l.length - 1) true) = [] := by
        refine List.eq_nil_iff_forall_not_mem.2 fun k hk => ?_
        obtain ⟨hlk, ok, hok, _⟩ := mem_ready.1 hk
        have hkl : k < l.length := by simpa using (Array.getElem?_eq_some_iff.1 hok).1
        by_cases e : k = l.length - 1
        · subst e
          simp [hil] at hlk
        · rw [getD_set_ne true (fun e2 => e e2.symm)] at hlk
          have h1 := hab k (by omega)
          have : k < listed.size := by omega
          simp [this] at h1 hlk
          rw [h1] at hlk
          cases hlk
      cases fuel with
      | zero => exact ⟨hnone, hq⟩
      | succ f => exact ⟨fun _ => hq, fun k hk => by rw [hnone] at hk; cases hk⟩
    · have hi1 : i < l.length - 1 := by omega
      have hst := step i o hi1 hol' a W inv.hb inv.old (fun j s hw hs => by
        obtain ⟨o', ho', e, he, hb, hon⟩ := Region.waitsFor_spec hw
        have : o' = o := Option.some.inj (ho'.symm.trans ho)
        subst this
        have h1 := hdep e he hb
        rw [hon] at h1
        cases hj : l.toArray[j]? with
        | none => rw [hj] at hs; cases hs
        | some oj => rw [hj] at hs; exact inv.val j oj s hj hs h1)
      have hcnt : unl (listed.setIfInBounds i true) ≤ fuel := by
        have hli' : listed[i] = false := by simpa [hil] using hli
        unfold unl at *
        have h2 : (listed.setIfInBounds i true).toList = listed.toList.set i true := by simp
        rw [h2, List.count_set (by simpa using hil)]
        have h3 : listed.toList[i]'(by simpa using hil) = false := by simpa using hli'
        rw [h3]
        have h4 : false ∈ listed.toList := Array.mem_toList_iff.2 (hli' ▸ Array.getElem_mem hil)
        have := List.count_pos_iff.2 h4
        show listed.toList.count false - 1 + 0 ≤ fuel
        omega
      have hgrow : ∀ j, listed.getD j false = true → (listed.setIfInBounds i true).getD j false = true := fun j hj => by
        by_cases e : j = i
        · subst e; simp [hil]
        · rw [getD_set_ne false (fun e2 => e e2.symm)]; exact hj
      have hnext : ∀ (v : Value) (W' : World), Below W.heap.size W W' → V i v W' → wpAny P md l.toArray Q fuel (listed.setIfInBounds i true) (a.put o.dst v) W' := by
        intro v W' hb hv
        refine ih _ _ _ (by simp [hsz]) ⟨inv.hb.trans (hb.mono inv.hb.size), by rw [put_size]; exact inv.tsz, by rw [put_defers]; exact inv.dfr, ?_, ?_⟩ (by rw [getD_set_ne false hlst]; exact hun) ?_ hcnt
        · intro s hs
          cases hd : o.dst with
          | none => rw [Act.put]; exact inv.old s hs
          | some d =>
            rw [eval_put a d v s (by rw [inv.tsz]; exact hrange i o d hol' hd), if_neg (fun e => hs i o ho (by rw [hd, e]))]
            exact inv.old s hs
        · intro j oj s hj hs hlj
          have hjl : l[j]? = some oj := by simpa using hj
          cases hd : o.dst with
          | none =>
            by_cases hij : j = i
            · subst hij
              have : oj = o := Option.some.inj (hj.symm.trans ho)
              subst this
              rw [hd] at hs
              cases hs
            · rw [getD_set_ne false (fun e => hij e.symm)] at hlj
              rw [Act.put]
              exact hV j _ W W' hb (inv.val j oj s hj hs hlj)
          | some d =>
            rw [eval_put a d v s (by rw [inv.tsz]; exact hrange i o d hol' hd)]
            by_cases hij : j = i
            · subst hij
              have : oj = o := Option.some.inj (hj.symm.trans ho)
              subst this
              rw [hd] at hs
              injection hs with hs
              rw [if_pos hs.symm]
              exact hv
            · rw [getD_set_ne false (fun e => hij e.symm)] at hlj
              rw [if_neg (fun e => hij (hdst j i oj o s hjl hol' hs (by rw [hd, e])))]
              exact hV j _ W W' hb (inv.val j oj s hj hs hlj)
        · intro j hj k hk
          by_cases e : j = i
          · subst e; exact hgrow k (hdeps k hk)
          · rw [getD_set_ne false (fun e2 => e e2.symm)] at hj
            exact hgrow k (hcl j hj k hk)
      refine wpOp_step ho fun K' hK => ?_
      by_cases hw : Region.wanted o (yielded l.toArray a.tmps) = true
      · rw [if_pos hw] at hst ⊢
        refine Oper.wp_mono ?_ hst
        rintro a' W' ⟨v, rfl, hb, hv⟩
        exact hK _ _ (hnext v W' hb hv)
      · rw [if_neg hw] at hst ⊢
        exact hK _ _ (hnext undef W (Below.refl _ _) hst)
end

/-- THE REGION: each operation's step once, in its own world; the last one behind them. -/
theorem region_heldT {P : Program} {id : Nat} {l : List Oper} {Q : Exit → Act → World → Prop} {a : Act} {w : World} (n : Nat) (hm : P.follows .mixedOrders = true) (hn : a.tmps.size = n) (V : Nat → Value → World → Prop)
    (hV : ∀ i v W W', Below W.heap.size W W' → V i v W → V i v W') (hB : textB .any l n = true) (hL : lastB .any l = true) {ol : Oper} (hol : l[l.length - 1]? = some ol) (hgl : ol.guard = none)
    (steps : EachAt (StepL P .any l Q V { w with drawn := w.drawn + 1 } a) 0 l.dropLast)
    (fin : ∀ listed a' W, AllBut l listed → HInv l.toArray V { w with drawn := w.drawn + 1 } a listed a' W → Oper.wp P ol a' W (fun a2 W2 => Q .normal a2 W2) Q) : (Code.region id l.toArray true).wp P Q a w := by
  subst hn
  obtain ⟨h1, h2, h3⟩ := textB_spec hB
  refine wp_region_any hm ?_
  refine wpAny_heldT (X := { w with drawn := w.drawn + 1 }) (a0 := a) h1 h2 h3 hV hL ol hol hgl (fun i o hi ho => ?_) fin _ _ _ _ (by simp) ⟨Below.refl _ _, rfl, rfl, fun _ _ => rfl, fun i o s _ _ hl => ?_⟩ ?_ ?_ ?_
  · have hi2 : l.dropLast[i]? = some o := by
      rw [List.getElem?_dropLast, if_pos hi]
      exact ho
    have := EachAt.get l.dropLast 0 i o (EachAt.imp (fun _ _ h => StepL.ok h) l.dropLast 0 steps) hi2
    rwa [Nat.zero_add] at this
  · rw [getD_replicate_false] at hl
    cases hl
  · exact getD_replicate_false ..
  · intro i hi
    rw [getD_replicate_false] at hi
    cases hi
  · unfold unl
    simp
/-- What a slot has, once it is done. -/
theorem HInv.but {l : List Oper} {V : Nat → Value → World → Prop} {X : World} {a0 a : Act} {W : World} {listed : Array Bool} (h : HInv l.toArray V X a0 listed a W) (hb : AllBut l listed) (i s : Nat) (hi : i < l.length - 1) (hs : (l[i]?.bind (·.dst)) = some s) : V i (a.eval (.tmp s)) W := by
  cases hl : l[i]? with
  | none => rw [hl] at hs; cases hs
  | some o =>
    rw [hl] at hs
    exact h.val i o s (by simpa using hl) hs (hb i hi)
end Go.Proofs.Ytdgmcaehadigaaa
