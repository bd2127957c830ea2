/- Plain mathematics of what orders deeds: a chain of workers' own orders and of what is stored and loaded, and the clocks that tell just that. -/
import Derived.Test.YtabcnmpnjnegdaaRacDeed
import Derived.Test.YtabcnmpnjnegdaaTopKnown
namespace Go.Proofs.Ytabcnmpnjnegdaa

section
variable (l : List D3)
/-- Is deed k one of a worker? -/
def Val (k : Nat) : Prop := ∃ d, l[k]? = some d ∧ isW d.1.2 = true
def kd (k : Nat) : Int := (l.getD k ((-1, -1), 0)).1.1
def wkr (k : Nat) : Int := (l.getD k ((-1, -1), 0)).1.2
def plc (k : Nat) : Int := (l.getD k ((-1, -1), 0)).2
def wkn (k : Nat) : Nat := (wkr l k).toNat
theorem Val.lt {l : List D3} {k : Nat} (h : Val l k) : k < l.length := by
  obtain ⟨d, h1, _⟩ := h
  exact (List.getElem?_eq_some_iff.1 h1).1
theorem val_iff (k : Nat) : Val l k ↔ isW (wkr l k) = true := by
  unfold Val wkr
  cases h : l[k]? with
  | none =>
    rw [List.getD_eq_getElem?_getD, h]
    constructor
    · rintro ⟨d, h1, _⟩; cases h1
    · intro h1; exact absurd h1 (by decide)
  | some d =>
    rw [List.getD_eq_getElem?_getD, h]
    constructor
    · rintro ⟨d', h1, h2⟩
      injection h1 with h1
      subst h1
      exact h2
    · intro h1
      exact ⟨d, rfl, h1⟩
theorem Val.wk {l : List D3} {k : Nat} (h : Val l k) : wkr l k = (wkn l k : Int) ∧ wkn l k < 65 := by
  have h1 := (val_iff l k).1 h
  have h2 := of_decide_eq_true (show decide (0 ≤ wkr l k ∧ wkr l k ≤ 64) = true from h1)
  unfold wkn
  omega
/-- Does deed k store a clock at place p? -/
def Sto (p : Int) (k : Nat) : Prop := Val l k ∧ (kd l k = 1 ∨ kd l k = 2) ∧ plc l k = p
/-- Deed s is the last of the first i that does. -/
def Last (p : Int) (i s : Nat) : Prop := s < i ∧ Sto l p s ∧ ∀ j, s < j → j < i → ¬ Sto l p j
/-- Deed k orders deed i at once. -/
def Base (i k : Nat) : Prop := Val l i ∧ Val l k ∧ k < i ∧ (wkr l k = wkr l i ∨ ((kd l i = 0 ∨ kd l i = 2) ∧ Last l (plc l i) i k))
/-- Deed k comes before deed i, by some chain. -/
inductive Bef : Nat → Nat → Prop
  | one {i k : Nat} : Base l i k → Bef i k
  | more {i j k : Nat} : Base l i j → Bef j k → Bef i k
end
variable {l : List D3}
theorem Bef.lt {i k : Nat} (h : Bef l i k) : k < i := by
  induction h with
  | one h => exact h.2.2.1
  | more h _ ih => exact Nat.lt_trans ih h.2.2.1
theorem Bef.trans {i j k : Nat} (h : Bef l i j) (h2 : Bef l j k) : Bef l i k := by
  induction h with
  | one h => exact .more h h2
  | more h _ ih => exact .more h (ih h2)
theorem Bef.val {i k : Nat} (h : Bef l i k) : Val l i ∧ Val l k := by
  induction h with
  | one h => exact ⟨h.1, h.2.1⟩
  | more h _ ih => exact ⟨h.1, ih.2⟩
theorem bef_iff {i k : Nat} : Bef l i k ↔ Base l i k ∨ ∃ j, Base l i j ∧ Bef l j k := by
  constructor
  · intro h
    cases h with
    | one h => exact .inl h
    | more h h2 => exact .inr ⟨_, h, h2⟩
  · rintro (h | ⟨j, h, h2⟩)
    · exact .one h
    · exact .more h h2

/-- The watch behind the first i deeds. -/
def stA (l : List D3) : Nat → AX
  | 0 => newA
  | i + 1 => (doA (stA l i) (l.getD i ((-1, -1), 0))).1
/-- A deed's time: its worker's own number. -/
def tmA (l : List D3) (k : Nat) : Int := ((stA l k).N (wkn l k)).getD (wkn l k) 0
/-- Deed k is known to worker w behind the first i. -/
def Know (l : List D3) (i w k : Nat) : Prop := k < i ∧ Val l k ∧ (wkn l k = w ∨ ∃ j, j < i ∧ Val l j ∧ wkn l j = w ∧ Bef l j k)
theorem wkr_eq {i k : Nat} (hi : Val l i) (hk : Val l k) : wkr l k = wkr l i ↔ wkn l k = wkn l i := by
  rw [hi.wk.1, hk.wk.1]
  omega
/-- What is before a deed is what its worker knew, and what it loads. -/
theorem bef_know {i k : Nat} (hi : Val l i) (hk : k < i) (hv : Val l k) : Bef l i k ↔ Know l i (wkn l i) k ∨ ((kd l i = 0 ∨ kd l i = 2) ∧ ∃ s, Last l (plc l i) i s ∧ (k = s ∨ Bef l s k)) := by
  rw [bef_iff]
  constructor
  · rintro (⟨_, _, _, h | ⟨h1, h2⟩⟩ | ⟨j, ⟨_, hj, hji, h | ⟨h1, h2⟩⟩, hb⟩)
    · exact .inl ⟨hk, hv, .inl ((wkr_eq hi hv).1 h)⟩
    · exact .inr ⟨h1, k, h2, .inl rfl⟩
    · exact .inl ⟨hk, hv, .inr ⟨j, hji, hj, (wkr_eq hi hj).1 h, hb⟩⟩
    · exact .inr ⟨h1, j, h2, .inr hb⟩
  · rintro (⟨_, _, h | ⟨j, hji, hj, h, hb⟩⟩ | ⟨h1, s, h2, rfl | hb⟩)
    · exact .inl ⟨hi, hv, hk, .inl ((wkr_eq hi hv).2 h)⟩
    · exact .inr ⟨j, ⟨hi, hj, hji, .inl ((wkr_eq hi hj).2 h)⟩, hb⟩
    · exact .inl ⟨hi, hv, hk, .inr ⟨h1, h2⟩⟩
    · exact .inr ⟨s, ⟨hi, h2.2.1.1, h2.1, .inr ⟨h1, h2⟩⟩, hb⟩
theorem know_same {i w k : Nat} (hk : k < i) (hw : Val l i → wkn l i ≠ w) : Know l (i + 1) w k ↔ Know l i w k := by
  constructor
  · rintro ⟨_, hv, h | ⟨j, hj, hvj, e, hb⟩⟩
    · exact ⟨hk, hv, .inl h⟩
    · rcases Nat.lt_succ_iff_lt_or_eq.1 hj with hj | rfl
      · exact ⟨hk, hv, .inr ⟨j, hj, hvj, e, hb⟩⟩
      · exact absurd e (hw hvj)
  · rintro ⟨_, hv, h | ⟨j, hj, hvj, e, hb⟩⟩
    · exact ⟨by omega, hv, .inl h⟩
    · exact ⟨by omega, hv, .inr ⟨j, by omega, hvj, e, hb⟩⟩
theorem know_own {i k : Nat} (hi : Val l i) (hk : k < i) (hv : Val l k) : Know l (i + 1) (wkn l i) k ↔ Bef l i k := by
  constructor
  · rintro ⟨_, _, h | ⟨j, hj, hvj, e, hb⟩⟩
    · exact .one ⟨hi, hv, hk, .inl ((wkr_eq hi hv).2 h)⟩
    · rcases Nat.lt_succ_iff_lt_or_eq.1 hj with hj | rfl
      · exact .more ⟨hi, hvj, hj, .inl ((wkr_eq hi hvj).2 e)⟩ hb
      · exact hb
  · intro h
    exact ⟨by omega, hv, .inr ⟨i, by omega, hi, rfl, h⟩⟩
theorem know_new {i w : Nat} (hi : Val l i) : Know l (i + 1) w i ↔ wkn l i = w := by
  constructor
  · rintro ⟨_, _, h | ⟨j, hj, _, _, hb⟩⟩
    · exact h
    · have := hb.lt
      omega
  · intro h
    exact ⟨by omega, hi, .inl h⟩

/-- The clocks tell just what is before what. -/
structure Inv (l : List D3) (i : Nat) (a : AX) : Prop where
  bd : bdA a ((i : Int) + 1)
  own : ∀ u, u < 65 → 1 ≤ (a.N u).getD u 0
  less : ∀ w u, u < 65 → w < 65 → w ≠ u → (a.N w).getD u 0 < (a.N u).getD u 0
  lessP : ∀ p u, u < 65 → (a.pn p).getD u 0 < (a.N u).getD u 0
  know : ∀ w k, w < 65 → k < i → Val l k → (Know l i w k ↔ tmA l k ≤ (a.N w).getD (wkn l k) 0)
  place : ∀ p k, k < i → Val l k → ((∃ s, Last l p i s ∧ (k = s ∨ Bef l s k)) ↔ tmA l k ≤ (a.pn p).getD (wkn l k) 0)
theorem Inv.zero : Inv l 0 newA := by
  refine ⟨bd_new, fun u hu => ?_, fun w u hu hw hne => ?_, fun p u hu => ?_, fun w k _ hk => absurd hk (Nat.not_lt_zero k), fun p k hk => absurd hk (Nat.not_lt_zero k)⟩
  · show 1 ≤ (if u < 65 then tickN zeroN u else zeroN).getD u 0
    rw [if_pos hu, tick_self zeroN_num hu (by rw [zeroN_at]; decide), zeroN_at]
    decide
  · show (if w < 65 then tickN zeroN w else zeroN).getD u 0 < (if u < 65 then tickN zeroN u else zeroN).getD u 0
    rw [if_pos hu, if_pos hw, tick_self zeroN_num hu (by rw [zeroN_at]; decide), zeroN_at, tickN, Int.toNat_natCast]
    split
    · rw [set_getD _ _ _ _ (by rw [zeroN_num.1]; exact hw), if_neg hne, zeroN_at]; decide
    · rw [zeroN_at]; decide
  · show zeroN.getD u 0 < (if u < 65 then tickN zeroN u else zeroN).getD u 0
    rw [if_pos hu, tick_self zeroN_num hu (by rw [zeroN_at]; decide), zeroN_at]
    decide

theorem last_new {p : Int} {i s : Nat} (h : Sto l p i) : Last l p (i + 1) s ↔ s = i := by
  constructor
  · rintro ⟨h1, h2, h3⟩
    rcases Nat.lt_succ_iff_lt_or_eq.1 h1 with h1 | h1
    · exact absurd h (h3 i h1 (Nat.lt_succ_self i))
    · exact h1
  · rintro rfl
    exact ⟨Nat.lt_succ_self _, h, fun j h1 h2 => by omega⟩
theorem last_old {p : Int} {i s : Nat} (h : ¬ Sto l p i) : Last l p (i + 1) s ↔ Last l p i s := by
  constructor
  · rintro ⟨h1, h2, h3⟩
    rcases Nat.lt_succ_iff_lt_or_eq.1 h1 with h1 | rfl
    · exact ⟨h1, h2, fun j a b => h3 j a (by omega)⟩
    · exact absurd h2 h
  · rintro ⟨h1, h2, h3⟩
    exact ⟨by omega, h2, fun j a b => by
      rcases Nat.lt_succ_iff_lt_or_eq.1 b with b | rfl
      · exact h3 j a b
      · exact h⟩
theorem tick_else {M : List Int} (hM : IsNum M) {u j : Nat} (hu : u < 65) (h : j ≠ u) : (tickN M u).getD j 0 = M.getD j 0 := by
  rw [tickN, Int.toNat_natCast]
  split
  · rw [set_getD _ _ _ _ (by rw [hM.1]; exact hu), if_neg (fun e => h e.symm)]
  · rfl

theorem Inv.step {i : Nat} {a a' : AX} (h : Inv l i a) (hlen : i < 1000) (hv : Val l i) (ht : tmA l i = (a.N (wkn l i)).getD (wkn l i) 0) (mid : List Int) (hm : IsNum mid ∧ ∀ j, mid.getD j 0 ≤ (i : Int) + 1)
    (hmu : mid.getD (wkn l i) 0 = (a.N (wkn l i)).getD (wkn l i) 0) (hml : ∀ v, v < 65 → v ≠ wkn l i → mid.getD v 0 < (a.N v).getD v 0) (hge : ∀ j, (a.N (wkn l i)).getD j 0 ≤ mid.getD j 0)
    (hB : ∀ k, k < i → Val l k → (Bef l i k ↔ tmA l k ≤ mid.getD (wkn l k) 0)) (st : Bool) (hst : ∀ p, Sto l p i ↔ (st = true ∧ p = plc l i))
    (hN : ∀ w, a'.N w = if w = wkn l i then (if st = true then tickN mid (wkn l i) else mid) else a.N w) (hP : ∀ p, a'.pn p = if st = true ∧ p = plc l i then mid else a.pn p) : Inv l (i + 1) a' := by
  obtain ⟨_, hu⟩ := hv.wk
  generalize hU : wkn l i = u at *
  have hti := tick_at hm.1 u
  have hnu : ∀ j, mid.getD j 0 ≤ (a'.N u).getD j 0 ∧ (a'.N u).getD j 0 ≤ mid.getD j 0 + 1 := fun j => by
    rw [hN u, if_pos rfl]
    split
    · exact hti j
    · omega
  have hnw : ∀ w, w ≠ u → a'.N w = a.N w := fun w hw => by rw [hN w, if_neg hw]
  have hnj : ∀ j, j ≠ u → (a'.N u).getD j 0 = mid.getD j 0 := fun j hj => by
    rw [hN u, if_pos rfl]
    split
    · exact tick_else hm.1 hu hj
    · rfl
  have hmono : ∀ v j, (a.N v).getD j 0 ≤ (a'.N v).getD j 0 := fun v j => by
    by_cases e : v = u
    · rw [e]
      exact Int.le_trans (hge j) (hnu j).1
    · rw [hnw v e]
      exact Int.le_refl _
  refine ⟨⟨fun k => ?_, fun p => ?_⟩, fun v hv65 => Int.le_trans (h.own v hv65) (hmono v v), fun w v hv65 hw65 hne => ?_, fun p v hv65 => ?_, fun w k hw65 hk hvk => ?_, fun p k hk hvk => ?_⟩
  · by_cases e : k = u
    · rw [e]
      refine ⟨?_, fun j => ?_⟩
      · rw [hN u, if_pos rfl]
        split
        · exact tickN_num hm.1 _
        · exact hm.1
      · have := (hnu j).2
        have := hm.2 j
        omega
    · rw [hnw k e]
      exact ⟨(h.bd.1 k).1, fun j => by have := (h.bd.1 k).2 j; omega⟩
  · rw [hP p]
    split
    · exact ⟨hm.1, fun j => by have := hm.2 j; omega⟩
    · exact ⟨(h.bd.2 p).1, fun j => by have := (h.bd.2 p).2 j; omega⟩
  · by_cases e : v = u
    · subst e
      rw [hnw w hne]
      have h1 := h.less w v hv65 hw65 hne
      have h2 := (hnu v).1
      omega
    · rw [hnw v e]
      by_cases e2 : w = u
      · rw [e2, hnj v e]
        exact hml v hv65 e
      · rw [hnw w e2]
        exact h.less w v hv65 hw65 hne
  · rw [hP p]
    split
    · rename_i hs
      by_cases e : v = u
      · subst e
        rw [hN v, if_pos rfl, if_pos hs.1, tick_self hm.1 hu (by have := hm.2 v; omega)]
        omega
      · rw [hnw v e]
        exact hml v hv65 e
    · exact Int.lt_of_lt_of_le (h.lessP p v hv65) (hmono v v)
  · rcases Nat.lt_succ_iff_lt_or_eq.1 hk with hk | rfl
    · by_cases e : w = u
      · subst e
        rw [← hU, know_own hv hk hvk, hB k hk hvk, hU]
        by_cases e2 : wkn l k = w
        · rw [e2]
          have hb : Bef l i k := .one ⟨hv, hvk, hk, .inl ((wkr_eq hv hvk).2 (by rw [e2, hU]))⟩
          have h1 := (hB k hk hvk).1 hb
          rw [e2] at h1
          have h2 := (hnu w).1
          exact ⟨fun _ => by omega, fun _ => h1⟩
        · rw [hnj _ e2]
      · rw [hnw w e, know_same hk (fun _ => by rw [hU]; exact fun e2 => e e2.symm)]
        exact h.know w k hw65 hk hvk
    · rw [know_new hv, hU, ht]
      by_cases e : w = u
      · subst e
        have h1 := (hnu w).1
        exact ⟨fun _ => by omega, fun _ => rfl⟩
      · rw [hnw w e]
        have h1 := h.less w u hu hw65 e
        exact ⟨fun e2 => absurd e2.symm e, fun h2 => by omega⟩
  · rw [hP p]
    by_cases hs : st = true ∧ p = plc l i
    · rw [if_pos hs]
      have hsto := (hst p).2 hs
      have hl : (∃ s, Last l p (i + 1) s ∧ (k = s ∨ Bef l s k)) ↔ (k = i ∨ Bef l i k) := by
        constructor
        · rintro ⟨s, h1, h2⟩
          rw [(last_new hsto).1 h1] at h2
          exact h2
        · intro h2
          exact ⟨i, (last_new hsto).2 rfl, h2⟩
      rw [hl]
      rcases Nat.lt_succ_iff_lt_or_eq.1 hk with hk | rfl
      · rw [← hB k hk hvk]
        exact ⟨fun h => h.elim (fun e => by omega) id, .inr⟩
      · rw [hU, ht, hmu]
        exact ⟨fun _ => Int.le_refl _, fun _ => .inl rfl⟩
    · rw [if_neg hs]
      have hsto : ¬ Sto l p i := fun e => hs ((hst p).1 e)
      have hl : (∃ s, Last l p (i + 1) s ∧ (k = s ∨ Bef l s k)) ↔ (∃ s, Last l p i s ∧ (k = s ∨ Bef l s k)) := by
        constructor
        · rintro ⟨s, h1, h2⟩
          exact ⟨s, (last_old hsto).1 h1, h2⟩
        · rintro ⟨s, h1, h2⟩
          exact ⟨s, (last_old hsto).2 h1, h2⟩
      rw [hl]
      rcases Nat.lt_succ_iff_lt_or_eq.1 hk with hk | rfl
      · exact h.place p k hk hvk
      · rw [hU, ht]
        have h1 := h.lessP p u hu
        constructor
        · rintro ⟨s, h2, rfl | h3⟩
          · exact absurd h2.1 (Nat.lt_irrefl _)
          · have := h3.lt
            have := h2.1
            omega
        · intro h2
          omega

end Go.Proofs.Ytabcnmpnjnegdaa
