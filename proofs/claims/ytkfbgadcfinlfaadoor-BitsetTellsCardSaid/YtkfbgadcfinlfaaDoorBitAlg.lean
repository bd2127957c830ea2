/- Plain: what is in sets put together; how many; when two are one. -/
import Derived.Test.YtkfbgadcfinlfaaDoorBitLives
namespace Go.Proofs.YtkfbgadcfinlfaaDoor
open Go.RowKit

/-- A word as bits. -/
def W (x : Int) : BitVec 64 := BitVec.ofInt 64 x
theorem W_toNat (x : Int) (h0 : 0 ≤ x) (h1 : x ≤ 18446744073709551615) : ((W x).toNat : Int) = x := by
  unfold W
  rw [toNat_ofInt_u64 x h0 (by omega)]
  omega
theorem W_of (v : BitVec 64) : W (v.toNat : Int) = v := by unfold W; rw [BitVec.ofInt_natCast, BitVec.ofNat_toNat, BitVec.setWidth_eq]
theorem wrap_toNat (v : BitVec 64) : IntKind.u64.wrap (v.toNat : Int) = (v.toNat : Int) := by
  have := v.isLt
  rw [IntKind.wrap_u64]
  omega
theorem orF_eq (x y : Int) : orF x y = ((W x ||| W y).toNat : Int) := wrap_toNat _
theorem andF_eq (x y : Int) : andF x y = ((W x &&& W y).toNat : Int) := wrap_toNat _
theorem andNotF_eq (x y : Int) : andNotF x y = ((W x &&& ~~~W y).toNat : Int) := wrap_toNat _
theorem word_range (v : BitVec 64) : 0 ≤ (v.toNat : Int) ∧ (v.toNat : Int) ≤ 18446744073709551615 := by have := v.isLt; omega

theorem bit_of (v : BitVec 64) (k : Nat) : ((v.toNat : Int) / 2 ^ k % 2 == 1) = v.getLsbD k := by
  have h : v.getLsbD k = decide (v.toNat / 2 ^ k % 2 = 1) := by
    rw [BitVec.getLsbD, Nat.testBit_eq_decide_div_mod_eq]
  have h2 : v.toNat / 2 ^ k % 2 < 2 := Nat.mod_lt _ (by decide)
  rw [h, pow_cast, ← Int.natCast_ediv]
  generalize v.toNat / 2 ^ k = q at *
  by_cases hq : q % 2 = 1
  · rw [decide_eq_true hq, beq_iff_eq]; omega
  · rw [decide_eq_false hq, beq_eq_false_iff_ne]; omega

theorem rev_ind {P : List Int → Prop} (l : List Int) (start : P []) (snoc : ∀ l z, P l → P (l ++ [z])) : P l := by
  have h : ∀ r : List Int, P r.reverse := by
    intro r
    induction r with
    | nil => exact start
    | cons z r ih => rw [List.reverse_cons]; exact snoc _ _ ih
  have := h l.reverse
  rwa [List.reverse_reverse] at this

theorem getD_trim (l : List Int) (i : Nat) : (trimR l).getD i 0 = l.getD i 0 := by
  induction l using rev_ind generalizing i with
  | start => rfl
  | snoc l z ih =>
    by_cases hz : z = 0
    · subst hz
      rw [trimR_zero, ih, List.getD_eq_getElem?_getD, List.getD_eq_getElem?_getD]
      rcases Nat.lt_or_ge i l.length with h | h
      · rw [List.getElem?_append_left h]
      · rw [List.getElem?_append_right h, List.getElem?_eq_none h]
        rcases Nat.eq_zero_or_pos (i - l.length) with h2 | h2
        · rw [h2]; rfl
        · rw [List.getElem?_eq_none (by simp; omega)]
    · rw [trimR_ne _ _ hz]

theorem trim_zeros (l : List Int) (h : ∀ i, l.getD i 0 = 0) : trimR l = [] := by
  induction l using rev_ind with
  | start => rfl
  | snoc l z ih =>
    have hz : z = 0 := by
      have := h l.length
      rw [List.getD_eq_getElem?_getD, List.getElem?_append_right (Nat.le_refl _), Nat.sub_self] at this
      exact this
    subst hz
    rw [trimR_zero]
    refine ih (fun i => ?_)
    have := h i
    rcases Nat.lt_or_ge i l.length with h2 | h2
    · rw [List.getD_eq_getElem?_getD, List.getElem?_append_left h2] at this
      rw [List.getD_eq_getElem?_getD]
      exact this
    · rw [List.getD_eq_getElem?_getD, List.getElem?_eq_none h2]; rfl

/-- A list without noughts at its end is told by its words. -/
theorem trim_form (l : List Int) : trimR l = [] ∨ ∃ r z, trimR l = r ++ [z] ∧ z ≠ 0 := by
  induction l using rev_ind with
  | start => exact .inl rfl
  | snoc l z ih =>
    by_cases hz : z = 0
    · subst hz; rw [trimR_zero]; exact ih
    · rw [trimR_ne _ _ hz]; exact .inr ⟨l, z, rfl, hz⟩

theorem last_getD (r : List Int) (z : Int) : (r ++ [z]).getD r.length 0 = z := by
  rw [List.getD_eq_getElem?_getD, List.getElem?_append_right (Nat.le_refl _), Nat.sub_self]; rfl

theorem short_len (l m : List Int) (r : List Int) (z : Int) (hl : l = r ++ [z]) (hz : z ≠ 0) (h : ∀ i, l.getD i 0 = m.getD i 0) : l.length ≤ m.length := by
  subst hl
  have := h r.length
  rw [last_getD] at this
  rcases Nat.lt_or_ge r.length m.length with h1 | h1
  · simp; omega
  · rw [List.getD_eq_getElem?_getD, List.getElem?_eq_none h1] at this
    exact absurd this hz

theorem trim_ext (l m : List Int) (h : ∀ i, l.getD i 0 = m.getD i 0) : trimR l = trimR m := by
  have h' : ∀ i, (trimR l).getD i 0 = (trimR m).getD i 0 := fun i => by rw [getD_trim, getD_trim, h]
  have h1 : (trimR l).length ≤ (trimR m).length := by
    rcases trim_form l with e | ⟨r, z, e, hz⟩
    · rw [e]; exact Nat.zero_le _
    · exact short_len _ _ r z e hz h'
  have h2 : (trimR m).length ≤ (trimR l).length := by
    rcases trim_form m with e | ⟨r, z, e, hz⟩
    · rw [e]; exact Nat.zero_le _
    · exact short_len _ _ r z e hz (fun i => (h' i).symm)
  refine List.ext_getElem (by omega) (fun i hi hi' => ?_)
  have := h' i
  rw [List.getD_eq_getElem?_getD, List.getD_eq_getElem?_getD, List.getElem?_eq_getElem hi, List.getElem?_eq_getElem hi'] at this
  exact this

theorem getD_zip (f : Int → Int → Int) (h0 : f 0 0 = 0) (xs ys : List Int) (i : Nat) : (zipL f xs ys).getD i 0 = if i < 64 then f (xs.getD i 0) (ys.getD i 0) else 0 := by
  have hl := zipL_length f xs ys
  rw [List.length_take, List.length_take] at hl
  rw [List.getD_eq_getElem?_getD]
  rcases Nat.lt_or_ge i (zipL f xs ys).length with h | h
  · rw [List.getElem?_eq_getElem h, zipL_get f xs ys i h, if_pos (by omega)]
    rfl
  · rw [List.getElem?_eq_none h]
    split
    · have e1 : xs.getD i 0 = 0 := by rw [List.getD_eq_getElem?_getD, List.getElem?_eq_none (by omega)]; rfl
      have e2 : ys.getD i 0 = 0 := by rw [List.getD_eq_getElem?_getD, List.getElem?_eq_none (by omega)]; rfl
      rw [e1, e2, h0]
      rfl
    · rfl

end Go.Proofs.YtkfbgadcfinlfaaDoor
