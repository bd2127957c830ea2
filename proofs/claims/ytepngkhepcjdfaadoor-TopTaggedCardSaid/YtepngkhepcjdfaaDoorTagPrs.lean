/- The plain side of Parse: the mask of places that are read one by one, whether one is there twice, whether they fall. -/
import Derived.Test.YtepngkhepcjdfaaDoorTagPartsR
namespace Go.Proofs.YtepngkhepcjdfaaDoor
open Go.RowKit

/-- One place more is read: the mask, whether one was there twice, whether one falls. -/
def stepP (t : Nat × Bool × Bool) (i : Nat) : Nat × Bool × Bool := (t.1 ||| 2 ^ i, t.2.1 || t.1.testBit i, t.2.2 || decide (2 ^ i < t.1))
def goP (L : List Nat) : Nat × Bool × Bool := L.foldl stepP (0, false, false)

theorem goP_snoc (L : List Nat) (i : Nat) : goP (L ++ [i]) = stepP (goP L) i := by
  unfold goP
  rw [List.foldl_append]
  rfl

theorem or_pow_bit (m i j : Nat) : (m ||| 2 ^ i).testBit j = (m.testBit j || decide (i = j)) := by
  rw [Nat.testBit_or, Nat.testBit_two_pow]

theorem fold_bit (j : Nat) : ∀ (L : List Nat) (t : Nat × Bool × Bool), (L.foldl stepP t).1.testBit j = (t.1.testBit j || decide (j ∈ L))
  | [], t => by simp
  | i :: L, t => by
    rw [List.foldl_cons, fold_bit j L]
    show ((t.1 ||| 2 ^ i).testBit j || _) = _
    rw [or_pow_bit, Bool.or_assoc]
    congr 1
    rw [Bool.eq_iff_iff]
    simp only [Bool.or_eq_true, decide_eq_true_eq, List.mem_cons]
    exact ⟨fun h => h.imp Eq.symm id, fun h => h.imp Eq.symm id⟩
theorem goP_bit (L : List Nat) (j : Nat) : (goP L).1.testBit j = decide (j ∈ L) := by
  unfold goP
  rw [fold_bit]
  simp

theorem fold_twice : ∀ (L : List Nat) (t : Nat × Bool × Bool), (L.foldl stepP t).2.1 = false ↔ t.2.1 = false ∧ (∀ i ∈ L, t.1.testBit i = false) ∧ L.Nodup
  | [], t => by simp
  | i :: L, t => by
    rw [List.foldl_cons, fold_twice L]
    show ((t.2.1 || t.1.testBit i) = false ∧ (∀ j ∈ L, (t.1 ||| 2 ^ i).testBit j = false) ∧ L.Nodup) ↔ _
    simp only [or_pow_bit, Bool.or_eq_false_iff, decide_eq_false_iff_not, List.nodup_cons, List.mem_cons]
    constructor
    · rintro ⟨⟨h1, h2⟩, h3, h4⟩
      refine ⟨h1, ?_, fun hm => (h3 i hm).2 rfl, h4⟩
      rintro j (rfl | hj)
      · exact h2
      · exact (h3 j hj).1
    · rintro ⟨h1, h2, h3, h4⟩
      exact ⟨⟨h1, h2 i (.inl rfl)⟩, fun j hj => ⟨h2 j (.inr hj), fun e => h3 (e ▸ hj)⟩, h4⟩
theorem goP_twice (L : List Nat) : (goP L).2.1 = false ↔ L.Nodup := by
  unfold goP
  rw [fold_twice]
  simp

theorem low_or (m i : Nat) (h : m ≤ 2 ^ i) (hb : m.testBit i = false) : m ||| 2 ^ i < 2 ^ (i + 1) := by
  have hlt : m < 2 ^ i := by
    rcases Nat.lt_or_ge m (2 ^ i) with k | k
    · exact k
    · have e : m = 2 ^ i := Nat.le_antisymm h k
      rw [e, Nat.testBit_two_pow_self] at hb
      cases hb
  exact Nat.or_lt_two_pow (Nat.lt_of_lt_of_le hlt (Nat.pow_le_pow_right (by decide) (by omega))) (Nat.pow_lt_pow_right (by decide) (by omega))

theorem fold_falls : ∀ (L : List Nat) (t : Nat × Bool × Bool), (∀ i ∈ L, t.1.testBit i = false) → L.Nodup → ((L.foldl stepP t).2.2 = false ↔ t.2.2 = false ∧ (∀ i ∈ L, t.1 ≤ 2 ^ i) ∧ L.Pairwise (· < ·))
  | [], t, _, _ => by simp
  | i :: L, t, hb, hn => by
    have hn' := List.nodup_cons.1 hn
    have hbi := hb i (List.mem_cons_self ..)
    rw [List.foldl_cons, fold_falls L _ (fun j hj => by
      show (t.1 ||| 2 ^ i).testBit j = false
      rw [or_pow_bit, hb j (List.mem_cons_of_mem _ hj), Bool.false_or, decide_eq_false_iff_not]
      exact fun e => hn'.1 (e ▸ hj)) hn'.2]
    show ((t.2.2 || decide (2 ^ i < t.1)) = false ∧ (∀ j ∈ L, t.1 ||| 2 ^ i ≤ 2 ^ j) ∧ L.Pairwise (· < ·)) ↔ _
    simp only [Bool.or_eq_false_iff, decide_eq_false_iff_not, List.pairwise_cons, List.mem_cons]
    constructor
    · rintro ⟨⟨h1, h2⟩, h3, h4⟩
      refine ⟨h1, ?_, fun j hj => ?_, h4⟩
      · rintro j (rfl | hj)
        · omega
        · exact Nat.le_trans Nat.left_le_or (h3 j hj)
      · have h5 : 2 ^ i ≤ 2 ^ j := Nat.le_trans Nat.right_le_or (h3 j hj)
        have h6 := (Nat.pow_le_pow_iff_right (by decide : 1 < 2)).1 h5
        have h7 : i ≠ j := fun e => hn'.1 (e ▸ hj)
        omega
    · rintro ⟨h1, h2, h3, h4⟩
      have h5 := low_or t.1 i (h2 i (.inl rfl)) hbi
      refine ⟨⟨h1, by have := h2 i (.inl rfl); omega⟩, fun j hj => ?_, h4⟩
      exact Nat.le_trans (Nat.le_of_lt h5) (Nat.pow_le_pow_right (by decide) (h3 j hj))
theorem goP_falls (L : List Nat) (h : L.Nodup) : (goP L).2.2 = false ↔ L.Pairwise (· < ·) := by
  unfold goP
  rw [fold_falls L _ (by simp) h]
  simp

theorem fold_lt : ∀ (L : List Nat) (t : Nat × Bool × Bool), (∀ i ∈ L, i < 64) → t.1 < 2 ^ 64 → (L.foldl stepP t).1 < 2 ^ 64
  | [], _, _, h => h
  | i :: L, t, hL, h => by
    rw [List.foldl_cons]
    refine fold_lt L _ (fun j hj => hL j (List.mem_cons_of_mem _ hj)) ?_
    exact Nat.or_lt_two_pow h (Nat.pow_lt_pow_right (by decide) (hL i (List.mem_cons_self ..)))
theorem goP_lt (L : List Nat) (h : ∀ i ∈ L, i < 64) : (goP L).1 < 2 ^ 64 := fold_lt L _ h (by decide)

/-- Where the parts stand in the table; the error of a text, and its mask. -/
def plcOf (zs : List ByteArray) (p : ByteArray) : Nat := (Lib.idxOfS zs p).toNat
def isIn (zs : List ByteArray) (p : ByteArray) : Bool := decide (0 ≤ Lib.idxOfS zs p)
def endW (t : Nat × Bool × Bool) : Nat := if t.2.1 then 10 else if t.2.2 then 11 else 0
def prsW (zs : List ByteArray) (s : ByteArray) : Nat :=
  if chkT zs = 0 then (if (partsB s).all (isIn zs) then endW (goP ((partsB s).map (plcOf zs))) else 3) else chkT zs
def prsM (zs : List ByteArray) (s : ByteArray) : Nat := if prsW zs s = 0 then (goP ((partsB s).map (plcOf zs))).1 else 0

theorem prs_err (zs : List ByteArray) (s : ByteArray) (h : chkT zs ≠ 0) : prsW zs s = chkT zs ∧ prsM zs s = 0 := by
  have e : prsW zs s = chkT zs := if_neg h
  exact ⟨e, if_neg (by rw [e]; exact h)⟩
theorem prs_none (zs : List ByteArray) (s : ByteArray) (h : chkT zs = 0) (h2 : (partsB s).all (isIn zs) = false) : prsW zs s = 3 ∧ prsM zs s = 0 := by
  have e : prsW zs s = 3 := by rw [prsW, if_pos h, h2]; rfl
  exact ⟨e, if_neg (by rw [e]; decide)⟩
theorem prs_end (zs : List ByteArray) (s : ByteArray) (h : chkT zs = 0) (h2 : (partsB s).all (isIn zs) = true) :
    prsW zs s = endW (goP ((partsB s).map (plcOf zs))) ∧ prsM zs s = if prsW zs s = 0 then (goP ((partsB s).map (plcOf zs))).1 else 0 :=
  ⟨by rw [prsW, if_pos h, h2]; rfl, rfl⟩

theorem idxFrom_ways (x : ByteArray) : ∀ (zs : List ByteArray) (i : Nat), (Lib.idxFromS zs x i = -1 ∧ x ∉ zs) ∨ ∃ k : Nat, Lib.idxFromS zs x i = ((i + k : Nat) : Int) ∧ zs[k]? = some x
  | [], i => .inl ⟨rfl, by simp⟩
  | z :: zs, i => by
    by_cases e : z = x
    · exact .inr ⟨0, by simp [Lib.idxFromS, e], by simp [e]⟩
    · have e' : ¬ x = z := fun q => e q.symm
      rcases idxFrom_ways x zs (i + 1) with ⟨h1, h2⟩ | ⟨k, h1, h2⟩
      · exact .inl ⟨by simp [Lib.idxFromS, e, h1], by simp [e', h2]⟩
      · exact .inr ⟨k + 1, by simp [Lib.idxFromS, e, h1]; omega, by simpa using h2⟩
theorem idxOf_ways (zs : List ByteArray) (x : ByteArray) : (Lib.idxOfS zs x = -1 ∧ x ∉ zs) ∨ ∃ k : Nat, Lib.idxOfS zs x = (k : Int) ∧ k < zs.length ∧ zs[k]? = some x := by
  rcases idxFrom_ways x zs 0 with h | ⟨k, h1, h2⟩
  · exact .inl h
  · exact .inr ⟨k, by rw [Nat.zero_add] at h1; exact h1, (List.getElem?_eq_some_iff.1 h2).1, h2⟩

theorem chkT_len {zs : List ByteArray} (h : chkT zs = 0) : zs.length ≤ 64 := by
  unfold chkT at h
  split at h
  · cases h
  · omega

end Go.Proofs.YtepngkhepcjdfaaDoor
