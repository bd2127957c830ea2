/- The plain side of package tag, first part: which texts may be names, where a name stands in a table, whether a table is right. -/
import Derived.Test.YtepngkhepcjdfaaDoorMem
import Derived.Lib.SlicesS
namespace Go.Proofs.YtepngkhepcjdfaaDoor
open Go.RowKit

/-- May the character of this number stand in a name? -/
def letN (n : Nat) : Bool := (decide (97 ≤ n) && decide (n ≤ 122)) || (decide (48 ≤ n) && decide (n ≤ 57)) || n == 45
/-- All bytes of s from place k on may stand in a name. -/
def restOk (s : ByteArray) (k : Nat) : Bool := (s.data.toList.drop k).all fun b => letN b.toNat
/-- May s stand in a table? -/
def nameOk (s : ByteArray) : Bool := decide (1 ≤ s.size) && decide (s.size ≤ 32) && restOk s 0

theorem letN_ways (n : Nat) : (n < 45 ∧ letN n = false) ∨ (n = 45 ∧ letN n = true) ∨ (45 < n ∧ n < 48 ∧ letN n = false) ∨ (48 ≤ n ∧ n ≤ 57 ∧ letN n = true) ∨ (57 < n ∧ n < 97 ∧ letN n = false) ∨ (97 ≤ n ∧ n ≤ 122 ∧ letN n = true) ∨ (122 < n ∧ letN n = false) := by
  have h : letN n = true ↔ (97 ≤ n ∧ n ≤ 122 ∨ 48 ≤ n ∧ n ≤ 57) ∨ n = 45 := by simp [letN]
  cases hb : letN n
  · have : ¬ ((97 ≤ n ∧ n ≤ 122 ∨ 48 ≤ n ∧ n ≤ 57) ∨ n = 45) := fun k => by rw [h.2 k] at hb; cases hb
    simp only [Bool.false_eq_true, and_true, and_false, false_or]
    omega
  · have := h.1 hb
    simp only [Bool.true_eq_false, and_true, and_false, or_false, false_or]
    omega

theorem restOk_step (s : ByteArray) (k : Nat) (h : k < s.size) : restOk s k = (letN (s[k]'h).toNat && restOk s (k + 1)) := by
  have hl : k < s.data.toList.length := by simpa using h
  unfold restOk
  rw [List.drop_eq_getElem_cons hl, List.all_cons]
  rfl
theorem restOk_end (s : ByteArray) (k : Nat) (h : ¬ k < s.size) : restOk s k = true := by
  have hl : s.data.toList.length ≤ k := by simpa using h
  unfold restOk
  rw [List.drop_eq_nil_of_le hl]
  rfl

theorem idx_step (zs : List ByteArray) (x : ByteArray) (k : Nat) (h : k < zs.length) : Lib.idxFromS (zs.drop k) x k = if zs[k] = x then (k : Int) else Lib.idxFromS (zs.drop (k + 1)) x (k + 1) := by
  rw [List.drop_eq_getElem_cons h]
  rfl
theorem idx_end (zs : List ByteArray) (x : ByteArray) (k : Nat) (h : zs.length ≤ k) : Lib.idxFromS (zs.drop k) x k = -1 := by
  rw [List.drop_eq_nil_of_le h]
  rfl

/-- Is one of them twice there, from place k on? -/
def twiceFrom (zs : List ByteArray) : Nat → Nat → Bool
  | 0, _ => false
  | m + 1, k => Lib.containsS (zs.take k) (zs.getD k ByteArray.empty) || twiceFrom zs m (k + 1)
/-- The error of a table (0, 7, 9, 10: as package api counts them). -/
def chkT (zs : List ByteArray) : Nat :=
  if 64 < zs.length then 9 else if zs.all nameOk then if twiceFrom zs zs.length 0 then 10 else 0 else 7

theorem twice_step (zs : List ByteArray) (k : Nat) (h : k < zs.length) : twiceFrom zs (zs.length - k) k = (Lib.containsS (zs.take k) zs[k] || twiceFrom zs (zs.length - (k + 1)) (k + 1)) := by
  have e : zs.length - k = (zs.length - (k + 1)) + 1 := by omega
  rw [e, twiceFrom, List.getD_eq_getElem?_getD, List.getElem?_eq_getElem h]
  rfl
theorem twice_end (zs : List ByteArray) (k : Nat) (h : zs.length ≤ k) : twiceFrom zs (zs.length - k) k = false := by
  rw [Nat.sub_eq_zero_of_le h]
  rfl
theorem all_step (f : ByteArray → Bool) (zs : List ByteArray) (k : Nat) (h : k < zs.length) : (zs.drop k).all f = (f zs[k] && (zs.drop (k + 1)).all f) := by
  rw [List.drop_eq_getElem_cons h]
  rfl

theorem idx_before (x : ByteArray) : ∀ (zs : List ByteArray) (k i : Nat), zs[k]? = some x → (Lib.idxFromS zs x i < ((i + k : Nat) : Int) ↔ x ∈ zs.take k)
  | [], k, i, h => by simp at h
  | z :: zs, 0, i, h => by
    have e : z = x := by simpa using h
    simp [Lib.idxFromS, e]
  | z :: zs, k + 1, i, h => by
    have h' : zs[k]? = some x := by simpa using h
    have ih := idx_before x zs k (i + 1) h'
    by_cases e : z = x
    · simp [Lib.idxFromS, e]
      omega
    · have e' : ¬ x = z := fun q => e q.symm
      rw [show i + (k + 1) = i + 1 + k by omega]
      simpa [Lib.idxFromS, e, e'] using ih

theorem find_before (zs : List ByteArray) (k : Nat) (h : k < zs.length) : decide (Lib.idxOfS zs zs[k] < (k : Int)) = Lib.containsS (zs.take k) zs[k] := by
  have h1 := idx_before zs[k] zs k 0 (List.getElem?_eq_getElem h)
  rw [Nat.zero_add] at h1
  have h2 := Lib.containsS_iff (zs.take k) zs[k]
  unfold Lib.idxOfS
  rw [Bool.eq_iff_iff, decide_eq_true_iff]
  exact h1.trans h2.symm

end Go.Proofs.YtepngkhepcjdfaaDoor
