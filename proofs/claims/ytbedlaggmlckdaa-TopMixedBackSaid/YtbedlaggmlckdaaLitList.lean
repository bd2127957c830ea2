/- What is written and read back: plain mathematics of lists of numbers and of texts. -/
import Derived.Test.YtbedlaggmlckdaaLitNext
namespace Go.Proofs.Ytbedlaggmlckdaa

theorem ofNat_small (m : Nat) (h : m < 256) : (UInt8.ofNat m).toNat = m := by rw [UInt8.toNat_ofNat']; omega

/-- A number's bytes, read from place i on with acc, tell acc and the number at its place, whatever stands behind. -/
theorem numGo_bytesF (r : List UInt8) : ∀ (f n i acc : Nat), i + f = 9 → n * 2 ^ (7 * i) < 18446744073709551616 → (1 ≤ n ∨ i = 0) →
    numGo (bytesF f n ++ r) i acc = (acc + n * 2 ^ (7 * i), i + (bytesF f n).length, 0) := by
  intro f
  induction f with
  | zero =>
    intro n i acc hi hn h0
    obtain rfl : i = 9 := by omega
    rw [show 2 ^ (7 * 9) = 9223372036854775808 from by decide] at hn
    have hn2 : n < 2 := by omega
    have hb : (UInt8.ofNat n).toNat = n := ofNat_small n (by omega)
    simp only [bytesF, List.cons_append, List.nil_append, numGo, hb, List.length_singleton]
    rw [if_neg (by omega), if_neg (by omega), if_neg (by omega), Nat.mod_eq_of_lt (by omega)]
  | succ f ih =>
    intro n i acc hi hn h0
    unfold bytesF
    by_cases h : 128 ≤ n
    · rw [if_pos h]
      have hb : (UInt8.ofNat (n % 128 + 128)).toNat = n % 128 + 128 := ofNat_small _ (by omega)
      simp only [List.cons_append, numGo, hb, List.length_cons]
      rw [if_neg (by omega), if_pos (by omega)]
      have hstep : n / 128 * 2 ^ (7 * (i + 1)) < 18446744073709551616 := by
        rw [show 7 * (i + 1) = 7 + 7 * i from by omega, Nat.pow_add, ← Nat.mul_assoc]
        exact Nat.lt_of_le_of_lt (Nat.mul_le_mul_right _ (Nat.div_mul_le_self n 128)) hn
      rw [ih (n / 128) (i + 1) _ (by omega) hstep (.inl (by omega))]
      have e : acc + (n % 128 + 128) % 128 * 2 ^ (7 * i) + n / 128 * 2 ^ (7 * (i + 1)) = acc + n * 2 ^ (7 * i) := by
        rw [show 7 * (i + 1) = 7 + 7 * i from by omega, Nat.pow_add, ← Nat.mul_assoc, show (n % 128 + 128) % 128 = n % 128 from by omega, Nat.add_assoc, ← Nat.add_mul]
        rw [show n % 128 + n / 128 * 2 ^ 7 = n from by rw [show (2 : Nat) ^ 7 = 128 from rfl]; omega]
      rw [e]
      simp only [Prod.mk.injEq, and_true, true_and]
      omega
    · rw [if_neg h]
      have hb : (UInt8.ofNat n).toNat = n := ofNat_small n (by omega)
      simp only [List.cons_append, List.nil_append, numGo, hb, List.length_singleton]
      rw [if_neg (by omega), if_neg (by omega), if_neg (by omega), Nat.mod_eq_of_lt (by omega)]
theorem numL_bytes (n : Nat) (hn : n < 18446744073709551616) (r : List UInt8) : numL (bytesN n ++ r) = (n, (bytesN n).length, 0) := by
  have h := numGo_bytesF r 9 n 0 0 rfl (by simpa using hn) (.inr rfl)
  simpa [numL, bytesN] using h

theorem bs_drop (a r : List UInt8) : (bs (a ++ r)).extract a.length (bs (a ++ r)).size = bs r := by
  rw [bs_ext, bs_size, List.take_length, List.drop_left]
theorem numStep_bytes (n : Nat) (hn : n < 18446744073709551616) (r : List UInt8) : numStep (bs (bytesN n ++ r)) 0 = (n, bs r, 0) := by
  have h := numL_bytes n hn r
  rw [← bs_list (bytesN n ++ r)] at h
  rw [step_ok h.symm, bs_drop]

theorem textR_bytes (t r : List UInt8) (ht : t.length ≤ 65536) : textR (bs ((bytesN t.length ++ t) ++ r)) = (bs t, bs r, 0) := by
  have h := numL_bytes t.length (by omega) (t ++ r)
  rw [List.append_assoc]
  rw [← bs_list (bytesN t.length ++ (t ++ r))] at h
  have hr : restB (bs (bytesN t.length ++ (t ++ r))) (numL (bs (bytesN t.length ++ (t ++ r))).data.toList) = bs (t ++ r) := by
    rw [h, restB, if_pos rfl]
    exact bs_drop _ _
  unfold textR
  rw [hr, h]
  show (if (0 : Nat) = 0 then _ else _) = _
  rw [if_pos rfl]
  show (if 65536 < t.length then _ else _) = _
  rw [if_neg (by omega), if_neg (by rw [bs_size, List.length_append]; omega)]
  rw [bs_drop]
  show (ByteArray.extract (bs (t ++ r)) 0 t.length, _, _) = _
  rw [bs_ext, List.drop_zero, List.take_left]

/-- The bytes of numbers, and of texts, one behind the other. -/
def numsB : List Nat → List UInt8
  | [] => []
  | n :: r => bytesN n ++ numsB r
def textsB : List ByteArray → List UInt8
  | [] => []
  | t :: r => (bytesN t.data.toList.length ++ t.data.toList) ++ textsB r
theorem numsB_snoc (l : List Nat) (n : Nat) : numsB (l ++ [n]) = numsB l ++ bytesN n := by
  induction l with
  | nil => simp [numsB]
  | cons a l ih => simp [numsB, ih]
theorem textsB_snoc (l : List ByteArray) (t : ByteArray) : textsB (l ++ [t]) = textsB l ++ (bytesN t.data.toList.length ++ t.data.toList) := by
  induction l with
  | nil => simp [textsB]
  | cons a l ih => simp [textsB, ih]

end Go.Proofs.Ytbedlaggmlckdaa
