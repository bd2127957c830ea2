/- Plain mathematics of little: a number's bytes, and what is read of bytes. Nothing of the program stands here. -/
import Derived.Test.YtbedlaggmlckdaaPackPlain
namespace Go.Proofs.Ytbedlaggmlckdaa

/-- What is read of the bytes l, when i bytes were read and made acc: the number, how many bytes were read, the error. -/
def numGo : List UInt8 → Nat → Nat → Nat × Nat × Nat
  | [], _, _ => (0, 0, 8)
  | c :: r, i, acc =>
    if 9 < i ∨ (i = 9 ∧ 1 < c.toNat % 128) then (0, 0, 7)
    else if 128 ≤ c.toNat then numGo r (i + 1) (acc + c.toNat % 128 * 2 ^ (7 * i))
    else if c.toNat = 0 ∧ 0 < i then (0, 0, 7)
    else (acc + c.toNat % 128 * 2 ^ (7 * i), i + 1, 0)
def numL (l : List UInt8) : Nat × Nat × Nat := numGo l 0 0

theorem numGo_step (s : ByteArray) (k acc : Nat) (h : k < s.size) : numGo (s.data.toList.drop k) k acc =
    if 9 < k ∨ (k = 9 ∧ 1 < s[k].toNat % 128) then (0, 0, 7)
    else if 128 ≤ s[k].toNat then numGo (s.data.toList.drop (k + 1)) (k + 1) (acc + s[k].toNat % 128 * 2 ^ (7 * k))
    else if s[k].toNat = 0 ∧ 0 < k then (0, 0, 7)
    else (acc + s[k].toNat % 128 * 2 ^ (7 * k), k + 1, 0) := by
  have e : s.data.toList.drop k = s[k] :: s.data.toList.drop (k + 1) := by
    rw [List.drop_eq_getElem_cons (by simpa using h)]
    rfl
  rw [e, numGo]
theorem numGo_none (s : ByteArray) (k acc : Nat) (h : s.size ≤ k) : numGo (s.data.toList.drop k) k acc = (0, 0, 8) := by
  rw [List.drop_eq_nil_of_le (by simpa using h), numGo]

theorem byte_lt (s : ByteArray) (k : Nat) (h : k < s.size) : s[k].toNat ≤ 255 := by
  have := s[k].toNat_lt
  omega

/-- What a part adds to a number that ends below its place. -/
theorem part_add (acc c k : Nat) (ha : acc < 2 ^ (7 * k)) (hk : k ≤ 9) (h9 : k = 9 → c % 128 ≤ 1) :
    bits .or .u64 (acc : Int) (IntKind.u64.wrap ((c : Int) % 128 * 2 ^ (7 * k))) = ((acc + c % 128 * 2 ^ (7 * k) : Nat) : Int) ∧ acc + c % 128 * 2 ^ (7 * k) < 2 ^ (7 * (k + 1)) ∧ acc + c % 128 * 2 ^ (7 * k) < 18446744073709551616 := by
  have hp : c % 128 < 128 := Nat.mod_lt _ (by decide)
  have hcast : ((c : Int) % 128) = ((c % 128 : Nat) : Int) := by omega
  generalize c % 128 = p at *
  have h64 : (2 : Nat) ^ 64 = 18446744073709551616 := by decide
  have haI : (acc : Int) < 2 ^ (7 * k) := by
    have : ((2 : Int) ^ (7 * k)) = ((2 ^ (7 * k) : Nat) : Int) := by simp
    omega
  have h7 : acc + p * 2 ^ (7 * k) < 2 ^ (7 * (k + 1)) := by
    rw [show 7 * (k + 1) = 7 * k + 7 from by omega, Nat.pow_add]
    have : (p + 1) * 2 ^ (7 * k) ≤ 128 * 2 ^ (7 * k) := Nat.mul_le_mul_right _ (by omega)
    rw [Nat.add_mul, Nat.one_mul] at this
    rw [show (2 : Nat) ^ 7 = 128 from rfl, Nat.mul_comm _ 128]
    omega
  have key : ∀ m : Nat, (p : Int) ≤ 2 ^ m - 1 → 7 * k + m ≤ 64 → bits .or .u64 (acc : Int) (IntKind.u64.wrap ((p : Int) * 2 ^ (7 * k))) = ((acc + p * 2 ^ (7 * k) : Nat) : Int) ∧ acc + p * 2 ^ (7 * k) < 18446744073709551616 := by
    intro m h1 h2
    obtain ⟨e1, e2, e3⟩ := or_part (acc : Int) (p : Int) (7 * k) m (by omega) haI (by omega) h1 h2
    have ec : (acc : Int) + (p : Int) * 2 ^ (7 * k) = ((acc + p * 2 ^ (7 * k) : Nat) : Int) := by simp
    rw [ec] at e1 e3
    refine ⟨e1, ?_⟩
    have h5 : 2 ^ (7 * k + m) ≤ 2 ^ 64 := Nat.pow_le_pow_right (by decide) h2
    have h6 : ((2 : Int) ^ (7 * k + m)) = ((2 ^ (7 * k + m) : Nat) : Int) := by simp
    omega
  rw [hcast]
  by_cases h : k = 9
  · have := h9 h
    obtain ⟨e1, e2⟩ := key 1 (by simp; omega) (by omega)
    exact ⟨e1, h7, e2⟩
  · obtain ⟨e1, e2⟩ := key 7 (by simp; omega) (by omega)
    exact ⟨e1, h7, e2⟩
theorem part_sum (acc c k : Nat) (ha : acc < 2 ^ (7 * k)) (hk : k ≤ 9) (h9 : k = 9 → c % 128 ≤ 1) :
    IntKind.u64.wrap ((acc : Int) + IntKind.u64.wrap ((c : Int) % 128 * 2 ^ (7 * k))) = ((acc + c % 128 * 2 ^ (7 * k) : Nat) : Int) := by
  have h := (part_add acc c k ha hk h9).2.2
  have ec : (c : Int) % 128 * 2 ^ (7 * k) = ((c % 128 * 2 ^ (7 * k) : Nat) : Int) := by simp
  rw [ec]
  generalize c % 128 * 2 ^ (7 * k) = q at *
  simp only [IntKind.wrap_u64]
  omega

/-- A string that is told by its bytes. -/
def bs (l : List UInt8) : ByteArray := ⟨l.toArray⟩
theorem bs_size (l : List UInt8) : (bs l).size = l.length := by simp [bs, ByteArray.size]
theorem bs_list (l : List UInt8) : (bs l).data.toList = l := by simp [bs]
theorem bs_of (s : ByteArray) : s = bs s.data.toList := by cases s; simp [bs]
theorem bs_inj {s t : ByteArray} (h : s.data.toList = t.data.toList) : s = t := by rw [bs_of s, bs_of t, h]
theorem bs_app (a b : List UInt8) : bs a ++ bs b = bs (a ++ b) := bs_inj (by simp [bs])
theorem bs_ext (l : List UInt8) (a b : Nat) : (bs l).extract a b = bs ((l.take b).drop a) := bs_inj (by
  rw [bs_list]
  simp [bs, ByteArray.data_extract, List.drop_take])

/-- A number's bytes. -/
def bytesF : Nat → Nat → List UInt8
  | 0, n => [UInt8.ofNat n]
  | f + 1, n => if 128 ≤ n then UInt8.ofNat (n % 128 + 128) :: bytesF f (n / 128) else [UInt8.ofNat n]
def bytesN (n : Nat) : List UInt8 := bytesF 9 n

end Go.Proofs.Ytbedlaggmlckdaa
