/- Numbers of 64 bits, as the program reckons them: sums, products, quotients by powers of two, and exclusive or, by bit vectors. Nothing of the program stands here. -/
import Derived.Test.YtoaikdnooafjmaaMem
namespace Go.Proofs.Ytoaikdnooafjmaa

theorem bv_lt (b : BitVec 64) : (b.toNat : Int) < 18446744073709551616 := by have := b.isLt; omega
theorem bv_ofInt (b : BitVec 64) : BitVec.ofInt 64 (b.toNat : Int) = b := by
  apply BitVec.eq_of_toNat_eq
  rw [BitVec.toNat_ofInt]
  have := b.isLt
  omega
theorem bv_wrap (b : BitVec 64) : IntKind.u64.wrap (b.toNat : Int) = b.toNat := by
  rw [IntKind.wrap_u64]
  have := b.isLt
  omega
theorem bv_add (a b : BitVec 64) : IntKind.u64.wrap ((a.toNat : Int) + (b.toNat : Int)) = ((a + b).toNat : Int) := by
  rw [IntKind.wrap_u64, BitVec.toNat_add]
  omega
theorem bv_sub (a b : BitVec 64) : IntKind.u64.wrap ((a.toNat : Int) - (b.toNat : Int)) = ((a - b).toNat : Int) := by
  rw [IntKind.wrap_u64, BitVec.toNat_sub]
  have := a.isLt
  have := b.isLt
  omega
theorem bv_mul (a b : BitVec 64) : IntKind.u64.wrap ((a.toNat : Int) * (b.toNat : Int)) = ((a * b).toNat : Int) := by
  rw [IntKind.wrap_u64, BitVec.toNat_mul, ← Int.natCast_mul]
  generalize a.toNat * b.toNat = n
  omega
theorem bv_shr (a : BitVec 64) (k : Nat) : (a.toNat : Int) / ((2 ^ k : Nat) : Int) = ((a >>> k).toNat : Int) := by
  rw [BitVec.toNat_ushiftRight, Nat.shiftRight_eq_div_pow]
  rfl
theorem bv_shr' (a : BitVec 64) (k : Nat) : (a.toNat : Int) / 2 ^ k = ((a >>> k).toNat : Int) := by
  rw [← bv_shr]; simp
theorem bv_xor (a b : BitVec 64) : bits .xor .u64 (a.toNat : Int) (b.toNat : Int) = ((a ^^^ b).toNat : Int) := by
  show IntKind.u64.wrap ((BitVec.ofInt 64 (a.toNat : Int) ^^^ BitVec.ofInt 64 (b.toNat : Int)).toNat : Int) = _
  rw [bv_ofInt, bv_ofInt, bv_wrap]
theorem bv_of (x : Int) (h0 : 0 ≤ x) (h1 : x ≤ 18446744073709551615) : ∃ b : BitVec 64, x = (b.toNat : Int) :=
  ⟨BitVec.ofInt 64 x, by rw [BitVec.toNat_ofInt]; omega⟩

theorem bv_tdiv (a : BitVec 64) (k : Nat) (n : Int) (hn : n = ((2 ^ k : Nat) : Int)) : IntKind.u64.wrap ((a.toNat : Int).tdiv n) = ((a >>> k).toNat : Int) := by
  rw [hn, Int.tdiv_eq_ediv_of_nonneg (by omega), bv_shr, bv_wrap]

/-- What a mix adds, and its factors. -/
def stride : BitVec 64 := 11400714819323198485#64
def fact1 : BitVec 64 := 13787848793156543929#64
def fact2 : BitVec 64 := 10723151780598845931#64
def back1 : BitVec 64 := 10871156337175269513#64
def back2 : BitVec 64 := 3573116690164977347#64
theorem stride_nat : stride.toNat = 11400714819323198485 := by decide
theorem fact1_nat : fact1.toNat = 13787848793156543929 := by decide
theorem fact2_nat : fact2.toNat = 10723151780598845931 := by decide
theorem back1_nat : back1.toNat = 10871156337175269513 := by decide
theorem back2_nat : back2.toNat = 3573116690164977347 := by decide
/-- The steps of a mix, each behind a name of its own: no walk takes them apart. -/
def addS (a : BitVec 64) : BitVec 64 := a + stride
def subS (a : BitVec 64) : BitVec 64 := a - stride
def mulS (a : BitVec 64) : BitVec 64 := a * stride
def mulF1 (a : BitVec 64) : BitVec 64 := a * fact1
def mulF2 (a : BitVec 64) : BitVec 64 := a * fact2
def mulK1 (a : BitVec 64) : BitVec 64 := a * back1
def mulK2 (a : BitVec 64) : BitVec 64 := a * back2
def addB (a b : BitVec 64) : BitVec 64 := a + b
theorem bv_stride (a : BitVec 64) : IntKind.u64.wrap ((a.toNat : Int) + 11400714819323198485) = ((addS a).toNat : Int) := by
  rw [addS, ← bv_add, stride_nat]; rfl
theorem bv_unstride (a : BitVec 64) : IntKind.u64.wrap ((a.toNat : Int) - 11400714819323198485) = ((subS a).toNat : Int) := by
  rw [subS, ← bv_sub, stride_nat]; rfl
theorem bv_stride_mul (a : BitVec 64) : IntKind.u64.wrap ((a.toNat : Int) * 11400714819323198485) = ((mulS a).toNat : Int) := by
  rw [mulS, ← bv_mul, stride_nat]; rfl
theorem bv_fact1 (a : BitVec 64) : IntKind.u64.wrap ((a.toNat : Int) * 13787848793156543929) = ((mulF1 a).toNat : Int) := by
  rw [mulF1, ← bv_mul, fact1_nat]; rfl
theorem bv_fact2 (a : BitVec 64) : IntKind.u64.wrap ((a.toNat : Int) * 10723151780598845931) = ((mulF2 a).toNat : Int) := by
  rw [mulF2, ← bv_mul, fact2_nat]; rfl
theorem bv_back1 (a : BitVec 64) : IntKind.u64.wrap ((a.toNat : Int) * 10871156337175269513) = ((mulK1 a).toNat : Int) := by
  rw [mulK1, ← bv_mul, back1_nat]; rfl
theorem bv_back2 (a : BitVec 64) : IntKind.u64.wrap ((a.toNat : Int) * 3573116690164977347) = ((mulK2 a).toNat : Int) := by
  rw [mulK2, ← bv_mul, back2_nat]; rfl
theorem bv_addB (a b : BitVec 64) : IntKind.u64.wrap ((a.toNat : Int) + (b.toNat : Int)) = ((addB a b).toNat : Int) := bv_add a b

/-- A number, exclusive or its upper bits; and back. -/
def foldB (z : BitVec 64) (k : Nat) : BitVec 64 := z ^^^ (z >>> k)
def shrB (z : BitVec 64) (k : Nat) : BitVec 64 := z >>> k
def unfoldB (z : BitVec 64) (k : Nat) : BitVec 64 := z ^^^ (z >>> k) ^^^ (z >>> (2 * k))
theorem bv_fold (z : BitVec 64) (k : Nat) : bits .xor .u64 (z.toNat : Int) ((shrB z k).toNat : Int) = ((foldB z k).toNat : Int) := bv_xor _ _
theorem bv_unfold (z : BitVec 64) (k : Nat) : bits .xor .u64 ((foldB z k).toNat : Int) ((shrB z (2 * k)).toNat : Int) = ((unfoldB z k).toNat : Int) := bv_xor _ _
theorem bv_shrB (a : BitVec 64) (k : Nat) : (a.toNat : Int) / 2 ^ k = ((shrB a k).toNat : Int) := bv_shr' a k
theorem bv_tdivB (a : BitVec 64) (k : Nat) (n : Int) (hn : n = ((2 ^ k : Nat) : Int)) : IntKind.u64.wrap ((a.toNat : Int).tdiv n) = ((shrB a k).toNat : Int) := bv_tdiv a k n hn
def mixB (x : BitVec 64) : BitVec 64 := foldB (mulF2 (foldB (mulF1 (foldB (addS x) 30)) 27)) 31
def unmixB (z : BitVec 64) : BitVec 64 := subS (unfoldB (mulK1 (unfoldB (mulK2 (unfoldB z 31)) 27)) 30)
def atB (seed n : BitVec 64) : BitVec 64 := mixB (addB seed (mulS n))

theorem unfold_fold (z : BitVec 64) (k : Nat) (h : 64 ≤ 3 * k) : unfoldB (foldB z k) k = z := by
  unfold unfoldB foldB
  apply BitVec.eq_of_getLsbD_eq
  intro i hi
  simp only [BitVec.getLsbD_xor, BitVec.getLsbD_ushiftRight]
  have h3 : z.getLsbD (2 * k + (k + i)) = false := BitVec.getLsbD_of_ge _ _ (by omega)
  have e : k + (2 * k + i) = 2 * k + (k + i) := by omega
  have e2 : k + (k + i) = 2 * k + i := by omega
  rw [e, h3, e2]
  cases z.getLsbD i <;> cases z.getLsbD (k + i) <;> cases z.getLsbD (2 * k + i) <;> rfl
theorem fold_unfold (z : BitVec 64) (k : Nat) (h : 64 ≤ 3 * k) : foldB (unfoldB z k) k = z := by
  unfold unfoldB foldB
  apply BitVec.eq_of_getLsbD_eq
  intro i hi
  simp only [BitVec.getLsbD_xor, BitVec.getLsbD_ushiftRight]
  have h3 : z.getLsbD (2 * k + (k + i)) = false := BitVec.getLsbD_of_ge _ _ (by omega)
  have e2 : k + (k + i) = 2 * k + i := by omega
  rw [h3, e2]
  cases z.getLsbD i <;> cases z.getLsbD (k + i) <;> cases z.getLsbD (2 * k + i) <;> rfl

theorem fb1 : fact1 * back1 = 1#64 := by decide
theorem fb2 : fact2 * back2 = 1#64 := by decide
theorem bf1 : back1 * fact1 = 1#64 := by decide
theorem bf2 : back2 * fact2 = 1#64 := by decide

theorem unmix_mix (x : BitVec 64) : unmixB (mixB x) = x := by
  unfold unmixB mixB subS mulK1 mulK2 mulF1 mulF2 addS
  rw [unfold_fold _ 31 (by omega), BitVec.mul_assoc, fb2, BitVec.mul_one, unfold_fold _ 27 (by omega), BitVec.mul_assoc, fb1, BitVec.mul_one, unfold_fold _ 30 (by omega), BitVec.add_sub_cancel]
theorem mix_unmix (x : BitVec 64) : mixB (unmixB x) = x := by
  unfold unmixB mixB subS mulK1 mulK2 mulF1 mulF2 addS
  rw [BitVec.sub_add_cancel, fold_unfold _ 30 (by omega), BitVec.mul_assoc, bf1, BitVec.mul_one, fold_unfold _ 27 (by omega), BitVec.mul_assoc, bf2, BitVec.mul_one, fold_unfold _ 31 (by omega)]
theorem mix_inj (x y : BitVec 64) (h : mixB x = mixB y) : x = y := by rw [← unmix_mix x, h, unmix_mix]

/-- The document's answer for a way back, by a loop that runs three times. -/
def xsB (z x : BitVec 64) (k : Nat) : BitVec 64 := z ^^^ (x >>> k)
theorem bv_xs (z x : BitVec 64) (k : Nat) : bits .xor .u64 (z.toNat : Int) ((shrB x k).toNat : Int) = ((xsB z x k).toNat : Int) := bv_xor _ _
theorem unshift_eq (z : BitVec 64) (k : Nat) (h : 64 ≤ 3 * k) : xsB z (xsB z (xsB z z k) k) k = unfoldB z k := by
  unfold unfoldB xsB
  apply BitVec.eq_of_getLsbD_eq
  intro i hi
  simp only [BitVec.getLsbD_xor, BitVec.getLsbD_ushiftRight]
  have h3 : z.getLsbD (k + (k + (k + i))) = false := BitVec.getLsbD_of_ge _ _ (by omega)
  have e2 : k + (k + i) = 2 * k + i := by omega
  rw [h3, e2]
  cases z.getLsbD i <;> cases z.getLsbD (k + i) <;> cases z.getLsbD (2 * k + i) <;> rfl

/-- The number that, times an odd one, is 1: as the document's answer reckons it. -/
def turnB (odd x : BitVec 64) : BitVec 64 := x * (2#64 - odd * x)
theorem bv_turn (odd x : BitVec 64) : IntKind.u64.wrap ((x.toNat : Int) * IntKind.u64.wrap (2 - IntKind.u64.wrap ((odd.toNat : Int) * (x.toNat : Int)))) = ((turnB odd x).toNat : Int) := by
  rw [turnB, bv_mul, ← bv_mul x, ← bv_sub]; rfl
def turnedB (odd : BitVec 64) : Nat → BitVec 64
  | 0 => odd
  | n + 1 => turnB odd (turnedB odd n)
theorem turned1 : turnedB fact1 6 = back1 := by decide
theorem turned2 : turnedB fact2 6 = back2 := by decide
def xssB (z : BitVec 64) (k : Nat) : Nat → BitVec 64
  | 0 => z
  | n + 1 => xsB z (xssB z k n) k
theorem xss3 (z : BitVec 64) (k : Nat) (h : 64 ≤ 3 * k) : xssB z k 3 = unfoldB z k := unshift_eq z k h

end Go.Proofs.Ytoaikdnooafjmaa
