/- Plain mathematics of pack: what widths may be, the parts of a word, the word of parts. Nothing of the program stands here. -/
import Derived.Test.YtkoelbdmpnelhaaMem
namespace Go.Proofs.Ytkoelbdmpnelhaa

/-- Do the widths fit side by side into so many bits that are left? 0: yes; 6: no. -/
def cw (left : Int) : List Int → Int
  | [] => 0
  | b :: r => if b < 1 ∨ left < b then 6 else cw (left - b) r

theorem cw_cases (left : Int) (zs : List Int) : cw left zs = 0 ∨ cw left zs = 6 := by
  induction zs generalizing left with
  | nil => exact .inl rfl
  | cons b r ih =>
    unfold cw
    split
    · exact .inr rfl
    · exact ih _

theorem cw_step (left : Int) (zs : List Int) (k : Nat) (hk : k < zs.length) :
    cw left (zs.drop k) = if zs[k] < 1 ∨ left < zs[k] then 6 else cw (left - zs[k]) (zs.drop (k + 1)) := by
  rw [List.drop_eq_getElem_cons hk]; rfl

theorem cw_len (left : Int) (zs : List Int) (h : cw left zs = 0) (h0 : 0 ≤ left) : (zs.length : Int) ≤ left := by
  induction zs generalizing left with
  | nil => simpa using h0
  | cons b r ih =>
    unfold cw at h
    split at h
    · exact absurd h (by decide)
    · rename_i hc
      have := ih (left - b) h (by omega)
      simp only [List.length_cons]
      omega

theorem cw_mem (left : Int) (zs : List Int) (h : cw left zs = 0) : ∀ z ∈ zs, 1 ≤ z ∧ z ≤ left := by
  induction zs generalizing left with
  | nil => intro z hz; cases hz
  | cons b r ih =>
    unfold cw at h
    split at h
    · exact absurd h (by decide)
    · rename_i hc
      intro z hz
      rcases List.mem_cons.1 hz with rfl | hz
      · omega
      · have := ih (left - b) h z hz
        omega

/-- The parts of a number, of these widths, the lowest first. -/
def fieldsL (x : Int) : List Int → List Int
  | [] => []
  | b :: r => x % 2 ^ b.toNat :: fieldsL (x / 2 ^ b.toNat) r

theorem fieldsL_length (x : Int) (zs : List Int) : (fieldsL x zs).length = zs.length := by
  induction zs generalizing x with
  | nil => rfl
  | cons b r ih => simp [fieldsL, ih]

/-- What Fields answers: the parts, or none where the widths may not be. -/
def fldL (x : Int) (zs : List Int) : List Int := if cw 64 zs = 0 then fieldsL x zs else []

theorem fieldsL_step (x : Int) (zs : List Int) (k : Nat) (hk : k < zs.length) :
    fieldsL x (zs.drop k) = x % 2 ^ zs[k].toNat :: fieldsL (x / 2 ^ zs[k].toNat) (zs.drop (k + 1)) := by
  rw [List.drop_eq_getElem_cons hk]; rfl

theorem two_pow_pos (m : Nat) : (0 : Int) < 2 ^ m := Int.pow_pos (by decide)

theorem two_pow_le {m n : Nat} (h : m ≤ n) : (2 : Int) ^ m ≤ 2 ^ n := by
  have h1 : ((2 : Int) ^ m) = ((2 ^ m : Nat) : Int) := by simp
  have h2 : ((2 : Int) ^ n) = ((2 ^ n : Nat) : Int) := by simp
  rw [h1, h2]
  exact Int.ofNat_le.2 (Nat.pow_le_pow_right (by decide) h)

theorem p64 : (2 : Int) ^ 64 = 18446744073709551616 := by decide

/-- All ones in the m lowest bits: how the code reckons it. -/
theorem ones_u64 (m : Nat) (hm : m ≤ 64) : ((1 : Int) * 2 ^ m % 18446744073709551616 - 1) % 18446744073709551616 = 2 ^ m - 1 := by
  rcases Nat.lt_or_eq_of_le hm with h | rfl
  · have h1 : (2 : Int) ^ m ≤ 2 ^ 63 := two_pow_le (by omega)
    have h2 := two_pow_pos m
    have h3 : (2 : Int) ^ 63 = 9223372036854775808 := by decide
    omega
  · decide

theorem and_ones_nat (a m : Nat) : a &&& (2 ^ m - 1) = a % 2 ^ m := Nat.and_two_pow_sub_one_eq_mod a m

theorem toNat_ofInt_u64 (x : Int) (h0 : 0 ≤ x) (h1 : x < 18446744073709551616) : (BitVec.ofInt 64 x).toNat = x.toNat := by
  rw [BitVec.toNat_ofInt]
  have h2 : ((2 ^ 64 : Nat) : Int) = 18446744073709551616 := by decide
  rw [h2, Int.emod_eq_of_lt h0 h1]

theorem bits_and_u64 (x y : Int) (hx : 0 ≤ x) (hx' : x < 18446744073709551616) (hy : 0 ≤ y) (hy' : y < 18446744073709551616) :
    bits .and .u64 x y = ((x.toNat &&& y.toNat : Nat) : Int) := by
  have hb : x.toNat &&& y.toNat < 2 ^ 64 := Nat.and_lt_two_pow _ (by omega)
  show IntKind.u64.wrap ((BitVec.ofInt 64 x &&& BitVec.ofInt 64 y).toNat : Int) = _
  rw [BitVec.toNat_and, toNat_ofInt_u64 x hx hx', toNat_ofInt_u64 y hy hy', IntKind.wrap_u64]
  omega

theorem bits_or_u64 (x y : Int) (hx : 0 ≤ x) (hx' : x < 18446744073709551616) (hy : 0 ≤ y) (hy' : y < 18446744073709551616) :
    bits .or .u64 x y = ((x.toNat ||| y.toNat : Nat) : Int) := by
  have hb : x.toNat ||| y.toNat < 2 ^ 64 := Nat.or_lt_two_pow (by omega) (by omega)
  show IntKind.u64.wrap ((BitVec.ofInt 64 x ||| BitVec.ofInt 64 y).toNat : Int) = _
  rw [BitVec.toNat_or, toNat_ofInt_u64 x hx hx', toNat_ofInt_u64 y hy hy', IntKind.wrap_u64]
  omega

/-- To cut a number with ones is to take what is left by the power. -/
theorem and_ones (x : Int) (m : Nat) (hm : m ≤ 64) (hx : 0 ≤ x) (hx' : x < 18446744073709551616) : bits .and .u64 x (2 ^ m - 1) = x % 2 ^ m := by
  have h1 : (2 : Int) ^ m ≤ 2 ^ 64 := two_pow_le hm
  have h2 := two_pow_pos m
  rw [p64] at h1
  rw [bits_and_u64 x _ hx hx' (by omega) (by omega)]
  have h3 : ((2 : Int) ^ m - 1).toNat = 2 ^ m - 1 := by
    have : ((2 : Int) ^ m) = ((2 ^ m : Nat) : Int) := by simp
    rw [this]
    omega
  rw [h3, and_ones_nat]
  obtain ⟨n, rfl⟩ := Int.eq_ofNat_of_zero_le hx
  simp

theorem div_pow_le (x : Int) (m : Nat) (hx : 0 ≤ x) : 0 ≤ x / 2 ^ m ∧ x / 2 ^ m ≤ x :=
  ⟨Int.ediv_nonneg hx (Int.le_of_lt (two_pow_pos m)), Int.ediv_le_self _ hx⟩

theorem mod_pow_le (x : Int) (m : Nat) (hx : 0 ≤ x) : 0 ≤ x % 2 ^ m ∧ x % 2 ^ m ≤ x ∧ x % 2 ^ m < 2 ^ m :=
  ⟨Int.emod_nonneg _ (by have := two_pow_pos m; omega), by
    obtain ⟨n, rfl⟩ := Int.eq_ofNat_of_zero_le hx
    have : ((2 : Int) ^ m) = ((2 ^ m : Nat) : Int) := by simp
    rw [this, ← Int.natCast_emod]
    exact Int.ofNat_le.2 (Nat.mod_le _ _), Int.emod_lt_of_pos _ (two_pow_pos m)⟩

/-- What a store at place k makes of a row that was filled up to there. -/
theorem row_set (pre : List Int) (n k : Nat) (v : Int) (f : Int → Value) (hp : pre.length = k) (hk : k < n) :
    ((pre ++ List.replicate (n - k) 0).map f).set k (f v) = ((pre ++ [v]) ++ List.replicate (n - (k + 1)) 0).map f := by
  subst hp
  have h : n - pre.length = (n - (pre.length + 1)) + 1 := by omega
  rw [h, List.replicate_succ, List.map_append, List.set_append_right _ _ (by simp)]
  simp

/-- The word of parts, from a word that is made of the parts ahead; and the error. -/
def joinGo (acc : Int) (place : Nat) : List Int → List Int → Int × Int
  | l :: ls, z :: zs => if 2 ^ z.toNat - 1 < l then (0, 6) else joinGo (acc + l * 2 ^ place) (place + z.toNat) ls zs
  | _, _ => (acc, 0)

/-- What Join answers. -/
def joinL (ls zs : List Int) : Int × Int := if cw 64 zs = 0 then (if ls.length = zs.length then joinGo 0 0 ls zs else (0, 7)) else (0, 6)

theorem joinGo_step (acc : Int) (place : Nat) (ls zs : List Int) (k : Nat) (hk : k < zs.length) (hk' : k < ls.length) :
    joinGo acc place (ls.drop k) (zs.drop k) =
      if 2 ^ zs[k].toNat - 1 < ls[k] then (0, 6) else joinGo (acc + ls[k] * 2 ^ place) (place + zs[k].toNat) (ls.drop (k + 1)) (zs.drop (k + 1)) := by
  rw [List.drop_eq_getElem_cons hk, List.drop_eq_getElem_cons hk']; rfl

theorem joinGo_nil (acc : Int) (place : Nat) (ls : List Int) : joinGo acc place ls [] = (acc, 0) := by cases ls <;> rfl

theorem pow_cast (m : Nat) : ((2 : Int) ^ m) = ((2 ^ m : Nat) : Int) := by simp

/-- To lay a part over a word that ends below it is to add it. -/
theorem or_part (acc l : Int) (place m : Nat) (ha : 0 ≤ acc) (ha' : acc < 2 ^ place) (hl : 0 ≤ l) (hl' : l ≤ 2 ^ m - 1) (hm : place + m ≤ 64) :
    bits .or .u64 acc (IntKind.u64.wrap (l * 2 ^ place)) = acc + l * 2 ^ place ∧ 0 ≤ acc + l * 2 ^ place ∧ acc + l * 2 ^ place < 2 ^ (place + m) := by
  obtain ⟨a, rfl⟩ := Int.eq_ofNat_of_zero_le ha
  obtain ⟨x, rfl⟩ := Int.eq_ofNat_of_zero_le hl
  rw [pow_cast] at ha' hl' ⊢
  rw [pow_cast]
  have ha2 : a < 2 ^ place := by omega
  have hx2 : x + 1 ≤ 2 ^ m := by omega
  have hmul : (x + 1) * 2 ^ place ≤ 2 ^ m * 2 ^ place := Nat.mul_le_mul_right _ hx2
  rw [← Nat.pow_add, Nat.add_comm m place, Nat.add_mul, Nat.one_mul] at hmul
  have h64 : 2 ^ (place + m) ≤ 2 ^ 64 := Nat.pow_le_pow_right (by decide) hm
  have e64 : 2 ^ 64 = 18446744073709551616 := by decide
  have hor : 2 ^ place * x + a = 2 ^ place * x ||| a := Nat.two_pow_add_eq_or_of_lt ha2 x
  rw [Nat.mul_comm] at hor
  have hxm : ((x : Int) * ((2 ^ place : Nat) : Int)) = ((x * 2 ^ place : Nat) : Int) := by simp
  rw [hxm]
  generalize x * 2 ^ place = q at *
  generalize 2 ^ (place + m) = r at *
  generalize 2 ^ place = s at *
  refine ⟨?_, by omega, by omega⟩
  rw [IntKind.wrap_u64, Int.emod_eq_of_lt (by omega) (by omega), bits_or_u64 _ _ (by omega) (by omega) (by omega) (by omega), Int.toNat_natCast, Int.toNat_natCast, Nat.or_comm, ← hor]
  omega

/-- The numbers of either sign, laid out from 0 on; and back. -/
def zigS (n : Int) : Int := if 0 ≤ n then 2 * n else -2 * n - 1
def zagS (n : Int) : Int := if n % 2 = 0 then n / 2 else - (n / 2) - 1

theorem ofInt_ones_u64 : BitVec.ofInt 64 18446744073709551615 = BitVec.allOnes 64 := by decide
theorem ofInt_minus_one : BitVec.ofInt 64 (-1) = BitVec.allOnes 64 := by decide
theorem ofInt_zero64 : BitVec.ofInt 64 0 = 0#64 := by decide

theorem bits_xor_u64_zero (x : Int) (hx : 0 ≤ x) (hx' : x < 18446744073709551616) : bits .xor .u64 x 0 = x := by
  show IntKind.u64.wrap ((BitVec.ofInt 64 x ^^^ BitVec.ofInt 64 0).toNat : Int) = _
  rw [ofInt_zero64, BitVec.xor_zero, toNat_ofInt_u64 x hx hx', IntKind.wrap_u64]
  omega

theorem bits_xor_u64_ones (x : Int) (hx : 0 ≤ x) (hx' : x < 18446744073709551616) : bits .xor .u64 x 18446744073709551615 = 18446744073709551615 - x := by
  show IntKind.u64.wrap ((BitVec.ofInt 64 x ^^^ BitVec.ofInt 64 18446744073709551615).toNat : Int) = _
  rw [ofInt_ones_u64, BitVec.xor_allOnes, BitVec.toNat_not, toNat_ofInt_u64 x hx hx', IntKind.wrap_u64]
  omega

theorem toNat_ofInt_i64 (x : Int) (h0 : 0 ≤ x) (h1 : x ≤ 9223372036854775807) : (BitVec.ofInt 64 x).toNat = x.toNat := toNat_ofInt_u64 x h0 (by omega)

theorem bits_xor_i64_zero (x : Int) (hx : 0 ≤ x) (hx' : x ≤ 9223372036854775807) : bits .xor .i64 x 0 = x := by
  show IntKind.i64.wrap ((BitVec.ofInt 64 x ^^^ BitVec.ofInt 64 0).toNat : Int) = _
  rw [ofInt_zero64, BitVec.xor_zero, toNat_ofInt_i64 x hx hx', IntKind.wrap_i64]
  omega

theorem bits_xor_i64_ones (x : Int) (hx : 0 ≤ x) (hx' : x ≤ 9223372036854775807) : bits .xor .i64 x (-1) = -x - 1 := by
  show IntKind.i64.wrap ((BitVec.ofInt 64 x ^^^ BitVec.ofInt 64 (-1)).toNat : Int) = _
  rw [ofInt_minus_one, BitVec.xor_allOnes, BitVec.toNat_not, toNat_ofInt_i64 x hx hx', IntKind.wrap_i64]
  omega

theorem bits_and_one (x : Int) (hx : 0 ≤ x) (hx' : x < 18446744073709551616) : bits .and .u64 x 1 = x % 2 := and_ones x 1 (by decide) hx hx'

theorem zig_eq (n : Int) (h0 : -9223372036854775808 ≤ n) (h1 : n ≤ 9223372036854775807) :
    bits .xor .u64 (IntKind.u64.wrap (Go.RowKit.wrap64 (n * 2))) (IntKind.u64.wrap (n / 9223372036854775808)) = zigS n := by
  unfold zigS
  by_cases h : 0 ≤ n
  · rw [if_pos h, show n / 9223372036854775808 = 0 from by omega]
    simp only [IntKind.wrap_u64, Go.RowKit.wrap64]
    rw [show ((n * 2 + 9223372036854775808) % 18446744073709551616 - 9223372036854775808) % 18446744073709551616 = 2 * n from by omega, show (0 : Int) % 18446744073709551616 = 0 from rfl]
    exact bits_xor_u64_zero _ (by omega) (by omega)
  · rw [if_neg h, show n / 9223372036854775808 = -1 from by omega]
    simp only [IntKind.wrap_u64, Go.RowKit.wrap64]
    rw [show ((n * 2 + 9223372036854775808) % 18446744073709551616 - 9223372036854775808) % 18446744073709551616 = 2 * n + 18446744073709551616 from by omega, show (-1 : Int) % 18446744073709551616 = 18446744073709551615 from rfl, bits_xor_u64_ones _ (by omega) (by omega)]
    omega

theorem zag_eq (n : Int) (h0 : 0 ≤ n) (h1 : n ≤ 18446744073709551615) :
    bits .xor .i64 (n / 2) (Go.RowKit.wrap64 (-Go.RowKit.wrap64 (bits .and .u64 n 1))) = zagS n := by
  unfold zagS
  rw [bits_and_one n h0 (by omega)]
  have h2 : 0 ≤ n / 2 ∧ n / 2 ≤ 9223372036854775807 := by omega
  by_cases h : n % 2 = 0
  · rw [if_pos h, h, show Go.RowKit.wrap64 (-Go.RowKit.wrap64 0) = 0 from by simp only [Go.RowKit.wrap64]; decide]
    exact bits_xor_i64_zero (n / 2) h2.1 h2.2
  · rw [if_neg h, show n % 2 = 1 from by omega, show Go.RowKit.wrap64 (-Go.RowKit.wrap64 1) = -1 from by simp only [Go.RowKit.wrap64]; decide]
    exact bits_xor_i64_ones (n / 2) h2.1 h2.2

theorem zag_zig (n : Int) : zagS (zigS n) = n := by
  unfold zigS
  split
  · unfold zagS; rw [if_pos (by omega)]; omega
  · unfold zagS; rw [if_neg (by omega)]; omega
theorem zig_zag (n : Int) (h0 : 0 ≤ n) : zigS (zagS n) = n := by
  unfold zagS
  split
  · unfold zigS; rw [if_pos (by omega)]; omega
  · unfold zigS; rw [if_neg (by omega)]; omega
theorem zig_range (n : Int) (h0 : -9223372036854775808 ≤ n) (h1 : n ≤ 9223372036854775807) : 0 ≤ zigS n ∧ zigS n ≤ 18446744073709551615 := by unfold zigS; split <;> omega
theorem zag_range (n : Int) (h0 : 0 ≤ n) (h1 : n ≤ 18446744073709551615) : -9223372036854775808 ≤ zagS n ∧ zagS n ≤ 9223372036854775807 := by unfold zagS; split <;> omega

end Go.Proofs.Ytkoelbdmpnelhaa
