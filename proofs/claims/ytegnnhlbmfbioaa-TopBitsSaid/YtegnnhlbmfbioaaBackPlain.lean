/- Plain mathematics of there and back: the word of a word's parts, and the parts of that word. -/
import Derived.Test.YtegnnhlbmfbioaaPackPlain
import Derived.Test.YtegnnhlbmfbioaaPackRead
namespace Go.Proofs.Ytegnnhlbmfbioaa

def sumW : List Int → Nat
  | [] => 0
  | b :: r => b.toNat + sumW r

theorem sumW_le (left : Int) (zs : List Int) (h : cw left zs = 0) (h0 : 0 ≤ left) : (sumW zs : Int) ≤ left := by
  induction zs generalizing left with
  | nil => simpa [sumW] using h0
  | cons b r ih =>
    unfold cw at h
    split at h
    · exact absurd h (by decide)
    · have := ih (left - b) h (by omega)
      simp only [sumW]
      omega

theorem mod_split (y : Int) (b s : Nat) : y % 2 ^ (b + s) = y % 2 ^ b + 2 ^ b * (y / 2 ^ b % 2 ^ s) := by
  have h1 := Int.mul_ediv_add_emod y (2 ^ b)
  have h2 := Int.mul_ediv_add_emod (y / 2 ^ b) (2 ^ s)
  have hb := two_pow_pos b
  have hs := two_pow_pos s
  have hr0 : 0 ≤ y % 2 ^ b := Int.emod_nonneg _ (by omega)
  have hr1 : y % 2 ^ b < 2 ^ b := Int.emod_lt_of_pos _ hb
  have hq0 : 0 ≤ y / 2 ^ b % 2 ^ s := Int.emod_nonneg _ (by omega)
  have hq1 : y / 2 ^ b % 2 ^ s < 2 ^ s := Int.emod_lt_of_pos _ hs
  rw [Int.pow_add]
  generalize (2 : Int) ^ b = P at *
  generalize (2 : Int) ^ s = S at *
  generalize y % P = r at *
  generalize y / P = q at *
  generalize q % S = r2 at *
  generalize q / S = q2 at *
  have h3 : P * q = P * S * q2 + P * r2 := by rw [← h2, Int.mul_add, Int.mul_assoc]
  have h4 : y = (r + P * r2) + P * S * q2 := by omega
  have h5 : 0 ≤ P * r2 := Int.mul_nonneg (by omega) hq0
  have h6 : P * r2 ≤ P * (S - 1) := Int.mul_le_mul_of_nonneg_left (by omega) (by omega)
  rw [Int.mul_sub, Int.mul_one] at h6
  rw [h4, Int.add_mul_emod_self_left]
  exact Int.emod_eq_of_lt (by omega) (by omega)

theorem join_fields (acc : Int) (place : Nat) (y : Int) (zs : List Int) (left : Int) (h : cw left zs = 0) :
    joinGo acc place (fieldsL y zs) zs = (acc + y % 2 ^ sumW zs * 2 ^ place, 0) := by
  induction zs generalizing acc place y left with
  | nil => simp [fieldsL, joinGo, sumW, Int.emod_one]
  | cons b r ih =>
    have h' := h
    unfold cw at h'
    split at h'
    · exact absurd h' (by decide)
    · have hlt : y % 2 ^ b.toNat < 2 ^ b.toNat := Int.emod_lt_of_pos _ (two_pow_pos _)
      rw [fieldsL, joinGo, if_neg (by omega), ih _ _ _ _ h', sumW, mod_split, Int.pow_add]
      congr 1
      rw [Int.add_mul, Int.add_assoc, Int.mul_assoc, Int.mul_comm (2 ^ b.toNat) (y / 2 ^ b.toNat % 2 ^ sumW r * 2 ^ place), Int.mul_assoc, Int.mul_comm (2 ^ place) (2 ^ b.toNat), ← Int.mul_assoc]

theorem fields_mod (x : Int) (zs : List Int) : fieldsL (x % 2 ^ sumW zs) zs = fieldsL x zs := by
  induction zs generalizing x with
  | nil => rfl
  | cons b r ih =>
    have hp : (2 : Int) ^ b.toNat ≠ 0 := by have := two_pow_pos b.toNat; omega
    have e1 : x % 2 ^ (b.toNat + sumW r) % 2 ^ b.toNat = x % 2 ^ b.toNat := by
      rw [mod_split, Int.add_mul_emod_self_left, Int.emod_emod]
    have e2 : x % 2 ^ (b.toNat + sumW r) / 2 ^ b.toNat = x / 2 ^ b.toNat % 2 ^ sumW r := by
      rw [mod_split, Int.add_mul_ediv_left _ _ hp, Int.ediv_eq_zero_of_lt (Int.emod_nonneg _ hp) (Int.emod_lt_of_pos _ (two_pow_pos _)), Int.zero_add]
    rw [fieldsL, fieldsL, sumW, e1, e2, ih]

theorem andNot_mod (x : Int) (m : Nat) (h0 : 0 ≤ x) (h1 : x ≤ 18446744073709551615) : bits .andNot .u64 (x % 2 ^ m) x = 0 := by
  have hm := mod_pow_le x m h0
  obtain ⟨n, rfl⟩ := Int.eq_ofNat_of_zero_le h0
  have hn : n < 2 ^ 64 := by omega
  have e : (BitVec.ofInt 64 ((n : Int) % 2 ^ m) &&& ~~~(BitVec.ofInt 64 (n : Int))) = 0#64 := by
    apply BitVec.eq_of_getLsbD_eq
    intro i hi
    have hb : ((n : Int) % 2 ^ m) = ((n % 2 ^ m : Nat) : Int) := by rw [pow_cast]; simp
    rw [hb, BitVec.ofInt_natCast, BitVec.ofInt_natCast, BitVec.getLsbD_and, BitVec.getLsbD_not, BitVec.getLsbD_ofNat, BitVec.getLsbD_ofNat, Nat.testBit_mod_two_pow, BitVec.getLsbD_zero]
    cases n.testBit i <;> simp
  show IntKind.u64.wrap ((BitVec.ofInt 64 ((n : Int) % 2 ^ m) &&& ~~~(BitVec.ofInt 64 (n : Int))).toNat : Int) = 0
  rw [e]
  rfl

theorem fieldsL_range (x : Int) (zs : List Int) (h0 : 0 ≤ x) (h1 : x ≤ 18446744073709551615) : ∀ z ∈ fieldsL x zs, 0 ≤ z ∧ z ≤ 18446744073709551615 := by
  induction zs generalizing x with
  | nil => intro z hz; cases hz
  | cons b r ih =>
    intro z hz
    rw [fieldsL] at hz
    rcases List.mem_cons.1 hz with rfl | hz
    · have := mod_pow_le x b.toNat h0
      omega
    · have hd := div_pow_le x b.toNat h0
      exact ih _ hd.1 (by omega) z hz

/-- All of it: a word's parts are joined to what parts they say, these are its parts again, and no bit is there that the word has not. -/
theorem back_word (x : Int) (zs : List Int) (hcw : cw 64 zs = 0) (h0 : 0 ≤ x) (h1 : x ≤ 18446744073709551615) :
    ∃ u, joinL (fldL x zs) zs = (u, 0) ∧ 0 ≤ u ∧ u ≤ 18446744073709551615 ∧ fldL u zs = fldL x zs ∧ bits .andNot .u64 u x = 0 ∧ (fldL x zs).length = zs.length ∧
      ∀ z ∈ fldL x zs, 0 ≤ z ∧ z ≤ 18446744073709551615 := by
  have hm := mod_pow_le x (sumW zs) h0
  have hf : fldL x zs = fieldsL x zs := by unfold fldL; rw [if_pos hcw]
  refine ⟨x % 2 ^ sumW zs, ?_, hm.1, by omega, ?_, andNot_mod x _ h0 h1, ?_, ?_⟩
  · unfold joinL
    rw [if_pos hcw, hf, if_pos (fieldsL_length x zs), join_fields 0 0 x zs 64 hcw]
    simp
  · rw [hf]
    unfold fldL
    rw [if_pos hcw, fields_mod]
  · rw [hf, fieldsL_length]
  · rw [hf]
    exact fieldsL_range x zs h0 h1

/-- A ref's word is read as the ref; two refs that have a word have one word only if they are one. -/
theorem back_ref (s g v : Int) (h : refS s g = (v, 0)) : 0 ≤ v ∧ v ≤ 18446744073709551615 ∧ refD v = (s, g, 0) := by
  unfold refS at h
  split at h
  · have := congrArg Prod.snd h
    simp at this
  · rename_i hc
    have hv : s + g * 8192 = v := congrArg Prod.fst h
    refine ⟨by omega, by omega, ?_⟩
    unfold refD
    rw [if_neg (by omega), show v % 8192 = s from by omega, show v / 8192 = g from by omega]

theorem refS_cases (s g : Int) : refS s g = (0, 6) ∨ ∃ v, refS s g = (v, 0) := by
  unfold refS
  split
  · exact .inl rfl
  · exact .inr ⟨_, rfl⟩

theorem refS_inj (s g s' g' v : Int) (h : refS s g = (v, 0)) (h' : refS s' g' = (v, 0)) : s = s' ∧ g = g' := by
  have a := (back_ref s g v h).2.2
  have b := (back_ref s' g' v h').2.2
  rw [a] at b
  exact ⟨congrArg Prod.fst b, congrArg (fun p : Int × Int × Int => p.2.1) b⟩

end Go.Proofs.Ytegnnhlbmfbioaa
