/- math/bits.TrailingZeros64 by contract, over the table that the library lays; and what a lowest bit is. -/
import Derived.Test.YtepngkhepcjdfaaDoorBitWords
import Derived.Shelf.Spec.TrailingZeros
namespace Go.Proofs.YtepngkhepcjdfaaDoor
open Go.RowKit

/-- The library's table stands in its variable. -/
def Tab (w : World) : Prop := TabAt 0 Lib.deBruijn64tab w ∧ 0 < w.heap.size
theorem Tab.below {w w' : World} (h : Tab w) (hb : Below w.heap.size w w') : Tab w' :=
  ⟨fun j hj => (hb.cell (p := ⟨0, j, none⟩) h.2).trans (h.1 j hj), Nat.lt_of_lt_of_le h.2 hb.size⟩

set_option maxHeartbeats 1000000 in
theorem tz_core (x k idx : Nat) (w : World) (hx0 : ((x : Int) == 0) = false)
    (key : IntKind.u64.wrap (bits BinOp.and IntKind.u64 (x : Int) (IntKind.u64.wrap (-(x : Int))) * 285870213051353865) / 288230376151711744 = (idx : Int))
    (hi : idx < 64) (hk : k < 64) (hcell : w.cell? ⟨0, idx, none⟩ = some (.int .u8 k)) :
    Calls Tryd.prog 44 #[.int .u64 x] w fun e w' => e = .returned (.int .i64 k) ∧ w = w' := by
  go_enter Tryd.func44, Tryd.ntmps44
  go_wp2_with (simp only [key])
  go_ret
  exact ⟨rfl, rfl⟩

theorem TrailingZeros64_any (x : Nat) (w : World) (hx : x < 18446744073709551616) (hx0 : x ≠ 0) (hT : Tab w) :
    Calls Tryd.prog 44 #[.int .u64 x] w fun e w' => e = .returned (.int .i64 (Lib.ctz 64 x)) ∧ w = w' := by
  obtain ⟨hlow, hk⟩ := Lib.lowest_bit 64 x hx0 hx
  obtain ⟨hi, htab⟩ := Lib.deBruijn64_at _ hk
  have hcell := hT.1 _ hi
  rw [htab] at hcell
  exact tz_core x _ _ w (by simp; omega) (tz64_key x _ hx hx0 hlow) hi hk hcell

/-- The lowest bit of a word, as numbers: where it stands, and what is above. -/
theorem ctz_spec (x : Nat) (hx : x < 18446744073709551616) (hx0 : x ≠ 0) : ∃ m, x = 2 ^ Lib.ctz 64 x * (2 * m + 1) ∧ Lib.ctz 64 x < 64 := by
  have h := Lib.ctzFrom_spec 64 x (by omega) (by omega)
  unfold Lib.ctz
  rw [if_neg hx0]
  exact h

/-- The lowest bit at or above place p: there is none between. -/
theorem lowest_from (x p c m : Nat) (h : x / 2 ^ p * 2 ^ p = 2 ^ c * (2 * m + 1)) : p ≤ c ∧ x / 2 ^ c % 2 = 1 ∧ x / 2 ^ (c + 1) = m ∧ ∀ j, p ≤ j → j < c → x / 2 ^ j % 2 = 0 := by
  have hpc : p ≤ c := by
    rcases Nat.lt_or_ge c p with hlt | hge
    · obtain ⟨d, rfl⟩ : ∃ d, p = c + (d + 1) := ⟨p - c - 1, by omega⟩
      have e : x / 2 ^ (c + (d + 1)) * 2 ^ (c + (d + 1)) = 2 ^ c * (2 * (x / 2 ^ (c + (d + 1)) * 2 ^ d)) := by
        rw [Nat.pow_add, Nat.pow_succ, Nat.mul_left_comm, Nat.mul_comm (2 ^ d) 2, Nat.mul_left_comm (x / _) 2]
      rw [e] at h
      have := Nat.eq_of_mul_eq_mul_left (Nat.two_pow_pos c) h
      omega
    · exact hge
  obtain ⟨d, rfl⟩ : ∃ d, c = p + d := ⟨c - p, by omega⟩
  have hq : x / 2 ^ p = 2 ^ d * (2 * m + 1) := by
    rw [Nat.pow_add, Nat.mul_comm (x / 2 ^ p), Nat.mul_assoc] at h
    exact Nat.eq_of_mul_eq_mul_left (Nat.two_pow_pos p) h
  have hdiv : ∀ j, x / 2 ^ (p + j) = 2 ^ d * (2 * m + 1) / 2 ^ j := fun j => by rw [Nat.pow_add, ← Nat.div_div_eq_div_mul, hq]
  refine ⟨hpc, ?_, ?_, ?_⟩
  · rw [hdiv d, Nat.mul_div_cancel_left _ (Nat.two_pow_pos d)]; omega
  · rw [Nat.add_assoc, hdiv (d + 1), Nat.pow_succ, ← Nat.div_div_eq_div_mul, Nat.mul_div_cancel_left _ (Nat.two_pow_pos d)]; omega
  · intro j h1 h2
    obtain ⟨i, rfl⟩ : ∃ i, j = p + i := ⟨j - p, by omega⟩
    obtain ⟨r, rfl⟩ : ∃ r, d = i + (r + 1) := ⟨d - i - 1, by omega⟩
    rw [hdiv i, Nat.pow_add, Nat.mul_assoc, Nat.mul_div_cancel_left _ (Nat.two_pow_pos i), Nat.pow_succ, Nat.mul_comm (2 ^ r) 2, Nat.mul_assoc]
    exact Nat.mul_mod_right 2 _

/-- To take the lowest bit away. -/
theorem clear_lowest (c m : Nat) : (2 ^ c * (2 * m + 1)) &&& (2 ^ c * (2 * m + 1) - 1) = m * 2 ^ (c + 1) := by
  have hp := Nat.two_pow_pos c
  have e1 : 2 ^ c * (2 * m + 1) = 2 ^ (c + 1) * m + 2 ^ c := by rw [Nat.mul_add, Nat.mul_one, Nat.pow_succ, Nat.mul_assoc]
  have e2 : 2 ^ (c + 1) * m + 2 ^ c - 1 = 2 ^ (c + 1) * m + (2 ^ c - 1) := by omega
  have e3 : 2 ^ (c + 1) * m + 2 ^ c = 2 ^ (c + 1) * m ||| 2 ^ c := Nat.two_pow_add_eq_or_of_lt (by rw [Nat.pow_succ]; omega) m
  have e4 : 2 ^ (c + 1) * m + (2 ^ c - 1) = 2 ^ (c + 1) * m ||| (2 ^ c - 1) := Nat.two_pow_add_eq_or_of_lt (by rw [Nat.pow_succ]; omega) m
  rw [e1, e2, e3, e4, ← Nat.or_and_distrib_left, Nat.and_two_pow_sub_one_eq_mod, Nat.mod_self, Nat.or_zero, Nat.mul_comm]

set_option maxHeartbeats 400000 in
theorem numberOf_any (i : Int) (x : Nat) (w : World) (hi0 : 0 ≤ i) (hi1 : i ≤ 64) (hx : x < 18446744073709551616) (hx0 : x ≠ 0) (hT : Tab w) :
    Calls Tryd.prog 34 #[.int .i64 i, .int .u64 x] w fun e w' => e = .returned (.int .i64 (i * 64 + Lib.ctz 64 x)) ∧ w = w' := by
  have hc : Lib.ctz 64 x < 64 := by
    obtain ⟨_, _, h⟩ := ctz_spec x hx hx0
    exact h
  have hz := Lib.hid (TrailingZeros64_any x w hx hx0 hT)
  clear hx hx0 hT
  generalize Lib.ctz 64 x = c at *
  go_enter Tryd.func34, Tryd.ntmps34
  go_wp2_with fail
  refine hz.out.mono ?_
  rintro e w' ⟨rfl, rfl⟩
  go_wp2
  go_ret
  exact ⟨rfl, rfl⟩

end Go.Proofs.YtepngkhepcjdfaaDoor
