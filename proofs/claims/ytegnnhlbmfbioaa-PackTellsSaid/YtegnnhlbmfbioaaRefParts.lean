/- The contracts of the document's own answers for pack, third part: widths, the parts of a word, the word of parts. -/
import Derived.Test.YtegnnhlbmfbioaaBackPlain
namespace Go.Proofs.Ytegnnhlbmfbioaa
open Go.RowKit

set_option maxHeartbeats 1000000 in
theorem widths_yes (A : Option Addr) (zs : List Int) (c : Nat) (w : World) (hA : Rd (Value.int .i64) w w.heap.size A zs) (hl : zs.length ≤ 9223372036854775807) (hcw : cw 64 zs = 0) :
    Calls Try.prog 36 #[.slice A zs.length c] w fun e w' => e = .returned (.bool true) ∧ w = w' := by
  have HC := Lib.hid hcw
  clear hcw
  go_enter Try.func36, Try.ntmps36
  go_wp2
  go_loop [3, 8] (fun av i => ∃ (k : Nat) (a : Int), k ≤ zs.length ∧ 0 ≤ a ∧ a ≤ 64 ∧ i = .int .i64 k ∧ av = .int .i64 a ∧ Hid (cw (64 - a) (zs.drop k) = 0))
    (fun _ i => zs.length - (intOf i).toNat)
  case atStart => exact ⟨0, 0, Nat.zero_le _, by omega, by omega, rfl, rfl, HC.out⟩
  case round =>
    obtain ⟨k, a, hk, ha0, ha1, rfl, rfl, HS⟩ := hrel
    by_cases hlt : k < zs.length
    · obtain ⟨b, off, rfl, hb, hc⟩ := hA.at_ hlt
      have hs := cw_step (64 - a) zs k hlt
      rw [HS.out] at hs
      generalize zs[k] = z at hc hs
      have hz : 1 ≤ z ∧ z ≤ 64 - a ∧ cw (64 - (a + z)) (zs.drop (k + 1)) = 0 := by
        split at hs
        · exact absurd hs (by decide)
        · exact ⟨by omega, by omega, by rw [show 64 - (a + z) = 64 - a - z from by omega]; exact hs.symm⟩
      clear hs
      obtain ⟨hz0, hz1, hn0⟩ := hz
      have HN := Lib.hid hn0
      clear hn0
      go_wp2
      go_round
      case rel => exact ⟨k + 1, a + z, by omega, by omega, by omega, by go_num, rfl, HN.out⟩
      case measure => simp [intOf]; omega
    · go_wp2
      go_ret
      exact ⟨by first | rfl | exact ret_bool (decide_eq_true ha1), rfl⟩

set_option maxHeartbeats 1000000 in
theorem widths_no (A : Option Addr) (zs : List Int) (c : Nat) (w : World) (hA : Rd (Value.int .i64) w w.heap.size A zs) (hl : zs.length ≤ 9223372036854775807) (hcw : cw 64 zs = 6) :
    Calls Try.prog 36 #[.slice A zs.length c] w fun e w' => e = .returned (.bool false) ∧ w = w' := by
  have HC := Lib.hid hcw
  clear hcw
  go_enter Try.func36, Try.ntmps36
  go_wp2
  go_loop [3, 8] (fun av i => ∃ (k : Nat) (a : Int), k ≤ zs.length ∧ 0 ≤ a ∧ a ≤ 128 ∧ i = .int .i64 k ∧ av = .int .i64 a ∧ Hid (a ≤ 64 → cw (64 - a) (zs.drop k) = 6))
    (fun _ i => zs.length - (intOf i).toNat)
  case atStart => exact ⟨0, 0, Nat.zero_le _, by omega, by omega, rfl, rfl, fun _ => HC.out⟩
  case round =>
    obtain ⟨k, a, hk, ha0, ha1, rfl, rfl, HS⟩ := hrel
    by_cases hlt : k < zs.length
    · obtain ⟨b, off, rfl, hb, hc⟩ := hA.at_ hlt
      have hs := Lib.hid (cw_step (64 - a) zs k hlt)
      generalize zs[k] = z at hc hs
      by_cases hz0 : z < 1
      · go_wp2
        go_ret
        exact ⟨rfl, rfl⟩
      · have hz0' : 1 ≤ z := by omega
        clear hz0
        by_cases hz1 : 64 < z
        · go_wp2
          go_ret
          exact ⟨rfl, rfl⟩
        · have hz1' : z ≤ 64 := by omega
          clear hz1
          by_cases ha2 : 64 < a
          · go_wp2
            go_ret
            exact ⟨rfl, rfl⟩
          · have ha2' : a ≤ 64 := by omega
            clear ha2
            go_wp2
            go_round
            case rel =>
              refine ⟨k + 1, a + z, by omega, by omega, by omega, by go_num, rfl, fun h => ?_⟩
              have e := HS.out ha2'
              rw [hs.out] at e
              split at e
              · omega
              · rw [show 64 - (a + z) = 64 - a - z from by omega]
                exact e
            case measure => simp [intOf]; omega
    · have ha2 : 64 < a := by
        rcases Int.lt_or_le 64 a with h | h
        · exact h
        · have e := HS.out h
          rw [List.drop_eq_nil_of_le (by omega)] at e
          exact absurd (show (0 : Int) = 6 from e) (by decide)
      go_wp2
      go_ret
      exact ⟨by first | rfl | exact ret_bool (decide_eq_false (by omega)), rfl⟩

/-- One bit more, from below. -/
theorem part_step (x : Int) (F j N : Nat) (hj : j + 1 ≤ N) : x / 2 ^ (F + (j + 1)) % 2 ^ (N - (j + 1)) * 2 + x / 2 ^ (F + j) % 2 = x / 2 ^ (F + j) % 2 ^ (N - j) := by
  have h1 : x / 2 ^ (F + (j + 1)) = x / 2 ^ (F + j) / 2 := by
    rw [show F + (j + 1) = F + j + 1 from rfl, Int.pow_succ, Int.ediv_ediv_of_nonneg (Int.le_of_lt (two_pow_pos _))]
  have h2 := mod_split (x / 2 ^ (F + j)) 1 (N - (j + 1))
  rw [show 1 + (N - (j + 1)) = N - j from by omega] at h2
  rw [h1, h2, Int.pow_one]
  omega

set_option maxHeartbeats 1000000 in
theorem part_any (x s n : Int) (w : World) (h0 : 0 ≤ x) (h1 : x ≤ 18446744073709551615) (hs0 : 0 ≤ s) (hn0 : 0 ≤ n) (hsn : s + n ≤ 64) :
    Calls Try.prog 37 #[.int .u64 x, .int .i64 s, .int .i64 n] w fun e w' => e = .returned (.int .u64 (x / 2 ^ s.toNat % 2 ^ n.toNat)) ∧ w = w' := by
  go_enter Try.func37, Try.ntmps37
  go_wp2
  go_loop [7, 8] (fun ov i => ∃ (j : Nat) (o : Int), (j : Int) ≤ n ∧ i = .int .i64 ((j : Int) - 1) ∧ ov = .int .u64 o ∧ 0 ≤ o ∧ o ≤ 18446744073709551615 ∧ Hid (o = x / 2 ^ (s.toNat + j) % 2 ^ (n.toNat - j)))
    (fun _ i => (intOf i + 1).toNat)
  case atStart => exact ⟨n.toNat, 0, by omega, by rw [show ((n.toNat : Nat) : Int) = n from by omega], rfl, by omega, by omega, by rw [Hid, Nat.sub_self, Int.pow_zero, Int.emod_one]⟩
  case round =>
    obtain ⟨j, o, hj, rfl, rfl, ho0, ho1, HS⟩ := hrel
    by_cases hlt : 0 < j
    · obtain ⟨i, rfl⟩ : ∃ i, j = i + 1 := ⟨j - 1, by omega⟩
      have hst := part_step x s.toNat i n.toNat (by omega)
      rw [← HS.out] at hst
      have hlast := mod_pow_le (x / 2 ^ (s.toNat + i)) (n.toNat - i) (div_pow_le x _ h0).1
      have hle := div_pow_le x (s.toNat + i) h0
      have hbit := bits_and_one (x / 2 ^ (s.toNat + i)) hle.1 (by omega)
      have e1 : ((i + 1 : Nat) : Int) - 1 = (i : Int) := by omega
      rw [e1]
      have hp64 : (2 : Int) ^ (n.toNat - i) ≤ 2 ^ 64 := two_pow_le (by omega)
      rw [p64] at hp64
      have HE := Lib.hid (show IntKind.u64.wrap (IntKind.u64.wrap (2 * o) + bits BinOp.and IntKind.u64 (x / 2 ^ (s + (i : Int)).toNat) 1) = x / 2 ^ (s.toNat + i) % 2 ^ (n.toNat - i) from by
        rw [show (s + (i : Int)).toNat = s.toNat + i from by omega, hbit, IntKind.wrap_u64, IntKind.wrap_u64, ← hst]
        have := hlast
        omega)
      have hr : 0 ≤ x / 2 ^ (s.toNat + i) % 2 ^ (n.toNat - i) ∧ x / 2 ^ (s.toNat + i) % 2 ^ (n.toNat - i) ≤ 18446744073709551615 := by omega
      have HR := Lib.hid hr
      clear hst hlast hbit hp64 hr hle
      go_wp2
      go_round
      case rel => exact ⟨i, _, by omega, rfl, by rw [HE.out], HR.out.1, HR.out.2, rfl⟩
      case measure => simp [intOf]
    · obtain rfl : j = 0 := by omega
      go_wp2
      go_ret
      exact ⟨ret_int HS.out, rfl⟩

end Go.Proofs.Ytegnnhlbmfbioaa
