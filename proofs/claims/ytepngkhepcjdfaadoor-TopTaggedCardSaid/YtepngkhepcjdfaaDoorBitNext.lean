/- bitset.Next by contract: the least number of the set that is n or more, if there is one. -/
import Derived.Test.YtepngkhepcjdfaaDoorBitNums
namespace Go.Proofs.YtepngkhepcjdfaaDoor
open Go.RowKit

/-- What Next answers: the least number from n on, or none. -/
def NextOut (zs : List Int) (n : Int) (w : World) (e : Ending) (w' : World) : Prop :=
  w = w' ∧ ((∃ m : Int, e = .returned (.tuple #[.int .i64 m, .bool true]) ∧ hasB zs m = true ∧ n ≤ m ∧ ∀ j, n ≤ j → j < m → hasB zs j = false) ∨
    (e = .returned (.tuple #[.int .i64 0, .bool false]) ∧ ∀ j, n ≤ j → hasB zs j = false))

/-- A word of which only bits from p on are left, at place i: its lowest bit tells the least number; no bit: there is none in this word. -/
theorem word_lowest (zs : List Int) (i p X : Nat) (hi : i < 64) (hX : zs.getD i 0 = (X : Int)) (hx : X < 18446744073709551616) (hne : X / 2 ^ p * 2 ^ p ≠ 0) :
    hasB zs ((i : Int) * 64 + (Lib.ctz 64 (X / 2 ^ p * 2 ^ p) : Nat)) = true ∧ p ≤ Lib.ctz 64 (X / 2 ^ p * 2 ^ p) ∧ Lib.ctz 64 (X / 2 ^ p * 2 ^ p) < 64 ∧
      (∀ j : Int, (i : Int) * 64 + p ≤ j → j < (i : Int) * 64 + (Lib.ctz 64 (X / 2 ^ p * 2 ^ p) : Nat) → hasB zs j = false) ∧
      (X / 2 ^ p * 2 ^ p) &&& (X / 2 ^ p * 2 ^ p - 1) = X / 2 ^ (Lib.ctz 64 (X / 2 ^ p * 2 ^ p) + 1) * 2 ^ (Lib.ctz 64 (X / 2 ^ p * 2 ^ p) + 1) := by
  have hlt : X / 2 ^ p * 2 ^ p < 18446744073709551616 := Nat.lt_of_le_of_lt (Nat.div_mul_le_self _ _) hx
  obtain ⟨m, hm, hc⟩ := ctz_spec (X / 2 ^ p * 2 ^ p) hlt hne
  generalize Lib.ctz 64 (X / 2 ^ p * 2 ^ p) = c at *
  obtain ⟨h1, h2, h3, h4⟩ := lowest_from X p c m hm
  refine ⟨?_, h1, hc, ?_, ?_⟩
  · rw [has_at zs i c X hi hc hX, decide_eq_true h2]
  · intro j hj1 hj2
    obtain ⟨d, rfl⟩ : ∃ d : Nat, j = (i : Int) * 64 + (d : Int) := ⟨(j - (i : Int) * 64).toNat, by omega⟩
    rw [has_at zs i d X hi (by omega) hX, decide_eq_false (by rw [h4 d (by omega) (by omega)]; decide)]
  · rw [hm, h3, clear_lowest]

theorem word_none (zs : List Int) (i p X : Nat) (hi : i < 64) (hX : zs.getD i 0 = (X : Int)) (h0 : X / 2 ^ p * 2 ^ p = 0) : ∀ j : Int, (i : Int) * 64 + p ≤ j → j < (i : Int) * 64 + 64 → hasB zs j = false := by
  intro j hj1 hj2
  obtain ⟨d, rfl⟩ : ∃ d : Nat, j = (i : Int) * 64 + (d : Int) := ⟨(j - (i : Int) * 64).toNat, by omega⟩
  have hz : X / 2 ^ p = 0 := by
    rcases Nat.mul_eq_zero.1 h0 with h | h
    · exact h
    · exact absurd h (Nat.ne_of_gt (Nat.two_pow_pos p))
  obtain ⟨r, rfl⟩ : ∃ r, d = p + r := ⟨d - p, by omega⟩
  rw [has_at zs i (p + r) X hi (by omega) hX, Nat.pow_add, ← Nat.div_div_eq_div_mul, hz, Nat.zero_div]
  rfl

theorem getD_take (zs : List Int) (i : Nat) (hi : i < 64) : (zs.take 64).getD i 0 = zs.getD i 0 := by
  rw [List.getD_eq_getElem?_getD, List.getD_eq_getElem?_getD, List.getElem?_take, if_pos hi]

theorem mask_int (X k : Nat) (hx : X < 18446744073709551616) : IntKind.u64.wrap ((X : Int) / 2 ^ k * 2 ^ k) = ((X / 2 ^ k * 2 ^ k : Nat) : Int) := by
  have hle := Nat.div_mul_le_self X (2 ^ k)
  rw [pow_cast, ← Int.natCast_ediv, ← Int.natCast_mul, IntKind.wrap_u64]
  generalize X / 2 ^ k * 2 ^ k = q at *
  omega

set_option maxHeartbeats 1000000 in
theorem Next_pos (A : Option Addr) (zs : List Int) (c : Nat) (n : Int) (w : World) (hA : Rd (Value.int .u64) w w.heap.size A zs) (hw : Words zs) (hc : zs.length ≤ c) (hc2 : c ≤ 9223372036854775807) (hT : Tab w) (h0 : 0 ≤ n) (h1 : n ≤ 9223372036854775807) :
    Calls Tryd.prog 21 #[.slice A zs.length c, .int .i64 n] w (NextOut zs n w) := by
  have hA' := hA.take (n := 64)
  have hl : (zs.take 64).length ≤ 64 := List.length_take_le _ _
  have hpast := Lib.hid (has_past zs)
  have hget := Lib.hid (getD_take zs)
  have HW := Lib.hid hw
  have HT := Lib.hid hT
  have hsp := Lib.hid (spoken_any A zs c w hc hc2)
  clear hA hw hc hc2 hT
  generalize zs.take 64 = ys at *
  go_enter Tryd.func21, Tryd.ntmps21
  go_wp2_with fail
  refine hsp.out.mono ?_
  rintro e w1 ⟨rfl, rfl⟩
  clear hsp
  go_wp2
  go_loop [7] (fun iv => ∃ i : Int, n / 64 ≤ i ∧ i ≤ max (n / 64) 64 ∧ iv = .int .i64 i ∧ Hid (∀ j, n ≤ j → j < i * 64 → hasB zs j = false)) (fun iv => (65 - intOf iv).toNat)
  case atStart => exact ⟨n / 64, by omega, by omega, rfl, fun j h1 h2 => by omega⟩
  case round =>
    obtain ⟨i, hi0, hi2, rfl, HN⟩ := hrel
    by_cases hlt : i < (ys.length : Int)
    · obtain ⟨I, rfl⟩ := Int.eq_ofNat_of_zero_le (show 0 ≤ i by omega)
      have hI : I < ys.length := by omega
      obtain ⟨b, off, rfl, hb, hcell⟩ := hA'.at_ hI
      have hX : zs.getD I 0 = ys[I] := by rw [← hget.out I (by omega), List.getD_eq_getElem?_getD, List.getElem?_eq_getElem hI]; rfl
      have hr := HW.out.getD I
      rw [hX] at hr
      obtain ⟨X, hXn⟩ := Int.eq_ofNat_of_zero_le hr.1
      rw [hXn] at hcell hX hr
      have hxl : X < 18446744073709551616 := by omega
      clear hXn
      by_cases hfrom : (I : Int) = n / 64
      · have hbe : ((I : Int) == n / 64) = true := by rw [beq_iff_eq]; exact hfrom
        have hf1 : (I : Int) * 64 + (n % 64).toNat ≤ n := by omega
        have hf2 : n ≤ (I : Int) * 64 + (n % 64).toNat := by omega
        clear hfrom
        have hmask := mask_int X (n % 64).toNat hxl
        by_cases hz : X / 2 ^ (n % 64).toNat * 2 ^ (n % 64).toNat = 0
        · have hno := Lib.hid (word_none zs I (n % 64).toNat X (by omega) hX hz)
          have hm0 : IntKind.u64.wrap ((X : Int) / 2 ^ (n % 64).toNat * 2 ^ (n % 64).toNat) = 0 := hmask.trans (by rw [hz]; rfl)
          clear hX hz hr hxl hmask
          go_wp2
          go_round
          case rel =>
            refine ⟨(I : Int) + 1, by omega, by omega, rfl, fun j h1 h2 => ?_⟩
            exact hno.out j (by omega) (by omega)
          case measure => simp [intOf]; omega
        · obtain ⟨w1, w2, w3, w4, _⟩ := word_lowest zs I (n % 64).toNat X (by omega) hX hxl hz
          have hq : X / 2 ^ (n % 64).toNat * 2 ^ (n % 64).toNat < 18446744073709551616 := Nat.lt_of_le_of_lt (Nat.div_mul_le_self _ _) hxl
          generalize X / 2 ^ (n % 64).toNat * 2 ^ (n % 64).toNat = q at *
          have hqi : ((q : Int) != 0) = true := by rw [bne_iff_ne]; omega
          have hnum := Lib.hid (numberOf_any (I : Int) q w (by omega) (by omega) hq hz HT.out)
          have H1 := Lib.hid w1
          have H4 := Lib.hid w4
          clear hX hz hr hxl w1 w4 hq
          generalize Lib.ctz 64 q = c at *
          go_wp2_with fail
          refine hnum.out.mono ?_
          rintro e w1 ⟨rfl, rfl⟩
          clear hnum
          go_wp2
          go_ret2
          exact ⟨rfl, .inl ⟨(I : Int) * 64 + c, rfl, H1.out, by omega, fun j h1 h2 => H4.out j (by omega) h2⟩⟩
      · have hbe : ((I : Int) == n / 64) = false := by rw [beq_eq_false_iff_ne]; exact hfrom
        have hp0 : X / 2 ^ 0 * 2 ^ 0 = X := by simp
        by_cases hz : X = 0
        · have hno := Lib.hid (word_none zs I 0 X (by omega) hX (by rw [hp0]; exact hz))
          subst hz
          clear hX hr hxl hp0
          go_wp2
          go_round
          case rel =>
            refine ⟨(I : Int) + 1, by omega, by omega, rfl, fun j h1 h2 => ?_⟩
            rcases Int.lt_or_le j ((I : Int) * 64) with h3 | h3
            · exact HN.out j h1 h3
            · exact hno.out j (by omega) (by omega)
          case measure => simp [intOf]; omega
        · have hwl := word_lowest zs I 0 X (by omega) hX hxl (by rw [hp0]; exact hz)
          rw [hp0] at hwl
          obtain ⟨w1, w2, w3, w4, _⟩ := hwl
          have hqi : ((X : Int) != 0) = true := by rw [bne_iff_ne]; omega
          have hnum := Lib.hid (numberOf_any (I : Int) X w (by omega) (by omega) hxl hz HT.out)
          have H1 := Lib.hid w1
          have H4 := Lib.hid w4
          clear hX hz hr hxl w1 w4 hp0
          generalize Lib.ctz 64 X = c at *
          go_wp2_with fail
          refine hnum.out.mono ?_
          rintro e w1 ⟨rfl, rfl⟩
          clear hnum
          go_wp2
          go_ret2
          refine ⟨rfl, .inl ⟨(I : Int) * 64 + c, rfl, H1.out, by omega, fun j h1 h2 => ?_⟩⟩
          rcases Int.lt_or_le j ((I : Int) * 64) with h3 | h3
          · exact HN.out j h1 h3
          · exact H4.out j (by omega) h2
    · have hge : (ys.length : Int) ≤ i := by omega
      go_wp2
      go_ret2
      refine ⟨rfl, .inr ⟨rfl, fun j h1 => ?_⟩⟩
      rcases Int.lt_or_le j (i * 64) with h3 | h3
      · exact HN.out j h1 h3
      · exact hpast.out j (by omega)

set_option maxHeartbeats 1000000 in
theorem Next_neg (A : Option Addr) (zs : List Int) (c : Nat) (n : Int) (w : World) (hA : Rd (Value.int .u64) w w.heap.size A zs) (hw : Words zs) (hc : zs.length ≤ c) (hc2 : c ≤ 9223372036854775807) (hT : Tab w) (h0 : n < 0) :
    Calls Tryd.prog 21 #[.slice A zs.length c, .int .i64 n] w (NextOut zs n w) := by
  have hA' := hA.take (n := 64)
  have hl : (zs.take 64).length ≤ 64 := List.length_take_le _ _
  have hpast := Lib.hid (has_past zs)
  have hget := Lib.hid (getD_take zs)
  have HW := Lib.hid hw
  have HT := Lib.hid hT
  have hsp := Lib.hid (spoken_any A zs c w hc hc2)
  clear hA hw hc hc2 hT
  generalize zs.take 64 = ys at *
  go_enter Tryd.func21, Tryd.ntmps21
  go_wp2_with fail
  refine hsp.out.mono ?_
  rintro e w1 ⟨rfl, rfl⟩
  clear hsp
  go_wp2
  go_loop [7] (fun iv => ∃ i : Int, 0 ≤ i ∧ i ≤ 64 ∧ iv = .int .i64 i ∧ Hid (∀ j, n ≤ j → j < i * 64 → hasB zs j = false)) (fun iv => (65 - intOf iv).toNat)
  case atStart => exact ⟨0, by omega, by omega, rfl, fun j h1 h2 => by
    rcases hj : hasB zs j with _ | _
    · rfl
    · have := has_range hj; omega⟩
  case round =>
    obtain ⟨i, hi0, hi2, rfl, HN⟩ := hrel
    by_cases hlt : i < (ys.length : Int)
    · obtain ⟨I, rfl⟩ := Int.eq_ofNat_of_zero_le hi0
      have hI : I < ys.length := by omega
      obtain ⟨b, off, rfl, hb, hcell⟩ := hA'.at_ hI
      have hX : zs.getD I 0 = ys[I] := by rw [← hget.out I (by omega), List.getD_eq_getElem?_getD, List.getElem?_eq_getElem hI]; rfl
      have hr := HW.out.getD I
      rw [hX] at hr
      obtain ⟨X, hXn⟩ := Int.eq_ofNat_of_zero_le hr.1
      rw [hXn] at hcell hX hr
      have hxl : X < 18446744073709551616 := by omega
      clear hXn
      have hwx : IntKind.u64.wrap (X : Int) = (X : Int) := by rw [IntKind.wrap_u64]; omega
      have hp0 : X / 2 ^ 0 * 2 ^ 0 = X := by simp
      have hcases : ((I : Int) == 0) = true ∨ ((I : Int) == 0) = false := by cases ((I : Int) == 0) <;> simp
      by_cases hz : X = 0
      · have hno := Lib.hid (word_none zs I 0 X (by omega) hX (by rw [hp0]; exact hz))
        subst hz
        clear hX hr hxl hp0
        rcases hcases with hbe | hbe
        all_goals
          go_wp2
          go_round
          case rel =>
            refine ⟨(I : Int) + 1, by omega, by omega, rfl, fun j h1 h2 => ?_⟩
            rcases Int.lt_or_le j ((I : Int) * 64) with h3 | h3
            · exact HN.out j h1 h3
            · exact hno.out j (by omega) (by omega)
          case measure => simp [intOf]; omega
      · have hwl := word_lowest zs I 0 X (by omega) hX hxl (by rw [hp0]; exact hz)
        rw [hp0] at hwl
        obtain ⟨w1, w2, w3, w4, _⟩ := hwl
        have hqi : ((X : Int) != 0) = true := by rw [bne_iff_ne]; omega
        have hnum := Lib.hid (numberOf_any (I : Int) X w (by omega) (by omega) hxl hz HT.out)
        have H1 := Lib.hid w1
        have H4 := Lib.hid w4
        clear hX hz hr hxl w1 w4 hp0
        generalize Lib.ctz 64 X = c at *
        rcases hcases with hbe | hbe
        all_goals
          go_wp2_with fail
          refine hnum.out.mono ?_
          rintro e w1 ⟨rfl, rfl⟩
          clear hnum
          go_wp2
          go_ret2
          refine ⟨rfl, .inl ⟨(I : Int) * 64 + c, rfl, H1.out, by omega, fun j h1 h2 => ?_⟩⟩
          rcases Int.lt_or_le j ((I : Int) * 64) with h3 | h3
          · exact HN.out j h1 h3
          · exact H4.out j (by omega) h2
    · have hge : (ys.length : Int) ≤ i := by omega
      go_wp2
      go_ret2
      refine ⟨rfl, .inr ⟨rfl, fun j h1 => ?_⟩⟩
      rcases Int.lt_or_le j (i * 64) with h3 | h3
      · exact HN.out j h1 h3
      · exact hpast.out j (by omega)

theorem Next_any (A : Option Addr) (zs : List Int) (c : Nat) (n : Int) (w : World) (hA : Rd (Value.int .u64) w w.heap.size A zs) (hw : Words zs) (hc : zs.length ≤ c) (hc2 : c ≤ 9223372036854775807) (hT : Tab w) (h1 : n ≤ 9223372036854775807) :
    Calls Tryd.prog 21 #[.slice A zs.length c, .int .i64 n] w (NextOut zs n w) := by
  rcases Int.lt_or_le n 0 with h | h
  · exact Next_neg A zs c n w hA hw hc hc2 hT h
  · exact Next_pos A zs c n w hA hw hc hc2 hT h h1

end Go.Proofs.YtepngkhepcjdfaaDoor
