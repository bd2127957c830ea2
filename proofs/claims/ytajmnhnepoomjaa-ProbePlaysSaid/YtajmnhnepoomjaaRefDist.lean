/- The document's own squared distance, by contract. -/
import Derived.Test.YtajmnhnepoomjaaVecDist
namespace Go.Proofs.Ytajmnhnepoomjaa
open Go.RowKit Go.Shelf

set_option maxHeartbeats 400000 in
theorem refAt_any (A : Option Addr) (zs : List Int) (c B k : Nat) (w : World) (hA : Rd (Value.int .i32) w B A zs) (hk : k ≤ 9223372036854775807) (hz : Hid (∀ z ∈ zs, -2147483648 ≤ z ∧ z ≤ 2147483647)) :
    Calls Try.prog 121 #[.slice A zs.length c, .int .i64 k] w fun e w' => e = .returned (.int .i64 (cpt zs k)) ∧ w = w' := by
  by_cases hlt : k < zs.length
  · obtain ⟨b, off, rfl, hb, hc⟩ := hA k _ (cpt_lt hlt)
    have h3 := hz.out _ (cpt_mem hlt)
    generalize cpt zs k = z at *
    have hkl : (k : Int) < (zs.length : Int) := by omega
    have hk0 : (0 : Int) ≤ (k : Int) := by omega
    go_enter Try.func121, Try.ntmps121
    go_wp2
    go_ret
    exact ⟨rfl, rfl⟩
  · rw [cpt_ge (by omega)]
    have hkl : (zs.length : Int) ≤ (k : Int) := by omega
    go_enter Try.func121, Try.ntmps121
    go_wp2
    go_ret
    exact ⟨rfl, rfl⟩

/-- The sum so far, held at the greatest number. -/
theorem sat_step (xs ys : List Int) (k n : Nat) (h : k + 1 ≤ n) (hb : 18446744073709551616 ≤ distN xs ys k + sqZ (cpt xs k) (cpt ys k)) : satN (distN xs ys n) = 18446744073709551615 :=
  sat_big (k := distN xs ys (k + 1)) (distN_mono xs ys h) hb

/-- How the square of a difference is reckoned. -/
theorem sq_ways (a b : Int) (ha : -2147483648 ≤ a ∧ a ≤ 2147483647) (hb : -2147483648 ≤ b ∧ b ≤ 2147483647) :
    (a < b ∧ IntKind.i64.wrap (b - a) = b - a ∧ IntKind.u64.wrap (b - a) = b - a ∧ 0 ≤ b - a ∧ IntKind.u64.wrap ((b - a) * (b - a)) = (sqZ a b : Int)) ∨
    (b < a ∧ IntKind.i64.wrap (a - b) = a - b ∧ IntKind.u64.wrap (a - b) = a - b ∧ 0 ≤ a - b ∧ IntKind.u64.wrap ((a - b) * (a - b)) = (sqZ a b : Int)) ∨ (a = b ∧ sqZ a b = 0) := by
  have hr := sq_room ha hb
  have e := sqZ_int a b
  rcases Int.lt_trichotomy a b with h | h | h
  · refine .inl ⟨h, IntWalk.i64_in _ (by omega), by simp only [IntKind.wrap_u64]; omega, by omega, ?_⟩
    rw [show (b - a) * (b - a) = (a - b) * (a - b) from by rw [← Int.neg_sub a b]; exact Int.neg_mul_neg _ _, ← e]
    simp only [IntKind.wrap_u64]
    omega
  · exact .inr (.inr ⟨h, by rw [h]; exact sqZ_self b⟩)
  · refine .inr (.inl ⟨h, IntWalk.i64_in _ (by omega), by simp only [IntKind.wrap_u64]; omega, by omega, ?_⟩)
    rw [← e]
    simp only [IntKind.wrap_u64]
    omega

theorem wrap_small (s : Nat) (h : s < 18446744073709551616) : IntKind.u64.wrap (s : Int) = (s : Int) := by
  simp only [IntKind.wrap_u64]
  omega
/-- A sum of two numbers of 64 bits goes past them, or not. -/
theorem sum_ways (s q : Nat) (hs : s < 18446744073709551616) (hq : q < 18446744073709551616) :
    (∃ u : Nat, Hid (s + q = u) ∧ Hid (s + q < 18446744073709551616) ∧ IntKind.u64.wrap ((s : Int) + (q : Int)) = (u : Int) ∧ ¬ (u : Int) < (s : Int)) ∨
    (∃ u : Nat, Hid (18446744073709551616 ≤ s + q) ∧ IntKind.u64.wrap ((s : Int) + (q : Int)) = (u : Int) ∧ (u : Int) < (s : Int)) := by
  rcases Nat.lt_or_ge (s + q) 18446744073709551616 with h | h
  · exact .inl ⟨s + q, rfl, h, by simp only [IntKind.wrap_u64]; omega, by omega⟩
  · exact .inr ⟨s + q - 18446744073709551616, h, by simp only [IntKind.wrap_u64]; omega, by omega⟩

set_option maxRecDepth 100000 in
set_option maxHeartbeats 2000000 in
theorem refDist_any (A B : Option Addr) (xs ys : List Int) (ca cb : Nat) (w : World) {Bk : Nat} (hA : Rd (Value.int .i32) w Bk A xs) (hB : Rd (Value.int .i32) w Bk B ys) (hx : xs.length ≤ 9223372036854775807) (hy : ys.length ≤ 9223372036854775807)
    (hxs : Hid (∀ z ∈ xs, -2147483648 ≤ z ∧ z ≤ 2147483647)) (hys : Hid (∀ z ∈ ys, -2147483648 ≤ z ∧ z ≤ 2147483647)) :
    Calls Try.prog 78 #[.slice A xs.length ca, .slice B ys.length cb] w fun e w' => e = .returned (.int .u64 (satN (distN xs ys (max xs.length ys.length)))) ∧ w = w' := by
  obtain ⟨n, hn, hcase⟩ : ∃ n, max xs.length ys.length = n ∧ ((xs.length < ys.length ∧ n = ys.length) ∨ (¬ xs.length < ys.length ∧ n = xs.length)) := ⟨_, rfl, by omega⟩
  rw [hn]
  clear hn
  have hnb : n ≤ 9223372036854775807 := by omega
  rcases hcase with ⟨hlen, rfl⟩ | ⟨hlen, rfl⟩
  · go_enter Try.func78, Try.ntmps78
    go_wp2
    go_loop [5, 6] (fun s i => ∃ k : Nat, k ≤ ys.length ∧ i = .int .i64 k ∧ s = .int .u64 (distN xs ys k) ∧ Hid (distN xs ys k < 18446744073709551616)) (fun _ i => ys.length - (intOf i).toNat)
    case atStart => exact ⟨0, Nat.zero_le _, rfl, rfl, by rw [Hid]; show 0 < _; decide⟩
    case round =>
      obtain ⟨k, hk, rfl, rfl, HS⟩ := hrel
      by_cases hlt : k < ys.length
      · have hkl : (k : Int) < (ys.length : Int) := by omega
        have ha := cpt_all hxs.out (by decide) (by decide) k
        have hb := cpt_all hys.out (by decide) (by decide) k
        have HR := Lib.hid (sq_room ha hb)
        have HB := Lib.hid (sat_step xs ys k ys.length (by omega))
        have HE : Hid (distN xs ys (k + 1) = distN xs ys k + sqZ (cpt xs k) (cpt ys k)) := rfl
        have cA := Lib.hid (refAt_any A xs ca Bk k w hA (by omega) hxs)
        have cB := Lib.hid (refAt_any B ys cb Bk k w hB (by omega) hys)
        have HW := Lib.hid (sq_ways (cpt xs k) (cpt ys k) ha hb)
        generalize distN xs ys k = s at *
        generalize cpt xs k = a at *
        generalize cpt ys k = b at *
        generalize sqZ a b = q at *
        clear ha hb
        have hsum := sum_ways s q HS.out HR.out
        rcases HW.out with ⟨h1, h2, h3, h4, h5⟩ | ⟨h1, h2, h3, h4, h5⟩ | ⟨rfl, rfl⟩
        · clear HW
          rcases hsum with ⟨u, HU, HV, hw, hge⟩ | ⟨u, HU, hw, hge⟩
          all_goals
            go_wp2_with fail
            refine cA.out.mono ?_
            rintro e w' ⟨rfl, rfl⟩
            go_wp2_with fail
            refine cB.out.mono ?_
            rintro e w' ⟨rfl, rfl⟩
            go_wp2
          · go_round
            case rel => exact ⟨k + 1, by omega, by go_num, by rw [HE.out, HU.out], by rw [Hid, HE.out]; exact HV.out⟩
            case measure => simp [intOf]; omega
          · go_ret
            exact ⟨by rw [HB.out HU.out]; rfl, rfl⟩
        · clear HW
          rcases hsum with ⟨u, HU, HV, hw, hge⟩ | ⟨u, HU, hw, hge⟩
          all_goals
            go_wp2_with fail
            refine cA.out.mono ?_
            rintro e w' ⟨rfl, rfl⟩
            go_wp2_with fail
            refine cB.out.mono ?_
            rintro e w' ⟨rfl, rfl⟩
            go_wp2
          · go_round
            case rel => exact ⟨k + 1, by omega, by go_num, by rw [HE.out, HU.out], by rw [Hid, HE.out]; exact HV.out⟩
            case measure => simp [intOf]; omega
          · go_ret
            exact ⟨by rw [HB.out HU.out]; rfl, rfl⟩
        · clear HW hsum
          have hs0 : IntKind.u64.wrap (s : Int) = (s : Int) := wrap_small s HS.out
          go_wp2_with fail
          refine cA.out.mono ?_
          rintro e w' ⟨rfl, rfl⟩
          go_wp2_with fail
          refine cB.out.mono ?_
          rintro e w' ⟨rfl, rfl⟩
          go_wp2
          go_round
          case rel => exact ⟨k + 1, by omega, by go_num, by rw [HE.out]; rfl, by rw [Hid, HE.out]; exact HS.out⟩
          case measure => simp [intOf]; omega
      · obtain rfl : k = ys.length := by omega
        have HT : Hid (satN (distN xs ys ys.length) = distN xs ys ys.length) := by rw [Hid, satN, if_pos HS.out]
        go_wp2
        go_ret
        exact ⟨by rw [HT.out]; rfl, rfl⟩
  · go_enter Try.func78, Try.ntmps78
    go_wp2
    go_loop [5, 6] (fun s i => ∃ k : Nat, k ≤ xs.length ∧ i = .int .i64 k ∧ s = .int .u64 (distN xs ys k) ∧ Hid (distN xs ys k < 18446744073709551616)) (fun _ i => xs.length - (intOf i).toNat)
    case atStart => exact ⟨0, Nat.zero_le _, rfl, rfl, by rw [Hid]; show 0 < _; decide⟩
    case round =>
      obtain ⟨k, hk, rfl, rfl, HS⟩ := hrel
      by_cases hlt : k < xs.length
      · have hkl : (k : Int) < (xs.length : Int) := by omega
        have ha := cpt_all hxs.out (by decide) (by decide) k
        have hb := cpt_all hys.out (by decide) (by decide) k
        have HR := Lib.hid (sq_room ha hb)
        have HB := Lib.hid (sat_step xs ys k xs.length (by omega))
        have HE : Hid (distN xs ys (k + 1) = distN xs ys k + sqZ (cpt xs k) (cpt ys k)) := rfl
        have cA := Lib.hid (refAt_any A xs ca Bk k w hA (by omega) hxs)
        have cB := Lib.hid (refAt_any B ys cb Bk k w hB (by omega) hys)
        have HW := Lib.hid (sq_ways (cpt xs k) (cpt ys k) ha hb)
        generalize distN xs ys k = s at *
        generalize cpt xs k = a at *
        generalize cpt ys k = b at *
        generalize sqZ a b = q at *
        clear ha hb
        have hsum := sum_ways s q HS.out HR.out
        rcases HW.out with ⟨h1, h2, h3, h4, h5⟩ | ⟨h1, h2, h3, h4, h5⟩ | ⟨rfl, rfl⟩
        · clear HW
          rcases hsum with ⟨u, HU, HV, hw, hge⟩ | ⟨u, HU, hw, hge⟩
          all_goals
            go_wp2_with fail
            refine cA.out.mono ?_
            rintro e w' ⟨rfl, rfl⟩
            go_wp2_with fail
            refine cB.out.mono ?_
            rintro e w' ⟨rfl, rfl⟩
            go_wp2
          · go_round
            case rel => exact ⟨k + 1, by omega, by go_num, by rw [HE.out, HU.out], by rw [Hid, HE.out]; exact HV.out⟩
            case measure => simp [intOf]; omega
          · go_ret
            exact ⟨by rw [HB.out HU.out]; rfl, rfl⟩
        · clear HW
          rcases hsum with ⟨u, HU, HV, hw, hge⟩ | ⟨u, HU, hw, hge⟩
          all_goals
            go_wp2_with fail
            refine cA.out.mono ?_
            rintro e w' ⟨rfl, rfl⟩
            go_wp2_with fail
            refine cB.out.mono ?_
            rintro e w' ⟨rfl, rfl⟩
            go_wp2
          · go_round
            case rel => exact ⟨k + 1, by omega, by go_num, by rw [HE.out, HU.out], by rw [Hid, HE.out]; exact HV.out⟩
            case measure => simp [intOf]; omega
          · go_ret
            exact ⟨by rw [HB.out HU.out]; rfl, rfl⟩
        · clear HW hsum
          have hs0 : IntKind.u64.wrap (s : Int) = (s : Int) := wrap_small s HS.out
          go_wp2_with fail
          refine cA.out.mono ?_
          rintro e w' ⟨rfl, rfl⟩
          go_wp2_with fail
          refine cB.out.mono ?_
          rintro e w' ⟨rfl, rfl⟩
          go_wp2
          go_round
          case rel => exact ⟨k + 1, by omega, by go_num, by rw [HE.out]; rfl, by rw [Hid, HE.out]; exact HS.out⟩
          case measure => simp [intOf]; omega
      · obtain rfl : k = xs.length := by omega
        have HT : Hid (satN (distN xs ys xs.length) = distN xs ys xs.length) := by rw [Hid, satN, if_pos HS.out]
        go_wp2
        go_ret
        exact ⟨by rw [HT.out]; rfl, rfl⟩

end Go.Proofs.Ytajmnhnepoomjaa
