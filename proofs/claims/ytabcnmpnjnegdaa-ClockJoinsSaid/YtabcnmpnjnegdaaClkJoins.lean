/- The join is the least clock above both (the law of 17.3), walked. -/
import Derived.Test.YtabcnmpnjnegdaaClkLives
namespace Go.Proofs.Ytabcnmpnjnegdaa
open Go.RowKit

/-- A list of numbers, in a world that has grown from w. -/
def RdI (w : World) (A : Option Addr) (zs : List Int) : Prop := Rd (Value.int .i64) w w.heap.size A zs
theorem RdI.later {w w' : World} {A : Option Addr} {zs : List Int} (h : RdI w A zs) (hb : Below w.heap.size w w') : RdI w' A zs := rd_later h hb

theorem upB {A B : Option Addr} {zs ys : List Int} {c d n k : Nat} {r : Bool} {w : World} (hn : zs.length = n) (hk : ys.length = k) (h : leN (numL zs) (numL ys) = r) (hA : RdI w A zs) (hB : RdI w B ys) (hl : zs.length ≤ 100000 ∧ ys.length ≤ 100000) :
    Calls Try.prog 21 #[.slice A n c, .slice B k d] w fun e w' => e = .returned (.bool r) ∧ Below w.heap.size w w' := by
  subst hn hk h
  exact up_any A B zs ys c d w hA hB (by omega) (by omega)

set_option maxRecDepth 100000 in
set_option maxHeartbeats 8000000 in
theorem ClockJoins_walk (A : Option Addr) (zs : List Int) (c : Nat) (B : Option Addr) (ys : List Int) (d : Nat) (C : Option Addr) (xs : List Int) (e : Nat) (x : Int) (w : World)
    (hA : Rd (Value.int .i64) w w.heap.size A zs) (hl1 : zs.length ≤ 9223372036854775807) (_ : zs.length ≤ c) (_ : A = none → c = 0)
    (hB : Rd (Value.int .i64) w w.heap.size B ys) (hl2 : ys.length ≤ 9223372036854775807) (_ : ys.length ≤ d) (_ : B = none → d = 0)
    (hC : Rd (Value.int .i64) w w.heap.size C xs) (hl3 : xs.length ≤ 9223372036854775807) (_ : xs.length ≤ e) (_ : C = none → e = 0) :
    Calls Try.prog 4 #[.slice A zs.length c, .slice B ys.length d, .slice C xs.length e, .int .i64 x] w fun e w' => e = .returned (.bool true) ∧ Below w.heap.size w w' := by
  have hA' : RdI w A zs := hA
  have hB' : RdI w B ys := hB
  have hC' : RdI w C xs := hC
  clear hA hB hC
  by_cases h1 : 100 < zs.length
  · have hi : (100 : Int) < (zs.length : Int) := by omega
    clear hA' hB' hC'
    go_enter Try.func4, Try.ntmps4
    go_wp2_with fail
    refine (clock_lives_any _).mono ?_
    rintro e w1 ⟨rfl, hb⟩
    go_wp2
    go_ret
    exact ⟨rfl, hb⟩
  have hi1 : ¬ (100 : Int) < (zs.length : Int) := by omega
  by_cases h2 : 100 < ys.length
  · have hi : (100 : Int) < (ys.length : Int) := by omega
    clear hA' hB' hC'
    go_enter Try.func4, Try.ntmps4
    go_wp2_with fail
    refine (clock_lives_any _).mono ?_
    rintro e w1 ⟨rfl, hb⟩
    go_wp2
    go_ret
    exact ⟨rfl, hb⟩
  have hi2 : ¬ (100 : Int) < (ys.length : Int) := by omega
  by_cases h3 : 100 < xs.length
  · have hi : (100 : Int) < (xs.length : Int) := by omega
    clear hA' hB' hC'
    go_enter Try.func4, Try.ntmps4
    go_wp2_with fail
    refine (clock_lives_any _).mono ?_
    rintro e w1 ⟨rfl, hb⟩
    go_wp2
    go_ret
    exact ⟨rfl, hb⟩
  have hi3 : ¬ (100 : Int) < (xs.length : Int) := by omega
  have HLL := Lib.hid (show (zs.length ≤ 100 ∧ ys.length ≤ 100) ∧ xs.length ≤ 100 by omega)
  have HA := Lib.hid hA'
  have HB := Lib.hid hB'
  have HC := Lib.hid hC'
  clear h1 h2 h3 hA' hB' hC' hl1 hl2 hl3
  -- the join, as a list
  obtain ⟨J, hJ⟩ : ∃ J, shortL (joinN (numL zs) (numL ys)) = J := ⟨_, rfl⟩
  have hJn : numL J = joinN (numL zs) (numL ys) := by rw [← hJ, numL_short (joinN_num (numL_num zs))]
  have hJl : J.length ≤ 100 := by rw [← hJ]; exact Nat.le_trans (shortL_le _) (by omega)
  have HJ := Lib.hid hJ
  have HJ0 := Lib.hid hJ
  have HJN := Lib.hid hJn
  have HJL := Lib.hid hJl
  have HUA : Hid (leN (numL zs) (numL J) = true) := by rw [Hid, hJn]; exact le_join_left
  have HUB : Hid (leN (numL ys) (numL J) = true) := by rw [Hid, hJn]; exact le_join_right
  have hls : Hid (leN (numL zs) (numL xs) = true → leN (numL ys) (numL xs) = true → leN (numL J) (numL xs) = true) := by
    rw [Hid, hJn]; exact fun h1 h2 => join_least (numL_len _) h1 h2
  clear hJ hJn hJl
  go_enter Try.func4, Try.ntmps4
  go_wp2_with fail
  refine (clock_lives_any _).mono ?_
  rintro e w1 ⟨rfl, hb⟩
  have HBW := Lib.hid hb
  have HA1 := Lib.hid (HA.out.later hb)
  have HB1 := Lib.hid (HB.out.later hb)
  have HC1 := Lib.hid (HC.out.later hb)
  clear hb HA HB HC
  go_wp2_with fail
  refine Calls.mono (Join_is (zs := zs) (ys := ys) rfl rfl HJ.out rfl HA1.out HB1.out (by have := HLL.out; omega)) ?_
  rintro e w2 ⟨AJ, cJ, rfl, hr, hb⟩
  have HBW2 := Lib.hid (Below.next HBW.out hb)
  have HA := Lib.hid (HA1.out.later hb)
  have HB := Lib.hid (HB1.out.later hb)
  have HC := Lib.hid (HC1.out.later hb)
  have HRJ := Lib.hid (show RdI w2 AJ J from hr)
  clear hr hb HA1 HB1 HC1 HBW
  go_upto_region 6 with (fail)
  go_cut [9, 57] (fun v t wx => v = .slice AJ J.length cJ ∧ t = .bool false ∧ Below w2.heap.size w2 wx)
  case first =>
    go_wp2_with fail
    refine Calls.mono (upB rfl rfl HUA.out HA.out HRJ.out (by have := HLL.out; have := HJL.out; omega)) ?_
    rintro e w3 ⟨rfl, hb3⟩
    go_wp2_with fail
    refine Calls.mono (upB rfl rfl HUB.out (HB.out.later hb3) (HRJ.out.later hb3) (by have := HLL.out; have := HJL.out; omega)) ?_
    rintro e w4 ⟨rfl, hb4⟩
    have hb4' := Below.next hb3 hb4
    clear hb3 hb4
    have HB4 := Lib.hid hb4'
    clear hb4'
    obtain ⟨t1, ht1⟩ : ∃ t, leN (numL zs) (numL xs) = t := ⟨_, rfl⟩
    have HT1 := Lib.hid ht1
    clear ht1
    go_wp2_with fail
    refine Calls.mono (upB rfl rfl HT1.out (HA.out.later HB4.out) (HC.out.later HB4.out) (by have := HLL.out; omega)) ?_
    rintro e w5 ⟨rfl, hb5⟩
    have HB5 := Lib.hid (Below.next HB4.out hb5)
    clear hb5 HB4
    cases t1
    · go_wp2
      go_meet
      exact ⟨rfl, rfl, HB5.out⟩
    · obtain ⟨t2, ht2⟩ : ∃ t, leN (numL ys) (numL xs) = t := ⟨_, rfl⟩
      have HT2 := Lib.hid ht2
      clear ht2
      go_wp2_with fail
      refine Calls.mono (upB rfl rfl HT2.out (HB.out.later HB5.out) (HC.out.later HB5.out) (by have := HLL.out; omega)) ?_
      rintro e w6 ⟨rfl, hb6⟩
      have HB6 := Lib.hid (Below.next HB5.out hb6)
      clear hb6 HB5
      cases t2
      · go_wp2
        go_meet
        exact ⟨rfl, rfl, HB6.out⟩
      · have HT3 := Lib.hid (hls.out HT1.out HT2.out)
        go_wp2_with fail
        refine Calls.mono (upB rfl rfl HT3.out (HRJ.out.later HB6.out) (HC.out.later HB6.out) (by have := HLL.out; have := HJL.out; omega)) ?_
        rintro e w7 ⟨rfl, hb7⟩
        have HB7 := Lib.hid (Below.next HB6.out hb7)
        clear hb7 HB6
        go_wp2
        go_meet
        exact ⟨rfl, rfl, HB7.out⟩
  case rest =>
    obtain ⟨rfl, rfl, hbc⟩ := hcut
    have HBC := Lib.hid hbc
    clear hbc
    have HA2 := Lib.hid (HA.out.later HBC.out)
    have HB2 := Lib.hid (HB.out.later HBC.out)
    have HC2 := Lib.hid (HC.out.later HBC.out)
    have HJ2 := Lib.hid (HRJ.out.later HBC.out)
    have HBD := Lib.hid (Below.next HBW2.out HBC.out)
    have HFL := Lib.hid (cmpN_flip (numL zs) (numL ys))
    clear HA HB HC HRJ HBC HBW2 HUA HUB hls
    obtain ⟨r1, hr1⟩ : ∃ r, cmpN (numL zs) (numL ys) = r := ⟨_, rfl⟩
    obtain ⟨r2, hr2⟩ : ∃ r, cmpN (numL ys) (numL zs) = r := ⟨_, rfl⟩
    rw [hr1, hr2] at HFL
    have HR1 := Lib.hid hr1
    have HR2 := Lib.hid hr2
    clear hr1 hr2
    go_upto_region 8 with (fail)
    go_wp2_with fail
    refine Calls.mono (Compare_is rfl rfl HR1.out HA2.out HB2.out (by have := HLL.out; omega)) ?_
    rintro e w3 ⟨rfl, hb3⟩
    have HB3 := Lib.hid hb3
    clear hb3
    go_wp2_with fail
    refine Calls.mono (Compare_is rfl rfl HR2.out (HB2.out.later HB3.out) (HA2.out.later HB3.out) (by have := HLL.out; omega)) ?_
    rintro e w4 ⟨rfl, hb4⟩
    have HB4 := Lib.hid (Below.next HB3.out hb4)
    clear hb4 HB3 HR1 HR2
    go_upto_region 9 with (fail)
    go_cut [9, 96] (fun v t wx => v = .slice AJ J.length cJ ∧ t = .bool false ∧ wx = w4)
    case first =>
      rcases HFL.out with ⟨rfl, rfl⟩ | ⟨rfl, rfl⟩ | ⟨rfl, rfl⟩ | ⟨rfl, rfl⟩
      all_goals
        go_wp2
        go_meet
        exact ⟨rfl, rfl, rfl⟩
    case rest =>
      obtain ⟨rfl, rfl, rfl⟩ := hcut
      have HA := Lib.hid (HA2.out.later HB4.out)
      have HB := Lib.hid (HB2.out.later HB4.out)
      have HC := Lib.hid (HC2.out.later HB4.out)
      have HJ := Lib.hid (HJ2.out.later HB4.out)
      have HBW := Lib.hid (Below.next HBD.out HB4.out)
      clear HA2 HB2 HC2 HJ2 HBD HB4 HFL
      obtain ⟨T, hT⟩ : ∃ T, shortL (tickN (numL zs) x) = T := ⟨_, rfl⟩
      have HT := Lib.hid hT
      have HTN : Hid (numL T = tickN (numL zs) x) := by rw [Hid, ← hT]; exact numL_short (tickN_num (numL_num zs) x)
      have HTL : Hid (T.length ≤ 100) := by rw [Hid, ← hT]; exact Nat.le_trans (shortL_le _) (by omega)
      clear hT
      go_wp2_with fail
      refine Calls.mono (Tick_is rfl HT.out rfl HA.out (by have := HLL.out; omega)) ?_
      rintro e w5 ⟨AT, cT, rfl, hr, hb⟩
      have HBW5 := Lib.hid (Below.next HBW.out hb)
      have HA1 := Lib.hid (HA.out.later hb)
      have HB1 := Lib.hid (HB.out.later hb)
      have HC1 := Lib.hid (HC.out.later hb)
      have HJ1 := Lib.hid (HJ.out.later hb)
      have HRT := Lib.hid (show RdI w5 AT T from hr)
      clear hr hb HA HB HC HJ HBW HT
      obtain ⟨ticks, htk⟩ : ∃ b, decide ((0 ≤ x ∧ x ≤ 64) ∧ (numL zs).getD x.toNat 0 < 4611686018427387904) = b := ⟨_, rfl⟩
      have HTK := Lib.hid htk
      clear htk
      go_upto_region 12 with (fail)
      go_cut [9, 12, 13] (fun v t b wx => v = .slice AJ J.length cJ ∧ t = .slice AT T.length cT ∧ b = .bool ticks ∧ wx = w5)
      case first =>
        have hdec := HTK.out
        by_cases hx : 0 ≤ x ∧ x ≤ 64
        · have hat : atZ zs x = (numL zs).getD x.toNat 0 := if_pos hx
          rw [← hat] at hdec
          have HAT := Lib.hid (show atZ zs x = atZ zs x from rfl)
          obtain ⟨hx1, hx2⟩ := hx
          obtain ⟨z, hz⟩ : ∃ z, atZ zs x = z := ⟨_, rfl⟩
          rw [hz] at hdec
          have HZ := Lib.hid hz
          clear hz hat HAT
          by_cases hzz : z < 4611686018427387904
          · obtain rfl : true = ticks := by rw [← hdec]; exact (decide_eq_true ⟨⟨hx1, hx2⟩, hzz⟩).symm
            clear hdec
            go_wp2_with fail
            refine Calls.mono (At_is rfl HZ.out HA1.out (by have := HLL.out; omega)) ?_
            rintro e w' ⟨rfl, rfl⟩
            go_wp2
            go_meet
            exact ⟨rfl, rfl, by simp [hzz], rfl⟩
          · obtain rfl : false = ticks := by rw [← hdec]; exact (decide_eq_false (fun h => hzz h.2)).symm
            clear hdec
            go_wp2_with fail
            refine Calls.mono (At_is rfl HZ.out HA1.out (by have := HLL.out; omega)) ?_
            rintro e w' ⟨rfl, rfl⟩
            go_wp2
            go_meet
            exact ⟨rfl, rfl, by simp <;> omega, rfl⟩
        · obtain rfl : false = ticks := by rw [← hdec]; exact (decide_eq_false (fun h => hx h.1)).symm
          clear hdec
          by_cases hx1 : 0 ≤ x
          · have hx2 : ¬ x ≤ 64 := fun h => hx ⟨hx1, h⟩
            clear hx
            go_wp2
            go_meet
            exact ⟨rfl, rfl, by simp <;> omega, rfl⟩
          · clear hx
            go_wp2
            go_meet
            exact ⟨rfl, rfl, by simp <;> omega, rfl⟩
      case rest =>
        obtain ⟨rfl, rfl, rfl, hwc⟩ := hcut
        rename World => wx0
        subst hwc
        go_upto_region 13 with (fail)
        go_cut [9, 138] (fun v t wx => v = .slice AJ J.length cJ ∧ t = .bool false ∧ Below wx0.heap.size wx0 wx)
        case first =>
          cases ticks
          · have hno := of_decide_eq_false HTK.out
            have hce : cmpN (numL zs) (numL T) = 0 := by rw [HTN.out, tick_none hno]; exact cmpN_self _
            have HCE := Lib.hid hce
            clear hno hce
            go_wp2_with fail
            refine Calls.mono (Compare_is rfl rfl HCE.out HA1.out HRT.out (by have := HLL.out; have := HTL.out; omega)) ?_
            rintro e w6 ⟨rfl, hb6⟩
            go_wp2
            go_meet
            exact ⟨rfl, rfl, hb6⟩
          · obtain ⟨hx, hlt⟩ := of_decide_eq_true HTK.out
            obtain ⟨hce, hte⟩ := tick_cmp (numL_num zs) x ⟨hx, hlt⟩
            rw [← HTN.out] at hce hte
            have hge := (numL_num zs).2 x.toNat
            have e1 : atZ zs x = (numL zs).getD x.toNat 0 := if_pos hx
            have e2 : atZ T x = (numL zs).getD x.toNat 0 + 1 := (if_pos hx).trans hte
            generalize (numL zs).getD x.toNat 0 = z at *
            have hw : IntKind.i64.wrap (z + 1) = z + 1 := IntWalk.i64_in _ (by omega)
            have HCE := Lib.hid hce
            have E1 := Lib.hid e1
            have E2 := Lib.hid e2
            clear hce hte e1 e2 hx
            go_wp2_with fail
            refine Calls.mono (Compare_is rfl rfl HCE.out HA1.out HRT.out (by have := HLL.out; have := HTL.out; omega)) ?_
            rintro e w6 ⟨rfl, hb6⟩
            have HB6 := Lib.hid hb6
            clear hb6
            go_wp2_with fail
            refine Calls.mono (At_is rfl E2.out (HRT.out.later HB6.out) (by have := HTL.out; omega)) ?_
            rintro e w' ⟨rfl, rfl⟩
            go_wp2_with fail
            refine Calls.mono (At_is rfl E1.out (HA1.out.later HB6.out) (by have := HLL.out; omega)) ?_
            rintro e w' ⟨rfl, rfl⟩
            go_wp2
            go_meet
            exact ⟨rfl, rfl, HB6.out⟩
        case rest =>
          obtain ⟨rfl, rfl, hbc⟩ := hcut
          have HBW := Lib.hid (Below.next HBW5.out hbc)
          have HA := Lib.hid (HA1.out.later hbc)
          have HB := Lib.hid (HB1.out.later hbc)
          have HC := Lib.hid (HC1.out.later hbc)
          have HRJ := Lib.hid (HJ1.out.later hbc)
          clear hbc HBW5 HA1 HB1 HC1 HJ1 HRT HTK HTN HTL
          have HJ2 : Hid (shortL (joinN (numL ys) (numL zs)) = J) := by rw [Hid, joinN_comm]; exact HJ0.out
          obtain ⟨L1, hL1⟩ : ∃ L, shortL (joinN (numL J) (numL xs)) = L := ⟨_, rfl⟩
          obtain ⟨L2, hL2⟩ : ∃ L, shortL (joinN (numL ys) (numL xs)) = L := ⟨_, rfl⟩
          obtain ⟨L3, hL3⟩ : ∃ L, shortL (numL zs) = L := ⟨_, rfl⟩
          have H1 := Lib.hid hL1
          have H2 := Lib.hid hL2
          have H3 := Lib.hid hL3
          have H4 : Hid (shortL (joinN (numL zs) (numL L2)) = L1) := by
            rw [Hid, ← hL2, numL_short (joinN_num (numL_num ys)), ← joinN_assoc, ← HJN.out, hL1]
          have H5 : Hid (shortL (joinN (numL zs) (numL zs)) = L3) := by
            rw [Hid, joinN_self (numL_len _), hL3]
          have HL1 : Hid (L1.length ≤ 100) := by rw [Hid, ← hL1]; exact Nat.le_trans (shortL_le _) (by omega)
          have HL2 : Hid (L2.length ≤ 100) := by rw [Hid, ← hL2]; exact Nat.le_trans (shortL_le _) (by omega)
          have HL3 : Hid (L3.length ≤ 100) := by rw [Hid, ← hL3]; exact Nat.le_trans (shortL_le _) (by omega)
          clear hL1 hL2 hL3
          go_wp2_with fail
          refine Calls.mono (Join_is rfl rfl HJ2.out rfl HB.out HA.out (by have := HLL.out; omega)) ?_
          rintro e w6 ⟨A6, c6, rfl, hr, hb⟩
          have HBW6 := Lib.hid (Below.next HBW.out hb)
          have HA2 := Lib.hid (HA.out.later hb)
          have HB2 := Lib.hid (HB.out.later hb)
          have HC2 := Lib.hid (HC.out.later hb)
          have HRJ2 := Lib.hid (HRJ.out.later hb)
          have HR := Lib.hid hr
          clear hb hr HA HB HC HRJ HBW
          go_wp2_with fail
          refine Calls.mono (SameI_is rfl HRJ2.out HR.out (by have := HJL.out; omega)) ?_
          rintro e w7 ⟨rfl, hb⟩
          have HBW := Lib.hid (Below.next HBW6.out hb)
          have HA := Lib.hid (HA2.out.later hb)
          have HB := Lib.hid (HB2.out.later hb)
          have HC := Lib.hid (HC2.out.later hb)
          have HRJ := Lib.hid (HRJ2.out.later hb)
          clear hb HR HA2 HB2 HC2 HRJ2 HBW6
          go_wp2_with fail
          refine Calls.mono (Join_is rfl rfl H1.out rfl HRJ.out HC.out (by have := HLL.out; have := HJL.out; omega)) ?_
          rintro e w8 ⟨A8, c8, rfl, hr, hb⟩
          have HBW8 := Lib.hid (Below.next HBW.out hb)
          have HA2 := Lib.hid (HA.out.later hb)
          have HB2 := Lib.hid (HB.out.later hb)
          have HC2 := Lib.hid (HC.out.later hb)
          have HR8 := Lib.hid (show RdI w8 A8 L1 from hr)
          clear hb hr HA HB HC HRJ HBW
          go_wp2_with fail
          refine Calls.mono (Join_is rfl rfl H2.out rfl HB2.out HC2.out (by have := HLL.out; omega)) ?_
          rintro e w9 ⟨A9, c9, rfl, hr, hb⟩
          have HBW9 := Lib.hid (Below.next HBW8.out hb)
          have HA := Lib.hid (HA2.out.later hb)
          have HR9 := Lib.hid (show RdI w9 A9 L2 from hr)
          have HR8' := Lib.hid (HR8.out.later hb)
          clear hb hr HA2 HB2 HC2 HR8 HBW8
          go_wp2_with fail
          refine Calls.mono (Join_is rfl rfl H4.out rfl HA.out HR9.out (by have := HLL.out; have := HL2.out; omega)) ?_
          rintro e w10 ⟨A10, c10, rfl, hr, hb⟩
          have HBW10 := Lib.hid (Below.next HBW9.out hb)
          have HA2 := Lib.hid (HA.out.later hb)
          have HR10 := Lib.hid (show RdI w10 A10 L1 from hr)
          have HR8 := Lib.hid (HR8'.out.later hb)
          clear hb hr HA HR8' HR9 HBW9
          go_wp2_with fail
          refine Calls.mono (SameI_is rfl HR8.out HR10.out (by have := HL1.out; omega)) ?_
          rintro e w11 ⟨rfl, hb⟩
          have HBW11 := Lib.hid (Below.next HBW10.out hb)
          have HA := Lib.hid (HA2.out.later hb)
          clear hb HR8 HR10 HA2 HBW10
          go_wp2_with fail
          refine Calls.mono (Join_is rfl rfl H5.out rfl HA.out HA.out (by have := HLL.out; omega)) ?_
          rintro e w12 ⟨A12, c12, rfl, hr, hb⟩
          have HBW12 := Lib.hid (Below.next HBW11.out hb)
          have HA2 := Lib.hid (HA.out.later hb)
          have HR12 := Lib.hid (show RdI w12 A12 L3 from hr)
          clear hb hr HA HBW11
          go_wp2_with fail
          refine Calls.mono (Short_is rfl H3.out rfl HA2.out (by have := HLL.out; omega)) ?_
          rintro e w13 ⟨A13, c13, rfl, hr, hb⟩
          have HBW13 := Lib.hid (Below.next HBW12.out hb)
          have HR12' := Lib.hid (HR12.out.later hb)
          have HR13 := Lib.hid (show RdI w13 A13 L3 from hr)
          clear hb hr HA2 HR12 HBW12
          go_wp2_with fail
          refine Calls.mono (SameI_is rfl HR12'.out HR13.out (by have := HL3.out; omega)) ?_
          rintro e w14 ⟨rfl, hb⟩
          have HBW14 := Lib.hid (Below.next HBW13.out hb)
          clear hb
          go_wp2
          go_ret
          exact ⟨rfl, HBW14.out⟩

end Go.Proofs.Ytabcnmpnjnegdaa
