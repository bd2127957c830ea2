/- How many are within, and how many ahead (TopCounted), walked. -/
import Derived.Test.YtlgkdonaplejdaaWalkSpot
namespace Go.Proofs.Ytlgkdonaplejdaa
open Go.RowKit Go.Shelf Go.Sort Go.Lib

theorem Hit_val (x y : HitT) (W : World) (b : Bool) (h : ltH x y = b) :
    Calls Try.prog 62 #[.agg #[.int .u64 x.1, .int .u64 x.2], .agg #[.int .u64 y.1, .int .u64 y.2]] W fun e w' => e = .returned (.bool b) ∧ Grown W w' := h ▸ Hit_any x y W
theorem search_all (q : List Int) (m : Int) (its : List ItT) : searchL q m its (its.length : Int) = ordH q m its := by
  unfold searchL
  exact List.take_of_length_le (by have := ordH_len q m its; omega)
theorem within_more {q : List Int} {m : Int} {its : List ItT} {j : Nat} (hj : j < (ordH q m its).length) : j < (withinL q m its (ordH q m its)[j].1).length := by
  obtain ⟨c, h1, h2⟩ := withinL_take q m its (ordH q m its)[j].1
  have h3 := (h2 j hj).1 (Int.le_refl _)
  rw [h1, List.length_take]
  omega
/-- What is asked of the hit at a place. -/
structure Cnt (q : List Int) (m : Int) (its : List ItT) (H : List HitT) (j p n2 : Nat) (x : HitT) : Prop where
  le : p ≤ j
  more : j < n2
  same : ∀ i, p ≤ i → i ≤ j → H[i]? = some x
  ahead : ∀ r, p = r + 1 → ∃ y, H[r]? = some y ∧ ltH y x = true
theorem cnt_of {q : List Int} {m : Int} {its : List ItT} {j : Nat} (hj : j < (ordH q m its).length) : Cnt q m its (ordH q m its) j (placeN q m its (ordH q m its)[j]) (withinL q m its (ordH q m its)[j].1).length (ordH q m its)[j] := by
  have hp := place_at q m its j hj
  refine ⟨hp, within_more hj, fun i h1 h2 => ?_, fun r hr => ?_⟩
  · rw [List.getElem?_eq_getElem (by omega), place_same q m its j i hj h1 h2]
  · exact ⟨_, List.getElem?_eq_getElem (by omega), (ahead_first q m its _ r (by omega)).2 (by omega)⟩

set_option maxRecDepth 100000 in
set_option maxHeartbeats 8000000 in
theorem TopCounted_raw (A : Option Addr) (its : List ItT) (ca : Nat) (Q : Option Addr) (q : List Int) (cq : Nat) (mask k : Int) (w : World) (hI : ItemsAt w w.heap.size A its) (_hil : its.length ≤ 9223372036854775807) (hQ : VecB w w.heap.size Q q) (_hk : -9223372036854775808 ≤ k ∧ k ≤ 9223372036854775807) :
    Calls Try.prog 15 #[.slice A its.length ca, .slice Q q.length cq, .int .u64 mask, .int .i64 k] w fun e w' => e = .returned (.bool true) ∧ Below w.heap.size w w' := by
  have mixed : Try.prog.follows .mixedOrders = true := by kernel_rfl
  by_cases hlong : 40 < its.length
  · have h1 : (40 : Int) < (its.length : Int) := by omega
    clear hlong hQ hI
    go_enter Try.func15, Try.ntmps15
    go_wp2_with fail
    refine (begins7_any w).mono ?_
    rintro e w1 ⟨rfl, hb⟩
    go_wp2
    go_ret
    exact ⟨rfl, hb⟩
  · have l1 : ¬ (40 : Int) < (its.length : Int) := by omega
    have N : Hid (its.length ≤ 40) := by rw [Hid]; omega
    have HQ := Lib.hid hQ
    have HI := Lib.hid hI
    clear hlong hQ hI
    go_enter Try.func15, Try.ntmps15
    go_wp2_with fail
    refine (begins7_any w).mono ?_
    rintro e w1 ⟨rfl, hb1⟩
    have HB1 := Lib.hid hb1
    have HQ1 := Lib.hid ((HQ.out.below hb1).more hb1.size)
    have HI1 := Lib.hid ((HI.out.below hb1).more hb1.size)
    have HC1 := Lib.hid (Search_any A its ca Q q cq mask (its.length : Int) (by have := N.out; omega) w1 HI1.out HQ1.out)
    clear hb1 HQ HI
    go_wp2_with fail
    refine Calls.mono HC1.out ?_
    rintro e w2 ⟨A2, c2, rfl, hr2, hc2, hm2, hb2⟩
    rw [search_all] at hr2 hc2 ⊢
    have HB2 := Lib.hid (HB1.out.trans (hb2.mono HB1.out.size))
    have HQ2 := Lib.hid ((HQ1.out.below hb2).more hb2.size)
    have HI2 := Lib.hid ((HI1.out.below hb2).more hb2.size)
    have HR2 := Lib.hid hr2
    have HCN := Lib.hid (fun j (hj : j < (ordH q mask its).length) => cnt_of hj)
    have hn40 : (ordH q mask its).length ≤ 40 := by have := ordH_len q mask its; have := N.out; omega
    have HH := Lib.hid (rfl : ordH q mask its = ordH q mask its)
    obtain ⟨H, hH⟩ : ∃ H, ordH q mask its = H := ⟨_, rfl⟩
    have HHE := Lib.hid hH
    rw [hH] at HR2 hc2 hn40 ⊢
    obtain ⟨n, hn⟩ : ∃ n, H.length = n := ⟨_, rfl⟩
    have HN := Lib.hid hn
    rw [hn] at hc2 hn40 ⊢
    clear hr2 hb2 hH hn HC1 HQ1 HI1 HB1 HH
    by_cases hk0 : k < 0
    · have hkd : decide (k < 0) = true := decide_eq_true hk0
      go_wp2
      go_ret
      exact ⟨rfl, HB2.out⟩
    · obtain ⟨j, rfl⟩ : ∃ j : Nat, k = (j : Int) := ⟨k.toNat, by omega⟩
      by_cases hjn : n ≤ j
      · have h1 : (n : Int) ≤ (j : Int) := by omega
        have h2 : ¬ ((j : Int) < 0) := by omega
        go_wp2
        go_ret
        exact ⟨rfl, HB2.out⟩
      · have hjl : j < n := by omega
        have r1 : ¬ (n : Int) ≤ (j : Int) := by omega
        have r2 : ¬ n ≤ j := by omega
        have r3 : (j : Int) < (n : Int) := by omega
        have r4 : (0 : Int) ≤ (j : Int) := by omega
        have r5 : ((j : Int)).toNat = j := Int.toNat_natCast j
        have hjH : j < (ordH q mask its).length := by rw [HHE.out, HN.out]; exact hjl
        have HCT := Lib.hid (HCN.out j hjH)
        have hHj : H[j]? = some (ordH q mask its)[j] := by
          have := List.getElem?_eq_getElem hjH
          rw [← this, HHE.out]
        generalize (ordH q mask its)[j] = x at *
        have HX := Lib.hid hHj
        obtain ⟨b, off, rfl, hb, y0, y1⟩ := HR2.out j x hHj
        clear hHj hjH HCN hjn hk0
        obtain ⟨p, hp⟩ : ∃ p, placeN q mask its x = p := ⟨_, rfl⟩
        obtain ⟨n2, hn2⟩ : ∃ n2, (withinL q mask its x.1).length = n2 := ⟨_, rfl⟩
        rw [hp, hn2] at HCT
        have HP := Lib.hid hp
        have HN2 := Lib.hid hn2
        clear hp hn2
        rw [HHE.out] at HCT
        obtain ⟨xa, xb⟩ := x
        simp only at y0 y1 HN2
        go_upto_region 9 with (fail)
        have hBA := below_new3 w2 (.cells #[.int .u64 xa, .int .u64 xb] 35)
        have d0 : (w2.alloc (.cells #[.int .u64 xa, .int .u64 xb] 35)).cell? ⟨w2.heap.size, 0, none⟩ = some (.int .u64 xa) := by go_cell
        have d1 : (w2.alloc (.cells #[.int .u64 xa, .int .u64 xb] 35)).cell? ⟨w2.heap.size, 1, none⟩ = some (.int .u64 xb) := by go_cell
        have hDX : w2.heap.size < (w2.alloc (.cells #[.int .u64 xa, .int .u64 xb] 35)).heap.size := by simp
        have HRX := Lib.hid ((HR2.out.below hBA).more hBA.size)
        have HQX := Lib.hid ((HQ2.out.below hBA).more hBA.size)
        have HIX := Lib.hid ((HI2.out.below hBA).more hBA.size)
        have HBX := Lib.hid (HB2.out.trans (hBA.mono HB2.out.size))
        clear hBA y0 y1 HR2 HQ2 HI2 HB2 hb
        generalize w2.alloc (.cells #[.int .u64 xa, .int .u64 xb] 35) = X at *
        generalize w2.heap.size = D at *
        have HC3 := Lib.hid (Within_any A its ca Q q cq mask xa (by have := N.out; omega) X HIX.out HQX.out)
        go_wp2_with fail
        refine Calls.mono HC3.out ?_
        rintro e w3 ⟨A3, c3, rfl, -, -, -, hb3⟩
        rw [HN2.out]
        have e0 := (hb3.cell (p := ⟨D, 0, none⟩) hDX).trans d0
        have e1 := (hb3.cell (p := ⟨D, 1, none⟩) hDX).trans d1
        have hD3 := Nat.lt_of_lt_of_le hDX hb3.size
        have HR3 := Lib.hid ((HRX.out.below hb3).more hb3.size)
        have HQ3 := Lib.hid ((HQX.out.below hb3).more hb3.size)
        have HI3 := Lib.hid ((HIX.out.below hb3).more hb3.size)
        have HB3 := Lib.hid (HBX.out.trans (hb3.mono HBX.out.size))
        have HC4 := Lib.hid (Place_any A its ca Q q cq mask (xa, xb) (by have := N.out; omega) w3 HI3.out HQ3.out)
        clear hb3 d0 d1 hDX HC3 HRX HQX HIX HBX
        go_wp2_with fail
        refine Calls.mono HC4.out ?_
        rintro e w4 ⟨rfl, hb4⟩
        rw [HP.out]
        have c0 := (hb4.cell (p := ⟨D, 0, none⟩) hD3).trans e0
        have c1 := (hb4.cell (p := ⟨D, 1, none⟩) hD3).trans e1
        have hD4 := Nat.lt_of_lt_of_le hD3 hb4.size
        have HR4 := Lib.hid ((HR3.out.below hb4).more hb4.size)
        have HB4 := Lib.hid (HB3.out.trans (hb4.mono HB3.out.size))
        clear hb4 e0 e1 hD3 HC4 HR3 HQ3 HI3 HB3 HP HN2
        have hpj := HCT.out.le
        have hjn2 := HCT.out.more
        have t1 : ¬ (j : Int) < (p : Int) := by omega
        have t1n : ¬ j < p := by omega
        have t2 : ¬ (n : Int) ≤ (p : Int) := by omega
        have t2n : ¬ n ≤ p := by omega
        have t3 : ¬ (n2 : Int) ≤ (j : Int) := by omega
        have t3n : ¬ n2 ≤ j := by omega
        have t4 : (0 : Int) ≤ (p : Int) := by omega
        have t5 : (p : Int) ≤ (j : Int) + 1 := by omega
        have t6 : (j : Int) + 1 ≤ (c2 : Int) := by omega
        have t7 : ((p : Int)).toNat = p := Int.toNat_natCast p
        have t8 : ¬ c2 = p := by omega
        have t9 : (j : Int) ≤ 40 := by omega
        go_wp2
        obtain ⟨s, hs⟩ : ∃ s, j + 1 - p = s := ⟨_, rfl⟩
        rw [hs]
        have hsj : p + s = j + 1 := by omega
        clear hs
        go_loopw [70] (fun i wr => ∃ m : Nat, m ≤ s ∧ i = .int .i64 m ∧ Below w4.heap.size w4 wr) (fun i _ => s - (intOf i).toNat)
        case atStart => exact ⟨0, Nat.zero_le _, rfl, Below.refl _ _⟩
        case round =>
          obtain ⟨m, hm, rfl, hbel⟩ := hrel
          have f0 := (hbel.cell (p := ⟨D, 0, none⟩) hD4).trans c0
          have f1 := (hbel.cell (p := ⟨D, 1, none⟩) hD4).trans c1
          have hDr := Nat.lt_of_lt_of_le hD4 hbel.size
          by_cases hms : m < s
          · obtain ⟨b', off', he, hb', z0, z1⟩ := (HR4.out.below hbel) (p + m) (xa, xb) (HCT.out.same (p + m) (by omega) (by omega))
            injection he with he
            injection he with e1 e2
            subst e1 e2
            rw [show off + (p + m) * 2 = off + p * 2 + m * 2 by omega] at z0 z1
            have s1 : (m : Int) < (s : Int) := by omega
            have s2 : (0 : Int) ≤ (m : Int) := by omega
            have s3 : ((m : Int)).toNat = m := Int.toNat_natCast m
            have s4 : (m : Int) ≤ 41 := by omega
            have hBA := below_new3 wr (.cells #[.int .u64 xa, .int .u64 xb] 35)
            have HB5 := Lib.hid (hbel.trans (hBA.mono hbel.size))
            have k0 := (hBA.cell (p := ⟨D, 0, none⟩) hDr).trans f0
            have k1 := (hBA.cell (p := ⟨D, 1, none⟩) hDr).trans f1
            clear hbel hBA f0 f1
            go_wp2
            go_roundw
            case rel => exact ⟨m + 1, by omega, by go_num, HB5.out⟩
            case measure => simp [intOf]; omega
          · obtain rfl : m = s := by omega
            have HB5 := Lib.hid (HB4.out.trans (hbel.mono HB4.out.size))
            have HR5 := Lib.hid ((HR4.out.below hbel).more hbel.size)
            clear hbel HB4 HR4
            rcases Nat.eq_zero_or_pos p with hp0 | hpp
            · have q0 : ((p : Int) == 0) = true := by simp; omega
              have q1 : (p == 0) = true := by simp; omega
              have q2 : decide (p = 0) = true := by simp; omega
              have q3 : decide ((p : Int) = 0) = true := by simp; omega
              clear hp0
              go_wp2_with fail
              go_big_quiet (fail)
              have HB6 := Lib.hid (HB5.out.trans ((below_draws wr nq wr.heap.size).mono HB5.out.size))
              go_wp2
              go_ret
              exact ⟨rfl, HB6.out⟩
            · obtain ⟨r, rfl⟩ : ∃ r, p = r + 1 := ⟨p - 1, by omega⟩
              obtain ⟨y, hy, hyx⟩ := HCT.out.ahead r rfl
              obtain ⟨b', off', he, hb', z0, z1⟩ := HR5.out r y hy
              injection he with he
              injection he with e1 e2
              subst e1 e2
              obtain ⟨ya, yb⟩ := y
              simp only at z0 z1
              have q0 : (((r + 1 : Nat) : Int) == 0) = false := by simp; omega
              have q1 : ((r + 1) == 0) = false := by simp
              have q2 : decide (r + 1 = 0) = false := by simp
              have q3 : decide (((r + 1 : Nat) : Int) = 0) = false := by simp; omega
              have q4 : ((r : Int) + 1 == 0) = false := by simp; omega
              have q5 : decide ((r : Int) + 1 = 0) = false := by simp; omega
              have u0 : (r : Int) ≤ 40 := by omega
              have u1 : (0 : Int) ≤ (r : Int) := by omega
              have u2 : ((r : Int)).toNat = r := Int.toNat_natCast r
              have u3 : IntKind.i64.wrap (r : Int) = (r : Int) := by rw [IntKind.wrap_i64]; omega
              have u4 : (r : Int) < (n : Int) := by omega
              have u5 : ((r + 1 : Nat) : Int) - 1 = (r : Int) := by omega
              have g0 := fun n os => cell_grown (n := n) (os := os) (a := ⟨D, 0, none⟩) hDr f0
              have g1 := fun n os => cell_grown (n := n) (os := os) (a := ⟨D, 1, none⟩) hDr f1
              have g2 := fun n os => cell_grown (n := n) (os := os) (a := ⟨b, off + r * 2, none⟩) hb' z0
              have g3 := fun n os => cell_grown (n := n) (os := os) (a := ⟨b, off + r * 2 + 1, none⟩) hb' z1
              clear z0 z1 f0 f1 hy c0 c1
              go_wp2_with fail
              refine wp_region_quiet_grown (by assumption) (by kernel_rfl) ?_
              repeat (go_big_quiet_step ((go_at_call 62; exact Calls.grown_of (Hit_val (_, _) (_, _) _ _ (by assumption)))))
              refine wpQuiet_nil ?_
              intro _ hw'
              obtain ⟨⟨nq, osq⟩, hw''⟩ := hw'
              subst hw''
              have HB6 := Lib.hid (HB5.out.trans ((show Grown wr (grow (wr.drewN nq) osq) from ⟨nq, osq, rfl⟩).below.mono HB5.out.size))
              clear g0 g1 g2 g3
              go_wp2
              go_ret
              exact ⟨rfl, HB6.out⟩

theorem TopCounted_walk (A : Option Addr) (its : List ItT) (ca : Nat) (Q : Option Addr) (q : List Int) (cq : Nat) (mb : BitVec 64) (k : Int) (w : World) (hI : ItemsAt w w.heap.size A its) (hil : its.length ≤ 9223372036854775807) (hQ : VecB w w.heap.size Q q) (hk : -9223372036854775808 ≤ k ∧ k ≤ 9223372036854775807) :
    Calls Try.prog 15 #[.slice A its.length ca, .slice Q q.length cq, .int .u64 (mb.toNat : Int), .int .i64 k] w fun e w' => e = .returned (.bool true) ∧ Below w.heap.size w w' := TopCounted_raw A its ca Q q cq (mb.toNat : Int) k w hI hil hQ hk

end Go.Proofs.Ytlgkdonaplejdaa
