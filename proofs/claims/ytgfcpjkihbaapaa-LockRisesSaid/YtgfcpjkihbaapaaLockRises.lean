/- As long as all is taken rising there is no ring; at any time each of a ring's workers waits for what the next one holds; and no mutex is held by two (LockRises), walked. -/
import Derived.Test.YtgfcpjkihbaapaaLckLives
import Derived.Test.YtgfcpjkihbaapaaLawRows
namespace Go.Proofs.Ytgfcpjkihbaapaa
open Go.RowKit

set_option maxRecDepth 100000 in
set_option maxHeartbeats 8000000 in
theorem LockRises_walk (A : Option Addr) (zs : List (Bool × Int × Int)) (c : Nat) (w : World) (hA : RdB3 w w.heap.size A zs) (hI : ∀ x ∈ zs, IsI x.2.1 ∧ IsI x.2.2) (hl : zs.length ≤ 9223372036854775807) (_ : zs.length ≤ c) (_ : A = none → c = 0) :
    Calls Try.prog 5 #[.slice A zs.length c] w fun e w' => e = .returned (.bool true) ∧ Below w.heap.size w w' := by
  by_cases hlong : 60 < zs.length
  · have hi : (60 : Int) < (zs.length : Int) := by omega
    clear hA hI
    go_enter Try.func5, Try.ntmps5
    go_wp2_with fail
    refine (lck_lives_any _).mono ?_
    rintro e w1 ⟨rfl, hb1⟩
    go_wp2
    go_ret
    exact ⟨rfl, hb1⟩
  have hi : ¬ (60 : Int) < (zs.length : Int) := by omega
  have HI := Lib.hid hI
  clear hI
  go_enter Try.func5, Try.ntmps5
  go_wp2_with fail
  refine (lck_lives_any _).mono ?_
  rintro e w1 ⟨rfl, hb1⟩
  have HB1 := Lib.hid hb1
  clear hb1
  go_wp2_with fail
  refine (LckNew_l1 w1).mono ?_
  rintro e w2 ⟨B, rfl, h1⟩
  have H1 := Lib.hid h1
  have HA := Lib.hid (hA.below HB1.out)
  clear h1 hA
  go_wp2
  go_loopw [27] (fun i wr => ∃ (k : Nat) (x : LX), k ≤ zs.length ∧ i = .int .i64 k ∧ L1 w1 k (.pointer (some ⟨B, 0, none⟩)) x [] wr) (fun i _ => zs.length - (intOf i).toNat)
  case atStart => exact ⟨0, newL, Nat.zero_le _, rfl, H1.out⟩
  case round =>
    obtain ⟨k, x, hk, rfl, hL⟩ := hrel
    by_cases hlt : k < zs.length
    · obtain ⟨d, hd⟩ : ∃ d, zs[k]? = some d := ⟨_, List.getElem?_eq_getElem hlt⟩
      have hii := HI.out d (List.mem_of_getElem? hd)
      obtain ⟨b, off, rfl, hbb, q0, q1, q2⟩ := HA.out k d hd
      obtain ⟨g, v, m⟩ := d
      have hw1 : w1.heap.size ≤ wr.heap.size := hL.below.size
      have hbw : b < w1.heap.size := Nat.lt_of_lt_of_le hbb HB1.out.size
      have r0 := (hL.below.cell (p := ⟨b, off + k * 3, none⟩) hbw).trans q0
      have r1 := (hL.below.cell (p := ⟨b, off + k * 3 + 1, none⟩) hbw).trans q1
      have r2 := (hL.below.cell (p := ⟨b, off + k * 3 + 2, none⟩) hbw).trans q2
      have HLL := Lib.hid hL
      have HII := Lib.hid hii
      clear q0 q1 q2 hd hL hii
      simp only at r0 r1 r2
      have hkl : (k : Int) < (zs.length : Int) := by omega
      have hk0 : (0 : Int) ≤ (k : Int) := by omega
      have HBX := Lib.hid (HLL.out.box (.bool g) v m 51)
      have fin : ∀ (y : LX) (W : World), L1 w1 (k + 1) (.pointer (some ⟨B, 0, none⟩)) y [(some ⟨wr.heap.size, 1, none⟩, [v, m])] W → Hid (L1 w1 (k + 1) (.pointer (some ⟨B, 0, none⟩)) y [(some ⟨wr.heap.size, 1, none⟩, [v, m])] W) := fun _ _ h => h
      have HT := Lib.hid (Take_l1 HBX.out (by omega) v m HII.out.1 HII.out.2)
      have HG := Lib.hid ((Give_l1 HBX.out v m HII.out.1 HII.out.2).mono (fun e w' h => (⟨h.1, h.2.more (Nat.le_succ k)⟩ : _ ∧ L1 w1 (k + 1) _ _ _ w')))
      generalize takeB x v m = tb at *
      generalize giveB x v m = gb at *
      generalize takeX x v m = tx at *
      generalize giveX x v m = gx at *
      clear HLL HII
      cases g
      · go_wp2_with fail
        refine HT.out.mono ?_
        rintro e w4 ⟨rfl, h4⟩
        have H4 := Lib.hid h4
        clear h4 HT HG HBX fin
        obtain ⟨R, hR⟩ : ∃ R, ringP tx = R := ⟨_, rfl⟩
        obtain ⟨l, hll⟩ : ∃ l, R.length = l := ⟨_, rfl⟩
        have HR := Lib.hid hR
        have hl65 : l ≤ 65 := by have := ringP_len tx; rw [hR, hll] at this; exact this
        have HN := Lib.hid (fun i (hi : i < l) => by have := @ringP_next tx i (by rw [hR, hll]; exact hi); rw [hR, hll] at this; exact this)
        have hu0 : Hid (tx.up = true → l = 0) := Lib.hid (fun hu => by rw [← hll, ← hR, ringP_rising H4.out.fit hu]; rfl)
        have HQ := Lib.hid (Ring_l1 H4.out hR hll)
        clear hR hll
        go_wp2_with fail
        refine HQ.out.mono ?_
        rintro e w5 ⟨A5, c5, rfl, h5⟩
        have H5 := Lib.hid h5
        clear h5 HQ H4
        have HP := Lib.hid (Rising_l1 H5.out)
        cases hu : tx.up
        all_goals
          rw [hu] at HP
          have hu1 := hu0.out
          rw [hu] at hu1
          clear hu hu0
          first
            | (have hl0 : ¬ (0 : Int) < (l : Int) := by have := hu1 rfl; omega
               clear hu1)
            | clear hu1
          go_wp2_with fail
          refine HP.out.mono ?_
          rintro e w6 ⟨rfl, rfl⟩
          clear HP
          go_wp2
          go_loop [56] (fun i => ∃ j : Nat, j ≤ l ∧ i = .int .i64 j) (fun i => l - (intOf i).toNat)
          case atStart => exact ⟨0, Nat.zero_le _, rfl⟩
          case round =>
            obtain ⟨j, hj, rfl⟩ := hrel
            by_cases hjl : j < l
            · try (exfalso; omega)
              all_goals
                obtain ⟨a, n, y, ha, hw, hh, hy⟩ := HN.out j hjl
                obtain ⟨b5, o5, rfl, hb5, hc5⟩ := (H5.out.told List.mem_cons_self) j a ha
                obtain ⟨b6, o6, e6, _, hc6⟩ := (H5.out.told List.mem_cons_self) ((j + 1) % l) y hy
                injection e6 with e6
                injection e6 with e6 e6'
                subst e6 e6'
                have HW := Lib.hid (Waits_l1 H5.out a (isI_worker (H5.out.fit.ww _ _ (wait_some hw)).2))
                have HH := Lib.hid (Holder_l1 H5.out n (isI_mutex H5.out.fit hh))
                rw [hw] at HW
                rw [hh] at HH
                clear ha hw hh hy
                have hj0 : (0 : Int) ≤ (j : Int) := by omega
                have hj1 : (j : Int) < (l : Int) := by omega
                obtain ⟨jm, hjm⟩ : ∃ jm : Nat, jm = (j + 1) % l := ⟨_, rfl⟩
                have htm : ((j : Int) + 1).tmod (l : Int) = (jm : Int) := by rw [hjm]; exact IntWalk.up_tmod (by omega) rfl
                have hm1 : (jm : Int) < (l : Int) := by have := Nat.mod_lt (j + 1) (show 0 < l by omega); omega
                have hm0 : (0 : Int) ≤ (jm : Int) := by omega
                rw [← hjm] at hc6
                clear hjm
                have hl1 : ¬ (l : Int) = 0 := by omega
                go_wp2_with fail
                refine HW.out.mono ?_
                rintro e w7 ⟨rfl, rfl⟩
                go_wp2_with fail
                refine HH.out.mono ?_
                rintro e w7 ⟨rfl, rfl⟩
                clear HN
                go_wp2
                go_round
                case rel => exact ⟨j + 1, by omega, by go_num⟩
                case measure => simp [intOf]; omega
            · obtain rfl : j = l := by omega
              obtain ⟨LH, hLH⟩ : ∃ LH, heldL tx.hs v = LH := ⟨_, rfl⟩
              obtain ⟨q, hq⟩ : ∃ q, LH.length = q := ⟨_, rfl⟩
              have hq4 : q ≤ 4097 := by rw [← hq, ← hLH]; exact heldL_len _ _
              have HMH := Lib.hid (fun i (nn : Int) (hi : LH[i]? = some nn) => (heldL_mem (w := v) (n := nn) H5.out.fit).1 (by rw [hLH]; exact List.mem_of_getElem? hi))
              have HLQ : Hid (∀ i, i < q → ∃ nn, LH[i]? = some nn) := Lib.hid (fun i hi => ⟨_, List.getElem?_eq_getElem (l := LH) (i := i) (by rw [hq]; exact hi)⟩)
              have HHE := Lib.hid (Held_l1 H5.out v hLH hq)
              have bx := (H5.out.inBox (List.mem_cons_of_mem _ List.mem_cons_self)).1
              clear hLH hq HN
              go_wp2_with fail
              refine HHE.out.mono ?_
              rintro e w8 ⟨A8, c8, rfl, h8⟩
              have H8 := Lib.hid h8
              have bx8 := (H8.out.inBox (List.mem_cons_of_mem _ (List.mem_cons_of_mem _ List.mem_cons_self))).1
              clear h8 HHE bx H5
              go_wp2
              go_loop [97] (fun i => ∃ j : Nat, j ≤ q ∧ i = .int .i64 j) (fun i => q - (intOf i).toNat)
              case atStart => exact ⟨0, Nat.zero_le _, rfl⟩
              case round =>
                obtain ⟨i, hi, rfl⟩ := hrel
                by_cases hiq : i < q
                · obtain ⟨nn, hnn⟩ := HLQ.out i hiq
                  have hhn := HMH.out i nn hnn
                  obtain ⟨b9, o9, rfl, hb9, hc9⟩ := (H8.out.told List.mem_cons_self) i nn hnn
                  have HH := Lib.hid (Holder_l1 H8.out nn (isI_mutex H8.out.fit hhn))
                  rw [hhn] at HH
                  clear hnn hhn
                  have hi0 : (0 : Int) ≤ (i : Int) := by omega
                  have hi1 : (i : Int) < (q : Int) := by omega
                  go_wp2_with fail
                  refine HH.out.mono ?_
                  rintro e w9 ⟨rfl, rfl⟩
                  go_wp2
                  go_round
                  case rel => exact ⟨i + 1, by omega, by go_num⟩
                  case measure => simp [intOf]; omega
                · obtain rfl : i = q := by omega
                  have H9 := Lib.hid (H8.out.less (ss := []) (fun _ h => by cases h))
                  clear H8
                  go_wp2
                  go_roundw
                  case rel => exact ⟨k + 1, tx, by omega, by go_num, H9.out⟩
                  case measure => simp [intOf]; omega
      · go_wp2_with fail
        refine HG.out.mono ?_
        rintro e w4 ⟨rfl, h4⟩
        have H4 := Lib.hid h4
        clear h4 HT HG HBX fin
        obtain ⟨R, hR⟩ : ∃ R, ringP gx = R := ⟨_, rfl⟩
        obtain ⟨l, hll⟩ : ∃ l, R.length = l := ⟨_, rfl⟩
        have HR := Lib.hid hR
        have hl65 : l ≤ 65 := by have := ringP_len gx; rw [hR, hll] at this; exact this
        have HN := Lib.hid (fun i (hi : i < l) => by have := @ringP_next gx i (by rw [hR, hll]; exact hi); rw [hR, hll] at this; exact this)
        have hu0 : Hid (gx.up = true → l = 0) := Lib.hid (fun hu => by rw [← hll, ← hR, ringP_rising H4.out.fit hu]; rfl)
        have HQ := Lib.hid (Ring_l1 H4.out hR hll)
        clear hR hll
        go_wp2_with fail
        refine HQ.out.mono ?_
        rintro e w5 ⟨A5, c5, rfl, h5⟩
        have H5 := Lib.hid h5
        clear h5 HQ H4
        have HP := Lib.hid (Rising_l1 H5.out)
        cases hu : gx.up
        all_goals
          rw [hu] at HP
          have hu1 := hu0.out
          rw [hu] at hu1
          clear hu hu0
          first
            | (have hl0 : ¬ (0 : Int) < (l : Int) := by have := hu1 rfl; omega
               clear hu1)
            | clear hu1
          go_wp2_with fail
          refine HP.out.mono ?_
          rintro e w6 ⟨rfl, rfl⟩
          clear HP
          go_wp2
          go_loop [56] (fun i => ∃ j : Nat, j ≤ l ∧ i = .int .i64 j) (fun i => l - (intOf i).toNat)
          case atStart => exact ⟨0, Nat.zero_le _, rfl⟩
          case round =>
            obtain ⟨j, hj, rfl⟩ := hrel
            by_cases hjl : j < l
            · try (exfalso; omega)
              all_goals
                obtain ⟨a, n, y, ha, hw, hh, hy⟩ := HN.out j hjl
                obtain ⟨b5, o5, rfl, hb5, hc5⟩ := (H5.out.told List.mem_cons_self) j a ha
                obtain ⟨b6, o6, e6, _, hc6⟩ := (H5.out.told List.mem_cons_self) ((j + 1) % l) y hy
                injection e6 with e6
                injection e6 with e6 e6'
                subst e6 e6'
                have HW := Lib.hid (Waits_l1 H5.out a (isI_worker (H5.out.fit.ww _ _ (wait_some hw)).2))
                have HH := Lib.hid (Holder_l1 H5.out n (isI_mutex H5.out.fit hh))
                rw [hw] at HW
                rw [hh] at HH
                clear ha hw hh hy
                have hj0 : (0 : Int) ≤ (j : Int) := by omega
                have hj1 : (j : Int) < (l : Int) := by omega
                obtain ⟨jm, hjm⟩ : ∃ jm : Nat, jm = (j + 1) % l := ⟨_, rfl⟩
                have htm : ((j : Int) + 1).tmod (l : Int) = (jm : Int) := by rw [hjm]; exact IntWalk.up_tmod (by omega) rfl
                have hm1 : (jm : Int) < (l : Int) := by have := Nat.mod_lt (j + 1) (show 0 < l by omega); omega
                have hm0 : (0 : Int) ≤ (jm : Int) := by omega
                rw [← hjm] at hc6
                clear hjm
                have hl1 : ¬ (l : Int) = 0 := by omega
                go_wp2_with fail
                refine HW.out.mono ?_
                rintro e w7 ⟨rfl, rfl⟩
                go_wp2_with fail
                refine HH.out.mono ?_
                rintro e w7 ⟨rfl, rfl⟩
                clear HN
                go_wp2
                go_round
                case rel => exact ⟨j + 1, by omega, by go_num⟩
                case measure => simp [intOf]; omega
            · obtain rfl : j = l := by omega
              obtain ⟨LH, hLH⟩ : ∃ LH, heldL gx.hs v = LH := ⟨_, rfl⟩
              obtain ⟨q, hq⟩ : ∃ q, LH.length = q := ⟨_, rfl⟩
              have hq4 : q ≤ 4097 := by rw [← hq, ← hLH]; exact heldL_len _ _
              have HMH := Lib.hid (fun i (nn : Int) (hi : LH[i]? = some nn) => (heldL_mem (w := v) (n := nn) H5.out.fit).1 (by rw [hLH]; exact List.mem_of_getElem? hi))
              have HLQ : Hid (∀ i, i < q → ∃ nn, LH[i]? = some nn) := Lib.hid (fun i hi => ⟨_, List.getElem?_eq_getElem (l := LH) (i := i) (by rw [hq]; exact hi)⟩)
              have HHE := Lib.hid (Held_l1 H5.out v hLH hq)
              have bx := (H5.out.inBox (List.mem_cons_of_mem _ List.mem_cons_self)).1
              clear hLH hq HN
              go_wp2_with fail
              refine HHE.out.mono ?_
              rintro e w8 ⟨A8, c8, rfl, h8⟩
              have H8 := Lib.hid h8
              have bx8 := (H8.out.inBox (List.mem_cons_of_mem _ (List.mem_cons_of_mem _ List.mem_cons_self))).1
              clear h8 HHE bx H5
              go_wp2
              go_loop [97] (fun i => ∃ j : Nat, j ≤ q ∧ i = .int .i64 j) (fun i => q - (intOf i).toNat)
              case atStart => exact ⟨0, Nat.zero_le _, rfl⟩
              case round =>
                obtain ⟨i, hi, rfl⟩ := hrel
                by_cases hiq : i < q
                · obtain ⟨nn, hnn⟩ := HLQ.out i hiq
                  have hhn := HMH.out i nn hnn
                  obtain ⟨b9, o9, rfl, hb9, hc9⟩ := (H8.out.told List.mem_cons_self) i nn hnn
                  have HH := Lib.hid (Holder_l1 H8.out nn (isI_mutex H8.out.fit hhn))
                  rw [hhn] at HH
                  clear hnn hhn
                  have hi0 : (0 : Int) ≤ (i : Int) := by omega
                  have hi1 : (i : Int) < (q : Int) := by omega
                  go_wp2_with fail
                  refine HH.out.mono ?_
                  rintro e w9 ⟨rfl, rfl⟩
                  go_wp2
                  go_round
                  case rel => exact ⟨i + 1, by omega, by go_num⟩
                  case measure => simp [intOf]; omega
                · obtain rfl : i = q := by omega
                  have H9 := Lib.hid (H8.out.less (ss := []) (fun _ h => by cases h))
                  clear H8
                  go_wp2
                  go_roundw
                  case rel => exact ⟨k + 1, gx, by omega, by go_num, H9.out⟩
                  case measure => simp [intOf]; omega
    · obtain rfl : k = zs.length := by omega
      have HBL := Lib.hid (Below.next HB1.out hL.below)
      clear hL
      go_wp2
      go_ret
      exact ⟨rfl, HBL.out⟩

end Go.Proofs.Ytgfcpjkihbaapaa
