/- Data that are handed on from worker to worker never clash, and do if one of them does not load (TopHanded), walked. -/
import Derived.Test.YtabcnmpnjnegdaaTopHandPlain
import Derived.Test.YtabcnmpnjnegdaaRacTwo
namespace Go.Proofs.Ytabcnmpnjnegdaa
open Go.RowKit

theorem W2.more {w0 w : World} {n m B1 B2 : Nat} {a1 a2 : AX} (h : W2 w0 n B1 a1 B2 a2 w) (hm : n ≤ m) : W2 w0 m B1 a1 B2 a2 w := by
  obtain ⟨Z, ρ1, X1, ρ2, X2, ⟨h1, r1⟩, ⟨h2, r2⟩, r⟩ := h
  exact ⟨Z, ρ1, X1, ρ2, X2, ⟨h1.more hm, r1⟩, ⟨h2.more hm, r2⟩, r⟩
theorem ClashLen {w0 w : World} {n B1 B2 l : Nat} {a1 a2 : AX} (h : W2 w0 n B1 a1 B2 a2 w) (hn : n ≤ 100000) (hl : a1.cl.length = l) :
    Calls Try.prog 33 #[.pointer (some ⟨B1, 0, none⟩)] w fun e w' => ∃ A c, e = .returned (.slice A l c) ∧ W2 w0 n B1 a1 B2 a2 w' := by
  subst hl
  exact (Clashes_w2 h hn).mono fun e w' ⟨A, c, he, _, hb⟩ => ⟨A, c, he, h.later hb⟩

set_option maxRecDepth 100000 in
set_option maxHeartbeats 8000000 in
theorem TopHanded_walk (A : Option Addr) (zs : List Int) (c : Nat) (lazy : Int) (w : World) (hA : Rd (Value.int .i64) w w.heap.size A zs) (hl : zs.length ≤ 9223372036854775807) (hc : zs.length ≤ c) (_ : A = none → c = 0) :
    Calls Try.prog 7 #[.slice A zs.length c, .int .i64 lazy] w fun e w' => e = .returned (.bool true) ∧ Below w.heap.size w w' := by
  by_cases hlong : 40 < zs.length
  · have hi : (40 : Int) < (zs.length : Int) := by omega
    clear hA
    go_enter Try.func7, Try.ntmps7
    go_wp2_with fail
    refine (begins9_any _).mono ?_
    rintro e w1 ⟨rfl, hb1⟩
    go_wp2
    go_ret
    exact ⟨rfl, hb1⟩
  have hi : ¬ (40 : Int) < (zs.length : Int) := by omega
  go_enter Try.func7, Try.ntmps7
  go_wp2_with fail
  refine (begins9_any _).mono ?_
  rintro e w1 ⟨rfl, hb1⟩
  have HB1 := Lib.hid hb1
  have HA := Lib.hid ((hA.below hb1).more hb1.size)
  clear hb1 hA
  go_wp2
  go_loop [21] (fun i => ∃ k : Nat, k ≤ zs.length ∧ i = .int .i64 k ∧ Hid (∀ j, j < k → ∃ q : Nat, zs[j]? = some (q : Int) ∧ q < 65)) (fun i => zs.length - (intOf i).toNat)
  case atStart => exact ⟨0, Nat.zero_le _, rfl, fun j hj => absurd hj (Nat.not_lt_zero j)⟩
  case round =>
    obtain ⟨k, hk, rfl, HP⟩ := hrel
    by_cases hlt : k < zs.length
    · obtain ⟨b, off, rfl, hbb, hcell⟩ := HA.out.at_ hlt
      have HZ := Lib.hid (List.getElem?_eq_getElem hlt)
      generalize zs[k] = z at *
      have hkl : (k : Int) < (zs.length : Int) := by omega
      have hk0 : (0 : Int) ≤ (k : Int) := by omega
      by_cases hz0 : z < 0
      · go_wp2
        go_ret
        exact ⟨rfl, HB1.out⟩
      · by_cases hz1 : 64 < z
        · have hz2 : 0 ≤ z := by omega
          go_wp2
          go_ret
          exact ⟨rfl, HB1.out⟩
        · have hz2 : 0 ≤ z := by omega
          have HP2 : Hid (∀ j, j < k + 1 → ∃ q : Nat, zs[j]? = some (q : Int) ∧ q < 65) := Lib.hid fun j hj => by
            rcases Nat.lt_succ_iff_lt_or_eq.1 hj with h | rfl
            · exact HP.out j h
            · exact ⟨z.toNat, by rw [HZ.out, Int.toNat_of_nonneg hz2], by omega⟩
          clear HP
          go_wp2
          go_round
          case rel => exact ⟨k + 1, by omega, by go_num, HP2⟩
          case measure => simp [intOf]; omega
    · obtain rfl : k = zs.length := by omega
      obtain ⟨ws, hws⟩ : ∃ ws : List Nat, ws = zs.map Int.toNat := ⟨_, rfl⟩
      have HWS : Hid (∀ j, j < zs.length → ∃ q : Nat, zs[j]? = some (q : Int) ∧ ws[j]? = some q ∧ q < 65) := Lib.hid fun j hj => by
        obtain ⟨q, h1, h2⟩ := HP.out j hj
        exact ⟨q, h1, by rw [hws, List.getElem?_map, h1]; simp, h2⟩
      have HWE := Lib.hid hws
      clear HP hws
      go_wp2_with fail
      refine (New_w1 w1).mono ?_
      rintro e w2 ⟨B1, rfl, h2⟩
      have H2 := Lib.hid (W1.two h2)
      clear h2
      go_wp2_with fail
      refine H2.out.mono ?_
      rintro e w3 ⟨B2, rfl, h3⟩
      have H3 := Lib.hid h3
      clear h3 H2
      go_wp2
      go_loopw [42] (fun i wr => ∃ (k : Nat) (a1 a2 : AX), k ≤ zs.length ∧ i = .int .i64 k ∧ W2 w1 (13 * k) B1 a1 B2 a2 wr ∧ Hid (HX k a1 ∧ HY ws lazy k a2)) (fun i _ => zs.length - (intOf i).toNat)
      case atStart => exact ⟨0, newA, newA, Nat.zero_le _, rfl, H3.out, HX.zero, HY.zero _ _⟩
      case round =>
        obtain ⟨k, a1, a2, hk, rfl, hW, HS⟩ := hrel
        by_cases hlt : k < zs.length
        · obtain ⟨q, hz, hwq, hq⟩ := HWS.out k hlt
          obtain ⟨b, off, rfl, hbb, hcell⟩ := HA.out k _ hz
          have hcell' : wr.cell? ⟨b, off + k, none⟩ = some (.int .i64 (q : Int)) := (hW.below.cell (p := ⟨b, off + k, none⟩) hbb).trans hcell
          have HWQ := Lib.hid hwq
          clear hz hwq hcell
          have hkl : (k : Int) < (zs.length : Int) := by omega
          have hk0 : (0 : Int) ≤ (k : Int) := by omega
          have hkI : IsI (k : Int) := isI_small (by omega)
          have h7 : IsI 7 := isI_small (by decide)
          -- what stands behind the loads
          have key : ∀ (b1 b2 : AX) (W : World), W2 w1 (13 * k + 2) B1 b1 B2 b2 W → HXk k q b1 → HYk ws lazy k q b2 → Hid (W2 w1 (13 * k + 2) B1 b1 B2 b2 W ∧ HX (k + 1) (storeA (writeA (readA b1 q 7) q 7) q k) ∧ HY ws lazy (k + 1) (storeA (writeA b2 q 7) q k)) :=
            fun b1 b2 W h1 h2 h3 => ⟨h1, h2.write hq, h3.write hq HWQ.out⟩
          have HK := Lib.hid key
          clear key
          by_cases hk1 : 0 < (k : Int)
          · have hsub : IntKind.i64.wrap ((k : Int) - 1) = (k : Int) - 1 := IntWalk.i64_in _ (by omega)
            have HL := Lib.hid (Load_w2 hW q hq ((k : Int) - 1) (isI_small (by omega)))
            clear hW
            go_wp2_with fail
            refine HL.out.mono ?_
            rintro e w4 ⟨rfl, h4⟩
            clear HL
            by_cases hlz : (k : Int) = lazy
            · have HF := Lib.hid (HK.out _ _ _ (h4.more (by omega)) (HS.out.1.load (by omega)) (HS.out.2.lazy hq HWQ.out))
              have hlz2 : ((k : Int) != lazy) = false := by simp [hlz]
              clear h4 HK hlz
              have HR := Lib.hid (Read_w2 HF.out.1 (by omega) q hq 7 h7)
              go_wp2_with fail
              refine HR.out.mono ?_
              rintro e w5 ⟨rfl, h5⟩
              have HR := Lib.hid (Write_w2 h5 (by omega) q hq 7 h7)
              clear h5
              go_wp2_with fail
              refine HR.out.mono ?_
              rintro e w6 ⟨rfl, h6⟩
              have HR := Lib.hid (Store_w2 h6 (by omega) q hq (k : Int) hkI)
              clear h6
              go_wp2_with fail
              refine HR.out.mono ?_
              rintro e w7 ⟨rfl, h7'⟩
              have HR := Lib.hid (Write_w2 h7'.swap (by omega) q hq 7 h7)
              clear h7'
              go_wp2_with fail
              refine HR.out.mono ?_
              rintro e w8 ⟨rfl, h8⟩
              have HR := Lib.hid (Store_w2 h8 (by omega) q hq (k : Int) hkI)
              clear h8
              go_wp2_with fail
              refine HR.out.mono ?_
              rintro e w9 ⟨rfl, h9⟩
              have H9 := Lib.hid (h9.swap.more (show 13 * k + 2 + 3 + 3 + 1 + 3 + 1 ≤ 13 * (k + 1) by omega))
              clear h9 HR
              go_wp2
              go_roundw
              case rel => exact ⟨k + 1, _, _, by omega, by go_num, H9.out, HF.out.2⟩
              case measure => simp [intOf]; omega
            · have HL2 := Lib.hid (Load_w2 h4.swap q hq ((k : Int) - 1) (isI_small (by omega)))
              have hld := HS.out.2.load (k := q) hlz ((k : Int) - 1)
              have HLD := Lib.hid hld
              have hlz2 : ((k : Int) != lazy) = true := by simp [hlz]
              clear h4 hlz hld
              go_wp2_with fail
              refine HL2.out.mono ?_
              rintro e w4' ⟨rfl, h4⟩
              have HF := Lib.hid (HK.out _ _ _ (h4.swap.more (by omega)) (HS.out.1.load (by omega)) HLD.out)
              clear h4 HK HL2 HLD
              have HR := Lib.hid (Read_w2 HF.out.1 (by omega) q hq 7 h7)
              go_wp2_with fail
              refine HR.out.mono ?_
              rintro e w5 ⟨rfl, h5⟩
              have HR := Lib.hid (Write_w2 h5 (by omega) q hq 7 h7)
              clear h5
              go_wp2_with fail
              refine HR.out.mono ?_
              rintro e w6 ⟨rfl, h6⟩
              have HR := Lib.hid (Store_w2 h6 (by omega) q hq (k : Int) hkI)
              clear h6
              go_wp2_with fail
              refine HR.out.mono ?_
              rintro e w7 ⟨rfl, h7'⟩
              have HR := Lib.hid (Write_w2 h7'.swap (by omega) q hq 7 h7)
              clear h7'
              go_wp2_with fail
              refine HR.out.mono ?_
              rintro e w8 ⟨rfl, h8⟩
              have HR := Lib.hid (Store_w2 h8 (by omega) q hq (k : Int) hkI)
              clear h8
              go_wp2_with fail
              refine HR.out.mono ?_
              rintro e w9 ⟨rfl, h9⟩
              have H9 := Lib.hid (h9.swap.more (show 13 * k + 2 + 3 + 3 + 1 + 3 + 1 ≤ 13 * (k + 1) by omega))
              clear h9 HR
              go_wp2
              go_roundw
              case rel => exact ⟨k + 1, _, _, by omega, by go_num, H9.out, HF.out.2⟩
              case measure => simp [intOf]; omega
          · have hk00 : k = 0 := by omega
            have HF := Lib.hid (HK.out _ _ _ (hW.more (by omega)) (by have := HS.out.1; rw [hk00] at this ⊢; exact this.first) (by
              have h1 := HS.out.2
              refine ⟨h1.1, h1.2.1, fun p hp hn _ => h1.2.2.1 p hp hn, fun _ h0 => by omega, h1.2.2.2.2⟩))
            clear hW HK hk00
            have HR := Lib.hid (Read_w2 HF.out.1 (by omega) q hq 7 h7)
            go_wp2_with fail
            refine HR.out.mono ?_
            rintro e w5 ⟨rfl, h5⟩
            have HR := Lib.hid (Write_w2 h5 (by omega) q hq 7 h7)
            clear h5
            go_wp2_with fail
            refine HR.out.mono ?_
            rintro e w6 ⟨rfl, h6⟩
            have HR := Lib.hid (Store_w2 h6 (by omega) q hq (k : Int) hkI)
            clear h6
            go_wp2_with fail
            refine HR.out.mono ?_
            rintro e w7 ⟨rfl, h7'⟩
            have HR := Lib.hid (Write_w2 h7'.swap (by omega) q hq 7 h7)
            clear h7'
            go_wp2_with fail
            refine HR.out.mono ?_
            rintro e w8 ⟨rfl, h8⟩
            have HR := Lib.hid (Store_w2 h8 (by omega) q hq (k : Int) hkI)
            clear h8
            go_wp2_with fail
            refine HR.out.mono ?_
            rintro e w9 ⟨rfl, h9⟩
            have H9 := Lib.hid (h9.swap.more (show 13 * k + 2 + 3 + 3 + 1 + 3 + 1 ≤ 13 * (k + 1) by omega))
            clear h9 HR
            go_wp2
            go_roundw
            case rel => exact ⟨k + 1, _, _, by omega, by go_num, H9.out, HF.out.2⟩
            case measure => simp [intOf]; omega
        · obtain rfl : k = zs.length := by omega
          have hx : a1.cl.length = 0 := by rw [HS.out.1.1]; rfl
          obtain ⟨ly, hly⟩ : ∃ l, a2.cl.length = l := ⟨_, rfl⟩
          have HX1 := Lib.hid (ClashLen hW (by omega) hx)
          have HY1 : Hid (∀ {W : World}, W2 w1 (13 * zs.length) B1 a1 B2 a2 W → Calls Try.prog 33 #[.pointer (some ⟨B2, 0, none⟩)] W fun e w' => ∃ A c, e = .returned (.slice A ly c) ∧ W2 w1 (13 * zs.length) B2 a2 B1 a1 w') := Lib.hid fun h => ClashLen h.swap (by omega) hly
          have HLY := Lib.hid hly
          have HWW := Lib.hid hW
          clear hx hly hW
          by_cases hl1 : 0 < lazy
          · by_cases hl2 : lazy < (zs.length : Int)
            · obtain ⟨l, rfl⟩ : ∃ l : Nat, lazy = (l : Int) := ⟨lazy.toNat, by omega⟩
              have hll : l < zs.length := by omega
              obtain ⟨y, hzy, hwy, hy⟩ := HWS.out l hll
              obtain ⟨b, off, rfl, hbb, hcy0⟩ := HA.out l _ hzy
              have hcy : wr.cell? ⟨b, off + l, none⟩ = some (.int .i64 (y : Int)) := (HWW.out.below.cell (p := ⟨b, off + l, none⟩) hbb).trans hcy0
              have HCJ : Hid (∀ j, j < l → ∃ x : Nat, ws[j]? = some x ∧ wr.cell? ⟨b, off + j, none⟩ = some (.int .i64 (x : Int))) := Lib.hid fun j hj => by
                obtain ⟨x, hzx, hwx, _⟩ := HWS.out j (by omega)
                obtain ⟨b', off', e, hb', hcx⟩ := HA.out j _ hzx
                injection e with e
                injection e with e1 e2
                subst e1 e2
                exact ⟨x, hwx, (HWW.out.below.cell (p := ⟨b, off + j, none⟩) hb').trans hcx⟩
              have HWY := Lib.hid hwy
              have hAl : Hid ((∀ j, j < l → ws[j]? ≠ some y) → 0 < ly) := Lib.hid fun hn => by
                have hal : Alone ws l := ⟨y, HWY.out, fun hm => by
                  obtain ⟨j, hj⟩ := List.mem_iff_getElem?.1 hm
                  rw [List.getElem?_take] at hj
                  split at hj
                  · rename_i hjl
                    exact hn j hjl hj
                  · cases hj⟩
                have hne := HS.out.2.2.2.2.2 l rfl (by omega) hal hll
                rw [← HLY.out]
                exact List.length_pos_iff.2 hne
              have hlc : (l : Int) ≤ (c : Int) := by omega
              have hl0 : (0 : Int) ≤ (l : Int) := by omega
              have hc0 : ¬ c = 0 := by omega
              have hlz : (l : Int) < (zs.length : Int) := hl2
              clear hzy hwy hcy0 HS HLY HWE
              go_wp2
              go_loop [11, 92] (fun v i => ∃ (j : Nat) (t : Bool), j ≤ l ∧ i = .int .i64 j ∧ v = .bool t ∧ Hid (t = true → ∀ q, q < j → ws[q]? ≠ some y)) (fun _ i => l - (intOf i).toNat)
              case atStart => exact ⟨0, true, Nat.zero_le _, rfl, rfl, fun _ q hq => absurd hq (Nat.not_lt_zero q)⟩
              case round =>
                obtain ⟨j, t, hj, rfl, rfl, HT⟩ := hrel
                by_cases hjl : j < l
                · obtain ⟨x, hwx, hcx⟩ := HCJ.out j hjl
                  have HWX := Lib.hid hwx
                  have hj0 : (0 : Int) ≤ (j : Int) := by omega
                  have hj1 : (j : Int) < (l : Int) := by omega
                  have hj2 : (j : Int) < (zs.length : Int) := by omega
                  clear hwx
                  cases t
                  · go_wp2
                    go_round
                    case rel => exact ⟨j + 1, false, by omega, by go_num, rfl, fun h => by cases h⟩
                    case measure => simp [intOf]; omega
                  · by_cases hxy : x = y
                    · have hne : ((x : Int) != (y : Int)) = false := by simp [hxy]
                      clear hxy
                      go_wp2
                      go_round
                      case rel => exact ⟨j + 1, false, by omega, by go_num, rfl, fun h => by cases h⟩
                      case measure => simp [intOf]; omega
                    · have hne : ((x : Int) != (y : Int)) = true := by simp; omega
                      have HT2 : Hid (true = true → ∀ q, q < j + 1 → ws[q]? ≠ some y) := Lib.hid fun _ q hq => by
                        rcases Nat.lt_succ_iff_lt_or_eq.1 hq with h | rfl
                        · exact HT.out rfl q h
                        · rw [HWX.out]
                          intro e
                          injection e with e
                          exact hxy e
                      clear hxy HT
                      go_wp2
                      go_round
                      case rel => exact ⟨j + 1, true, by omega, by go_num, rfl, HT2.out⟩
                      case measure => simp [intOf]; omega
                · obtain rfl : j = l := by omega
                  cases t
                  · go_wp2_with fail
                    refine HX1.out.mono ?_
                    rintro e w4 ⟨A4, c4, rfl, h4⟩
                    have HB4 := Lib.hid (Below.next HB1.out h4.below)
                    clear h4 HY1
                    go_wp2
                    go_ret
                    exact ⟨rfl, HB4.out⟩
                  · have hly0 := hAl.out (HT.out rfl)
                    have hly1 : (0 : Int) < (ly : Int) := by omega
                    go_wp2_with fail
                    refine HX1.out.mono ?_
                    rintro e w4 ⟨A4, c4, rfl, h4⟩
                    have HYY := Lib.hid (HY1.out h4)
                    clear h4 HY1 HX1
                    go_wp2_with fail
                    refine HYY.out.mono ?_
                    rintro e w5 ⟨A5, c5, rfl, h5⟩
                    have HB5 := Lib.hid (Below.next HB1.out h5.below)
                    clear h5 HYY
                    go_wp2
                    go_ret
                    exact ⟨rfl, HB5.out⟩
            · go_wp2_with fail
              refine HX1.out.mono ?_
              rintro e w4 ⟨A4, c4, rfl, h4⟩
              have HB4 := Lib.hid (Below.next HB1.out h4.below)
              clear h4 HY1
              go_wp2
              go_ret
              exact ⟨rfl, HB4.out⟩
          · go_wp2_with fail
            refine HX1.out.mono ?_
            rintro e w4 ⟨A4, c4, rfl, h4⟩
            have HB4 := Lib.hid (Below.next HB1.out h4.below)
            clear h4 HY1
            go_wp2
            go_ret
            exact ⟨rfl, HB4.out⟩

end Go.Proofs.Ytabcnmpnjnegdaa
