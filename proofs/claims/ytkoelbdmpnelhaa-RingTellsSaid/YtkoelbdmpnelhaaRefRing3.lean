/- The document's ring (ganglionref23), by contract, third part: Check, Do, New, Locks. -/
import Derived.Test.YtkoelbdmpnelhaaRefRing2
namespace Go.Proofs.Ytkoelbdmpnelhaa
open Go.RowKit

set_option maxRecDepth 100000 in
set_option maxHeartbeats 4000000 in
theorem rfCheck_any {ws : List Int} {c : Nat} {A : Option Addr} {w : World} {B : Nat} (hA : Rd (Value.int .u64) w B A ws) (hB : B ≤ w.heap.size) (hI : U64L ws) :
    Calls Try.prog 64 #[.slice A ws.length c] w fun e w' => e = .returned (.int .i64 (errOf (chkW ws))) ∧ Below w.heap.size w w' := by
  by_cases h1 : ws.length < 1
  · have HE : Hid (errOf (chkW ws) = 7) := Lib.hid (by unfold chkW errOf; rw [decide_eq_false (by omega)]; rfl)
    have h1i : (ws.length : Int) < 1 := by omega
    clear hA hI
    generalize chkW ws = ch at *
    go_enter Try.func64, Try.ntmps64
    go_wp2
    go_ret
    exact ⟨ret_int HE.out.symm, Below.refl _ _⟩
  · have h1i : (1 : Int) ≤ (ws.length : Int) := by omega
    by_cases h2 : 4097 < ws.length
    · have HE : Hid (errOf (chkW ws) = 7) := Lib.hid (by unfold chkW errOf; rw [decide_eq_false (by omega)]; rfl)
      have h2i : (4097 : Int) < (ws.length : Int) := by omega
      clear hA hI h1
      generalize chkW ws = ch at *
      go_enter Try.func64, Try.ntmps64
      go_wp2
      go_ret
      exact ⟨ret_int HE.out.symm, Below.refl _ _⟩
    · have h2i : (ws.length : Int) ≤ 4097 := by omega
      have HT := Lib.hid (RfAtC.of (c := c) hA hB hI)
      have HA := Lib.hid hA
      have HI := Lib.hid hI
      have hl1 : 1 ≤ ws.length := by omega
      have hl2 : ws.length ≤ 4097 := by omega
      clear hA hI h1 h2
      go_enter Try.func64, Try.ntmps64
      go_wp2
      go_loopw [3, 23] (fun n i wr => ∃ k m : Nat, k ≤ ws.length ∧ m ≤ k ∧ i = .int .i64 (k : Int) ∧ n = .int .i64 (m : Int) ∧ Below w.heap.size w wr ∧ Hid (m = cntR (NW ws) k) ∧ Hid (FitTo ws k)) (fun _ i _ => ws.length - (intOf i).toNat)
      case atStart => exact ⟨0, 0, Nat.zero_le _, Nat.le_refl _, rfl, rfl, Below.refl _ _, rfl, ⟨rfl, fun j hj => absurd hj (Nat.not_lt_zero j)⟩⟩
      case round =>
        obtain ⟨k, m, hk, hmk, rfl, rfl, hbel, HM, HO⟩ := hrel
        by_cases hlt : k < ws.length
        · have hkl : (k : Int) < (ws.length : Int) := by omega
          have hk0 : (0 : Int) ≤ (k : Int) := by omega
          obtain ⟨b, off, rfl, hb, hc0⟩ := HA.out k _ (List.getElem?_eq_getElem hlt)
          have hc := (hbel.cell (p := ⟨b, off + k, none⟩) (Nat.lt_of_lt_of_le hb hB)).trans hc0
          have hx := HI.out _ (List.getElem_mem hlt)
          have HX := Lib.hid (List.getElem?_eq_getElem hlt)
          clear hc0
          generalize ws[k] = x at *
          have HR := Lib.hid (refRing_any x wr hx.1 hx.2)
          unfold ThreeOut at HR
          have HFB : Hid (foreignB x = ((ringD x).2.2 != 0)) := rfl
          generalize ringD x = d at *
          obtain ⟨d1, d2, y⟩ := d
          simp only at HR HFB
          have HB0 := Lib.hid hbel
          clear hbel hx
          cases hf : foreignB x with
          | true =>
            have HE := Lib.hid (chk_bad1 HX.out hf)
            rw [hf] at HFB
            have hyb : (y != 0) = true := HFB.out.symm
            clear hf HFB HX HM HO
            go_wp2_with fail
            refine HR.out.mono ?_
            rintro e w2 ⟨rfl, hb2⟩
            have hB2 := Below.next HB0.out hb2
            clear hb2
            go_wp2
            go_ret
            exact ⟨ret_int HE.out.symm, hB2⟩
          | false =>
            rw [hf] at HFB
            have hy0 : y = 0 := by have := HFB.out.symm; simpa using this
            subst hy0
            obtain ⟨n, p, en, ep, hnb, hpb, _⟩ := HT.out w (Below.refl _ _) (k : Int)
            obtain ⟨b2, q, eb, eq, hbb, hqb, _⟩ := HT.out w (Below.refl _ _) n
            have HC1 : Hid (∀ W, Below w.heap.size w W → Calls Try.prog 60 #[.slice (some ⟨b, off, none⟩) ws.length c, .int .i64 (k : Int)] W fun e w' => e = .returned (.tuple #[.int .i64 n, .int .i64 p]) ∧ Below W.heap.size W w') := Lib.hid fun W hW => by
              obtain ⟨b', q', eb', eq', _, _, h⟩ := HT.out W hW (k : Int)
              rw [← en, ← ep, eb', eq']
              exact h
            have HC2 : Hid (∀ W, Below w.heap.size w W → Calls Try.prog 60 #[.slice (some ⟨b, off, none⟩) ws.length c, .int .i64 n] W fun e w' => e = .returned (.tuple #[.int .i64 b2, .int .i64 q]) ∧ Below W.heap.size W w') := Lib.hid fun W hW => by
              obtain ⟨b', q', eb', eq', _, _, h⟩ := HT.out W hW n
              rw [← eb, ← eq, eb', eq']
              exact h
            have HPL : Hid (∀ W, Below w.heap.size w W → ∀ z, Calls Try.prog 129 #[.slice (some ⟨b, off, none⟩) ws.length c, .int .i64 z] W fun e w' => e = .returned (.bool (plc (NW ws) z)) ∧ Below W.heap.size W w') := Lib.hid fun W hW z => place_any (HT.out.later hW) z
            have HOK : Hid (okR (NW ws) (PW ws) (k : Int) = if 0 < (k : Int) ∧ n < 0 then decide (p = -1) else plc (NW ws) n && (plc (NW ws) p && decide (q = (k : Int)))) := Lib.hid (by unfold okR; rw [en, ep, eq])
            have HCN : Hid (cntR (NW ws) (k + 1) = m + if 0 < (k : Int) ∧ 0 ≤ n then 1 else 0) := Lib.hid (by rw [cntR_succ, en, ← HM.out])
            have HBAD := Lib.hid (fun h => chk_bad2 HI.out hlt h)
            have HGOOD := Lib.hid (fun h => HO.out.snoc HX.out hf h)
            clear en ep eb eq hf HFB HM HO HX
            have hm1 : (m : Int) ≤ 4097 := by omega
            have hm0 : (0 : Int) ≤ (m : Int) := by omega
            by_cases hA : 0 < (k : Int) ∧ n < 0
            · rw [if_pos hA] at HOK
              obtain ⟨hA1, hA2⟩ := hA
              by_cases hp : p = -1
              · subst hp
                have HG := Lib.hid (HGOOD.out (by rw [HOK.out]; rfl))
                have HC : Hid (m = cntR (NW ws) (k + 1)) := Lib.hid (by rw [HCN.out, if_neg (by omega)]; rfl)
                clear HOK HCN HBAD HGOOD HC2 HPL
                go_wp2_with fail
                refine HR.out.mono ?_
                rintro e w2 ⟨rfl, hb2⟩
                have hB2 := Below.next HB0.out hb2
                clear hb2
                go_wp2_with fail
                refine (HC1.out _ hB2).mono ?_
                rintro e w3 ⟨rfl, hb3⟩
                have hB3 := Below.next hB2 hb3
                clear hb3 hB2
                go_wp2
                go_roundw
                case rel => exact ⟨k + 1, m, by omega, by omega, by go_num, rfl, hB3, HC.out, HG.out⟩
                case measure => simp [intOf]; omega
              · have HE := Lib.hid (HBAD.out (by rw [HOK.out]; exact decide_eq_false hp))
                have hpb2 : (p != -1) = true := by rw [bne_iff_ne]; exact hp
                clear HOK HCN HBAD HGOOD HC2 HPL hp
                go_wp2_with fail
                refine HR.out.mono ?_
                rintro e w2 ⟨rfl, hb2⟩
                have hB2 := Below.next HB0.out hb2
                clear hb2
                go_wp2_with fail
                refine (HC1.out _ hB2).mono ?_
                rintro e w3 ⟨rfl, hb3⟩
                have hB3 := Below.next hB2 hb3
                clear hb3 hB2
                go_wp2
                go_ret
                exact ⟨ret_int HE.out.symm, hB3⟩
            · rw [if_neg hA] at HOK
              have hways : (¬ 0 < (k : Int)) ∨ (0 < (k : Int) ∧ 0 ≤ n) := by omega
              have HPN := Lib.hid (fun W hW => HPL.out W hW n)
              have HPP := Lib.hid (fun W hW => HPL.out W hW p)
              clear hA HPL
              cases h3 : plc (NW ws) n with
              | false =>
                have HE := Lib.hid (HBAD.out (by rw [HOK.out, h3]; rfl))
                rw [h3] at HPN
                clear HOK HCN HBAD HGOOD HC2 HPP h3
                rcases hways with h4 | ⟨h4, h5⟩
                all_goals
                  go_wp2_with fail
                  refine HR.out.mono ?_
                  rintro e w2 ⟨rfl, hb2⟩
                  have hB2 := Below.next HB0.out hb2
                  clear hb2
                  go_wp2_with fail
                  refine (HC1.out _ hB2).mono ?_
                  rintro e w3 ⟨rfl, hb3⟩
                  have hB3 := Below.next hB2 hb3
                  clear hb3 hB2
                  go_wp2_with fail
                  refine (HPN.out _ hB3).mono ?_
                  rintro e w4 ⟨rfl, hb4⟩
                  have hB4 := Below.next hB3 hb4
                  clear hb4 hB3
                  go_wp2
                  go_ret
                  exact ⟨ret_int HE.out.symm, hB4⟩
              | true =>
                rw [h3] at HPN
                cases h6 : plc (NW ws) p with
                | false =>
                  have HE := Lib.hid (HBAD.out (by rw [HOK.out, h3, h6]; rfl))
                  rw [h6] at HPP
                  clear HOK HCN HBAD HGOOD HC2 h3 h6
                  rcases hways with h4 | ⟨h4, h5⟩
                  all_goals
                    go_wp2_with fail
                    refine HR.out.mono ?_
                    rintro e w2 ⟨rfl, hb2⟩
                    have hB2 := Below.next HB0.out hb2
                    clear hb2
                    go_wp2_with fail
                    refine (HC1.out _ hB2).mono ?_
                    rintro e w3 ⟨rfl, hb3⟩
                    have hB3 := Below.next hB2 hb3
                    clear hb3 hB2
                    go_wp2_with fail
                    refine (HPN.out _ hB3).mono ?_
                    rintro e w4 ⟨rfl, hb4⟩
                    have hB4 := Below.next hB3 hb4
                    clear hb4 hB3
                    go_wp2_with fail
                    refine (HPP.out _ hB4).mono ?_
                    rintro e w5 ⟨rfl, hb5⟩
                    have hB5 := Below.next hB4 hb5
                    clear hb5 hB4
                    go_wp2
                    go_ret
                    exact ⟨ret_int HE.out.symm, hB5⟩
                | true =>
                  rw [h6] at HPP
                  by_cases hq : q = (k : Int)
                  · have HG := Lib.hid (HGOOD.out (by rw [HOK.out, h3, h6, decide_eq_true hq]; rfl))
                    have hqb2 : (q != (k : Int)) = false := by rw [bne_eq_false_iff_eq]; exact hq
                    clear HOK HBAD HGOOD h3 h6 hq
                    rcases hways with h4 | ⟨h4, h5⟩
                    · have HC : Hid (m = cntR (NW ws) (k + 1)) := Lib.hid (by rw [HCN.out, if_neg (by omega)]; rfl)
                      clear HCN
                      go_wp2_with fail
                      refine HR.out.mono ?_
                      rintro e w2 ⟨rfl, hb2⟩
                      have hB2 := Below.next HB0.out hb2
                      clear hb2
                      go_wp2_with fail
                      refine (HC1.out _ hB2).mono ?_
                      rintro e w3 ⟨rfl, hb3⟩
                      have hB3 := Below.next hB2 hb3
                      clear hb3 hB2
                      go_wp2_with fail
                      refine (HPN.out _ hB3).mono ?_
                      rintro e w4 ⟨rfl, hb4⟩
                      have hB4 := Below.next hB3 hb4
                      clear hb4 hB3
                      go_wp2_with fail
                      refine (HPP.out _ hB4).mono ?_
                      rintro e w5 ⟨rfl, hb5⟩
                      have hB5 := Below.next hB4 hb5
                      clear hb5 hB4
                      go_wp2_with fail
                      refine (HC2.out _ hB5).mono ?_
                      rintro e w6 ⟨rfl, hb6⟩
                      have hB6 := Below.next hB5 hb6
                      clear hb6 hB5
                      go_wp2
                      go_roundw
                      case rel => exact ⟨k + 1, m, by omega, by omega, by go_num, rfl, hB6, HC.out, HG.out⟩
                      case measure => simp [intOf]; omega
                    · have HC : Hid (m + 1 = cntR (NW ws) (k + 1)) := Lib.hid (by rw [HCN.out, if_pos ⟨h4, h5⟩])
                      clear HCN
                      go_wp2_with fail
                      refine HR.out.mono ?_
                      rintro e w2 ⟨rfl, hb2⟩
                      have hB2 := Below.next HB0.out hb2
                      clear hb2
                      go_wp2_with fail
                      refine (HC1.out _ hB2).mono ?_
                      rintro e w3 ⟨rfl, hb3⟩
                      have hB3 := Below.next hB2 hb3
                      clear hb3 hB2
                      go_wp2_with fail
                      refine (HPN.out _ hB3).mono ?_
                      rintro e w4 ⟨rfl, hb4⟩
                      have hB4 := Below.next hB3 hb4
                      clear hb4 hB3
                      go_wp2_with fail
                      refine (HPP.out _ hB4).mono ?_
                      rintro e w5 ⟨rfl, hb5⟩
                      have hB5 := Below.next hB4 hb5
                      clear hb5 hB4
                      go_wp2_with fail
                      refine (HC2.out _ hB5).mono ?_
                      rintro e w6 ⟨rfl, hb6⟩
                      have hB6 := Below.next hB5 hb6
                      clear hb6 hB5
                      go_wp2
                      go_roundw
                      case rel => exact ⟨k + 1, m + 1, by omega, by omega, by go_num, by go_num, hB6, HC.out, HG.out⟩
                      case measure => simp [intOf]; omega
                  · have HE := Lib.hid (HBAD.out (by rw [HOK.out, h3, h6, decide_eq_false hq]; rfl))
                    have hqb2 : (q != (k : Int)) = true := by rw [bne_iff_ne]; exact hq
                    clear HOK HCN HBAD HGOOD h3 h6 hq
                    rcases hways with h4 | ⟨h4, h5⟩
                    all_goals
                      go_wp2_with fail
                      refine HR.out.mono ?_
                      rintro e w2 ⟨rfl, hb2⟩
                      have hB2 := Below.next HB0.out hb2
                      clear hb2
                      go_wp2_with fail
                      refine (HC1.out _ hB2).mono ?_
                      rintro e w3 ⟨rfl, hb3⟩
                      have hB3 := Below.next hB2 hb3
                      clear hb3 hB2
                      go_wp2_with fail
                      refine (HPN.out _ hB3).mono ?_
                      rintro e w4 ⟨rfl, hb4⟩
                      have hB4 := Below.next hB3 hb4
                      clear hb4 hB3
                      go_wp2_with fail
                      refine (HPP.out _ hB4).mono ?_
                      rintro e w5 ⟨rfl, hb5⟩
                      have hB5 := Below.next hB4 hb5
                      clear hb5 hB4
                      go_wp2_with fail
                      refine (HC2.out _ hB5).mono ?_
                      rintro e w6 ⟨rfl, hb6⟩
                      have hB6 := Below.next hB5 hb6
                      clear hb6 hB5
                      go_wp2
                      go_ret
                      exact ⟨ret_int HE.out.symm, hB6⟩
        · obtain rfl : k = ws.length := by omega
          have HE := Lib.hid (chk_end HI.out hl1 hl2 HO.out)
          rw [← HM.out] at HE
          have HL := Lib.hid (rfList_n (HT.out.later hbel))
          have HB0 := Lib.hid hbel
          clear hbel HM HO
          go_wp2_with fail
          refine HL.out.mono ?_
          rintro e w2 ⟨LA, lc, rfl, _, _, A2, c2, _, _, hb2⟩
          have hB2 := Below.next HB0.out hb2
          clear hb2 HL
          generalize (lstW ws).length = len at *
          by_cases hm : len = m
          · rw [if_pos hm] at HE
            have hmb : ((len : Int) != (m : Int)) = false := by rw [bne_eq_false_iff_eq, hm]
            clear hm
            go_wp2
            go_ret
            exact ⟨ret_int HE.out.symm, hB2⟩
          · rw [if_neg hm] at HE
            have hmb : ((len : Int) != (m : Int)) = true := by rw [bne_iff_ne]; omega
            clear hm
            go_wp2
            go_ret
            exact ⟨ret_int HE.out.symm, hB2⟩
end Go.Proofs.Ytkoelbdmpnelhaa
