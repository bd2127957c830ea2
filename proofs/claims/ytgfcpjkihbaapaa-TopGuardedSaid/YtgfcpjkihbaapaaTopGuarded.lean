/- Data that are read and written only by who holds their mutex never clash (TopGuarded), walked. -/
import Derived.Test.YtgfcpjkihbaapaaTopBegins10
import Derived.Test.YtgfcpjkihbaapaaGrdPlain
import Derived.Test.YtgfcpjkihbaapaaGrdMem
import Derived.Test.YtgfcpjkihbaapaaLckRing
import Derived.Test.YtgfcpjkihbaapaaLawRows
namespace Go.Proofs.Ytgfcpjkihbaapaa
open Go.RowKit

theorem okW_of {v : Int} (h : 0 ≤ v ∧ v ≤ 64) : okW v = true := decide_eq_true h
theorem okN_of {v : Int} (h : 0 ≤ v ∧ v ≤ 4096) : okN v = true := decide_eq_true h

set_option maxRecDepth 100000 in
set_option maxHeartbeats 8000000 in
theorem TopGuarded_walk (A : Option Addr) (zs : List (Int × Int)) (c : Nat) (w : World) (hA : RdP2 w w.heap.size A zs) (hI : ∀ x ∈ zs, IsI x.1 ∧ IsI x.2) (hl : zs.length ≤ 9223372036854775807) (_ : zs.length ≤ c) (_ : A = none → c = 0) :
    Calls Try.prog 8 #[.slice A zs.length c] w fun e w' => e = .returned (.bool true) ∧ Below w.heap.size w w' := by
  by_cases hlong : 60 < zs.length
  · have hi : (60 : Int) < (zs.length : Int) := by omega
    clear hA hI
    go_enter Try.func8, Try.ntmps8
    go_wp2_with fail
    refine (begins10_any _).mono ?_
    rintro e w1 ⟨rfl, hb1⟩
    go_wp2
    go_ret
    exact ⟨rfl, hb1⟩
  have hi : ¬ (60 : Int) < (zs.length : Int) := by omega
  have HI := Lib.hid hI
  clear hI
  go_enter Try.func8, Try.ntmps8
  go_wp2_with fail
  refine (begins10_any _).mono ?_
  rintro e w1 ⟨rfl, hb1⟩
  have HB1 := Lib.hid hb1
  have HA := Lib.hid (hA.below hb1)
  clear hb1 hA
  go_wp2_with fail
  refine (LckNew_any w1).mono ?_
  rintro e w2 ⟨B, bh, bw, rfl, hT, hb2, hM⟩
  have HN := Lib.hid (New_wt w1 B bh bw hT hb2 hM)
  clear hT hb2 hM
  go_wp2_with fail
  refine HN.out.mono ?_
  rintro e w3 ⟨Bx, rfl, h3⟩
  have H3 := Lib.hid h3
  clear h3 HN
  go_wp2
  go_loopw [22] (fun i wr => ∃ (k : Nat) (a : AX), k ≤ zs.length ∧ i = .int .i64 k ∧ WT w1 (8 * k) (3 * k) Bx a B bh bw newL [] wr ∧ Hid (Grd a ((k : Int) + 1))) (fun i _ => zs.length - (intOf i).toNat)
  case atStart => exact ⟨0, newA, Nat.zero_le _, rfl, H3.out, Grd.new⟩
  case round =>
    obtain ⟨k, a, hk, rfl, hW, HG⟩ := hrel
    by_cases hlt : k < zs.length
    · obtain ⟨d, hd⟩ : ∃ d, zs[k]? = some d := ⟨_, List.getElem?_eq_getElem hlt⟩
      have hii := HI.out d (List.mem_of_getElem? hd)
      obtain ⟨b, off, rfl, hbb, q0, q1⟩ := HA.out k d hd
      obtain ⟨v, m⟩ := d
      have hbw : b < w1.heap.size := Nat.lt_of_lt_of_le hbb HB1.out.size
      have r0 := (hW.below.cell (p := ⟨b, off + k * 2, none⟩) hbw).trans q0
      have r1 := (hW.below.cell (p := ⟨b, off + k * 2 + 1, none⟩) hbw).trans q1
      have HII := Lib.hid hii
      clear q0 q1 hd hii
      simp only at r0 r1
      have hkl : (k : Int) < (zs.length : Int) := by omega
      have hk0 : (0 : Int) ≤ (k : Int) := by omega
      have hk60 : k < 60 := by omega
      have HBX := Lib.hid (hW.box v m 90)
      clear hW
      by_cases hok : (0 ≤ v ∧ v ≤ 63) ∧ 0 ≤ m ∧ m ≤ 4096
      · obtain ⟨⟨hv0, hv1⟩, hm0, hm1⟩ := hok
        obtain ⟨q, rfl⟩ : ∃ q : Nat, v = (q : Int) := ⟨v.toNat, by omega⟩
        have hq : q < 65 := by omega
        have hqn : Hid ((q : Int) ≠ 64) := Lib.hid (by omega)
        have hov : Hid (okW (q : Int) = true) := Lib.hid (okW_of (by omega))
        have hom : Hid (okN m = true) := Lib.hid (okN_of (by omega))
        have hIq := HII.out.1
        have hIm := HII.out.2
        have hI64 : IsI 64 := isI_few (by decide)
        have HIq := Lib.hid hIq
        have HIm := Lib.hid hIm
        have HI64 := Lib.hid hI64
        clear hIq hIm hI64 HII
        have HM := Lib.hid (HG.out.load q m)
        have bx0 := (HBX.out.bx _ (List.mem_singleton.2 rfl)).2
        have HT := Lib.hid (Take_wt HBX.out LFit.new (by omega) (q : Int) m HIq.out HIm.out (turn_take hov.out hom.out))
        clear HG
        go_wp2_with fail
        refine HT.out.mono ?_
        rintro e w4 ⟨rfl, h4⟩
        have bx4 := (h4.bx _ (List.mem_singleton.2 rfl)).2
        have HT4 := Lib.hid (Take_wt h4 (turn_fit hov.out hom.out) (by omega) 64 m HI64.out HIm.out (turn_wait hom.out hqn.out))
        clear h4 HT bx0 HBX
        go_wp2_with fail
        refine HT4.out.mono ?_
        rintro e w5 ⟨rfl, h5⟩
        have bx5 := (h5.bx _ (List.mem_singleton.2 rfl)).2
        have HL := Lib.hid (Load_wt h5 q hq m HIm.out)
        clear h5 HT4 bx4
        generalize loadA a q m = a1 at *
        go_wp2_with fail
        refine HL.out.mono ?_
        rintro e w6 ⟨rfl, h6⟩
        have bx6 := (h6.bx _ (List.mem_singleton.2 rfl)).2
        have H6 := Lib.hid h6
        clear h6 HL bx5
        have h3c : k % 3 = 0 ∨ k % 3 = 1 ∨ k % 3 = 2 := by omega
        rcases h3c with h3c | h3c | h3c
        · have ht : (k : Int).tmod 3 = 0 := by rw [Int.tmod_eq_emod_of_nonneg hk0]; omega
          clear h3c
          have HWr := Lib.hid (Write_wt H6.out (by omega) q hq m HIm.out HM.out.clash)
          have HMw := Lib.hid (HM.out.write hq)
          clear H6 HM
          generalize writeA a1 q m = a3 at *
          go_wp2_with fail
          refine HWr.out.mono ?_
          rintro e w8 ⟨rfl, h8⟩
          have bx8 := (h8.bx _ (List.mem_singleton.2 rfl)).2
          have H8 := Lib.hid h8
          clear h8 HWr bx6
          have HX := H8
          have HMx := HMw
          clear H8 HMw
          have HM9 := Lib.hid (show Grd (storeA a3 q m) ((k : Int) + 1 + 1) from HMx.out.store)
          have HS := Lib.hid (Store_wt HX.out (by omega) q hq m HIm.out)
          clear HX HMx
          generalize storeA a3 q m = a9 at *
          go_wp2_with fail
          refine HS.out.mono ?_
          rintro e w9 ⟨rfl, h9⟩
          have bx9 := (h9.bx _ (List.mem_singleton.2 rfl)).2
          have HGV := Lib.hid (Give_wt h9 (q : Int) m HIq.out HIm.out (turn_give hqn.out))
          clear h9 HS bx8
          go_wp2_with fail
          refine HGV.out.mono ?_
          rintro e w10 ⟨rfl, h10⟩
          have bx10 := (h10.bx _ (List.mem_singleton.2 rfl)).2
          have HTK := Lib.hid (Take_wt h10 (turn_fit2 hov.out hom.out hqn.out) (by omega) 64 m HI64.out HIm.out (turn_then hom.out))
          clear h10 HGV bx9
          go_wp2_with fail
          refine HTK.out.mono ?_
          rintro e w11 ⟨rfl, h11⟩
          have bx11 := (h11.bx _ (List.mem_singleton.2 rfl)).2
          have HGE := Lib.hid (Give_wt h11 64 m HI64.out HIm.out (turn_end m))
          clear h11 HTK bx10
          go_wp2_with fail
          refine HGE.out.mono ?_
          rintro e w12 ⟨rfl, h12⟩
          have hfin := h12.drop.more (n' := 8 * (k + 1)) (m' := 3 * (k + 1)) (by omega) (by omega)
          clear h12 HGE bx11
          go_wp2
          go_roundw
          case rel => exact ⟨k + 1, a9, by omega, by go_num, hfin, HM9.out⟩
          case measure => simp [intOf]; omega
        · have ht : (k : Int).tmod 3 = 1 := by rw [Int.tmod_eq_emod_of_nonneg hk0]; omega
          clear h3c
          have HR := Lib.hid (Read_wt H6.out (by omega) q hq m HIm.out HM.out.hid)
          have HMr := Lib.hid HM.out.read
          clear H6 HM
          generalize readA a1 q m = a2 at *
          go_wp2_with fail
          refine HR.out.mono ?_
          rintro e w7 ⟨rfl, h7⟩
          have bx7 := (h7.bx _ (List.mem_singleton.2 rfl)).2
          have H7 := Lib.hid h7
          clear h7 HR bx6
          have HWr := Lib.hid (Write_wt H7.out (by omega) q hq m HIm.out HMr.out.clash)
          have HMw := Lib.hid (HMr.out.write hq)
          clear H7 HMr
          generalize writeA a2 q m = a3 at *
          go_wp2_with fail
          refine HWr.out.mono ?_
          rintro e w8 ⟨rfl, h8⟩
          have bx8 := (h8.bx _ (List.mem_singleton.2 rfl)).2
          have H8 := Lib.hid h8
          clear h8 HWr bx7
          have HX := H8
          have HMx := HMw
          clear H8 HMw
          have HM9 := Lib.hid (show Grd (storeA a3 q m) ((k : Int) + 1 + 1) from HMx.out.store)
          have HS := Lib.hid (Store_wt HX.out (by omega) q hq m HIm.out)
          clear HX HMx
          generalize storeA a3 q m = a9 at *
          go_wp2_with fail
          refine HS.out.mono ?_
          rintro e w9 ⟨rfl, h9⟩
          have bx9 := (h9.bx _ (List.mem_singleton.2 rfl)).2
          have HGV := Lib.hid (Give_wt h9 (q : Int) m HIq.out HIm.out (turn_give hqn.out))
          clear h9 HS bx8
          go_wp2_with fail
          refine HGV.out.mono ?_
          rintro e w10 ⟨rfl, h10⟩
          have bx10 := (h10.bx _ (List.mem_singleton.2 rfl)).2
          have HTK := Lib.hid (Take_wt h10 (turn_fit2 hov.out hom.out hqn.out) (by omega) 64 m HI64.out HIm.out (turn_then hom.out))
          clear h10 HGV bx9
          go_wp2_with fail
          refine HTK.out.mono ?_
          rintro e w11 ⟨rfl, h11⟩
          have bx11 := (h11.bx _ (List.mem_singleton.2 rfl)).2
          have HGE := Lib.hid (Give_wt h11 64 m HI64.out HIm.out (turn_end m))
          clear h11 HTK bx10
          go_wp2_with fail
          refine HGE.out.mono ?_
          rintro e w12 ⟨rfl, h12⟩
          have hfin := h12.drop.more (n' := 8 * (k + 1)) (m' := 3 * (k + 1)) (by omega) (by omega)
          clear h12 HGE bx11
          go_wp2
          go_roundw
          case rel => exact ⟨k + 1, a9, by omega, by go_num, hfin, HM9.out⟩
          case measure => simp [intOf]; omega
        · have ht : (k : Int).tmod 3 = 2 := by rw [Int.tmod_eq_emod_of_nonneg hk0]; omega
          clear h3c
          have HR := Lib.hid (Read_wt H6.out (by omega) q hq m HIm.out HM.out.hid)
          have HMr := Lib.hid HM.out.read
          clear H6 HM
          generalize readA a1 q m = a2 at *
          go_wp2_with fail
          refine HR.out.mono ?_
          rintro e w7 ⟨rfl, h7⟩
          have bx7 := (h7.bx _ (List.mem_singleton.2 rfl)).2
          have H7 := Lib.hid h7
          clear h7 HR bx6
          have HX := H7
          have HMx := HMr
          clear H7 HMr
          have HM9 := Lib.hid (show Grd (storeA a2 q m) ((k : Int) + 1 + 1) from HMx.out.store)
          have HS := Lib.hid (Store_wt HX.out (by omega) q hq m HIm.out)
          clear HX HMx
          generalize storeA a2 q m = a9 at *
          go_wp2_with fail
          refine HS.out.mono ?_
          rintro e w9 ⟨rfl, h9⟩
          have bx9 := (h9.bx _ (List.mem_singleton.2 rfl)).2
          have HGV := Lib.hid (Give_wt h9 (q : Int) m HIq.out HIm.out (turn_give hqn.out))
          clear h9 HS bx7
          go_wp2_with fail
          refine HGV.out.mono ?_
          rintro e w10 ⟨rfl, h10⟩
          have bx10 := (h10.bx _ (List.mem_singleton.2 rfl)).2
          have HTK := Lib.hid (Take_wt h10 (turn_fit2 hov.out hom.out hqn.out) (by omega) 64 m HI64.out HIm.out (turn_then hom.out))
          clear h10 HGV bx9
          go_wp2_with fail
          refine HTK.out.mono ?_
          rintro e w11 ⟨rfl, h11⟩
          have bx11 := (h11.bx _ (List.mem_singleton.2 rfl)).2
          have HGE := Lib.hid (Give_wt h11 64 m HI64.out HIm.out (turn_end m))
          clear h11 HTK bx10
          go_wp2_with fail
          refine HGE.out.mono ?_
          rintro e w12 ⟨rfl, h12⟩
          have hfin := h12.drop.more (n' := 8 * (k + 1)) (m' := 3 * (k + 1)) (by omega) (by omega)
          clear h12 HGE bx11
          go_wp2
          go_roundw
          case rel => exact ⟨k + 1, a9, by omega, by go_num, hfin, HM9.out⟩
          case measure => simp [intOf]; omega
      · have hc1 : v < 0 ∨ (¬ v < 0 ∧ 63 < v) ∨ (¬ v < 0 ∧ ¬ 63 < v ∧ m < 0) ∨ (¬ v < 0 ∧ ¬ 63 < v ∧ ¬ m < 0 ∧ 4096 < m) := by omega
        have bx0 := (HBX.out.bx _ (List.mem_singleton.2 rfl)).2
        have HF := Lib.hid (HBX.out.drop.more (n' := 8 * (k + 1)) (m' := 3 * (k + 1)) (by omega) (by omega))
        have HG2 : Hid (Grd a (((k + 1 : Nat) : Int) + 1)) := Lib.hid (HG.out.more (by omega))
        clear hok HBX HG
        rcases hc1 with h1 | ⟨h1, h2⟩ | ⟨h1, h2, h3⟩ | ⟨h1, h2, h3, h4⟩
        all_goals
          go_wp2
          go_roundw
          case rel => exact ⟨k + 1, a, by omega, by go_num, HF.out, HG2.out⟩
          case measure => simp [intOf]; omega
    · obtain rfl : k = zs.length := by omega
      have HC := Lib.hid (Clash_wt hW (by omega) HG.out.cl)
      clear hW
      go_wp2_with fail
      refine HC.out.mono ?_
      rintro e w4 ⟨A4, c4, rfl, h4⟩
      have HR := Lib.hid (Ring_any (.inr ⟨B, bh, bw, _, rfl, h4.tb⟩) LFit.new)
      rw [ring_none] at HR
      have HB4 := Lib.hid (Below.next HB1.out h4.below)
      clear h4 HC
      go_wp2_with fail
      refine HR.out.mono ?_
      rintro e w5 ⟨A5, c5, rfl, _, hb5⟩
      have HBF := Lib.hid (Below.next HB4.out hb5)
      clear hb5 HR
      go_wp2
      go_ret
      exact ⟨rfl, HBF.out⟩

end Go.Proofs.Ytgfcpjkihbaapaa
