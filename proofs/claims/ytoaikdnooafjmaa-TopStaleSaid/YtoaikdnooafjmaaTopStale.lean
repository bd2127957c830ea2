/- A ref that was dropped, and whose slot was freed, is never any id's again (TopStale), walked. -/
import Derived.Test.YtoaikdnooafjmaaStaleP
import Derived.Test.YtoaikdnooafjmaaStaleM
import Derived.Test.YtoaikdnooafjmaaHeldN
import Derived.Test.YtoaikdnooafjmaaLawChange
import Derived.Deep.AppendLies
import Derived.Lib.QuietBelow
namespace Go.Proofs.Ytoaikdnooafjmaa
open Go.RowKit

theorem info_ref_st : (Try.prog.info? 99).map (fun i => (i.zero, i.size, i.bytes)) = some (some (.agg #[.int .i64 0, .int .i64 0]), 2, 16) := by kernel_rfl
/-- Behind the first half of a round. -/
def Half (w1 : World) (N B C cs : Nat) (cm : Nat → Nat) (k : Nat) (tv : Value) (w : World) : Prop := ∃ (x : AR) (y : IX) (T : List (Int × Nat)), SD w1 k B x k C cs cm y tv T [] w ∧ Stl x y.L T ∧ T.length ≤ k ∧ x.st.length = N
set_option maxRecDepth 100000 in
set_option maxHeartbeats 16000000 in
theorem TopStale_walk (slots : Int) (A : Option Addr) (zs : List (Bool × Int)) (c : Nat) (w : World) (hA : RdCh w w.heap.size A zs) (hI : ∀ x ∈ zs, IsU x.2) (hl : zs.length ≤ 9223372036854775807) (_ : zs.length ≤ c) (_ : A = none → c = 0) :
    Calls Try.prog 10 #[.int .i64 slots, .slice A zs.length c] w fun e w' => e = .returned (.bool true) ∧ Below w.heap.size w w' := by
  have hmix : Try.prog.follows .mixedOrders = true := by kernel_rfl
  by_cases hgood : (1 ≤ slots ∧ slots ≤ 40) ∧ zs.length ≤ 80
  rotate_left 1
  · clear hA hI
    by_cases hbad : slots < 1 ∨ 4096 < slots
    · have HN := Lib.hid (fun W => arNew_not slots hbad W)
      go_enter Try.func10, Try.ntmps10
      go_wp2_with fail
      refine (begins11_any _).mono ?_
      rintro e w1 ⟨rfl, hb1⟩
      go_wp2_with fail
      refine (HN.out _).mono ?_
      rintro e w2 ⟨rfl, rfl⟩
      go_wp2_with fail
      refine (imNew_ij 8 (by omega) (by omega) _).mono ?_
      rintro e w3 ⟨C, cs, cm, rfl, h3⟩
      have HB3 := Lib.hid (Below.next hb1 h3.bel)
      clear hb1 h3 HN
      rcases hbad with h | h
      · go_wp2
        go_ret
        exact ⟨rfl, HB3.out⟩
      · have h1 : ¬ slots < 1 := by omega
        have h2 : 40 < slots := by omega
        go_wp2
        go_ret
        exact ⟨rfl, HB3.out⟩
    · obtain ⟨N, rfl⟩ : ∃ N : Nat, slots = (N : Int) := ⟨slots.toNat, by omega⟩
      have hN1 : 1 ≤ N := by omega
      have hN2 : N ≤ 4096 := by omega
      go_enter Try.func10, Try.ntmps10
      go_wp2_with fail
      refine (begins11_any _).mono ?_
      rintro e w1 ⟨rfl, hb1⟩
      go_wp2_with fail
      refine (arNew_aj N hN1 hN2 _).mono ?_
      rintro e w2 ⟨B, rfl, h2⟩
      go_wp2_with fail
      refine (imNew_ij 8 (by omega) (by omega) _).mono ?_
      rintro e w3 ⟨C, cs, cm, rfl, h3⟩
      have HB3 := Lib.hid (Below.next hb1 (Below.next h2.below h3.bel))
      clear hb1 h2 h3
      have n1 : ¬ (N : Int) < 1 := by omega
      by_cases hz : 80 < zs.length
      · have h1 : (80 : Int) < (zs.length : Int) := by omega
        by_cases h4 : 40 < N
        · have h4 : (40 : Int) < (N : Int) := by omega
          go_wp2
          go_ret
          exact ⟨rfl, HB3.out⟩
        · have h4 : ¬ (40 : Int) < (N : Int) := by omega
          go_wp2
          go_ret
          exact ⟨rfl, HB3.out⟩
      · have h1 : ¬ (80 : Int) < (zs.length : Int) := by omega
        have h4 : (40 : Int) < (N : Int) := by omega
        go_wp2
        go_ret
        exact ⟨rfl, HB3.out⟩
  obtain ⟨⟨hs1, hs2⟩, hz⟩ := hgood
  obtain ⟨N, rfl⟩ : ∃ N : Nat, slots = (N : Int) := ⟨slots.toNat, by omega⟩
  have hN1 : 1 ≤ N := by omega
  have hN2 : N ≤ 40 := by omega
  have hz1 : ¬ (80 : Int) < (zs.length : Int) := by omega
  have HI := Lib.hid hI
  clear hI
  obtain ⟨i0, hi0, hz0, hzz1, hz2⟩ := info_parts info_ref_st
  obtain ⟨i1, hi1, hy0, hy1, hy2⟩ := info_parts info_int_ar
  go_enter Try.func10, Try.ntmps10
  go_wp2_with fail
  refine (begins11_any _).mono ?_
  rintro e w1 ⟨rfl, hb1⟩
  have HB1 := Lib.hid hb1
  have HA := Lib.hid (hA.below hb1)
  clear hb1 hA
  go_wp2_with fail
  refine (arNew_aj N hN1 (by omega) _).mono ?_
  rintro e w2 ⟨B, rfl, h2⟩
  go_wp2_with fail
  refine (imNew_ij 8 (by omega) (by omega) _).mono ?_
  rintro e w3 ⟨C, cs, cm, rfl, h3⟩
  have H3 : Hid (Half w1 N B C cs cm 0 (.slice none 0 0) w3) := Lib.hid ⟨arNew N, imNew 8, [], ⟨(SM.new h2 h3).write (M := fun _ => False) Chg.refl (fun _ e => e.elim) (fun b e => by
    rcases e with e | ⟨p, hp, _⟩
    · cases e
    · cases hp), World.ownsRow_nil _ _ _ _, fun p hp => (by cases hp)⟩, Stl.new N, Nat.le_refl _, by simp [arNew]⟩
  clear h2 h3
  go_wp2
  go_loopw [9, 70] (fun tv i wr => ∃ k : Nat, k ≤ zs.length ∧ i = .int .i64 k ∧ Half w1 N B C cs cm k tv wr) (fun _ i _ => zs.length - (intOf i).toNat)
  case atStart => exact ⟨0, Nat.zero_le _, rfl, H3.out⟩
  case round =>
    clear H3
    obtain ⟨k, hk, rfl, hH⟩ := hrel
    by_cases hlt : k < zs.length
    · obtain ⟨x, y, T, hE, hS, hT, hN⟩ := hH
      obtain ⟨d, hd⟩ : ∃ d, zs[k]? = some d := ⟨_, List.getElem?_eq_getElem hlt⟩
      obtain ⟨b, off, rfl, hbb, q0, q1⟩ := HA.out k d hd
      have hU := HI.out d (List.mem_of_getElem? hd)
      obtain ⟨dr, id⟩ := d
      simp only at hU q0 q1
      have hbw : b < w1.heap.size := Nat.lt_of_lt_of_le hbb HB1.out.size
      have hbe := hE.sm.below0
      have r0 := (hbe.cell (p := ⟨b, off + k * 2, none⟩) hbw).trans q0
      have r1 := (hbe.cell (p := ⟨b, off + k * 2 + 1, none⟩) hbw).trans q1
      clear q0 q1 hd hbe
      have hkl : (k : Int) < (zs.length : Int) := by omega
      have hk0 : (0 : Int) ≤ (k : Int) := by omega
      have hk80 : k < 80 := by omega
      have HU := Lib.hid hU
      have HD := Lib.hid (hE.box [.bool dr, .int .u64 id] 155)
      have HSt := Lib.hid hS
      have HNx := Lib.hid hN
      clear hE hU hS hN
      generalize hbD : wr.heap.size = bD at HD
      obtain ⟨tA, tcp, rfl, _, _⟩ := ownSlice HD.out.row
      generalize hTl : T.length = tl at *
      have HTL := Lib.hid hTl
      clear hTl
      generalize hW : wr.alloc (.cells #[.bool dr, .int .u64 id] 155) = W0 at *
      have c0 : W0.cell? ⟨bD, 0, none⟩ = some (.bool dr) := HD.out.cell (p := (bD, [.bool dr, .int .u64 id])) (by simp) 0 rfl
      have c1 : W0.cell? ⟨bD, 1, none⟩ = some (.int .u64 id) := HD.out.cell (p := (bD, [.bool dr, .int .u64 id])) (by simp) 1 rfl
      go_upto_if 75 with (fail)
      go_cut [9, 70] from 70 to 197 (fun tv iv wc => iv = .int .i64 (k : Int) ∧ Half w1 N B C cs cm (k + 1) tv wc)
      case first =>
        cases dr with
        | true =>
          have HP := Lib.hid (HD.out.dr (by omega) HU.out)
          cases hh : imHas y id with
          | false =>
            rw [hh, drop_not hh, get_not hh] at HP
            go_wp2_with fail
            refine HP.out.mono ?_
            rintro e w3 ⟨rfl, h1⟩
            have HF : Hid (Half w1 N B C cs cm (k + 1) (.slice tA tl tcp) (w3.alloc (.cells #[.int .i64 0, .int .i64 0] 99))) := Lib.hid ⟨x, y, T, (((h1.box [.int .i64 0, .int .i64 0] 99).sub (fun p hp => (by cases hp))).more (Nat.le_succ k) (Nat.le_refl _)), HSt.out, by rw [HTL.out]; omega, HNx.out⟩
            clear h1 HP HD HSt HNx c0 c1
            go_wp2
            go_meet
            exact ⟨rfl, HF.out⟩
          | true =>
            obtain ⟨⟨s, g⟩, hsg⟩ : ∃ r, findI y.L id = some r := Option.ne_none_iff_exists'.1 (imHas_true hh)
            have hget : imGet y id = (s, g) := by unfold imGet; rw [hsg]; rfl
            have hdl : (imDrop y id).L = delI y.L id := by unfold imDrop; rw [if_pos hh]
            obtain ⟨gn, rfl, m1, m2, m3, hSt2⟩ := HSt.out.drop HD.out.sm.aj.fit HD.out.sm.ij.fit.rise hsg
            rw [hh, hget] at HP
            rw [← hdl] at hSt2
            have HS2 := Lib.hid hSt2
            have HN2 : Hid ((arFrX (arMvX (arMvX x s 3) s 4) s).st.length = N) := Lib.hid (by rw [arFr_len, arMv_len, arMv_len]; exact HNx.out)
            clear hSt2 hget hdl hsg HSt HNx
            go_wp2_with fail
            refine HP.out.mono ?_
            rintro e w3 ⟨rfl, h1⟩
            have H3 := Lib.hid (h1.box [.int .i64 s, .int .i64 (gn : Int)] 99)
            clear h1 HP HD c0 c1 hh
            generalize hR : w3.heap.size = R at H3
            have d0 : (w3.alloc (.cells #[.int .i64 s, .int .i64 (gn : Int)] 99)).cell? ⟨R, 0, none⟩ = some (.int .i64 s) := H3.out.cell (p := (R, [.int .i64 s, .int .i64 (gn : Int)])) (by simp) 0 rfl
            have HM := Lib.hid (H3.out.mv s 3)
            rw [m1] at HM
            go_wp2_with fail
            refine HM.out.mono ?_
            rintro e w4 ⟨rfl, h4⟩
            have H4 := Lib.hid h4
            clear h4 HM H3 d0
            have d0 : w4.cell? ⟨R, 0, none⟩ = some (.int .i64 s) := H4.out.cell (p := (R, [.int .i64 s, .int .i64 (gn : Int)])) (by simp) 0 rfl
            have HM := Lib.hid (H4.out.mv s 4)
            rw [m2] at HM
            go_wp2_with fail
            refine HM.out.mono ?_
            rintro e w5 ⟨rfl, h5⟩
            have H5 := Lib.hid h5
            clear h5 HM H4 d0
            have d0 : w5.cell? ⟨R, 0, none⟩ = some (.int .i64 s) := H5.out.cell (p := (R, [.int .i64 s, .int .i64 (gn : Int)])) (by simp) 0 rfl
            have HM := Lib.hid (H5.out.fr (by omega) s)
            rw [m3] at HM
            go_wp2_with fail
            refine HM.out.mono ?_
            rintro e w6 ⟨rfl, h6⟩
            have H6 := Lib.hid h6
            clear h6 HM H5 d0
            have d0 : w6.cell? ⟨R, 0, none⟩ = some (.int .i64 s) := H6.out.cell (p := (R, [.int .i64 s, .int .i64 (gn : Int)])) (by simp) 0 rfl
            have d1 : w6.cell? ⟨R, 1, none⟩ = some (.int .i64 (gn : Int)) := H6.out.cell (p := (R, [.int .i64 s, .int .i64 (gn : Int)])) (by simp) 1 rfl
            clear m1 m2 m3
            generalize arFrX (arMvX (arMvX x s 3) s 4) s = x2 at *
            generalize imDrop y id = y2 at *
            have HRW : Hid ((w6.alloc (.cells #[.int .i64 s, .int .i64 (gn : Int)] 99)).ownsRow 0 99 2 (.slice tA tl tcp) tl (cellsR T)) := Lib.hid (by have := H6.out.row.alloc (.cells #[.int .i64 s, .int .i64 (gn : Int)] 99); rw [HTL.out] at this; exact this)
            have HNW := Lib.hid (World.news_of_block (w := w6.alloc (.cells #[.int .i64 s, .int .i64 (gn : Int)] 99)) (B := w6.heap.size) (cs := #[.int .i64 s, .int .i64 (gn : Int)]) (t := 99) (fr := (0, 0)) (heap_alloc_last w6 _))
            have htl : tl ≤ 80 := by omega
            go_wp2_with (at_builtin; refine wpList_append_lies _ rfl _ _ 67 rfl 0 99 i0 _ 2 16 Try.underlying67 hi0 hz0 hzz1 hz2 rfl (by decide) (.slice tA tl tcp) tl (cellsR T) rfl HRW.out ⟨w6.heap.size, 0, none⟩ 1 1 [.int .i64 s, .int .i64 (gn : Int)] rfl rfl HNW.out (by simp [Value.oneCell']) (by decide) (by unfold maxLen; omega) (by omega) (by omega) (w6.heap.size + 1) (by simp) ?_; intro gg cap w8 hown8 hgrow hat hlt8)
            have HF : Hid (Half w1 N B C cs cm (k + 1) (.slice (some ⟨gg, 0, none⟩) (tl + 1) cap) w8) := Lib.hid ⟨x2, y2, T ++ [(s, gn)], H6.out.put (s := s) (g := gn) (below_new w6 (.cells #[.int .i64 s, .int .i64 (gn : Int)] 99)) hgrow HTL.out hown8 (by rw [World.size_alloc]; exact hat) hlt8, HS2.out, by rw [List.length_append, List.length_singleton, HTL.out]; omega, HN2.out⟩
            clear hown8 hgrow hat hlt8 H6 HRW HNW d0 d1 HS2 HN2
            go_meet
            exact ⟨rfl, HF.out⟩
        | false =>
          have HP := Lib.hid HD.out.al
          have HNA : Hid ((alX x).st.length = N) := Lib.hid (by rw [alX_len]; exact HNx.out)
          cases hb : alB x with
          | false =>
            have hSt2 := HSt.out.no hb
            rw [hb] at HP
            generalize hsa : (alS x : Int) = sa at *
            generalize hga : (alG x : Int) = ga at *
            go_wp2_with fail
            refine HP.out.mono ?_
            rintro e w3 ⟨rfl, h1⟩
            have HF : Hid (Half w1 N B C cs cm (k + 1) (.slice tA tl tcp) (w3.alloc (.cells #[.int .i64 sa, .int .i64 ga] 99))) := Lib.hid ⟨alX x, y, T, (((h1.box [.int .i64 sa, .int .i64 ga] 99).sub (fun p hp => (by cases hp))).more (Nat.le_succ k) (Nat.le_succ k)), hSt2, by rw [HTL.out]; omega, HNA.out⟩
            clear h1 HP HD HSt HNx c0 c1 hSt2 hsa hga hb
            go_wp2
            go_meet
            exact ⟨rfl, HF.out⟩
          | true =>
            have hbk := HSt.out.back HD.out.sm.aj.fit hb
            have hpt := fun hn => HSt.out.put (id := id) HD.out.sm.aj.fit hb hn
            have HBK := Lib.hid hbk
            have HPT := Lib.hid hpt
            rw [hb] at HP
            clear hb hbk hpt
            generalize hsa : (alS x : Int) = sa at *
            generalize hga : (alG x : Int) = ga at *
            generalize alX x = x2 at *
            clear hsa hga HSt HNx
            go_wp2_with fail
            refine HP.out.mono ?_
            rintro e w3 ⟨rfl, h1⟩
            have H3 := Lib.hid (h1.box [.int .i64 sa, .int .i64 ga] 99)
            clear h1 HP HD c0 c1
            generalize hR : w3.heap.size = R at H3
            have c1 : (w3.alloc (.cells #[.int .i64 sa, .int .i64 ga] 99)).cell? ⟨bD, 1, none⟩ = some (.int .u64 id) := H3.out.cell (p := (bD, [.bool false, .int .u64 id])) (by simp) 1 rfl
            have d0 : (w3.alloc (.cells #[.int .i64 sa, .int .i64 ga] 99)).cell? ⟨R, 0, none⟩ = some (.int .i64 sa) := H3.out.cell (p := (R, [.int .i64 sa, .int .i64 ga])) (by simp) 0 rfl
            have d1 : (w3.alloc (.cells #[.int .i64 sa, .int .i64 ga] 99)).cell? ⟨R, 1, none⟩ = some (.int .i64 ga) := H3.out.cell (p := (R, [.int .i64 sa, .int .i64 ga])) (by simp) 1 rfl
            have HM := Lib.hid (H3.out.pt (by omega) HU.out sa ga)
            cases hh : imHas y id with
            | true =>
              rw [hh, put_had hh] at HM
              go_wp2_with fail
              refine HM.out.mono ?_
              rintro e w4 ⟨rfl, h4⟩
              have H4 := Lib.hid h4
              clear h4 HM H3 c1 d0 d1 hh
              have d0 : w4.cell? ⟨R, 0, none⟩ = some (.int .i64 sa) := H4.out.cell (p := (R, [.int .i64 sa, .int .i64 ga])) (by simp) 0 rfl
              have HM := Lib.hid (H4.out.fr (by omega) sa)
              rw [HBK.out.1] at HM
              have HF1 : Hid (∀ w5, SD w1 (k + 1) B (arFrX x2 sa) (k + 1) C cs cm y (.slice tA tl tcp) T [(R, [.int .i64 sa, .int .i64 ga]), (bD, [.bool false, .int .u64 id])] w5 → Half w1 N B C cs cm (k + 1) (.slice tA tl tcp) w5) := Lib.hid fun w5 h5 => ⟨_, _, T, h5.sub (fun p hp => (by cases hp)), HBK.out.2, by rw [HTL.out]; omega, by rw [arFr_len]; exact HNA.out⟩
              go_wp2_with fail
              refine HM.out.mono ?_
              rintro e w5 ⟨rfl, h5⟩
              have HF := Lib.hid (HF1.out w5 h5)
              clear h5 HM H4 d0 HF1 HBK HPT
              go_wp2
              go_meet
              exact ⟨rfl, HF.out⟩
            | false =>
              have hpn := HPT.out (imHas_false.1 hh)
              have hpl : (imPut y id (sa, ga)).L = insI y.L id (sa, ga) := by unfold imPut; rw [if_neg (by rw [hh]; decide)]
              rw [← hpl] at hpn
              have HPN := Lib.hid hpn
              rw [hh] at HM
              clear hpn hpl HPT HBK
              go_wp2_with fail
              refine HM.out.mono ?_
              rintro e w4 ⟨rfl, h4⟩
              have H4 := Lib.hid h4
              clear h4 HM H3 c1 d0 d1 hh
              have d0 : w4.cell? ⟨R, 0, none⟩ = some (.int .i64 sa) := H4.out.cell (p := (R, [.int .i64 sa, .int .i64 ga])) (by simp) 0 rfl
              have HM := Lib.hid (H4.out.mv sa 2)
              rw [HPN.out.1] at HM
              have HF1 : Hid (∀ w5, SD w1 k B (arMvX x2 sa 2) (k + 1) C cs cm (imPut y id (sa, ga)) (.slice tA tl tcp) T [(R, [.int .i64 sa, .int .i64 ga]), (bD, [.bool false, .int .u64 id])] w5 → Half w1 N B C cs cm (k + 1) (.slice tA tl tcp) w5) := Lib.hid fun w5 h5 => ⟨_, _, T, (h5.sub (fun p hp => (by cases hp))).more (Nat.le_succ k) (Nat.le_refl _), HPN.out.2, by rw [HTL.out]; omega, by rw [arMv_len]; exact HNA.out⟩
              generalize imPut y id (sa, ga) = y2 at *
              go_wp2_with fail
              refine HM.out.mono ?_
              rintro e w5 ⟨rfl, h5⟩
              have HF := Lib.hid (HF1.out w5 h5)
              clear h5 HM H4 d0 HF1 HPN
              go_wp2
              go_meet
              exact ⟨rfl, HF.out⟩
      case rest =>
        clear HD HSt HNx HTL hT c0 c1 r0 r1 HU
        obtain ⟨rfl, x2, y2, T2, hE, hS, hT, hN⟩ := hcut
        obtain ⟨tA2, tc2, rfl, _, _⟩ := ownSlice hE.row
        obtain ⟨J, hJ, _⟩ := hE.sm.map
        have HL := Lib.hid (imList_ij hJ (by omega))
        have hRI := hE.sm.ij.fit.rise
        have hLL := hE.sm.ij.fit.len
        have HLN := Lib.hid (fun W (hb : Below wc.heap.size wc W) => imLen_ij (hE.later hb).sm.ij (by omega))
        have HCT := Lib.hid (fun v W (hb : Below wc.heap.size wc W) => arCount_aj (hE.later hb).sm.aj v)
        have HST1 := Lib.hid (fun v W (hb : Below wc.heap.size wc W) => arState_aj (hE.later hb).sm.aj v)
        have HGN1 := Lib.hid (fun v W (hb : Below wc.heap.size wc W) => arGen_aj (hE.later hb).sm.aj v)
        have HE := Lib.hid hE
        have hc2 : arCnt x2 2 = ((y2.L.length : Nat) : Int) := by rw [← hS.c2]; rfl
        obtain ⟨z0, hz0e⟩ : ∃ z0, x2.st.count 0 = z0 := ⟨_, rfl⟩
        have hc0 : arCnt x2 0 = (z0 : Int) := by rw [← hz0e]; rfl
        have hcz := hS.c0
        rw [hz0e, hN] at hcz
        have HSS := Lib.hid hS
        have HNN := Lib.hid hN
        clear hE hS hN hJ hz0e
        generalize hL : y2.L = L at *
        obtain ⟨ln, hln⟩ : ∃ ln, L.length = ln := ⟨_, rfl⟩
        rw [hln] at hc2 hcz hLL HLN HL
        have hC2 : Hid (∀ W, Below wc.heap.size wc W → Calls Try.prog 72 #[.pointer (some ⟨B, 0, none⟩), .int .i64 2] W fun e w' => e = .returned (.int .i64 (ln : Int)) ∧ Below W.heap.size W w') := Lib.hid fun W hb => (HCT.out 2 W hb).mono fun _ _ ⟨h1, h2⟩ => ⟨by rw [h1, hc2], by rw [← h2]; exact Below.refl _ _⟩
        have hC0 : Hid (∀ W, Below wc.heap.size wc W → Calls Try.prog 72 #[.pointer (some ⟨B, 0, none⟩), .int .i64 0] W fun e w' => e = .returned (.int .i64 (z0 : Int)) ∧ Below W.heap.size W w') := Lib.hid fun W hb => (HCT.out 0 W hb).mono fun _ _ ⟨h1, h2⟩ => ⟨by rw [h1, hc0], by rw [← h2]; exact Below.refl _ _⟩
        have hLEN : Hid (∀ W, Below wc.heap.size wc W → Calls Try.prog 83 #[.pointer (some ⟨C, 0, none⟩)] W fun e w' => e = .returned (.int .i64 (ln : Int)) ∧ Below W.heap.size W w') := Lib.hid fun W hb => (HLN.out W hb).mono fun _ _ ⟨h1, h2⟩ => ⟨h1, by rw [← h2]; exact Below.refl _ _⟩
        have HRI := Lib.hid hRI
        have HLN2 := Lib.hid hln
        have HZ := Lib.hid hcz
        have HY2 := Lib.hid hL
        clear HCT HLN hc2 hc0 hRI hln hL
        have hln80 : ln ≤ 80 := by omega
        have hNln : ln ≤ 40 := by omega
        clear hcz hLL
        generalize hTl : T2.length = tl at *
        have HTL := Lib.hid hTl
        have htl2 : tl ≤ 81 := by omega
        have HTK2 := Lib.hid hT
        clear hTl hT
        go_wp2_with fail
        refine HL.out.mono ?_
        rintro e w8 ⟨A1, c1, rfl, hr1, hb1⟩
        have HR := Lib.hid hr1
        have HB8 := Lib.hid hb1
        clear hr1 hb1 HL
        go_wp2
        go_loopw [16, 132] (fun uv iv wr => ∃ i : Nat, i ≤ ln ∧ iv = .int .i64 (i : Int) ∧ wr.ownsRow w8.heap.size 3 1 uv i (((L.take i).map (·.2.1)).map (Value.int .i64)) ∧ Below w8.heap.size w8 wr) (fun _ iv _ => ln - (intOf iv).toNat)
        case atStart => exact ⟨0, Nat.zero_le _, rfl, World.ownsRow_nil _ _ _ _, Below.refl _ _⟩
        case round =>
          obtain ⟨i, hi2, rfl, hown, hbw⟩ := hrel
          by_cases hil : i < ln
          · as_aux_lemma =>
            have hiL : i < L.length := by rw [HLN2.out]; exact hil
            obtain ⟨bl, rfl, _, hbl, n0, n1, n2⟩ := HR.out i _ (List.getElem?_eq_getElem hiL)
            have n0 := (hbw.cell (p := ⟨bl, i * 3, none⟩) hbl).trans n0
            have n1 := (hbw.cell (p := ⟨bl, i * 3 + 1, none⟩) hbl).trans n1
            have n2 := (hbw.cell (p := ⟨bl, i * 3 + 2, none⟩) hbl).trans n2
            have hTD := HSS.out.told (List.getElem_mem hiL)
            have hAP : ∀ j, (hj : j < i) → ((L[j]'(by omega)).2.1 == (L[i]).2.1) = false := fun j hj => by simpa using HSS.out.apart HRI.out hj hiL
            have htk : (L.take (i + 1)).map (·.2.1) = (L.take i).map (·.2.1) ++ [(L[i]).2.1] := by rw [List.take_succ_eq_append_getElem hiL, List.map_append]; rfl
            have HTK := Lib.hid htk
            have HAP : Hid (∀ j z, ((L.take i).map (·.2.1))[j]? = some z → (z == (L[i]).2.1) = false) := Lib.hid fun j z hz => by
              rw [List.getElem?_map, List.getElem?_take] at hz
              by_cases hj : j < i
              · rw [if_pos hj, List.getElem?_eq_getElem (by omega)] at hz
                simp only [Option.map_some, Option.some.injEq] at hz
                rw [← hz]
                exact hAP j hj
              · rw [if_neg hj] at hz
                simp at hz
            have HUL : Hid (((L.take i).map (·.2.1)).length = i) := Lib.hid (by rw [List.length_map, List.length_take]; omega)
            clear hAP htk
            generalize hU2e : (L.take (i + 1)).map (·.2.1) = U2 at *
            have HUE := Lib.hid hU2e
            clear hU2e
            generalize (L.take i).map (·.2.1) = U at *
            obtain ⟨e, he⟩ : ∃ e, L[i] = e := ⟨_, rfl⟩
            rw [he] at n0 n1 n2 hTD HTK HAP
            obtain ⟨eid, es, eg⟩ := e
            simp only at n0 n1 n2 hTD HTK HAP
            have HS1 : Hid (∀ W, Below wc.heap.size wc W → Calls Try.prog 68 #[.pointer (some ⟨B, 0, none⟩), .int .i64 es] W fun e w' => e = .returned (.int .i64 2) ∧ Below W.heap.size W w') := Lib.hid fun W hb => (HST1.out es W hb).mono fun _ _ ⟨h1, h2⟩ => ⟨by rw [h1, hTD.1], by rw [← h2]; exact Below.refl _ _⟩
            have HG1 : Hid (∀ W, Below wc.heap.size wc W → Calls Try.prog 70 #[.pointer (some ⟨B, 0, none⟩), .int .i64 es] W fun e w' => e = .returned (.int .i64 eg) ∧ Below W.heap.size W w') := Lib.hid fun W hb => (HGN1.out es W hb).mono fun _ _ ⟨h1, h2⟩ => ⟨by rw [h1, hTD.2.1], by rw [← h2]; exact Below.refl _ _⟩
            have HOLD := Lib.hid hTD.2.2
            clear hTD he HST1 HGN1 HR HSS HRI
            have hii : (i : Int) < (ln : Int) := by omega
            have hi0' : (0 : Int) ≤ (i : Int) := by omega
            obtain ⟨uA, ucp, rfl, _, _⟩ := ownSlice hown
            have HBX := Lib.hid (Bx.new wr [.int .u64 eid, .int .i64 es, .int .i64 eg] 157)
            have HOW := Lib.hid (hown.alloc (.cells #[.int .u64 eid, .int .i64 es, .int .i64 eg] 157))
            have HBW := Lib.hid (Below.next hbw (below_new wr (.cells #[.int .u64 eid, .int .i64 es, .int .i64 eg] 157)))
            have HNB : Hid (∀ q, (Value.slice uA i ucp).ownBlock = some q → q < wr.heap.size ∧ w8.heap.size ≤ q) := Lib.hid fun q e => ⟨(hown.lt q e).2, (hown.lt q e).1⟩
            have hsw := hbw.size
            clear hown hbw
            go_upto_region 28 with (fail)
            obtain ⟨X, hX⟩ : ∃ X, wr.heap.size = X := ⟨_, rfl⟩
            rw [hX] at HBX HNB hsw
            rw [hX]
            generalize wr.alloc (.cells #[.int .u64 eid, .int .i64 es, .int .i64 eg] 157) = W at *
            clear n0 n1 n2 hX
            have p1 := HBX.out.c 1 _ rfl
            have HRD : Hid (Rd (Value.int .i64) W W.heap.size uA U) := Lib.hid (Rd.of_own (e := 3) (base := w8.heap.size) (n := i) (cap := ucp) (f := Value.int .i64) HOW.out)
            go_wp2
            go_loop [138] (fun jv => ∃ j : Nat, j ≤ i ∧ jv = .int .i64 (j : Int)) (fun jv => i - (intOf jv).toNat)
            case atStart => exact ⟨0, Nat.zero_le _, rfl⟩
            case round =>
              obtain ⟨j, hj, rfl⟩ := hrel
              by_cases hji : j < i
              · obtain ⟨z, hz⟩ : ∃ z, U[j]? = some z := ⟨_, List.getElem?_eq_getElem (by rw [HUL.out]; exact hji)⟩
                obtain ⟨ub, uo, rfl, _, u0⟩ := HRD.out j z hz
                have hne := HAP.out j z hz
                have hjl : (j : Int) < (i : Int) := by omega
                have hj0 : (0 : Int) ≤ (j : Int) := by omega
                clear hz
                go_wp2
                go_round
                case rel => exact ⟨j + 1, by omega, by go_num⟩
                case measure => simp [intOf]; omega
              · obtain rfl : j = i := by omega
                clear HRD HAP
                have hi80 : j ≤ 40 := by omega
                have HOW2 := Lib.hid (HOW.out.alloc (.cells #[.int .i64 es] 3))
                have HNW : Hid (∀ q u, [Value.int .i64 es][q]? = some u → (W.alloc (.cells #[.int .i64 es] 3)).cell? (Addr.add ⟨W.heap.size, 0, none⟩ q) = some u) := Lib.hid fun q u hq => by
                  match q, hq with
                  | 0, hq => simp at hq; subst hq; simp [Addr.add]
                have HON : Hid (∀ u ∈ [Value.int .i64 es], u.oneCell' = true) := Lib.hid fun u hu => by simp at hu; subst hu; rfl
                have hWs : w8.heap.size ≤ (W.alloc (.cells #[.int .i64 es] 3)).heap.size := by rw [World.size_alloc]; have := HBW.out.size; omega
                go_upto_region 35 with (at_builtin; refine wpList_append_own _ rfl _ _ 38 rfl w8.heap.size 3 i1 (.int .i64 0) 1 8 Try.underlying38 hi1 hy0 hy1 hy2 rfl (by decide) (.slice uA j ucp) j (U.map (Value.int .i64)) rfl HOW2.out ⟨W.heap.size, 0, none⟩ 1 1 [.int .i64 es] rfl rfl HNW.out HON.out (by unfold maxLen; omega) (by omega) hWs ?_; intro v' w10 hown hgrow _; have HOWN := Lib.hid hown; have HGR := Lib.hid hgrow; clear hown hgrow)
                have hgX : some X ≠ (Value.slice uA j ucp).ownBlock := fun q => by have := (HNB.out X q.symm).1; omega
                have hB10 : Below w8.heap.size w8 w10 := (Below.next HBW.out (below_new W (.cells #[.int .i64 es] 3))).grown HGR.out hWs (fun q e => (HNB.out q e).2)
                have hbx1 := HBX.out.below (below_new W (.cells #[.int .i64 es] 3))
                have hbx : Bx w10 X [.int .u64 eid, .int .i64 es, .int .i64 eg] := by
                  have q := HGR.out.block X hbx1.lt hgX
                  exact ⟨Nat.lt_of_lt_of_le hbx1.lt HGR.out.size, fun i v hj => (World.cell?_of_block q).trans (hbx1.c i v hj), fun i => (World.frozen?_of_block q).trans (hbx1.f i)⟩
                have hU2 : w10.ownsRow w8.heap.size 3 1 v' (j + 1) (U2.map (Value.int .i64)) := by
                  have := HOWN.out
                  rw [HTK.out, List.map_append]
                  exact this
                have HOU := Lib.hid hU2
                have HB10 := Lib.hid hB10
                have HBC := Lib.hid (Below.next HB8.out hB10)
                have e1 := cell_regrown (hbx.c 1 _ rfl)
                have e2 := cell_regrown (hbx.c 2 _ rfl)
                have HX10 := Lib.hid hbx
                clear hU2 hB10 hbx hbx1 hgX HOWN HGR HOW HOW2 HNW HON HBX HBW HNB p1 HTK HUL
                refine wp_region_quiet_below hmix (by kernel_rfl) ?_
                repeat (go_big_quiet_step ((first
                  | (go_at_call 68; exact Calls.regrown_of (HS1.out _ (HBC.out.trans ((below_regrown _ _ _).mono HBC.out.size))))
                  | (go_at_call 70; exact Calls.regrown_of (HG1.out _ (HBC.out.trans ((below_regrown _ _ _).mono HBC.out.size)))))))
                refine wpQuiet_nil ?_
                intro _ hw'
                obtain ⟨⟨dq, osq⟩, hw''⟩ := hw'
                subst hw''
                have HBR := Lib.hid (below_regrown w10 dq osq)
                have HOU2 := Lib.hid (ownsRow_same HOU.out (fun g hg => HBR.out.block g (HOU.out.lt g hg).2))
                have HX11 := Lib.hid (HX10.out.below HBR.out)
                have HB11 := Lib.hid (HB10.out.trans (HBR.out.mono HB10.out.size))
                have HBC11 := Lib.hid (HBC.out.trans (HBR.out.mono HBC.out.size))
                clear e1 e2 HOU HX10 HB10 HBC HBR HS1 HG1
                generalize («Sort».grow (redrawn w10 dq) osq) = w11 at *
                have HSD := Lib.hid (HE.out.later HBC11.out)
                go_wp2
                go_loopw [173] (fun qv wr => ∃ q : Nat, q ≤ tl ∧ qv = .int .i64 (q : Int) ∧ Below w11.heap.size w11 wr) (fun qv _ => tl - (intOf qv).toNat)
                case atStart => exact ⟨0, Nat.zero_le _, rfl, Below.refl _ _⟩
                case round =>
                  obtain ⟨q, hq, rfl, hbq⟩ := hrel
                  by_cases hqt : q < tl
                  · obtain ⟨p, hp⟩ : ∃ p, T2[q]? = some p := ⟨_, List.getElem?_eq_getElem (by rw [HTL.out]; exact hqt)⟩
                    have hpn := HOLD.out p (List.mem_of_getElem? hp)
                    have hcl := cellsR_at T2 q p hp
                    have hrow := HSD.out.row
                    rw [HTL.out] at hrow
                    obtain ⟨ga, rfl, _, hga⟩ := ownPos hrow (by omega)
                    have y0 := (hbq.cell (p := ⟨ga, q * 2, none⟩) hga).trans ((hrow.cellAt (q * 2) (by omega)).trans hcl.1)
                    have y1 := (hbq.cell (p := ⟨ga, q * 2 + 1, none⟩) hga).trans ((hrow.cellAt (q * 2 + 1) (by omega)).trans hcl.2)
                    obtain ⟨ps, pg⟩ := p
                    simp only at y0 y1 hpn
                    have hX := HX11.out.below (hbq)
                    have hb2 := below_new wr (.cells #[.int .i64 ps, .int .i64 (pg : Int)] 99)
                    have z0' : wr.cell? ⟨X, 1, none⟩ = some (.int .i64 es) := hX.c 1 _ rfl
                    have z1' : wr.cell? ⟨X, 2, none⟩ = some (.int .i64 eg) := hX.c 2 _ rfl
                    have zr := hX.lt
                    have hql : (q : Int) < (tl : Int) := by omega
                    have hq0 : (0 : Int) ≤ (q : Int) := by omega
                    have HBI := Lib.hid (Below.next hbq hb2)
                    clear hp hcl hrow hbq hX hb2
                    by_cases hps : es = ps
                    · have hpg : (eg == (pg : Int)) = false := by have : ¬ eg = (pg : Int) := fun e => hpn ⟨hps, e⟩; simpa using this
                      subst hps
                      clear hpn
                      go_wp2
                      go_roundw
                      case rel => exact ⟨q + 1, by omega, by go_num, HBI.out⟩
                      case measure => simp [intOf]; omega
                    · have hps2 : (es == ps) = false := by simpa using hps
                      clear hpn hps
                      go_wp2
                      go_roundw
                      case rel => exact ⟨q + 1, by omega, by go_num, HBI.out⟩
                      case measure => simp [intOf]; omega
                  · obtain rfl : q = tl := by omega
                    have HF := Lib.hid (And.intro (ownsRow_same HOU2.out (fun g hg => hbq.block g (HOU2.out.lt g hg).2)) (HB11.out.trans (hbq.mono HB11.out.size)))
                    clear hbq HOU2 HB11 HX11 HBC11 HSD
                    go_wp2
                    go_roundw
                    case rel => exact ⟨j + 1, by omega, by go_num, by rw [HUE.out]; exact HF.out.1, HF.out.2⟩
                    case measure => simp [intOf]; omega
          · as_aux_lemma =>
            obtain rfl : i = ln := by omega
            have HB9 := Lib.hid (Below.next HB8.out hbw)
            clear hown hbw HST1 HGN1 HR HRI HLN2
            have hnz : (N : Int) - (i : Int) = (z0 : Int) := by have := HZ.out; omega
            have hnw : IntKind.i64.wrap ((N : Int) - (i : Int)) = (z0 : Int) := by rw [hnz, IntKind.wrap_i64]; have := HZ.out; omega
            have hzl : (z0 : Int) ≤ 40 := by have := HZ.out; omega
            clear HB8
            go_upto_region 44 with (fail)
            go_wp2_with fail
            refine (hC2.out _ HB9.out).mono ?_
            rintro e wa ⟨rfl, hba⟩
            have HBa := Lib.hid (Below.next HB9.out hba)
            clear hba
            go_wp2_with fail
            refine (hLEN.out _ HBa.out).mono ?_
            rintro e wb ⟨rfl, hbb⟩
            have HBb := Lib.hid (Below.next HBa.out hbb)
            clear hbb
            go_wp2_with fail
            refine (hC0.out _ HBb.out).mono ?_
            rintro e wd ⟨rfl, hbd⟩
            have HBd := Lib.hid (Below.next HBb.out hbd)
            clear hbd
            go_wp2_with fail
            refine (hLEN.out _ HBd.out).mono ?_
            rintro e we ⟨rfl, hbe⟩
            have HBe := Lib.hid (Below.next HBd.out hbe)
            clear hbe
            have HF : Hid (Half w1 N B C cs cm (k + 1) (.slice tA2 tl tc2) we) := Lib.hid ⟨x2, y2, T2, HE.out.later HBe.out, by rw [HY2.out]; exact HSS.out, by rw [HTL.out]; exact HTK2.out, HNN.out⟩
            clear HB9 HBa HBb HBd HBe hC2 hC0 hLEN HE HSS
            go_wp2
            go_roundw
            case rel => exact ⟨k + 1, by omega, by go_num, HF.out⟩
            case measure => simp [intOf]; omega
    · obtain ⟨x, y, T, hE, _⟩ := hH
      have HBE := Lib.hid (Below.next HB1.out hE.sm.below0)
      clear hE
      go_wp2
      go_ret
      exact ⟨rfl, HBE.out⟩

end Go.Proofs.Ytoaikdnooafjmaa
