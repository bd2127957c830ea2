/- What is freed was retired when none had been pinned of the workers that are pinned still; what is retired is freed once, and in the end (EpochSafe), walked. -/
import Derived.Test.YtgfcpjkihbaapaaEpLives
import Derived.Test.YtgfcpjkihbaapaaEpES
import Derived.Test.YtgfcpjkihbaapaaSameInts
import Derived.Test.YtgfcpjkihbaapaaLawRows
namespace Go.Proofs.Ytgfcpjkihbaapaa
open Go.RowKit

set_option maxRecDepth 100000 in
set_option maxHeartbeats 16000000 in
theorem EpochSafe_walk (workers : Int) (A : Option Addr) (zs : List (Int × Int)) (c : Nat) (w : World) (hA : RdP2 w w.heap.size A zs) (hI : ∀ x ∈ zs, IsI x.1 ∧ IsI x.2) (hl : zs.length ≤ 9223372036854775807) (_ : zs.length ≤ c) (_ : A = none → c = 0) :
    Calls Try.prog 7 #[.int .i64 workers, .slice A zs.length c] w fun e w' => e = .returned (.bool true) ∧ Below w.heap.size w w' := by
  by_cases hlong : 200 < zs.length
  · have hi : (200 : Int) < (zs.length : Int) := by omega
    clear hA hI
    go_enter Try.func7, Try.ntmps7
    go_wp2_with fail
    refine (ep_lives_any _).mono ?_
    rintro e w1 ⟨rfl, hb1⟩
    go_wp2
    go_ret
    exact ⟨rfl, hb1⟩
  have hi : ¬ (200 : Int) < (zs.length : Int) := by omega
  by_cases hbad : workers < 1 ∨ 64 < workers
  · have hc1 : workers < 1 ∨ (¬ workers < 1 ∧ 64 < workers) := by omega
    have HN := Lib.hid (fun W => ENew_not workers hbad W)
    clear hA hI hbad
    rcases hc1 with h1 | ⟨h1, h2⟩
    all_goals
      go_enter Try.func7, Try.ntmps7
      go_wp2_with fail
      refine (ep_lives_any _).mono ?_
      rintro e w1 ⟨rfl, hb1⟩
      have HB1 := Lib.hid hb1
      clear hb1
      go_wp2_with fail
      refine (HN.out _).mono ?_
      rintro e w2 ⟨rfl, rfl⟩
      go_wp2
      go_ret
      exact ⟨rfl, HB1.out⟩
  obtain ⟨N, rfl⟩ : ∃ N : Nat, workers = (N : Int) := ⟨workers.toNat, by omega⟩
  have hN1 : 1 ≤ N := by omega
  have hN2 : N ≤ 64 := by omega
  have hN64 : (N : Int) ≤ 64 := by omega
  have hN0 : (1 : Int) ≤ (N : Int) := by omega
  have HI := Lib.hid hI
  clear hI hbad
  obtain ⟨i0, hi0, hz0, hz1, hz2⟩ := info_parts info_int
  go_enter Try.func7, Try.ntmps7
  go_wp2_with fail
  refine (ep_lives_any _).mono ?_
  rintro e w1 ⟨rfl, hb1⟩
  have HB1 := Lib.hid hb1
  have HA := Lib.hid (hA.below hb1)
  clear hb1 hA
  go_wp2_with fail
  refine (ENew_e1 N hN1 hN2 _).mono ?_
  rintro e w2 ⟨B, rfl, h2⟩
  have hmk := run_make (P := Try.prog) w2 38 3 i0 _ Try.underlying38 hi0 hz0 .i64 .i64 (N : Int) (N : Int) (by omega) (Int.le_refl _) (by rw [hz2]; omega) (by omega)
  rw [hz1] at hmk
  simp only [Int.toNat_natCast, Nat.mul_one] at hmk
  have HC : Hid (∀ j, j < N → (madeCells (Value.int .i64 0).cells N)[j]? = some (.int .i64 0)) := Lib.hid fun j hj => by
    unfold madeCells
    rw [Array.getElem?_map, Array.getElem?_range, if_pos hj]
    simp [Value.cells, Nat.mod_one]
  generalize madeCells (Value.int .i64 0).cells N = mc at *
  clear hz0 hz1 hz2 hi0
  have H3 : Hid (ES w1 0 B (newE N) w2.heap.size N (fun _ => 0) (.slice none 0 0) [] (.slice none 0 0) [] [] (w2.alloc (.cells mc 3))) := Lib.hid <| by
    have hh := heap_alloc_last w2 (.cells mc 3)
    refine ES.new (EJ.of_e1 h2) (below_new _ _) (Nat.le_refl _) (by simp) fun j hj => ⟨(cell_of_row _ _ j _ _ (0, 0) hh).trans (HC.out j hj), ?_⟩
    simp only [World.frozen?]
    rw [hh]
    simp
  clear h2 HC
  generalize w2.heap.size = PB at *
  go_wp2
  go_loopw [8, 9, 51] (fun s t i wr => ∃ (k : Nat) (x : EX) (ps : Nat → Int) (S T : List Int), k ≤ zs.length ∧ i = .int .i64 k ∧ ES w1 k B x PB N ps s S t T [] wr ∧ Hid (EI N k x ps S T)) (fun _ _ i _ => zs.length - (intOf i).toNat)
  case atStart => exact ⟨0, newE N, fun _ => 0, [], [], Nat.zero_le _, rfl, H3.out, EI.new N⟩
  case round =>
    obtain ⟨k, x, ps, S, T, hk, rfl, hE, HEI⟩ := hrel
    by_cases hlt : k < zs.length
    · obtain ⟨d, hd⟩ : ∃ d, zs[k]? = some d := ⟨_, List.getElem?_eq_getElem hlt⟩
      have hii := (HI.out d (List.mem_of_getElem? hd)).2
      obtain ⟨b, off, rfl, hbb, q0, q1⟩ := HA.out k d hd
      obtain ⟨kd, v⟩ := d
      have hbw : b < w1.heap.size := Nat.lt_of_lt_of_le hbb HB1.out.size
      have r0 := (hE.below.cell (p := ⟨b, off + k * 2, none⟩) hbw).trans q0
      have r1 := (hE.below.cell (p := ⟨b, off + k * 2 + 1, none⟩) hbw).trans q1
      have HII := Lib.hid hii
      have hSk := hE.ej.fit.ln
      have hSl : S.length ≤ k := by rw [HEI.out.s, List.length_map]; exact hSk
      have hTl : T.length ≤ k := by rw [HEI.out.t]; exact hSl
      clear q0 q1 hd hii hSk
      simp only at r0 r1 HII
      have hkl : (k : Int) < (zs.length : Int) := by omega
      have hk0 : (0 : Int) ≤ (k : Int) := by omega
      have hk200 : k < 200 := by omega
      have HBX := Lib.hid (hE.box kd v 73)
      clear hE
      have bx0 := HBX.out.bx _ (List.mem_singleton.2 rfl)
      by_cases k0 : kd = 0
      · subst k0
        have HL := Lib.hid (ELoad_es HBX.out v)
        have HE2 := Lib.hid (HEI.out.load v).more
        generalize loadX x v = x2 at *
        generalize loadV x v = xv at *
        clear HBX HEI
        go_wp2_with fail
        refine HL.out.mono ?_
        rintro e w4 ⟨rfl, h4⟩
        have H4 := Lib.hid (h4.drop.more (Nat.le_succ k))
        clear h4 HL bx0
        go_wp2
        go_roundw
        case rel => exact ⟨k + 1, x2, ps, S, T, by omega, by go_num, H4.out, HE2.out⟩
        case measure => simp [intOf]; omega
      by_cases k1 : kd = 1
      · subst k1
        have HP := Lib.hid (Pin_es HBX.out (by omega) v)
        have HF := Lib.hid HBX.out.ej.fit
        cases hpb : pinB x v with
        | false =>
          have HE2 := Lib.hid (HEI.out.pinNot hpb)
          rw [hpb] at HP
          generalize pinX x v = x2 at *
          clear HBX HEI HF hpb
          go_wp2_with fail
          refine HP.out.mono ?_
          rintro e w4 ⟨rfl, h4⟩
          have H4 := Lib.hid (h4.drop.more (Nat.le_succ k))
          clear h4 HP bx0
          go_wp2
          go_roundw
          case rel => exact ⟨k + 1, x2, ps, S, T, by omega, by go_num, H4.out, HE2.out⟩
          case measure => simp [intOf]; omega
        | true =>
          obtain ⟨q, rfl, hq, hpq, hE2⟩ := HEI.out.pin HF.out hpb
          have HE2 := Lib.hid hE2
          rw [hpb] at HP
          generalize pinX x (q : Int) = x2 at *
          have hq0 : (0 : Int) ≤ (q : Int) := by omega
          have hqN : (q : Int) < (N : Int) := by omega
          clear HBX HEI HF hpb hE2
          go_wp2_with fail
          refine HP.out.mono ?_
          rintro e w4 ⟨rfl, h4⟩
          have bx4 := h4.bx _ (List.mem_singleton.2 rfl)
          have pc4 := h4.pc q hq
          rw [hpq] at pc4
          have H4 := Lib.hid ((h4.setP hq ((k : Int) + 1)).drop.more (Nat.le_succ k))
          clear h4 HP bx0 hpq
          go_wp2
          go_roundw
          case rel => exact ⟨k + 1, x2, updP ps q ((k : Int) + 1), S, T, by omega, by go_num, H4.out, HE2.out⟩
          case measure => simp [intOf]; omega
      by_cases k2 : kd = 2
      · subst k2
        have HP := Lib.hid (Unpin_es HBX.out v)
        cases hpb : unpinB x v with
        | false =>
          have HE2 := Lib.hid (HEI.out.unpinNot hpb)
          rw [hpb] at HP
          generalize unpinX x v = x2 at *
          clear HBX HEI hpb
          go_wp2_with fail
          refine HP.out.mono ?_
          rintro e w4 ⟨rfl, h4⟩
          have H4 := Lib.hid (h4.drop.more (Nat.le_succ k))
          clear h4 HP bx0
          go_wp2
          go_roundw
          case rel => exact ⟨k + 1, x2, ps, S, T, by omega, by go_num, H4.out, HE2.out⟩
          case measure => simp [intOf]; omega
        | true =>
          obtain ⟨q, rfl, hq, hpq, hE2⟩ := HEI.out.unpin hpb
          have HE2 := Lib.hid hE2
          rw [hpb] at HP
          generalize unpinX x (q : Int) = x2 at *
          have hq0 : (0 : Int) ≤ (q : Int) := by omega
          have hqN : (q : Int) < (N : Int) := by omega
          clear HBX HEI hpb hE2
          go_wp2_with fail
          refine HP.out.mono ?_
          rintro e w4 ⟨rfl, h4⟩
          have bx4 := h4.bx _ (List.mem_singleton.2 rfl)
          have pc4 := h4.pc q hq
          obtain ⟨pq, hpq2⟩ : ∃ pq, ps q = pq := ⟨_, rfl⟩
          rw [hpq2] at pc4 hpq
          have hpq3 : (pq == 0) = false := beq_eq_false_iff_ne.2 hpq
          clear hpq
          have H4 := Lib.hid ((h4.setP hq 0).drop.more (Nat.le_succ k))
          clear h4 HP bx0 hpq2
          go_wp2
          go_roundw
          case rel => exact ⟨k + 1, x2, updP ps q 0, S, T, by omega, by go_num, H4.out, HE2.out⟩
          case measure => simp [intOf]; omega
      by_cases k3 : kd = 3
      · subst k3
        have HP := Lib.hid (Retire_es HBX.out (by omega) v HII.out)
        cases hpb : isRet x v with
        | true =>
          have HE2 := Lib.hid (HEI.out.retNot hpb)
          rw [hpb] at HP
          generalize retX x v = x2 at *
          clear HBX HEI hpb
          go_wp2_with fail
          refine HP.out.mono ?_
          rintro e w4 ⟨rfl, h4⟩
          have H4 := Lib.hid h4.drop
          clear h4 HP bx0
          go_wp2
          go_roundw
          case rel => exact ⟨k + 1, x2, ps, S, T, by omega, by go_num, H4.out, HE2.out⟩
          case measure => simp [intOf]; omega
        | false =>
          have HE2 := Lib.hid (HEI.out.ret hpb)
          rw [hpb] at HP
          generalize retX x v = x2 at *
          clear HBX HEI hpb
          go_wp2_with fail
          refine HP.out.mono ?_
          rintro e w4 ⟨rfl, h4⟩
          have bx4 := h4.bx _ (List.mem_singleton.2 rfl)
          have H4 := Lib.hid (h4.drop.later (below_new w4 (.cells #[.int .i64 v] 3)))
          obtain ⟨A7, c7, rfl, _, _, _⟩ := H4.out.sv.form
          obtain ⟨A8, c8, rfl, _, _, _⟩ := H4.out.tv.form
          obtain ⟨sl, hsl⟩ : ∃ sl, S.length = sl := ⟨_, rfl⟩
          obtain ⟨tl, htl⟩ : ∃ tl, T.length = tl := ⟨_, rfl⟩
          rw [hsl, htl] at H4
          rw [hsl, htl]
          clear h4 HP bx0
          go_upto_region 42 with (at_builtin; refine wpList_append_sub rfl _ _ rfl _ S rfl H4.out.sv ⟨w4.heap.size, 0, none⟩ v rfl (cell_of_row _ _ 0 _ _ (0, 0) (heap_alloc_last w4 _)) (by omega) sl hsl ?_; intro A5 c5 w5 HA5)
          have H5 := Lib.hid ((H4.out.putS HA5.out).later (below_new w5 (.cells #[.int .i64 ((k : Int) + 1)] 3)))
          clear HA5 H4
          go_wp2_with (at_builtin; refine wpList_append_sub rfl _ _ rfl _ T rfl H5.out.tv ⟨w5.heap.size, 0, none⟩ ((k : Int) + 1) rfl (cell_of_row _ _ 0 _ _ (0, 0) (heap_alloc_last w5 _)) (by omega) tl htl ?_; intro A6 c6 w6 HA6)
          have H6 := Lib.hid (H5.out.putT HA6.out)
          clear HA6 H5
          go_wp2
          go_roundw
          case rel => exact ⟨k + 1, x2, ps, S ++ [v], T ++ [(k : Int) + 1], by omega, by go_num, H6.out, HE2.out⟩
          case measure => simp [intOf]; omega
      by_cases k4 : kd = 4
      · subst k4
        have HL := Lib.hid (Look_es HBX.out (by omega))
        have HE2 := Lib.hid HEI.out.look.more
        generalize lookE x = x2 at *
        generalize lookB x = xv at *
        clear HBX HEI
        go_wp2_with fail
        refine HL.out.mono ?_
        rintro e w4 ⟨rfl, h4⟩
        have H4 := Lib.hid h4.drop
        clear h4 HL bx0
        go_wp2
        go_roundw
        case rel => exact ⟨k + 1, x2, ps, S, T, by omega, by go_num, H4.out, HE2.out⟩
        case measure => simp [intOf]; omega
      · obtain ⟨l, S', T0, T', hll, hS, hT, hT0, hE2, hno⟩ := HEI.out.free
        have HL := Lib.hid (Free_es HBX.out (by omega) (F := (freeL1 x).map (·.1)) (l := l) rfl (by rw [List.length_map]; exact hll.symm))
        have HE2 := Lib.hid hE2.more
        have HNO := Lib.hid hno
        have HFl : Hid (((freeL1 x).map (·.1)).length = l) := Lib.hid (by rw [List.length_map]; exact hll.symm)
        generalize (freeL1 x).map (·.1) = F at *
        generalize freeE x = x2 at *
        clear HBX HEI hll hno hE2
        go_wp2_with fail
        refine HL.out.mono ?_
        rintro e w4 ⟨A4, c4, rfl, hr4, h4⟩
        have HR4 := Lib.hid hr4
        have H4 := Lib.hid (h4.drop.more (Nat.le_succ k))
        have HS := Lib.hid hS
        have HT := Lib.hid hT
        have HT0 := Lib.hid hT0
        have hl200 : l ≤ 200 := by
          have := HFl.out
          have := congrArg List.length HS.out
          rw [List.length_append] at this
          omega
        clear h4 HL bx0 hr4 hS hT hT0
        go_wp2
        go_loopw [8, 9, 61] (fun s t i wr => ∃ j : Nat, j ≤ l ∧ i = .int .i64 j ∧ Hid (ES w1 (k + 1) B x2 PB N ps s (S.drop j) t (T.drop j) [] w4) ∧ Drawn w4 wr) (fun _ _ i _ => l - (intOf i).toNat)
        case atStart => exact ⟨0, Nat.zero_le _, rfl, H4.out, Drawn.refl⟩
        case round =>
          obtain ⟨j, hj, rfl, HE4, hdr⟩ := hrel
          by_cases hjl : j < l
          · obtain ⟨z, hz⟩ : ∃ z, F[j]? = some z := ⟨_, List.getElem?_eq_getElem (by rw [HFl.out]; exact hjl)⟩
            obtain ⟨u, hu⟩ : ∃ u, T0[j]? = some u := ⟨_, List.getElem?_eq_getElem (by rw [HT0.out]; exact hjl)⟩
            have hSz : S[j]? = some z := by rw [HS.out, List.getElem?_append_left (by rw [HFl.out]; exact hjl)]; exact hz
            have hTu : T[j]? = some u := by rw [HT.out, List.getElem?_append_left (by rw [HT0.out]; exact hjl)]; exact hu
            have hSd : S.drop j = z :: S.drop (j + 1) := drop_of_get hSz
            have hTd : T.drop j = u :: T.drop (j + 1) := drop_of_get hTu
            have h4 := HE4.out
            rw [hSd, hTd] at h4
            obtain ⟨g1, o1, p1, rfl, hp1, hm1, hc1, hs1⟩ := h4.sv.tail
            obtain ⟨g2, o2, p2, rfl, hp2, hm2, hc2, hs2⟩ := h4.tv.tail
            obtain ⟨b4, f4, rfl, _, hcz⟩ := HR4.out j z hz
            have hd1 := (hdr.cell _).trans hc1
            have hd2 := (hdr.cell _).trans hc2
            have hdz := (hdr.cell _).trans hcz
            have HPC := Lib.hid (fun i hi => ((hdr.cell _).trans (h4.pc i hi).1))
            have HNU := Lib.hid (fun i (hi : i < N) => HNO.out u (List.mem_of_getElem? hu) i hi)
            have HD := Lib.hid hdr
            have hj0 : (0 : Int) ≤ (j : Int) := by omega
            have hj1 : (j : Int) < (l : Int) := by omega
            obtain ⟨sl, hsl⟩ : ∃ sl, (S.drop (j + 1)).length + 1 = sl := ⟨_, rfl⟩
            obtain ⟨tl, htl⟩ : ∃ tl, (T.drop (j + 1)).length + 1 = tl := ⟨_, rfl⟩
            obtain ⟨sc, hsc⟩ : ∃ sc, p1 + 1 = sc := ⟨_, rfl⟩
            obtain ⟨tc, htc⟩ : ∃ tc, p2 + 1 = tc := ⟨_, rfl⟩
            have HEN := Lib.hid (h4.cut (hs1.cut1 hsl hsc) (hs2.cut1 htl htc) (by split <;> rfl) (by split <;> rfl))
            have hsl1 : (1 : Int) ≤ (sl : Int) := by omega
            have htl1 : (1 : Int) ≤ (tl : Int) := by omega
            have hsl0 : ¬ (sl : Int) = 0 := by omega
            have hsl2 : (0 : Int) < (sl : Int) := by omega
            have htl2 : (0 : Int) < (tl : Int) := by omega
            have hslm : sl ≤ sc := by omega
            have htlm : tl ≤ tc := by omega
            rw [hsl, htl, hsc, htc]
            clear h4 hs1 hs2 hc1 hc2 hcz hz hu hSz hTu hSd hTd hdr HE4 hp1 hp2 hm1 hm2 hsl htl hsc htc
            go_wp2
            go_loop [77] (fun i => ∃ r : Nat, r ≤ N ∧ i = .int .i64 r) (fun i => N - (intOf i).toNat)
            case atStart => exact ⟨0, Nat.zero_le _, rfl⟩
            case round =>
              obtain ⟨r, hr, rfl⟩ := hrel
              by_cases hrN : r < N
              · have hpc := HPC.out r hrN
                have hnu := HNU.out r hrN
                generalize ps r = pq at *
                have hr0 : (0 : Int) ≤ (r : Int) := by omega
                have hr1 : (r : Int) < (N : Int) := by omega
                by_cases hpp : 0 < pq
                · have hnu2 : ¬ pq < u := fun e => hnu ⟨hpp, e⟩
                  clear hnu
                  go_wp2
                  go_round
                  case rel => exact ⟨r + 1, by omega, by go_num⟩
                  case measure => simp [intOf]; omega
                · clear hnu
                  go_wp2
                  go_round
                  case rel => exact ⟨r + 1, by omega, by go_num⟩
                  case measure => simp [intOf]; omega
              · obtain rfl : r = N := by omega
                by_cases e1 : sc = 1
                all_goals
                  by_cases e2 : tc = 1
                  all_goals
                    first | rw [if_pos e1, show sc - 1 = 0 by omega] at HEN | rw [if_neg e1] at HEN
                    first | rw [if_pos e2, show tc - 1 = 0 by omega] at HEN | rw [if_neg e2] at HEN
                    go_wp2
                    go_quiet (fail)
                    go_wp2
                    go_roundw
                    case rel => exact ⟨j + 1, by omega, by go_num, HEN, HD.out.step _⟩
                    case measure => simp [intOf]; omega
          · obtain rfl : j = l := by omega
            have hd1 : S.drop j = S' := by rw [HS.out, List.drop_left' HFl.out]
            have hd2 : T.drop j = T' := by rw [HT.out, List.drop_left' HT0.out]
            have h5 := HE4.out.later (hdr.below w4.heap.size)
            rw [hd1, hd2] at h5
            have H5 := Lib.hid h5
            clear h5 hd1 hd2
            go_wp2
            go_roundw
            case rel => exact ⟨k + 1, x2, ps, S', T', by omega, by go_num, H5.out, HE2.out⟩
            case measure => simp [intOf]; omega
    · obtain rfl : k = zs.length := by omega
      have hz200 : zs.length ≤ 200 := by omega
      have HE := Lib.hid hE
      have HEU := Lib.hid HEI.out.ends
      clear hE HEI
      go_wp2
      go_loopw [181] (fun i wr => ∃ (r : Nat) (x : EX), r ≤ N ∧ i = .int .i64 r ∧ ES w1 zs.length B x PB N ps u8 S u9 T [] wr ∧ Hid (EU N r x S)) (fun i _ => N - (intOf i).toNat)
      case atStart => exact ⟨0, x, Nat.zero_le _, rfl, HE.out, HEU.out⟩
      case round =>
        obtain ⟨r, x3, hr, rfl, hE, HS3⟩ := hrel
        by_cases hrN : r < N
        · have hr0 : (0 : Int) ≤ (r : Int) := by omega
          have hr1 : (r : Int) < (N : Int) := by omega
          have HU := Lib.hid (Unpin_es hE (r : Int))
          have HS4 := Lib.hid (HS3.out.step hrN)
          generalize unpinX x3 (r : Int) = x4 at *
          generalize unpinB x3 (r : Int) = xb at *
          clear hE HS3
          go_wp2_with fail
          refine HU.out.mono ?_
          rintro e w5 ⟨rfl, h5⟩
          clear HU
          go_wp2
          go_roundw
          case rel => exact ⟨r + 1, x4, by omega, by go_num, h5, HS4.out⟩
          case measure => simp [intOf]; omega
        · obtain rfl : r = N := by omega
          have HL0 := Lib.hid (HS3.out.looks hE.ej.fit)
          have HE3 := Lib.hid hE
          clear hE HS3
          go_wp2
          go_loopw [190] (fun i wr => ∃ (q : Nat) (y : EX), q ≤ 4 * r ∧ i = .int .i64 q ∧ ES w1 (zs.length + q) B y PB r ps u8 S u9 T [] wr ∧ Hid (EL r x3 q y S)) (fun i _ => 4 * r - (intOf i).toNat)
          case atStart => exact ⟨0, x3, Nat.zero_le _, rfl, HE3.out, HL0.out⟩
          case round =>
            obtain ⟨q, y, hq, rfl, hE, HS5⟩ := hrel
            by_cases hqN : q < 4 * r
            · have hq1 : (q : Int) < 4 * (r : Int) := by omega
              have hq0 : (0 : Int) ≤ (q : Int) := by omega
              have HLK := Lib.hid (Look_es hE (by omega))
              have HS6 := Lib.hid (HS5.out.look hE.ej.fit.lk)
              clear hE HS5
              go_wp2_with fail
              refine HLK.out.mono ?_
              rintro e w6 ⟨rfl, h6⟩
              clear HLK
              go_wp2
              go_roundw
              case rel => exact ⟨q + 1, lookE y, by omega, by go_num, h6, HS6.out⟩
              case measure => simp [intOf]; omega
            · obtain rfl : q = 4 * r := by omega
              have hS200 : S.length ≤ 1000 := by
                rw [HS5.out.s, List.length_map]
                have := hE.ej.fit.ln
                omega
              have hff := HS5.out.free hE.ej.fit
              obtain ⟨sl, hsl⟩ : ∃ sl, S.length = sl := ⟨_, rfl⟩
              have HF := Lib.hid (Free_es hE (by omega) hff.1 hsl)
              have HLB := Lib.hid hff.2
              generalize freeE y = y2 at *
              obtain ⟨A5, c5, rfl, _, _, _⟩ := hE.sv.form
              rw [hsl] at HF
              rw [hsl]
              clear hE HS5 hff
              go_wp2_with fail
              refine HF.out.mono ?_
              rintro e w6 ⟨A6, c6, rfl, hr6, h6⟩
              have hr5 : Rd (Value.int .i64) w6 w6.heap.size A5 S := by
                obtain ⟨A9, c9, e9, _, _, r9⟩ := h6.sv.form
                injection e9 with e9
                rw [e9]
                exact r9
              have HSI := Lib.hid (SameInts_refl A6 A5 S c6 c5 w6 hr6 hr5 (by omega))
              have HLI := Lib.hid (fun W (hd : Drawn w6 W) => Limbo_ej (h6.later (hd.below w6.heap.size)).ej (by omega) (l := 0) (by rw [HLB.out]; rfl))
              have HB6 := Lib.hid (Below.next HB1.out h6.below)
              rw [hsl] at HSI
              clear HF hr6 h6 hr5
              go_wp2_with fail
              refine HSI.out.mono ?_
              rintro e w7 ⟨rfl, hdr⟩
              have HLI2 := Lib.hid (HLI.out w7 hdr)
              have HB7 := Lib.hid (HB6.out.trans (hdr.below w.heap.size))
              clear hdr
              go_wp2_with fail
              refine HLI2.out.mono ?_
              rintro e w8 ⟨A8, c8, rfl, _, hb8⟩
              have HBF := Lib.hid (Below.next HB7.out hb8)
              clear hb8 HLI HLI2 HSI
              go_wp2
              go_ret
              exact ⟨rfl, HBF.out⟩

end Go.Proofs.Ytgfcpjkihbaapaa
