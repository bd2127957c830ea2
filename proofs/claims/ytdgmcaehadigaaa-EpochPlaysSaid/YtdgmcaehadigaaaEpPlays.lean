/- A clock of epochs tells what the document says (EpochPlays), walked. -/
import Derived.Test.YtdgmcaehadigaaaEpLives
import Derived.Test.YtdgmcaehadigaaaEpPlK
import Derived.Test.YtdgmcaehadigaaaRefEpSame
import Derived.Test.YtdgmcaehadigaaaSameInts
import Derived.Test.YtdgmcaehadigaaaLawRows
import Derived.Test.YtdgmcaehadigaaaHeldI
import Derived.Deep.CutBlock
namespace Go.Proofs.Ytdgmcaehadigaaa
open Go.RowKit

theorem RC.form {w : World} {Z : Nat → Prop} {V : Value} {y : EX} (h : RC w Z V y) : ∃ i0 A1 n1 c1 A2 n2 c2 A3 n3 c3 i4, V = .agg #[.int .i64 i0, .slice A1 n1 c1, .slice A2 n2 c2, .slice A3 n3 c3, .int .i64 i4] := by
  obtain ⟨A1, c1, A2, c2, A3, c3, rfl, _⟩ := h
  exact ⟨_, _, _, _, _, _, _, _, _, _, _, rfl⟩
theorem JS.form {w1 w : World} {k : Nat} {p : Value} {x y : EX} {D : Nat} {Vb Vd : Value} {F G : World → Prop} (h : JS w1 k p x D Vb Vd y F G w) : ∃ i0 A1 n1 c1 A2 n2 c2 A3 n3 c3 i4, Vd = .agg #[.int .i64 i0, .slice A1 n1 c1, .slice A2 n2 c2, .slice A3 n3 c3, .int .i64 i4] := by
  obtain ⟨Z, h1, h2, _⟩ := h
  exact h2.form
/-- Between two rounds: the program's clock and the document's say one thing. -/
def JHalf (w0 : World) (k : Nat) (p : Value) (D : Nat) (F : World → Prop) (w : World) : Prop := ∃ x V, JS w0 k p x D V V x F (fun _ => True) w
/-- Refs in memory. -/
def PV.refs (L : List (Int × Nat)) : PV := ⟨fun v W => ∃ A k, v = .slice A L.length k ∧ RdR W W.heap.size A L, fun _ _ _ hb ⟨A, k, e, hr⟩ => ⟨A, k, e, (hr.below hb).more hb.size⟩⟩
theorem np_loadS {o : Oper} {a : Act} {W : World} {s : Operand} {b k : Nat} {A : Option Addr} {n c : Nat} (ho : o.op = .load 67 s) (e : a.eval s = .pointer (some ⟨b, k, none⟩)) (h : W.cell? ⟨b, k, none⟩ = some (.slice A n c)) : (execOp a.eval o).run Try.prog W = .ok (.value (.slice A n c)) W := by
  simp only [execOp, ho, e]
  go_simp
def epDs (B D E : Nat) (A3 : Option Addr) (c3 : Nat) (x2 : EX) (v : Int) : List DI := [.c (.bool true), .c (.bool false), .c (.bool false), .c (.pointer (some ⟨B, 0, none⟩)), .c (.int .i64 (x2.e : Nat)), .c (.pointer (some ⟨D, 0, none⟩)), .c (.int .i64 (x2.e : Nat)), .c (.bool false), .c (.bool false), .c (.bool false), .c (.pointer (some ⟨B, 0, none⟩)), .c (.pointer (some ⟨E, 1, none⟩)), .c (.int .i64 v), .c (.int .i64 (recV x2 v : Nat)), .c (.int .i64 (recV x2 v : Nat)), .c (.bool false), .c (.bool false), .c (.bool false), .c (.pointer (some ⟨B, 0, none⟩)), .p (PV.refs x2.lb), .c (.pointer (some ⟨D, 3, none⟩)), .c (.slice A3 x2.lb.length c3), .c (.bool true), .c (.bool false), .c (.bool false)]
set_option maxRecDepth 100000 in
set_option maxHeartbeats 16000000 in
theorem EpochPlays_walk (workers : Int) (A : Option Addr) (zs : List (Int × Int)) (c : Nat) (w : World) (hA : RdP2 w w.heap.size A zs) (hI : ∀ x ∈ zs, IsI x.1 ∧ IsI x.2) (hl : zs.length ≤ 9223372036854775807) (_ : zs.length ≤ c) (_ : A = none → c = 0) :
    Calls Try.prog 5 #[.int .i64 workers, .slice A zs.length c] w fun e w' => e = .returned (.bool true) ∧ Below w.heap.size w w' := by
  have hmix : Try.prog.follows .mixedOrders = true := by kernel_rfl
  by_cases hlong : 60 < zs.length
  · have hi : (60 : Int) < (zs.length : Int) := by omega
    clear hA hI
    go_enter Try.func5, Try.ntmps5
    go_wp2_with fail
    refine (ep_lives_any _).mono ?_
    rintro e w1 ⟨rfl, hb1⟩
    go_wp2
    go_ret
    exact ⟨rfl, hb1⟩
  have hi : ¬ (60 : Int) < (zs.length : Int) := by omega
  by_cases hbad : workers < 1 ∨ 64 < workers
  · have HN := Lib.hid (fun W => ENew_not workers hbad W)
    have HN2 := Lib.hid (fun W => RNew_not workers hbad W)
    clear hA hI hbad
    go_enter Try.func5, Try.ntmps5
    go_wp2_with fail
    refine (HN.out _).mono ?_
    rintro e w1 ⟨rfl, rfl⟩
    go_wp2_with fail
    refine (HN2.out _).mono ?_
    rintro e w2 ⟨rfl, hb2⟩
    have HB2 := Lib.hid (Below.next hb2 (below_new w2 (.cells #[.int .i64 0, .slice none 0 0, .slice none 0 0, .slice none 0 0, .int .i64 0] 69)))
    clear hb2
    go_wp2_with fail
    refine (ep_lives_any _).mono ?_
    rintro e w3 ⟨rfl, hb3⟩
    have HB3 := Lib.hid (Below.next HB2.out hb3)
    clear hb3 HB2
    go_wp2
    go_ret
    exact ⟨rfl, HB3.out⟩
  obtain ⟨N, rfl⟩ : ∃ N : Nat, workers = (N : Int) := ⟨workers.toNat, by omega⟩
  have hN1 : 1 ≤ N := by omega
  have hN2 : N ≤ 64 := by omega
  have HI := Lib.hid hI
  have HA := Lib.hid hA
  clear hI hbad hA
  go_enter Try.func5, Try.ntmps5
  go_wp2_with fail
  refine (ENew_e1 N hN1 hN2 _).mono ?_
  rintro e w1 ⟨B, rfl, h1⟩
  go_wp2_with fail
  refine (RNew_any N hN1 hN2 _).mono ?_
  rintro e w2 ⟨V, rfl, hr, hb2⟩
  obtain ⟨i0, A1, n1, c1, A2, n2, c2, A3, n3, c3, i4, rfl⟩ := hr.form
  have H2 : Hid (JHalf w 0 (.pointer (some ⟨B, 0, none⟩)) w2.heap.size (fun _ => True) (w2.alloc (.cells #[.int .i64 i0, .slice A1 n1 c1, .slice A2 n2 c2, .slice A3 n3 c3, .int .i64 i4] 69))) := Lib.hid ⟨_, _, JS.start (EJ.of_e1 h1) hb2 hr _⟩
  clear h1 hb2 hr hN1 hN2
  go_wp2
  go_loopw [54] (fun i wr => ∃ k : Nat, k ≤ zs.length ∧ i = .int .i64 k ∧ JHalf w k (.pointer (some ⟨B, 0, none⟩)) w2.heap.size (fun _ => True) wr) (fun i _ => zs.length - (intOf i).toNat)
  case atStart => exact ⟨0, Nat.zero_le _, rfl, H2.out⟩
  case round =>
    clear H2
    obtain ⟨k, hk, rfl, x, V, hE⟩ := hrel
    generalize hX : w2.heap.size = D at *
    by_cases hlt : k < zs.length
    · obtain ⟨d, hd⟩ : ∃ d, zs[k]? = some d := ⟨_, List.getElem?_eq_getElem hlt⟩
      have hii := (HI.out d (List.mem_of_getElem? hd)).2
      obtain ⟨b, off, rfl, hbb, q0, q1⟩ := HA.out k d hd
      obtain ⟨kd, v⟩ := d
      simp only at hii q0 q1
      have r0 := (hE.belowJ.cell (p := ⟨b, off + k * 2, none⟩) hbb).trans q0
      have r1 := (hE.belowJ.cell (p := ⟨b, off + k * 2 + 1, none⟩) hbb).trans q1
      clear q0 q1 hd hX
      have hkl : (k : Int) < (zs.length : Int) := by omega
      have hk0 : (0 : Int) ≤ (k : Int) := by omega
      have HII := Lib.hid hii
      have HK : Hid (k ≤ 100000) := Lib.hid (by omega)
      have HK2 : Hid (k < 100000) := Lib.hid (by omega)
      have HD := Lib.hid (hE.newbox (.int .i64 kd) (.int .i64 v) 73)
      clear hE hii
      obtain ⟨E, hE⟩ : ∃ E, wr.heap.size = E := ⟨_, rfl⟩
      rw [hE] at HD
      go_upto_block 2 with (fail)
      generalize wr.alloc (.cells #[.int .i64 kd, .int .i64 v] 73) = W0 at *
      clear r0 r1 hE
      go_cut [11, 54] from 54 to 181 (fun bv iv wc => bv = .bool true ∧ iv = .int .i64 (k : Int) ∧ JHalf w (k + 1) (.pointer (some ⟨B, 0, none⟩)) D (Cells2 E (.int .i64 kd) (.int .i64 v)) wc)
      case first =>
        obtain ⟨j0, B1, m1, d1, B2, m2, d2, B3, m3, d3, j4, rfl⟩ := HD.out.form
        obtain ⟨_, g0, g1, g2, g3, g4, f0, f1, f2, f3, f4⟩ := HD.out.five
        obtain ⟨e0, e1⟩ := HD.out.fact
        obtain ⟨F9, hF9⟩ : ∃ F9, (freeL1 x).map (·.1) = F9 := ⟨_, rfl⟩
        obtain ⟨l9, hl9⟩ : ∃ l9, F9.length = l9 := ⟨_, rfl⟩
        have HLF := Lib.hid hl9
        have HF9 : Hid (F9.length ≤ 9223372036854775807) := Lib.hid (by
          have h1 := HD.out.fit.ln
          have h2 : F9.length ≤ x.lb.length := by
            rw [← hF9, List.length_map]
            exact (List.takeWhile_sublist _).length_le
          omega)
        clear hl9
        by_cases k0 : kd = 0
        · subst k0
          have HL := Lib.hid (Load_js HD.out v)
          have HP := Lib.hid (fun Vb Vd y G W (h : JS w k (.pointer (some ⟨B, 0, none⟩)) x D Vb Vd y (Cells2 E (.int .i64 0) (.int .i64 v)) G W) => PLoad_js h v)
          generalize loadV x v = xb at *
          generalize loadX x v = x2 at *
          clear HD
          go_wp2_with fail
          refine HL.out.mono ?_
          rintro e w4 ⟨V', rfl, h4⟩
          obtain ⟨i0, A1, n1, c1, A2, n2, c2, A3, n3, c3, i4, rfl⟩ := h4.form
          have H4 := Lib.hid (h4.later (below_new w4 (.cells #[.int .i64 i0, .slice A1 n1 c1, .slice A2 n2 c2, .slice A3 n3 c3, .int .i64 i4] 69)))
          have Y4 := Lib.hid (Five.new w4 (.int .i64 i0) (.slice A1 n1 c1) (.slice A2 n2 c2) (.slice A3 n3 c3) (.int .i64 i4) 69)
          clear h4 HL g0 g1 g2 g3 g4 f0 f1 f2 f3 f4 e0 e1
          go_upto_region 19 with (fail)
          generalize w4.alloc (.cells #[.int .i64 i0, .slice A1 n1 c1, .slice A2 n2 c2, .slice A3 n3 c3, .int .i64 i4] 69) = X4 at *
          generalize w4.heap.size = Y at *
          obtain ⟨_, g0, g1, g2, g3, g4, f0, f1, f2, f3, f4⟩ := H4.out.five
          obtain ⟨_, y0, y1, y2, y3, y4, _, _, _, _, _⟩ := Y4.out
          have H5 := Lib.hid H4.out.box
          clear H4 Y4
          go_upto_region 20 with (fail)
          generalize ((((X4.setCell ⟨D, 0, none⟩ (.int .i64 i0)).setCell ⟨D, 1, none⟩ (.slice A1 n1 c1)).setCell ⟨D, 2, none⟩ (.slice A2 n2 c2)).setCell ⟨D, 3, none⟩ (.slice A3 n3 c3)).setCell ⟨D, 4, none⟩ (.int .i64 i4) = X5 at *
          clear g0 g1 g2 g3 g4 f0 f1 f2 f3 f4 y0 y1 y2 y3 y4
          have HC := Lib.hid (HP.out _ _ _ _ _ H5.out)
          have e1 := H5.out.fact.2
          clear HP H5
          go_wp2_with fail
          refine HC.out.mono ?_
          rintro e w6 ⟨rfl, h6⟩
          have H6 := Lib.hid (h6.dropG.more (k' := k + 1) (by omega))
          clear h6 HC e1
          go_wp2_with fail
          go_meet
          exact ⟨rfl, rfl, x2, _, H6.out⟩
        by_cases k1 : kd = 1
        · subst k1
          have HL := Lib.hid (Pin_js HD.out HK.out v)
          have HP := Lib.hid (fun Vb Vd y G W (h : JS w k (.pointer (some ⟨B, 0, none⟩)) x D Vb Vd y (Cells2 E (.int .i64 1) (.int .i64 v)) G W) => PPin_js h HK2.out v)
          generalize pinB x v = xb at *
          generalize pinX x v = x2 at *
          clear HD
          go_wp2_with fail
          refine HL.out.mono ?_
          rintro e w4 ⟨V', rfl, h4⟩
          obtain ⟨i0, A1, n1, c1, A2, n2, c2, A3, n3, c3, i4, rfl⟩ := h4.form
          have H4 := Lib.hid (h4.later (below_new w4 (.cells #[.int .i64 i0, .slice A1 n1 c1, .slice A2 n2 c2, .slice A3 n3 c3, .int .i64 i4] 69)))
          have Y4 := Lib.hid (Five.new w4 (.int .i64 i0) (.slice A1 n1 c1) (.slice A2 n2 c2) (.slice A3 n3 c3) (.int .i64 i4) 69)
          clear h4 HL g0 g1 g2 g3 g4 f0 f1 f2 f3 f4 e0 e1
          go_upto_region 23 with (fail)
          generalize w4.alloc (.cells #[.int .i64 i0, .slice A1 n1 c1, .slice A2 n2 c2, .slice A3 n3 c3, .int .i64 i4] 69) = X4 at *
          generalize w4.heap.size = Y at *
          obtain ⟨_, g0, g1, g2, g3, g4, f0, f1, f2, f3, f4⟩ := H4.out.five
          obtain ⟨_, y0, y1, y2, y3, y4, _, _, _, _, _⟩ := Y4.out
          have H5 := Lib.hid H4.out.box
          clear H4 Y4
          go_upto_region 24 with (fail)
          generalize ((((X4.setCell ⟨D, 0, none⟩ (.int .i64 i0)).setCell ⟨D, 1, none⟩ (.slice A1 n1 c1)).setCell ⟨D, 2, none⟩ (.slice A2 n2 c2)).setCell ⟨D, 3, none⟩ (.slice A3 n3 c3)).setCell ⟨D, 4, none⟩ (.int .i64 i4) = X5 at *
          clear g0 g1 g2 g3 g4 f0 f1 f2 f3 f4 y0 y1 y2 y3 y4
          have HC := Lib.hid (HP.out _ _ _ _ _ H5.out)
          have e1 := H5.out.fact.2
          clear HP H5
          go_wp2_with fail
          refine HC.out.mono ?_
          rintro e w6 ⟨rfl, h6⟩
          have H6 := Lib.hid (h6.dropG.more (k' := k + 1) (by omega))
          clear h6 HC e1
          go_wp2_with fail
          go_meet
          exact ⟨rfl, rfl, x2, _, H6.out⟩
        by_cases k2 : kd = 2
        · subst k2
          have HL := Lib.hid (Unpin_js HD.out HK.out v)
          have HP := Lib.hid (fun Vb Vd y G W (h : JS w k (.pointer (some ⟨B, 0, none⟩)) x D Vb Vd y (Cells2 E (.int .i64 2) (.int .i64 v)) G W) => PUnpin_js h v)
          generalize unpinB x v = xb at *
          generalize unpinX x v = x2 at *
          clear HD
          go_wp2_with fail
          refine HL.out.mono ?_
          rintro e w4 ⟨V', rfl, h4⟩
          obtain ⟨i0, A1, n1, c1, A2, n2, c2, A3, n3, c3, i4, rfl⟩ := h4.form
          have H4 := Lib.hid (h4.later (below_new w4 (.cells #[.int .i64 i0, .slice A1 n1 c1, .slice A2 n2 c2, .slice A3 n3 c3, .int .i64 i4] 69)))
          have Y4 := Lib.hid (Five.new w4 (.int .i64 i0) (.slice A1 n1 c1) (.slice A2 n2 c2) (.slice A3 n3 c3) (.int .i64 i4) 69)
          clear h4 HL g0 g1 g2 g3 g4 f0 f1 f2 f3 f4 e0 e1
          go_upto_region 27 with (fail)
          generalize w4.alloc (.cells #[.int .i64 i0, .slice A1 n1 c1, .slice A2 n2 c2, .slice A3 n3 c3, .int .i64 i4] 69) = X4 at *
          generalize w4.heap.size = Y at *
          obtain ⟨_, g0, g1, g2, g3, g4, f0, f1, f2, f3, f4⟩ := H4.out.five
          obtain ⟨_, y0, y1, y2, y3, y4, _, _, _, _, _⟩ := Y4.out
          have H5 := Lib.hid H4.out.box
          clear H4 Y4
          go_upto_region 28 with (fail)
          generalize ((((X4.setCell ⟨D, 0, none⟩ (.int .i64 i0)).setCell ⟨D, 1, none⟩ (.slice A1 n1 c1)).setCell ⟨D, 2, none⟩ (.slice A2 n2 c2)).setCell ⟨D, 3, none⟩ (.slice A3 n3 c3)).setCell ⟨D, 4, none⟩ (.int .i64 i4) = X5 at *
          clear g0 g1 g2 g3 g4 f0 f1 f2 f3 f4 y0 y1 y2 y3 y4
          have HC := Lib.hid (HP.out _ _ _ _ _ H5.out)
          have e1 := H5.out.fact.2
          clear HP H5
          go_wp2_with fail
          refine HC.out.mono ?_
          rintro e w6 ⟨rfl, h6⟩
          have H6 := Lib.hid (h6.dropG.more (k' := k + 1) (by omega))
          clear h6 HC e1
          go_wp2_with fail
          go_meet
          exact ⟨rfl, rfl, x2, _, H6.out⟩
        by_cases k3 : kd = 3
        · subst k3
          have HL := Lib.hid (Retire_js HD.out HK.out v)
          have HP := Lib.hid (fun Vb Vd y G W (h : JS w k (.pointer (some ⟨B, 0, none⟩)) x D Vb Vd y (Cells2 E (.int .i64 3) (.int .i64 v)) G W) => PRetire_js h HK2.out v HII.out)
          generalize isRet x v = xb at *
          generalize retX x v = x2 at *
          clear HD
          go_wp2_with fail
          refine HL.out.mono ?_
          rintro e w4 ⟨V', rfl, h4⟩
          obtain ⟨i0, A1, n1, c1, A2, n2, c2, A3, n3, c3, i4, rfl⟩ := h4.form
          have H4 := Lib.hid (h4.later (below_new w4 (.cells #[.int .i64 i0, .slice A1 n1 c1, .slice A2 n2 c2, .slice A3 n3 c3, .int .i64 i4] 69)))
          have Y4 := Lib.hid (Five.new w4 (.int .i64 i0) (.slice A1 n1 c1) (.slice A2 n2 c2) (.slice A3 n3 c3) (.int .i64 i4) 69)
          clear h4 HL g0 g1 g2 g3 g4 f0 f1 f2 f3 f4 e0 e1
          go_upto_region 31 with (fail)
          generalize w4.alloc (.cells #[.int .i64 i0, .slice A1 n1 c1, .slice A2 n2 c2, .slice A3 n3 c3, .int .i64 i4] 69) = X4 at *
          generalize w4.heap.size = Y at *
          obtain ⟨_, g0, g1, g2, g3, g4, f0, f1, f2, f3, f4⟩ := H4.out.five
          obtain ⟨_, y0, y1, y2, y3, y4, _, _, _, _, _⟩ := Y4.out
          have H5 := Lib.hid H4.out.box
          clear H4 Y4
          go_upto_region 32 with (fail)
          generalize ((((X4.setCell ⟨D, 0, none⟩ (.int .i64 i0)).setCell ⟨D, 1, none⟩ (.slice A1 n1 c1)).setCell ⟨D, 2, none⟩ (.slice A2 n2 c2)).setCell ⟨D, 3, none⟩ (.slice A3 n3 c3)).setCell ⟨D, 4, none⟩ (.int .i64 i4) = X5 at *
          clear g0 g1 g2 g3 g4 f0 f1 f2 f3 f4 y0 y1 y2 y3 y4
          have HC := Lib.hid (HP.out _ _ _ _ _ H5.out)
          have e1 := H5.out.fact.2
          clear HP H5
          go_wp2_with fail
          refine HC.out.mono ?_
          rintro e w6 ⟨rfl, h6⟩
          have H6 := Lib.hid (h6.dropG.more (k' := k + 1) (by omega))
          clear h6 HC e1
          go_wp2_with fail
          go_meet
          exact ⟨rfl, rfl, x2, _, H6.out⟩
        by_cases k4 : kd = 4
        · subst k4
          have HL := Lib.hid (Look_js HD.out HK.out)
          have HP := Lib.hid (fun Vb Vd y G W (h : JS w k (.pointer (some ⟨B, 0, none⟩)) x D Vb Vd y (Cells2 E (.int .i64 4) (.int .i64 v)) G W) => PLook_js h HK2.out)
          generalize lookB x = xb at *
          generalize lookE x = x2 at *
          clear HD
          go_wp2_with fail
          refine HL.out.mono ?_
          rintro e w4 ⟨V', rfl, h4⟩
          obtain ⟨i0, A1, n1, c1, A2, n2, c2, A3, n3, c3, i4, rfl⟩ := h4.form
          have H4 := Lib.hid (h4.later (below_new w4 (.cells #[.int .i64 i0, .slice A1 n1 c1, .slice A2 n2 c2, .slice A3 n3 c3, .int .i64 i4] 69)))
          have Y4 := Lib.hid (Five.new w4 (.int .i64 i0) (.slice A1 n1 c1) (.slice A2 n2 c2) (.slice A3 n3 c3) (.int .i64 i4) 69)
          clear h4 HL g0 g1 g2 g3 g4 f0 f1 f2 f3 f4 e0 e1
          go_upto_region 35 with (fail)
          generalize w4.alloc (.cells #[.int .i64 i0, .slice A1 n1 c1, .slice A2 n2 c2, .slice A3 n3 c3, .int .i64 i4] 69) = X4 at *
          generalize w4.heap.size = Y at *
          obtain ⟨_, g0, g1, g2, g3, g4, f0, f1, f2, f3, f4⟩ := H4.out.five
          obtain ⟨_, y0, y1, y2, y3, y4, _, _, _, _, _⟩ := Y4.out
          have H5 := Lib.hid H4.out.box
          clear H4 Y4
          go_upto_region 36 with (fail)
          generalize ((((X4.setCell ⟨D, 0, none⟩ (.int .i64 i0)).setCell ⟨D, 1, none⟩ (.slice A1 n1 c1)).setCell ⟨D, 2, none⟩ (.slice A2 n2 c2)).setCell ⟨D, 3, none⟩ (.slice A3 n3 c3)).setCell ⟨D, 4, none⟩ (.int .i64 i4) = X5 at *
          clear g0 g1 g2 g3 g4 f0 f1 f2 f3 f4 y0 y1 y2 y3 y4
          have HC := Lib.hid (HP.out _ _ _ _ _ H5.out)
          have e1 := H5.out.fact.2
          clear HP H5
          go_wp2_with fail
          refine HC.out.mono ?_
          rintro e w6 ⟨rfl, h6⟩
          have H6 := Lib.hid (h6.dropG.more (k' := k + 1) (by omega))
          clear h6 HC e1
          go_wp2_with fail
          go_meet
          exact ⟨rfl, rfl, x2, _, H6.out⟩
        · have HL := Lib.hid (Free_js HD.out HK.out (L := F9) (l := l9) hF9 HLF.out)
          have HP := Lib.hid (fun Vb Vd y G W (h : JS w k (.pointer (some ⟨B, 0, none⟩)) x D Vb Vd y (Cells2 E (.int .i64 kd) (.int .i64 v)) G W) => PFree_js h HK2.out (L := F9) (l := l9) hF9 HLF.out)
          generalize freeE x = x2 at *
          clear hF9
          clear HD
          go_wp2_with fail
          refine HL.out.mono ?_
          rintro e w4 ⟨V', A9, c9, rfl, h4⟩
          obtain ⟨i0, A1, n1, c1, A2, n2, c2, A3, n3, c3, i4, rfl⟩ := h4.form
          have H4 := Lib.hid (h4.later (below_new w4 (.cells #[.int .i64 i0, .slice A1 n1 c1, .slice A2 n2 c2, .slice A3 n3 c3, .int .i64 i4] 69)))
          have Y4 := Lib.hid (Five.new w4 (.int .i64 i0) (.slice A1 n1 c1) (.slice A2 n2 c2) (.slice A3 n3 c3) (.int .i64 i4) 69)
          clear h4 HL g0 g1 g2 g3 g4 f0 f1 f2 f3 f4 e0 e1
          go_upto_region 15 with (fail)
          generalize w4.alloc (.cells #[.int .i64 i0, .slice A1 n1 c1, .slice A2 n2 c2, .slice A3 n3 c3, .int .i64 i4] 69) = X4 at *
          generalize w4.heap.size = Y at *
          obtain ⟨_, g0, g1, g2, g3, g4, f0, f1, f2, f3, f4⟩ := H4.out.five
          obtain ⟨_, y0, y1, y2, y3, y4, _, _, _, _, _⟩ := Y4.out
          have H5 := Lib.hid H4.out.box
          clear H4 Y4
          go_upto_region 16 with (fail)
          generalize ((((X4.setCell ⟨D, 0, none⟩ (.int .i64 i0)).setCell ⟨D, 1, none⟩ (.slice A1 n1 c1)).setCell ⟨D, 2, none⟩ (.slice A2 n2 c2)).setCell ⟨D, 3, none⟩ (.slice A3 n3 c3)).setCell ⟨D, 4, none⟩ (.int .i64 i4) = X5 at *
          clear g0 g1 g2 g3 g4 f0 f1 f2 f3 f4 y0 y1 y2 y3 y4
          have HC := Lib.hid (HP.out _ _ _ _ _ H5.out)
          have e1 := H5.out.fact.2
          clear HP H5
          go_wp2_with fail
          refine HC.out.mono ?_
          rintro e w6 ⟨A8, c8, rfl, hr8, h6⟩
          have hr9 := h6.factG
          have H6 := Lib.hid h6.dropG
          have HSI := Lib.hid (SameInts_refl A8 A9 F9 c8 c9 w6 hr8 hr9 HF9.out)
          rw [HLF.out] at HSI
          clear h6 HC e1 hr8 hr9
          go_wp2_with fail
          refine HSI.out.mono ?_
          rintro e w7 ⟨rfl, hdr⟩
          have H7 := Lib.hid ((H6.out.later (hdr.below _)).more (k' := k + 1) (by omega))
          clear hdr H6 HSI
          go_wp2_with fail
          go_meet
          exact ⟨rfl, rfl, x2, _, H7.out⟩
      case rest =>
        obtain ⟨rfl, rfl, x2, V2, hE2⟩ := hcut
        obtain ⟨A1, c1, A2, c2, A3, c3, rfl, r2, r3⟩ := hE2.value
        have HM := Lib.hid hE2
        have HR2 := Lib.hid r2
        have HR3 := Lib.hid r3
        have HH := Lib.hid (RHas_any (x2.e : Int) A1 x2.ld.length c1 A2 x2.rc.length c2 A3 x2.lb.length c3 (x2.lk : Int) v wc)
        clear hE2 r2 r3 HD
        unfold cV at *
        obtain ⟨_, g0, g1, g2, g3, g4, _, _, _, _, _⟩ := HM.out.five
        have e1 := HM.out.fact.2
        go_wp2_with fail
        refine HH.out.mono ?_
        rintro e w5 ⟨rfl, hb5⟩
        have HM5 := Lib.hid (HM.out.later hb5)
        have HR5 := Lib.hid (rd_later HR2.out hb5)
        have HR6 := Lib.hid ((HR3.out.below hb5).more hb5.size)
        clear HM HR2 HR3 HH g0 g1 g2 g3 g4 e1 hb5
        go_upto_if 149 with (fail)
        go_cut [24, 54] from 54 to 181 (fun rv iv wc => rv = .int .i64 (recV x2 v : Nat) ∧ iv = .int .i64 (k : Int) ∧ wc = w5)
        case first =>
          obtain ⟨_, g0, g1, g2, g3, g4, _, _, _, _, _⟩ := HM5.out.five
          have e1 := HM5.out.fact.2
          by_cases hin : 0 ≤ v ∧ v < (x2.rc.length : Int)
          · obtain ⟨q, rfl⟩ : ∃ q : Nat, v = (q : Int) := ⟨v.toNat, by omega⟩
            obtain ⟨b2, o2, rfl, hb2, hc2⟩ := natI_cell HR5.out (k := q) (by omega)
            have HRV : Hid (recV x2 (q : Int) = x2.rc.getD q 0) := Lib.hid (by
              unfold recV hasE
              rw [if_pos (decide_eq_true hin)]
              rfl)
            generalize x2.rc.getD q 0 = rq at *
            have hi0 : (0 : Int) ≤ (q : Int) := hin.1
            have hi1 : (q : Int) < (x2.rc.length : Int) := hin.2
            clear hin
            go_wp2_with fail
            go_meet
            exact ⟨by rw [HRV.out], rfl, rfl⟩
          · have HRV : Hid (recV x2 v = 0) := Lib.hid (by
              unfold recV hasE
              rw [if_neg (by simpa using hin)])
            go_wp2_with fail
            go_meet
            exact ⟨by rw [HRV.out]; rfl, rfl, rfl⟩
        case rest =>
          obtain ⟨rfl, rfl, rfl⟩ := hcut
          go_upto_region 40 with (fail)
          have HUM : ∀ W, Below wc.drew.heap.size wc.drew W → JS w (k + 1) (.pointer (some ⟨B, 0, none⟩)) x2 D _ _ x2 (Cells2 E (.int .i64 kd) (.int .i64 v)) (fun _ => True) W := fun W hb => HM5.out.later (((Drawn.refl.step 1).below _).trans hb)
          have HRD : Hid (∀ W, Below wc.drew.heap.size wc.drew W → RdR W W.heap.size A3 x2.lb) := Lib.hid fun W hb =>
            have h := ((Drawn.refl.step 1).below _).trans hb
            (HR6.out.below h).more h.size
          have HX0 : Hid (∀ W, Below wc.drew.heap.size wc.drew W → W.cell? ⟨D, 0, none⟩ = some (.int .i64 (x2.e : Int))) := Lib.hid fun W hb => (HUM W hb).five.c0
          have HX3 : Hid (∀ W, Below wc.drew.heap.size wc.drew W → W.cell? ⟨D, 3, none⟩ = some (.slice A3 x2.lb.length c3)) := Lib.hid fun W hb => (HUM W hb).five.c3
          have HE1 : Hid (∀ W, Below wc.drew.heap.size wc.drew W → W.cell? ⟨E, 1, none⟩ = some (.int .i64 v)) := Lib.hid fun W hb => (HUM W hb).fact.2
          have HL9 : Hid (x2.lb.length ≤ 1000000) := Lib.hid (by have := HM5.out.fit.ln; omega)
          have HK3 : Hid (k + 1 < 100000) := Lib.hid (by omega)
          clear HM5 HR5 HR6
          refine region_held 183 hmix rfl (VI (epDs B D E A3 c3 x2 v)) (VI_later _) (by kernel_rfl) ?_ ?_
          rotate_left 1
          · intro a' W h
            have e0 : a'.eval (.tmp 180) = .bool false := h.at_ 24 180 rfl
            have hbW : Below wc.drew.heap.size wc.drew W := h.hb
            obtain ⟨g', hg', hge⟩ := h.frame [156, 157, 158, 159, 160, 161, 162, 163, 164, 165, 166, 167, 168, 169, 170, 171, 172, 173, 174, 175, 176, 177, 178, 179, 180] rfl
            rw [hge 180] at e0
            clear h hge
            subst hg'
            simp only [List.foldl_cons, List.foldl_nil, List.setIfInBounds_toArray, List.set_cons_zero, List.set_cons_succ, e0]
            have HQ := Lib.hid (HUM W hbW)
            clear HUM HRD HX0 HX3 HE1 e0 hbW
            go_wp2
            go_roundw
            case rel => exact ⟨k + 1, by omega, by go_num, x2, _, HQ.out.drop⟩
            case measure => simp [intOf]; omega
          refine ⟨?_, ?_, ?_, ?_, ?_, ?_, ?_, ?_, ?_, ?_, ?_, ?_, ?_, ?_, ?_, ?_, ?_, ?_, ?_, ?_, ?_, ?_, ?_, ?_, ?_, trivial⟩
          · intro a W hb ho hg
            rw [if_pos (nw_none rfl)]
            have e : a.eval (.tmp 11) = .bool true := ho 11 rfl
            exact n_move rfl e rfl
          · intro a W hb ho hg
            rw [if_pos (nw_none rfl)]
            have e : a.eval (.tmp 156) = .bool true := hg 0 156 rfl rfl
            exact n_not rfl e rfl
          · intro a W hb ho hg
            rw [if_pos (nw_none rfl)]
            have e : a.eval (.tmp 157) = .bool false := hg 1 157 rfl rfl
            exact n_move rfl e rfl
          · intro a W hb ho hg
            have eg : a.eval (.tmp 158) = .bool false := hg 2 158 rfl rfl
            rw [if_pos (nw_some rfl rfl eg)]
            have e : a.eval (.tmp 5) = .pointer (some ⟨B, 0, none⟩) := ho 5 rfl
            exact n_move rfl e rfl
          · intro a W hb ho hg
            have eg : a.eval (.tmp 158) = .bool false := hg 2 158 rfl rfl
            rw [if_pos (nw_some rfl rfl eg)]
            have e0 : a.eval (.tmp 159) = .pointer (some ⟨B, 0, none⟩) := hg 3 159 rfl rfl
            exact n_call (f := 52) rfl (by simp only [List.map_toArray, List.map_cons, List.map_nil, e0] <;> rfl) (by go_simp) (Epoch_e1 (HUM W hb).e1) (fun e W' h => ⟨_, h.1, by rw [← h.2]; exact Below.refl _ _, rfl⟩)
          · intro a W hb ho hg
            have eg : a.eval (.tmp 158) = .bool false := hg 2 158 rfl rfl
            rw [if_pos (nw_some rfl rfl eg)]
            have e : a.eval (.tmp 7) = .pointer (some ⟨D, 0, none⟩) := ho 7 rfl
            exact n_run (v := .pointer (some ⟨D, 0, none⟩)) (by simp only [execOp, e]; go_simp) rfl
          · intro a W hb ho hg
            have eg : a.eval (.tmp 158) = .bool false := hg 2 158 rfl rfl
            rw [if_pos (nw_some rfl rfl eg)]
            have e : a.eval (.tmp 161) = .pointer (some ⟨D, 0, none⟩) := hg 5 161 rfl rfl
            exact n_run (np_loadI rfl e (HX0.out W hb)) rfl
          · intro a W hb ho hg
            have eg : a.eval (.tmp 158) = .bool false := hg 2 158 rfl rfl
            rw [if_pos (nw_some rfl rfl eg)]
            have e : a.eval (.tmp 160) = .int .i64 (x2.e : Nat) := hg 4 160 rfl rfl
            have f : a.eval (.tmp 162) = .int .i64 (x2.e : Nat) := hg 6 162 rfl rfl
            exact n_run (np_neI rfl e f) rfl
          · intro a W hb ho hg
            rw [if_pos (nw_none rfl)]
            have e : a.eval (.tmp 158) = .bool false := hg 2 158 rfl rfl
            have f : a.eval (.tmp 163) = .bool false := hg 7 163 rfl rfl
            exact n_pick rfl e (fun h => by cases h) (fun _ => f) rfl
          · intro a W hb ho hg
            rw [if_pos (nw_none rfl)]
            have e : a.eval (.tmp 164) = .bool false := hg 8 164 rfl rfl
            exact n_move rfl e rfl
          · intro a W hb ho hg
            have eg : a.eval (.tmp 165) = .bool false := hg 9 165 rfl rfl
            rw [if_pos (nw_some rfl rfl eg)]
            have e : a.eval (.tmp 5) = .pointer (some ⟨B, 0, none⟩) := ho 5 rfl
            exact n_move rfl e rfl
          · intro a W hb ho hg
            have eg : a.eval (.tmp 165) = .bool false := hg 9 165 rfl rfl
            rw [if_pos (nw_some rfl rfl eg)]
            have e : a.eval (.tmp 10) = .pointer (some ⟨E, 0, none⟩) := ho 10 rfl
            exact n_run (v := .pointer (some ⟨E, 1, none⟩)) (by simp only [execOp, e]; go_simp) rfl
          · intro a W hb ho hg
            have eg : a.eval (.tmp 165) = .bool false := hg 9 165 rfl rfl
            rw [if_pos (nw_some rfl rfl eg)]
            have e : a.eval (.tmp 167) = .pointer (some ⟨E, 1, none⟩) := hg 11 167 rfl rfl
            exact n_run (np_loadI rfl e (HE1.out W hb)) rfl
          · intro a W hb ho hg
            have eg : a.eval (.tmp 165) = .bool false := hg 9 165 rfl rfl
            rw [if_pos (nw_some rfl rfl eg)]
            have e0 : a.eval (.tmp 166) = .pointer (some ⟨B, 0, none⟩) := hg 10 166 rfl rfl
            have e1 : a.eval (.tmp 168) = .int .i64 v := hg 12 168 rfl rfl
            exact n_call (f := 53) rfl (by simp only [List.map_toArray, List.map_cons, List.map_nil, e0, e1] <;> rfl) (by go_simp) (Rec_e1 (HUM W hb).e1 v) (fun e W' h => ⟨_, h.1, by rw [← h.2]; exact Below.refl _ _, rfl⟩)
          · intro a W hb ho hg
            have eg : a.eval (.tmp 165) = .bool false := hg 9 165 rfl rfl
            rw [if_pos (nw_some rfl rfl eg)]
            have e : a.eval (.tmp 24) = .int .i64 (recV x2 v : Nat) := ho 24 rfl
            exact n_move rfl e rfl
          · intro a W hb ho hg
            have eg : a.eval (.tmp 165) = .bool false := hg 9 165 rfl rfl
            rw [if_pos (nw_some rfl rfl eg)]
            have e : a.eval (.tmp 169) = .int .i64 (recV x2 v : Nat) := hg 13 169 rfl rfl
            have f : a.eval (.tmp 170) = .int .i64 (recV x2 v : Nat) := hg 14 170 rfl rfl
            exact n_run (np_neI rfl e f) rfl
          · intro a W hb ho hg
            rw [if_pos (nw_none rfl)]
            have e : a.eval (.tmp 165) = .bool false := hg 9 165 rfl rfl
            have f : a.eval (.tmp 171) = .bool false := hg 15 171 rfl rfl
            exact n_pick rfl e (fun h => by cases h) (fun _ => f) rfl
          · intro a W hb ho hg
            rw [if_pos (nw_none rfl)]
            have e : a.eval (.tmp 172) = .bool false := hg 16 172 rfl rfl
            exact n_move rfl e rfl
          · intro a W hb ho hg
            have eg : a.eval (.tmp 173) = .bool false := hg 17 173 rfl rfl
            rw [if_pos (nw_some rfl rfl eg)]
            have e : a.eval (.tmp 5) = .pointer (some ⟨B, 0, none⟩) := ho 5 rfl
            exact n_move rfl e rfl
          · intro a W hb ho hg
            have eg : a.eval (.tmp 173) = .bool false := hg 17 173 rfl rfl
            rw [if_pos (nw_some rfl rfl eg)]
            have e0 : a.eval (.tmp 174) = .pointer (some ⟨B, 0, none⟩) := hg 18 174 rfl rfl
            exact n_call (f := 55) rfl (by simp only [List.map_toArray, List.map_cons, List.map_nil, e0] <;> rfl) (by go_simp) (Limbo_e1 (HUM W hb).e1 HK3.out rfl) (fun e W' ⟨A, c, h1, h2, h3⟩ => ⟨_, h1, h3, ⟨A, c, rfl, h2⟩⟩)
          · intro a W hb ho hg
            have eg : a.eval (.tmp 173) = .bool false := hg 17 173 rfl rfl
            rw [if_pos (nw_some rfl rfl eg)]
            have e : a.eval (.tmp 7) = .pointer (some ⟨D, 0, none⟩) := ho 7 rfl
            exact n_run (v := .pointer (some ⟨D, 3, none⟩)) (by simp only [execOp, e]; go_simp) rfl
          · intro a W hb ho hg
            have eg : a.eval (.tmp 173) = .bool false := hg 17 173 rfl rfl
            rw [if_pos (nw_some rfl rfl eg)]
            have e : a.eval (.tmp 176) = .pointer (some ⟨D, 3, none⟩) := hg 20 176 rfl rfl
            exact n_run (np_loadS rfl e (HX3.out W hb)) rfl
          · intro a W hb ho hg
            have eg : a.eval (.tmp 173) = .bool false := hg 17 173 rfl rfl
            rw [if_pos (nw_some rfl rfl eg)]
            obtain ⟨Ae0, ce0, e0, re0⟩ := (show ∃ A k, a.eval (.tmp 175) = .slice A (x2.lb).length k ∧ RdR W W.heap.size A x2.lb from hg 19 175 rfl rfl)
            have e1 : a.eval (.tmp 177) = .slice A3 x2.lb.length c3 := hg 21 177 rfl rfl
            exact n_call (f := 54) rfl (by simp only [List.map_toArray, List.map_cons, List.map_nil, e0, e1] <;> rfl) (by go_simp) (SameRefs_refl Ae0 A3 x2.lb x2.lb.length ce0 c3 _ _ W re0 (HRD.out W hb) rfl HL9.out) (fun e W' h => ⟨_, h.1, h.2.below _, rfl⟩)
          · intro a W hb ho hg
            have eg : a.eval (.tmp 173) = .bool false := hg 17 173 rfl rfl
            rw [if_pos (nw_some rfl rfl eg)]
            have e : a.eval (.tmp 178) = .bool true := hg 22 178 rfl rfl
            exact n_not rfl e rfl
          · intro a W hb ho hg
            rw [if_pos (nw_none rfl)]
            have e : a.eval (.tmp 173) = .bool false := hg 17 173 rfl rfl
            have f : a.eval (.tmp 179) = .bool false := hg 23 179 rfl rfl
            exact n_pick rfl e (fun h => by cases h) (fun _ => f) rfl
    · obtain rfl : k = zs.length := by omega
      have HB := Lib.hid hE.belowJ
      clear hE
      go_wp2_with fail
      refine (ep_lives_any _).mono ?_
      rintro e w5 ⟨rfl, hb5⟩
      have HB5 := Lib.hid (Below.next HB.out hb5)
      clear hb5
      go_wp2
      go_ret
      exact ⟨rfl, HB5.out⟩
end Go.Proofs.Ytdgmcaehadigaaa
