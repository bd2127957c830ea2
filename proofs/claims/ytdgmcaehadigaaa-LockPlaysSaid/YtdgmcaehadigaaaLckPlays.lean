/- A table of mutexes tells what the document says (LockPlays), walked. -/
import Derived.Test.YtdgmcaehadigaaaLckLives
import Derived.Test.YtdgmcaehadigaaaLckJ
import Derived.Test.YtdgmcaehadigaaaSameInts
import Derived.Test.YtdgmcaehadigaaaLawRows
import Derived.Test.YtdgmcaehadigaaaHeldI
import Derived.Deep.CutBlock
namespace Go.Proofs.Ytdgmcaehadigaaa
open Go.RowKit

/-- Between two rounds: the program's table and the document's say one thing. -/
def LHalf (w0 : World) (k : Nat) (p : Value) (D : Nat) (F : World → Prop) (w : World) : Prop := ∃ x A1 n1 c1 A2 n2 c2 b, LS w0 k p x D [.slice A1 n1 c1, .slice A2 n2 c2, .bool b] (.agg #[.slice A1 n1 c1, .slice A2 n2 c2, .bool b]) x F w
theorem IntsNew.told {L : List Int} {w : World} {e : Ending} {w' : World} (h : IntsNew L w e w') : ∃ v, e = .returned v ∧ Below w.heap.size w w' ∧ (PV.ints L).P v w' := by
  obtain ⟨A, c, rfl, h2, hb⟩ := h
  exact ⟨_, rfl, hb, A, c, rfl, fun k z hk => by
    obtain ⟨b, off, e, _, h3, h4⟩ := h2 k z hk
    exact ⟨b, off, e, h3, h4⟩⟩
theorem np_loadT {o : Oper} {a : Act} {W : World} {s : Operand} {D : Nat} {A1 A2 : Option Addr} {n1 c1 n2 c2 : Nat} {b : Bool} (ho : o.op = .load 49 s) (e : a.eval s = .pointer (some ⟨D, 0, none⟩)) (h : Bx W D [.slice A1 n1 c1, .slice A2 n2 c2, .bool b]) : (execOp a.eval o).run Try.prog W = .ok (.value (.agg #[.slice A1 n1 c1, .slice A2 n2 c2, .bool b])) W := by
  have h0 := h.c 0 _ rfl
  have h1 := h.c 1 _ rfl
  have h2 := h.c 2 _ rfl
  simp only [execOp, ho, e]
  go_simp
def lkDs (B D E : Nat) (A1 : Option Addr) (n1 c1 : Nat) (A2 : Option Addr) (n2 c2 : Nat) (b : Bool) (x2 : LX) (v : Int) (hi wi : Int) (hq wq : Bool) : List DI := [.c (.bool true), .c (.bool false), .c (.bool false), .c (.int .i64 hi), .c (.int .i64 hi), .c (.bool false), .c (.bool false), .c (.bool false), .c (.bool hq), .c (.bool hq), .c (.bool false), .c (.bool false), .c (.bool false), .c (.int .i64 wi), .c (.int .i64 wi), .c (.bool false), .c (.bool false), .c (.bool false), .c (.bool wq), .c (.bool wq), .c (.bool false), .c (.bool false), .c (.bool false), .c (.pointer (some ⟨B, 0, none⟩)), .c (.bool x2.up), .c (.pointer (some ⟨D, 2, none⟩)), .c (.bool b), .c (.bool false), .c (.bool false), .c (.bool false), .c (.pointer (some ⟨B, 0, none⟩)), .p (PV.ints (ringP x2)), .c (.agg #[.slice A1 n1 c1, .slice A2 n2 c2, .bool b]), .p (PV.ints (ringP x2)), .c (.bool true), .c (.bool false), .c (.bool false), .c (.bool false), .c (.pointer (some ⟨B, 0, none⟩)), .c (.pointer (some ⟨E, 1, none⟩)), .c (.int .i64 v), .p (PV.ints (heldL x2.hs v)), .c (.agg #[.slice A1 n1 c1, .slice A2 n2 c2, .bool b]), .c (.pointer (some ⟨E, 1, none⟩)), .c (.int .i64 v), .p (PV.ints (heldL x2.hs v)), .c (.bool true), .c (.bool false), .c (.bool false)]
set_option maxRecDepth 100000 in
set_option maxHeartbeats 16000000 in
theorem LockPlays_walk (A : Option Addr) (zs : List (Bool × Int × Int)) (c : Nat) (w : World) (hA : RdB3 w w.heap.size A zs) (hI : ∀ x ∈ zs, IsI x.2.1 ∧ IsI x.2.2) (hl : zs.length ≤ 9223372036854775807) (_ : zs.length ≤ c) (_ : A = none → c = 0) :
    Calls Try.prog 4 #[.slice A zs.length c] w fun e w' => e = .returned (.bool true) ∧ Below w.heap.size w w' := by
  have hmix : Try.prog.follows .mixedOrders = true := by kernel_rfl
  by_cases hlong : 40 < zs.length
  · have hi : (40 : Int) < (zs.length : Int) := by omega
    clear hA hI
    go_enter Try.func4, Try.ntmps4
    go_wp2_with fail
    refine (lck_lives_any _).mono ?_
    rintro e w1 ⟨rfl, hb1⟩
    go_wp2
    go_ret
    exact ⟨rfl, hb1⟩
  have hi : ¬ (40 : Int) < (zs.length : Int) := by omega
  have HI := Lib.hid hI
  have HA := Lib.hid hA
  clear hI hA
  go_enter Try.func4, Try.ntmps4
  go_wp2_with fail
  refine (LckNew_l1 _).mono ?_
  rintro e w2 ⟨B, rfl, h1⟩
  have H2 : Hid (LHalf w 0 (.pointer (some ⟨B, 0, none⟩)) w2.heap.size (fun _ => True) (w2.alloc (.cells #[.slice none 0 0, .slice none 0 0, .bool false] 49))) := Lib.hid ⟨_, _, _, _, _, _, _, _, LS.start (LJ.new h1) _⟩
  clear h1
  go_wp2
  go_loopw [29] (fun i wr => ∃ k : Nat, k ≤ zs.length ∧ i = .int .i64 k ∧ LHalf w k (.pointer (some ⟨B, 0, none⟩)) w2.heap.size (fun _ => True) wr) (fun i _ => zs.length - (intOf i).toNat)
  case atStart => exact ⟨0, Nat.zero_le _, rfl, H2.out⟩
  case round =>
    clear H2
    obtain ⟨k, hk, rfl, x, B1, m1, d1, B2, m2, d2, b0, hE⟩ := hrel
    generalize hX : w2.heap.size = D at *
    by_cases hlt : k < zs.length
    · obtain ⟨d, hd⟩ : ∃ d, zs[k]? = some d := ⟨_, List.getElem?_eq_getElem hlt⟩
      obtain ⟨hiv, hin⟩ := HI.out d (List.mem_of_getElem? hd)
      obtain ⟨b, off, rfl, hbb, q0, q1, q2⟩ := HA.out k d hd
      obtain ⟨gv, v, n⟩ := d
      simp only at hiv hin q0 q1 q2
      have hbl := hE.l1.below
      have r0 := (hbl.cell (p := ⟨b, off + k * 3, none⟩) hbb).trans q0
      have r1 := (hbl.cell (p := ⟨b, off + k * 3 + 1, none⟩) hbb).trans q1
      have r2 := (hbl.cell (p := ⟨b, off + k * 3 + 2, none⟩) hbb).trans q2
      clear q0 q1 q2 hd hX hbl
      have hkl : (k : Int) < (zs.length : Int) := by omega
      have hk0 : (0 : Int) ≤ (k : Int) := by omega
      have HIV := Lib.hid hiv
      have HIN := Lib.hid hin
      have HK : Hid (k ≤ 1000) := Lib.hid (by omega)
      have HK2 : Hid (k < 100000) := Lib.hid (by omega)
      have HD := Lib.hid (show LS w k (.pointer (some ⟨B, 0, none⟩)) x D _ _ x (CellsB wr.heap.size [.bool gv, .int .i64 v, .int .i64 n]) (wr.alloc (.cells #[.bool gv, .int .i64 v, .int .i64 n] 51)) from hE.newbox [.bool gv, .int .i64 v, .int .i64 n] 51)
      clear hE hiv hin
      obtain ⟨E, hE⟩ : ∃ E, wr.heap.size = E := ⟨_, rfl⟩
      rw [hE] at HD
      go_upto_if 34 with (fail)
      generalize wr.alloc (.cells #[.bool gv, .int .i64 v, .int .i64 n] 51) = W0 at *
      clear r0 r1 r2 hE
      go_cut [7, 29] from 29 to 148 (fun bv iv wc => bv = .bool true ∧ iv = .int .i64 (k : Int) ∧ LHalf w (k + 1) (.pointer (some ⟨B, 0, none⟩)) D (CellsB E [.bool gv, .int .i64 v, .int .i64 n]) wc)
      case first =>
        have g0 := HD.out.bx.c 0 _ rfl
        have g1 := HD.out.bx.c 1 _ rfl
        have g2 := HD.out.bx.c 2 _ rfl
        have e1 := HD.out.fact.c 1 _ rfl
        have e2 := HD.out.fact.c 2 _ rfl
        cases gv with
        | true =>
          have HL := Lib.hid (Give_ls HD.out HK.out v n)
          have HP := Lib.hid (fun Vb Vd y F W (h : LS w k (.pointer (some ⟨B, 0, none⟩)) x D Vb Vd y F W) => PGive_ls h v n HIV.out HIN.out)
          generalize giveB x v n = xb at *
          generalize giveX x v n = x2 at *
          clear HD
          go_wp2_with fail
          refine HL.out.mono ?_
          rintro e w4 ⟨V', rfl, h4⟩
          obtain ⟨A1, n1, c1, A2, n2, c2, b, rfl, hbq⟩ := h4.form
          clear hbq
          have H4 := Lib.hid (h4.later (below_new w4 (.cells #[.slice A1 n1 c1, .slice A2 n2 c2, .bool b] 49)))
          have Y4 := Lib.hid (show Bx (w4.alloc (.cells #[.slice A1 n1 c1, .slice A2 n2 c2, .bool b] 49)) w4.heap.size [.slice A1 n1 c1, .slice A2 n2 c2, .bool b] from Bx.new w4 [.slice A1 n1 c1, .slice A2 n2 c2, .bool b] 49)
          clear h4 HL g0 g1 g2 e1 e2
          go_upto_region 13 with (fail)
          generalize w4.alloc (.cells #[.slice A1 n1 c1, .slice A2 n2 c2, .bool b] 49) = X4 at *
          generalize w4.heap.size = Y at *
          have g0 := H4.out.bx.c 0 _ rfl
          have g1 := H4.out.bx.c 1 _ rfl
          have g2 := H4.out.bx.c 2 _ rfl
          have f0 := H4.out.bx.f 0
          have f1 := H4.out.bx.f 1
          have f2 := H4.out.bx.f 2
          have y0 := Y4.out.c 0 _ rfl
          have y1 := Y4.out.c 1 _ rfl
          have y2 := Y4.out.c 2 _ rfl
          have H5 := Lib.hid H4.out.box
          clear H4 Y4
          go_upto_region 14 with (fail)
          generalize ((X4.setCell ⟨D, 0, none⟩ (.slice A1 n1 c1)).setCell ⟨D, 1, none⟩ (.slice A2 n2 c2)).setCell ⟨D, 2, none⟩ (.bool b) = X5 at *
          clear g0 g1 g2 f0 f1 f2 y0 y1 y2
          have HC := Lib.hid (HP.out _ _ _ _ _ H5.out)
          have e1 := H5.out.fact.c 1 _ rfl
          have e2 := H5.out.fact.c 2 _ rfl
          clear HP H5
          go_wp2_with fail
          refine HC.out.mono ?_
          rintro e w6 ⟨rfl, h6⟩
          have H6 := Lib.hid (h6.more (k' := k + 1) (by omega))
          clear h6 HC e1 e2
          go_wp2_with fail
          go_meet
          exact ⟨by cases xb <;> rfl, rfl, x2, _, _, _, _, _, _, _, H6.out⟩
        | false =>
          have HL := Lib.hid (Take_ls HD.out HK.out v n)
          have HP := Lib.hid (fun Vb Vd y F W (h : LS w k (.pointer (some ⟨B, 0, none⟩)) x D Vb Vd y F W) => PTake_ls h HK2.out v n HIV.out HIN.out)
          generalize takeB x v n = xb at *
          generalize takeX x v n = x2 at *
          clear HD
          go_wp2_with fail
          refine HL.out.mono ?_
          rintro e w4 ⟨V', rfl, h4⟩
          obtain ⟨A1, n1, c1, A2, n2, c2, b, rfl, hbq⟩ := h4.form
          clear hbq
          have H4 := Lib.hid (h4.later (below_new w4 (.cells #[.slice A1 n1 c1, .slice A2 n2 c2, .bool b] 49)))
          have Y4 := Lib.hid (show Bx (w4.alloc (.cells #[.slice A1 n1 c1, .slice A2 n2 c2, .bool b] 49)) w4.heap.size [.slice A1 n1 c1, .slice A2 n2 c2, .bool b] from Bx.new w4 [.slice A1 n1 c1, .slice A2 n2 c2, .bool b] 49)
          clear h4 HL g0 g1 g2 e1 e2
          go_upto_region 16 with (fail)
          generalize w4.alloc (.cells #[.slice A1 n1 c1, .slice A2 n2 c2, .bool b] 49) = X4 at *
          generalize w4.heap.size = Y at *
          have g0 := H4.out.bx.c 0 _ rfl
          have g1 := H4.out.bx.c 1 _ rfl
          have g2 := H4.out.bx.c 2 _ rfl
          have f0 := H4.out.bx.f 0
          have f1 := H4.out.bx.f 1
          have f2 := H4.out.bx.f 2
          have y0 := Y4.out.c 0 _ rfl
          have y1 := Y4.out.c 1 _ rfl
          have y2 := Y4.out.c 2 _ rfl
          have H5 := Lib.hid H4.out.box
          clear H4 Y4
          go_upto_region 17 with (fail)
          generalize ((X4.setCell ⟨D, 0, none⟩ (.slice A1 n1 c1)).setCell ⟨D, 1, none⟩ (.slice A2 n2 c2)).setCell ⟨D, 2, none⟩ (.bool b) = X5 at *
          clear g0 g1 g2 f0 f1 f2 y0 y1 y2
          have HC := Lib.hid (HP.out _ _ _ _ _ H5.out)
          have e1 := H5.out.fact.c 1 _ rfl
          have e2 := H5.out.fact.c 2 _ rfl
          clear HP H5
          go_wp2_with fail
          refine HC.out.mono ?_
          rintro e w6 ⟨rfl, h6⟩
          have H6 := Lib.hid (h6.more (k' := k + 1) (by omega))
          clear h6 HC e1 e2
          go_wp2_with fail
          go_meet
          exact ⟨by cases xb <;> rfl, rfl, x2, _, _, _, _, _, _, _, H6.out⟩
      case rest =>
        obtain ⟨rfl, rfl, x2, A1, n1, c1, A2, n2, c2, b, hM⟩ := hcut
        have hbu : b = !x2.up := by
          obtain ⟨A1', n1', c1', A2', n2', c2', b', e, hb'⟩ := hM.form
          injection e with e
          injection e with e
          injection e with _ e
          injection e with _ e
          injection e with e _
          injection e with e
          rw [e, hb']
        have HBU := Lib.hid hbu
        have HM := Lib.hid hM
        have HK3 : Hid (k + 1 ≤ 1000) := Lib.hid (by omega)
        clear hM hbu HD HK HK2
        -- who holds it, and for what it waits
        have e1 := HM.out.fact.c 1 _ rfl
        have e2 := HM.out.fact.c 2 _ rfl
        have g0 := HM.out.bx.c 0 _ rfl
        have g1 := HM.out.bx.c 1 _ rfl
        have g2 := HM.out.bx.c 2 _ rfl
        have HC := Lib.hid (Holder_l1 HM.out.l1 n HIN.out)
        go_wp2_with fail
        refine HC.out.mono ?_
        rintro e w4 ⟨rfl, rfl⟩
        have HC1 := Lib.hid (HM.out.holder HK3.out n)
        clear HC
        go_wp2_with fail
        refine HC1.out.mono ?_
        rintro e w5 ⟨rfl, hb5⟩
        have HM5 := Lib.hid (HM.out.later hb5)
        clear HC1 HM hb5 e1 e2 g0 g1 g2
        have e1 := HM5.out.fact.c 1 _ rfl
        have g0 := HM5.out.bx.c 0 _ rfl
        have g1 := HM5.out.bx.c 1 _ rfl
        have g2 := HM5.out.bx.c 2 _ rfl
        have HC := Lib.hid (Waits_l1 HM5.out.l1 v HIV.out)
        go_wp2_with fail
        refine HC.out.mono ?_
        rintro e w6 ⟨rfl, rfl⟩
        have HC1 := Lib.hid (HM5.out.waits HK3.out v)
        clear HC
        go_wp2_with fail
        refine HC1.out.mono ?_
        rintro e w7 ⟨rfl, hb7⟩
        have HM7 := Lib.hid (HM5.out.later hb7)
        clear HC1 HM5 hb7 e1 g0 g1 g2
        unfold gotI gotB
        go_upto_region 22 with (fail)
        generalize (hold x2.hs n).getD 0 = hi at *
        generalize (hold x2.hs n).isSome = hq at *
        generalize (waitOf x2.ws v).getD 0 = wi at *
        generalize (waitOf x2.ws v).isSome = wq at *
        have HUM : ∀ W, Below w7.drew.heap.size w7.drew W → LS w (k + 1) (.pointer (some ⟨B, 0, none⟩)) x2 D [.slice A1 n1 c1, .slice A2 n2 c2, .bool b] (.agg #[.slice A1 n1 c1, .slice A2 n2 c2, .bool b]) x2 (CellsB E [.bool gv, .int .i64 v, .int .i64 n]) W := fun W hb => HM7.out.later (((Drawn.refl.step 1).below _).trans hb)
        have HX2 : Hid (∀ W, Below w7.drew.heap.size w7.drew W → W.cell? ⟨D, 2, none⟩ = some (.bool b)) := Lib.hid fun W hb => (HUM W hb).bx.c 2 _ rfl
        have HE1 : Hid (∀ W, Below w7.drew.heap.size w7.drew W → W.cell? ⟨E, 1, none⟩ = some (.int .i64 v)) := Lib.hid fun W hb => (HUM W hb).fact.c 1 _ rfl
        have HLR : Hid ((ringP x2).length ≤ 9223372036854775807) := Lib.hid (by have := ringP_len x2; omega)
        have HLH : Hid ((heldL x2.hs v).length ≤ 9223372036854775807) := Lib.hid (by have := heldL_len x2.hs v; omega)
        clear HM7
        refine region_held 150 hmix rfl (VI (lkDs B D E A1 n1 c1 A2 n2 c2 b x2 v hi wi hq wq)) (VI_later _) (by kernel_rfl) ?_ ?_
        rotate_left 1
        · intro a' W h
          have e0 : a'.eval (.tmp 147) = .bool false := h.at_ 48 147 rfl
          have hbW : Below w7.drew.heap.size w7.drew W := h.hb
          obtain ⟨g', hg', hge⟩ := h.frame [99, 100, 101, 102, 103, 104, 105, 106, 107, 108, 109, 110, 111, 112, 113, 114, 115, 116, 117, 118, 119, 120, 121, 122, 123, 124, 125, 126, 127, 128, 129, 130, 131, 132, 133, 134, 135, 136, 137, 138, 139, 140, 141, 142, 143, 144, 145, 146, 147] rfl
          rw [hge 147] at e0
          clear h hge
          subst hg'
          simp only [List.foldl_cons, List.foldl_nil, List.setIfInBounds_toArray, List.set_cons_zero, List.set_cons_succ, e0]
          have HQ := Lib.hid (HUM W hbW)
          clear HUM HX2 HE1 e0 hbW
          go_wp2
          go_roundw
          case rel => exact ⟨k + 1, by omega, by go_num, x2, A1, n1, c1, A2, n2, c2, b, HQ.out.drop⟩
          case measure => simp [intOf]; omega
        refine ⟨?_, ?_, ?_, ?_, ?_, ?_, ?_, ?_, ?_, ?_, ?_, ?_, ?_, ?_, ?_, ?_, ?_, ?_, ?_, ?_, ?_, ?_, ?_, ?_, ?_, ?_, ?_, ?_, ?_, ?_, ?_, ?_, ?_, ?_, ?_, ?_, ?_, ?_, ?_, ?_, ?_, ?_, ?_, ?_, ?_, ?_, ?_, ?_, ?_, trivial⟩
        · intro a W hb ho hg
          rw [if_pos (nw_none rfl)]
          have e : a.eval (.tmp 7) = .bool true := ho 7 rfl
          exact n_move rfl e rfl
        · intro a W hb ho hg
          rw [if_pos (nw_none rfl)]
          have e : a.eval (.tmp 99) = .bool true := hg 0 99 rfl rfl
          exact n_not rfl e rfl
        · intro a W hb ho hg
          rw [if_pos (nw_none rfl)]
          have e : a.eval (.tmp 100) = .bool false := hg 1 100 rfl rfl
          exact n_move rfl e rfl
        · intro a W hb ho hg
          have eg : a.eval (.tmp 101) = .bool false := hg 2 101 rfl rfl
          rw [if_pos (nw_some rfl rfl eg)]
          have e : a.eval (.tmp 12) = .int .i64 hi := ho 12 rfl
          exact n_move rfl e rfl
        · intro a W hb ho hg
          have eg : a.eval (.tmp 101) = .bool false := hg 2 101 rfl rfl
          rw [if_pos (nw_some rfl rfl eg)]
          have e : a.eval (.tmp 14) = .int .i64 hi := ho 14 rfl
          exact n_move rfl e rfl
        · intro a W hb ho hg
          have eg : a.eval (.tmp 101) = .bool false := hg 2 101 rfl rfl
          rw [if_pos (nw_some rfl rfl eg)]
          have e : a.eval (.tmp 102) = .int .i64 hi := hg 3 102 rfl rfl
          have f : a.eval (.tmp 103) = .int .i64 hi := hg 4 103 rfl rfl
          exact n_run (np_neI rfl e f) rfl
        · intro a W hb ho hg
          rw [if_pos (nw_none rfl)]
          have e : a.eval (.tmp 101) = .bool false := hg 2 101 rfl rfl
          have f : a.eval (.tmp 104) = .bool false := hg 5 104 rfl rfl
          exact n_pick rfl e (fun h => by cases h) (fun _ => f) rfl
        · intro a W hb ho hg
          rw [if_pos (nw_none rfl)]
          have e : a.eval (.tmp 105) = .bool false := hg 6 105 rfl rfl
          exact n_move rfl e rfl
        · intro a W hb ho hg
          have eg : a.eval (.tmp 106) = .bool false := hg 7 106 rfl rfl
          rw [if_pos (nw_some rfl rfl eg)]
          have e : a.eval (.tmp 13) = .bool hq := ho 13 rfl
          exact n_move rfl e rfl
        · intro a W hb ho hg
          have eg : a.eval (.tmp 106) = .bool false := hg 7 106 rfl rfl
          rw [if_pos (nw_some rfl rfl eg)]
          have e : a.eval (.tmp 15) = .bool hq := ho 15 rfl
          exact n_move rfl e rfl
        · intro a W hb ho hg
          have eg : a.eval (.tmp 106) = .bool false := hg 7 106 rfl rfl
          rw [if_pos (nw_some rfl rfl eg)]
          have e : a.eval (.tmp 107) = .bool hq := hg 8 107 rfl rfl
          have f : a.eval (.tmp 108) = .bool hq := hg 9 108 rfl rfl
          exact n_run (np_neB rfl e f) rfl
        · intro a W hb ho hg
          rw [if_pos (nw_none rfl)]
          have e : a.eval (.tmp 106) = .bool false := hg 7 106 rfl rfl
          have f : a.eval (.tmp 109) = .bool false := hg 10 109 rfl rfl
          exact n_pick rfl e (fun h => by cases h) (fun _ => f) rfl
        · intro a W hb ho hg
          rw [if_pos (nw_none rfl)]
          have e : a.eval (.tmp 110) = .bool false := hg 11 110 rfl rfl
          exact n_move rfl e rfl
        · intro a W hb ho hg
          have eg : a.eval (.tmp 111) = .bool false := hg 12 111 rfl rfl
          rw [if_pos (nw_some rfl rfl eg)]
          have e : a.eval (.tmp 16) = .int .i64 wi := ho 16 rfl
          exact n_move rfl e rfl
        · intro a W hb ho hg
          have eg : a.eval (.tmp 111) = .bool false := hg 12 111 rfl rfl
          rw [if_pos (nw_some rfl rfl eg)]
          have e : a.eval (.tmp 18) = .int .i64 wi := ho 18 rfl
          exact n_move rfl e rfl
        · intro a W hb ho hg
          have eg : a.eval (.tmp 111) = .bool false := hg 12 111 rfl rfl
          rw [if_pos (nw_some rfl rfl eg)]
          have e : a.eval (.tmp 112) = .int .i64 wi := hg 13 112 rfl rfl
          have f : a.eval (.tmp 113) = .int .i64 wi := hg 14 113 rfl rfl
          exact n_run (np_neI rfl e f) rfl
        · intro a W hb ho hg
          rw [if_pos (nw_none rfl)]
          have e : a.eval (.tmp 111) = .bool false := hg 12 111 rfl rfl
          have f : a.eval (.tmp 114) = .bool false := hg 15 114 rfl rfl
          exact n_pick rfl e (fun h => by cases h) (fun _ => f) rfl
        · intro a W hb ho hg
          rw [if_pos (nw_none rfl)]
          have e : a.eval (.tmp 115) = .bool false := hg 16 115 rfl rfl
          exact n_move rfl e rfl
        · intro a W hb ho hg
          have eg : a.eval (.tmp 116) = .bool false := hg 17 116 rfl rfl
          rw [if_pos (nw_some rfl rfl eg)]
          have e : a.eval (.tmp 17) = .bool wq := ho 17 rfl
          exact n_move rfl e rfl
        · intro a W hb ho hg
          have eg : a.eval (.tmp 116) = .bool false := hg 17 116 rfl rfl
          rw [if_pos (nw_some rfl rfl eg)]
          have e : a.eval (.tmp 19) = .bool wq := ho 19 rfl
          exact n_move rfl e rfl
        · intro a W hb ho hg
          have eg : a.eval (.tmp 116) = .bool false := hg 17 116 rfl rfl
          rw [if_pos (nw_some rfl rfl eg)]
          have e : a.eval (.tmp 117) = .bool wq := hg 18 117 rfl rfl
          have f : a.eval (.tmp 118) = .bool wq := hg 19 118 rfl rfl
          exact n_run (np_neB rfl e f) rfl
        · intro a W hb ho hg
          rw [if_pos (nw_none rfl)]
          have e : a.eval (.tmp 116) = .bool false := hg 17 116 rfl rfl
          have f : a.eval (.tmp 119) = .bool false := hg 20 119 rfl rfl
          exact n_pick rfl e (fun h => by cases h) (fun _ => f) rfl
        · intro a W hb ho hg
          rw [if_pos (nw_none rfl)]
          have e : a.eval (.tmp 120) = .bool false := hg 21 120 rfl rfl
          exact n_move rfl e rfl
        · intro a W hb ho hg
          have eg : a.eval (.tmp 121) = .bool false := hg 22 121 rfl rfl
          rw [if_pos (nw_some rfl rfl eg)]
          have e : a.eval (.tmp 3) = .pointer (some ⟨B, 0, none⟩) := ho 3 rfl
          exact n_move rfl e rfl
        · intro a W hb ho hg
          have eg : a.eval (.tmp 121) = .bool false := hg 22 121 rfl rfl
          rw [if_pos (nw_some rfl rfl eg)]
          have e0 : a.eval (.tmp 122) = .pointer (some ⟨B, 0, none⟩) := hg 23 122 rfl rfl
          exact n_call (f := 31) rfl (by simp only [List.map_toArray, List.map_cons, List.map_nil, e0] <;> rfl) (by go_simp) (Rising_l1 (HUM W hb).l1) (fun e W' h => ⟨_, h.1, by rw [← h.2]; exact Below.refl _ _, rfl⟩)
        · intro a W hb ho hg
          have eg : a.eval (.tmp 121) = .bool false := hg 22 121 rfl rfl
          rw [if_pos (nw_some rfl rfl eg)]
          have e : a.eval (.tmp 4) = .pointer (some ⟨D, 0, none⟩) := ho 4 rfl
          exact n_run (v := .pointer (some ⟨D, 2, none⟩)) (by simp only [execOp, e]; go_simp) rfl
        · intro a W hb ho hg
          have eg : a.eval (.tmp 121) = .bool false := hg 22 121 rfl rfl
          rw [if_pos (nw_some rfl rfl eg)]
          have e : a.eval (.tmp 124) = .pointer (some ⟨D, 2, none⟩) := hg 25 124 rfl rfl
          exact n_run (np_loadB rfl e (HX2.out W hb)) rfl
        · intro a W hb ho hg
          have eg : a.eval (.tmp 121) = .bool false := hg 22 121 rfl rfl
          rw [if_pos (nw_some rfl rfl eg)]
          have e : a.eval (.tmp 123) = .bool x2.up := hg 24 123 rfl rfl
          have f : a.eval (.tmp 125) = .bool b := hg 26 125 rfl rfl
          rw [HBU.out] at f
          exact n_run (np_eqNB rfl e f) rfl
        · intro a W hb ho hg
          rw [if_pos (nw_none rfl)]
          have e : a.eval (.tmp 121) = .bool false := hg 22 121 rfl rfl
          have f : a.eval (.tmp 126) = .bool false := hg 27 126 rfl rfl
          exact n_pick rfl e (fun h => by cases h) (fun _ => f) rfl
        · intro a W hb ho hg
          rw [if_pos (nw_none rfl)]
          have e : a.eval (.tmp 127) = .bool false := hg 28 127 rfl rfl
          exact n_move rfl e rfl
        · intro a W hb ho hg
          have eg : a.eval (.tmp 128) = .bool false := hg 29 128 rfl rfl
          rw [if_pos (nw_some rfl rfl eg)]
          have e : a.eval (.tmp 3) = .pointer (some ⟨B, 0, none⟩) := ho 3 rfl
          exact n_move rfl e rfl
        · intro a W hb ho hg
          have eg : a.eval (.tmp 128) = .bool false := hg 29 128 rfl rfl
          rw [if_pos (nw_some rfl rfl eg)]
          have e0 : a.eval (.tmp 129) = .pointer (some ⟨B, 0, none⟩) := hg 30 129 rfl rfl
          exact n_call (f := 32) rfl (by simp only [List.map_toArray, List.map_cons, List.map_nil, e0] <;> rfl) (by go_simp) (Ring_any (HUM W hb).l1.tabO (HUM W hb).l1.fit) (fun e W' h => h.told)
        · intro a W hb ho hg
          have eg : a.eval (.tmp 128) = .bool false := hg 29 128 rfl rfl
          rw [if_pos (nw_some rfl rfl eg)]
          have e : a.eval (.tmp 4) = .pointer (some ⟨D, 0, none⟩) := ho 4 rfl
          exact n_run (np_loadT rfl e (HUM W hb).bx) rfl
        · intro a W hb ho hg
          have eg : a.eval (.tmp 128) = .bool false := hg 29 128 rfl rfl
          rw [if_pos (nw_some rfl rfl eg)]
          have e0 : a.eval (.tmp 131) = .agg #[.slice A1 n1 c1, .slice A2 n2 c2, .bool b] := hg 32 131 rfl rfl
          exact n_call (f := 33) rfl (by simp only [List.map_toArray, List.map_cons, List.map_nil, e0] <;> rfl) (by go_simp) (LS.ring (HUM W hb) HK3.out) (fun e W' h => h.told)
        · intro a W hb ho hg
          have eg : a.eval (.tmp 128) = .bool false := hg 29 128 rfl rfl
          rw [if_pos (nw_some rfl rfl eg)]
          obtain ⟨Ae0, ce0, e0, re0⟩ := (show ∃ A k, a.eval (.tmp 130) = .slice A (ringP x2).length k ∧ Rd (Value.int .i64) W W.heap.size A (ringP x2) from hg 31 130 rfl rfl)
          obtain ⟨Ae1, ce1, e1, re1⟩ := (show ∃ A k, a.eval (.tmp 132) = .slice A (ringP x2).length k ∧ Rd (Value.int .i64) W W.heap.size A (ringP x2) from hg 33 132 rfl rfl)
          exact n_call (f := 16) rfl (by simp only [List.map_toArray, List.map_cons, List.map_nil, e0, e1] <;> rfl) (by go_simp) (SameInts_refl Ae0 Ae1 (ringP x2) ce0 ce1 W re0 re1 HLR.out) (fun e W' h => ⟨_, h.1, h.2.below _, rfl⟩)
        · intro a W hb ho hg
          have eg : a.eval (.tmp 128) = .bool false := hg 29 128 rfl rfl
          rw [if_pos (nw_some rfl rfl eg)]
          have e : a.eval (.tmp 133) = .bool true := hg 34 133 rfl rfl
          exact n_not rfl e rfl
        · intro a W hb ho hg
          rw [if_pos (nw_none rfl)]
          have e : a.eval (.tmp 128) = .bool false := hg 29 128 rfl rfl
          have f : a.eval (.tmp 134) = .bool false := hg 35 134 rfl rfl
          exact n_pick rfl e (fun h => by cases h) (fun _ => f) rfl
        · intro a W hb ho hg
          rw [if_pos (nw_none rfl)]
          have e : a.eval (.tmp 135) = .bool false := hg 36 135 rfl rfl
          exact n_move rfl e rfl
        · intro a W hb ho hg
          have eg : a.eval (.tmp 136) = .bool false := hg 37 136 rfl rfl
          rw [if_pos (nw_some rfl rfl eg)]
          have e : a.eval (.tmp 3) = .pointer (some ⟨B, 0, none⟩) := ho 3 rfl
          exact n_move rfl e rfl
        · intro a W hb ho hg
          have eg : a.eval (.tmp 136) = .bool false := hg 37 136 rfl rfl
          rw [if_pos (nw_some rfl rfl eg)]
          have e : a.eval (.tmp 6) = .pointer (some ⟨E, 0, none⟩) := ho 6 rfl
          exact n_run (v := .pointer (some ⟨E, 1, none⟩)) (by simp only [execOp, e]; go_simp) rfl
        · intro a W hb ho hg
          have eg : a.eval (.tmp 136) = .bool false := hg 37 136 rfl rfl
          rw [if_pos (nw_some rfl rfl eg)]
          have e : a.eval (.tmp 138) = .pointer (some ⟨E, 1, none⟩) := hg 39 138 rfl rfl
          exact n_run (np_loadI rfl e (HE1.out W hb)) rfl
        · intro a W hb ho hg
          have eg : a.eval (.tmp 136) = .bool false := hg 37 136 rfl rfl
          rw [if_pos (nw_some rfl rfl eg)]
          have e0 : a.eval (.tmp 137) = .pointer (some ⟨B, 0, none⟩) := hg 38 137 rfl rfl
          have e1 : a.eval (.tmp 139) = .int .i64 v := hg 40 139 rfl rfl
          exact n_call (f := 34) rfl (by simp only [List.map_toArray, List.map_cons, List.map_nil, e0, e1] <;> rfl) (by go_simp) (Held_any (HUM W hb).l1.tabO (HUM W hb).l1.fit v) (fun e W' h => h.told)
        · intro a W hb ho hg
          have eg : a.eval (.tmp 136) = .bool false := hg 37 136 rfl rfl
          rw [if_pos (nw_some rfl rfl eg)]
          have e : a.eval (.tmp 4) = .pointer (some ⟨D, 0, none⟩) := ho 4 rfl
          exact n_run (np_loadT rfl e (HUM W hb).bx) rfl
        · intro a W hb ho hg
          have eg : a.eval (.tmp 136) = .bool false := hg 37 136 rfl rfl
          rw [if_pos (nw_some rfl rfl eg)]
          have e : a.eval (.tmp 6) = .pointer (some ⟨E, 0, none⟩) := ho 6 rfl
          exact n_run (v := .pointer (some ⟨E, 1, none⟩)) (by simp only [execOp, e]; go_simp) rfl
        · intro a W hb ho hg
          have eg : a.eval (.tmp 136) = .bool false := hg 37 136 rfl rfl
          rw [if_pos (nw_some rfl rfl eg)]
          have e : a.eval (.tmp 142) = .pointer (some ⟨E, 1, none⟩) := hg 43 142 rfl rfl
          exact n_run (np_loadI rfl e (HE1.out W hb)) rfl
        · intro a W hb ho hg
          have eg : a.eval (.tmp 136) = .bool false := hg 37 136 rfl rfl
          rw [if_pos (nw_some rfl rfl eg)]
          have e0 : a.eval (.tmp 141) = .agg #[.slice A1 n1 c1, .slice A2 n2 c2, .bool b] := hg 42 141 rfl rfl
          have e1 : a.eval (.tmp 143) = .int .i64 v := hg 44 143 rfl rfl
          exact n_call (f := 35) rfl (by simp only [List.map_toArray, List.map_cons, List.map_nil, e0, e1] <;> rfl) (by go_simp) (LS.heldR (HUM W hb) HK3.out v) (fun e W' h => h.told)
        · intro a W hb ho hg
          have eg : a.eval (.tmp 136) = .bool false := hg 37 136 rfl rfl
          rw [if_pos (nw_some rfl rfl eg)]
          obtain ⟨Ae0, ce0, e0, re0⟩ := (show ∃ A k, a.eval (.tmp 140) = .slice A (heldL x2.hs v).length k ∧ Rd (Value.int .i64) W W.heap.size A (heldL x2.hs v) from hg 41 140 rfl rfl)
          obtain ⟨Ae1, ce1, e1, re1⟩ := (show ∃ A k, a.eval (.tmp 144) = .slice A (heldL x2.hs v).length k ∧ Rd (Value.int .i64) W W.heap.size A (heldL x2.hs v) from hg 45 144 rfl rfl)
          exact n_call (f := 16) rfl (by simp only [List.map_toArray, List.map_cons, List.map_nil, e0, e1] <;> rfl) (by go_simp) (SameInts_refl Ae0 Ae1 (heldL x2.hs v) ce0 ce1 W re0 re1 HLH.out) (fun e W' h => ⟨_, h.1, h.2.below _, rfl⟩)
        · intro a W hb ho hg
          have eg : a.eval (.tmp 136) = .bool false := hg 37 136 rfl rfl
          rw [if_pos (nw_some rfl rfl eg)]
          have e : a.eval (.tmp 145) = .bool true := hg 46 145 rfl rfl
          exact n_not rfl e rfl
        · intro a W hb ho hg
          rw [if_pos (nw_none rfl)]
          have e : a.eval (.tmp 136) = .bool false := hg 37 136 rfl rfl
          have f : a.eval (.tmp 146) = .bool false := hg 47 146 rfl rfl
          exact n_pick rfl e (fun h => by cases h) (fun _ => f) rfl
    · obtain rfl : k = zs.length := by omega
      have HB := Lib.hid hE.l1.below
      clear hE
      go_wp2_with fail
      refine (lck_lives_any _).mono ?_
      rintro e w5 ⟨rfl, hb5⟩
      have HB5 := Lib.hid (Below.next HB.out hb5)
      clear hb5
      go_wp2
      go_ret
      exact ⟨rfl, HB5.out⟩
end Go.Proofs.Ytdgmcaehadigaaa
