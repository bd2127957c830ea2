/- A watch tells what the document says (RacePlays), walked. -/
import Derived.Test.YtdgmcaehadigaaaRacJ
import Derived.Test.YtdgmcaehadigaaaSameInts
import Derived.Test.YtdgmcaehadigaaaLawDeed18
import Derived.Test.YtdgmcaehadigaaaHeldW
import Derived.Test.YtdgmcaehadigaaaHeldI
import Derived.Deep.CutBlock
namespace Go.Proofs.Ytdgmcaehadigaaa
open Go.RowKit

/-- In a round: the program's watch holds a, the document's value, which lies in its box, tells ad. -/
def RHalf (w0 : World) (n B D m : Nat) (a ad : AX) (F : World → Prop) (w : World) : Prop := ∃ A1 l1 c1 A2 l2 c2 A3 l3 c3 A4 l4 c4 A5 l5 c5, RS w0 n B a D [.slice A1 l1 c1, .slice A2 l2 c2, .slice A3 l3 c3, .slice A4 l4 c4, .slice A5 l5 c5] (.agg #[.slice A1 l1 c1, .slice A2 l2 c2, .slice A3 l3 c3, .slice A4 l4 c4, .slice A5 l5 c5]) m ad F w
theorem RS.clsOf {w0 w : World} {n m B D : Nat} {a ad : AX} {Vb : List Value} {F : World → Prop} {v0 v1 v2 v3 : Value} {A5 : Option Addr} {l5 c5 : Nat} (h : RS w0 n B a D Vb (.agg #[v0, v1, v2, v3, .slice A5 l5 c5]) m ad F w) : l5 = ad.cl.length ∧ RdC w A5 ad.cl ∧ ad.cl.length ≤ 1000 := by
  obtain ⟨A1, l1, c1, A2, l2, c2, A3, l3, c3, A4, l4, c4, A6, c6, e, h1, h2⟩ := h.clashes
  injection e with e
  injection e with e
  injection e with _ e
  injection e with _ e
  injection e with _ e
  injection e with _ e
  injection e with e _
  injection e with e1 e2 e3
  subst e1 e2
  exact ⟨rfl, h1, h2⟩
theorem doA_true (a : AX) {kd : Int} (h3 : kd ≠ 3) (h4 : kd ≠ 4) (x p : Int) : (doA a ((kd, x), p)).2 = true := by
  cases hW : isW x
  · rw [doA_not a kd hW]
  · obtain ⟨k, rfl, hk⟩ := isW_is hW
    rw [doA_nat a kd hk, if_neg h3, if_neg h4]
    split
    · rfl
    · split
      · rfl
      · split <;> rfl
/-- Clashes in memory. -/
def PV.cls (L : List ClT) : PV := ⟨fun v W => ∃ A k, v = .slice A L.length k ∧ RdC W A L, fun _ _ _ hb ⟨A, k, e, hr⟩ => ⟨A, k, e, hr.later hb⟩⟩
def DI.isC : DI → Bool
  | .c _ => true
  | _ => false
theorem VI_const {ds : List DI} {l : List Oper} {s : Nat} (h : ((List.range l.length).all fun j => j == s || afterB .any l s j || (ds.getD j .free).isC) = true) : ∀ j, j < l.length → j ≠ s → afterB .any l s j = false → ∀ v W W', VI ds j v W → VI ds j v W' := by
  intro j hj hne haf v W W' hv
  have h1 := List.all_eq_true.1 h j (List.mem_range.2 hj)
  simp only [haf, Bool.or_false, Bool.or_eq_true, beq_iff_eq] at h1
  have h2 := h1.resolve_left hne
  unfold VI at *
  generalize ds.getD j .free = d at *
  cases d with
  | c u => exact hv
  | p q => cases h2
  | free => trivial
section
variable {P : Program} {Q : Exit → Act → World → Prop} {o : Oper} {a : Act} {W : World} {s t : Operand}
theorem n_callG {f : FuncId} {xs : Array Operand} {ats : Array TypeId} {args : Array Value} {R : Ending → World → Prop} {T : Value → World → Prop} (ho : o.op = .call { callee := .value (.func f), args := xs, argTypes := ats }) (hargs : xs.map a.eval = args)
    (hent : (callFunc f args).run P W = .ok (.enter f args) W) (hc : Calls P f args W R) (hR : ∀ e W', R e W' → ∃ v, e = .returned v ∧ T v W') : Oper.wp P o a W (fun a' W' => ∃ v, a' = a.put o.dst v ∧ T v W') Q := by
  unfold Oper.wp
  have h1 : (execOp a.eval o).run P W = .ok (.enter f args) W := by
    simp only [execOp, ho, resolve, hargs]
    simp [Deferred.ofValue, Act.eval, invoke, hent]
  rw [h1, Oper.upon_enter]
  refine Calls.mono hc ?_
  intro e W' h
  obtain ⟨v, rfl, hv⟩ := hR e W' h
  exact ⟨v, rfl, hv⟩
theorem np_loadW18 {D : Nat} {A1 A2 A3 A4 A5 : Option Addr} {l1 c1 l2 c2 l3 c3 l4 c4 l5 c5 : Nat} (ho : o.op = .load 30 s) (e : a.eval s = .pointer (some ⟨D, 0, none⟩)) (h : Bx W D [.slice A1 l1 c1, .slice A2 l2 c2, .slice A3 l3 c3, .slice A4 l4 c4, .slice A5 l5 c5]) : (execOp a.eval o).run Try.prog W = .ok (.value (.agg #[.slice A1 l1 c1, .slice A2 l2 c2, .slice A3 l3 c3, .slice A4 l4 c4, .slice A5 l5 c5])) W := by
  have h0 := h.c 0 _ rfl
  have h1 := h.c 1 _ rfl
  have h2 := h.c 2 _ rfl
  have h3 := h.c 3 _ rfl
  have h4 := h.c 4 _ rfl
  simp only [execOp, ho, e]
  go_simp
theorem np_loadDd {E : Nat} {kd x p : Int} (ho : o.op = .load 32 s) (e : a.eval s = .pointer (some ⟨E, 0, none⟩)) (h : Bx W E [.int .i64 kd, .int .i64 x, .int .i64 p]) : (execOp a.eval o).run Try.prog W = .ok (.value (.agg #[.int .i64 kd, .int .i64 x, .int .i64 p])) W := by
  have h0 := h.c 0 _ rfl
  have h1 := h.c 1 _ rfl
  have h2 := h.c 2 _ rfl
  simp only [execOp, ho, e]
  go_simp
theorem np_loadCl {b k : Nat} {A : Option Addr} {n c : Nat} (ho : o.op = .load 28 s) (e : a.eval s = .pointer (some ⟨b, k, none⟩)) (h : W.cell? ⟨b, k, none⟩ = some (.slice A n c)) : (execOp a.eval o).run Try.prog W = .ok (.value (.slice A n c)) W := by
  simp only [execOp, ho, e]
  go_simp
end
def rcDs (B D E : Nat) (A1 : Option Addr) (l1 c1 : Nat) (A2 : Option Addr) (l2 c2 : Nat) (A3 : Option Addr) (l3 c3 : Nat) (A4 : Option Addr) (l4 c4 : Nat) (A5 : Option Addr) (c5 : Nat) (a2 : AX) (kd x p : Int) (bt : Bool) : List DI := [.c (.pointer (some ⟨B, 0, none⟩)), .c (.agg #[.int .i64 kd, .int .i64 x, .int .i64 p]), .c (.bool bt), .c (.bool bt), .c (.bool false), .c (.bool false), .c (.pointer (some ⟨B, 0, none⟩)), .c (.pointer (some ⟨E, 1, none⟩)), .c (.int .i64 x), .p (PV.ints (ckL a2 x)), .c (.agg #[.slice A1 l1 c1, .slice A2 l2 c2, .slice A3 l3 c3, .slice A4 l4 c4, .slice A5 a2.cl.length c5]), .c (.pointer (some ⟨E, 1, none⟩)), .c (.int .i64 x), .p (PV.ints (ckL a2 x)), .c (.bool true), .c (.bool false), .c (.bool false), .c (.bool false), .c (.pointer (some ⟨B, 0, none⟩)), .p (PV.cls a2.cl), .c (.pointer (some ⟨D, 4, none⟩)), .c (.slice A5 a2.cl.length c5), .c (.bool true), .c (.bool false), .c (.bool false)]
set_option maxRecDepth 100000 in
set_option maxHeartbeats 16000000 in
theorem RacePlays_walk (A : Option Addr) (zs : List D3) (c : Nat) (w : World) (hA : DdD w w.heap.size A zs) (hI : ∀ x ∈ zs, IsI x.2) (hl : zs.length ≤ 9223372036854775807) (_ : zs.length ≤ c) (_ : A = none → c = 0) :
    Calls Try.prog 3 #[.slice A zs.length c] w fun e w' => e = .returned (.bool true) ∧ Below w.heap.size w w' := by
  have hmix : Try.prog.follows .mixedOrders = true := by kernel_rfl
  by_cases hlong : 60 < zs.length
  · have hi : (60 : Int) < (zs.length : Int) := by omega
    clear hA hI
    go_enter Try.func3, Try.ntmps3
    go_wp2_with fail
    refine (race_lives_any _).mono ?_
    rintro e w1 ⟨rfl, hb1⟩
    go_wp2
    go_ret
    exact ⟨rfl, hb1⟩
  have hi : ¬ (60 : Int) < (zs.length : Int) := by omega
  have HI := Lib.hid hI
  have HA := Lib.hid hA
  clear hI hA
  go_enter Try.func3, Try.ntmps3
  go_wp2_with fail
  refine (New_w1 _).mono ?_
  rintro e w2 ⟨B, rfl, h1⟩
  have H2 : Hid (RHalf w 0 B w2.heap.size 0 newA newA (fun _ => True) (w2.alloc (.cells #[.slice none 0 0, .slice none 0 0, .slice none 0 0, .slice none 0 0, .slice none 0 0] 30))) := Lib.hid ⟨_, _, _, _, _, _, _, _, _, _, _, _, _, _, _, RS.start h1 _⟩
  clear h1
  go_wp2
  go_loopw [21] (fun i wr => ∃ k : Nat, k ≤ zs.length ∧ i = .int .i64 k ∧ ∃ a, RHalf w (3 * k) B w2.heap.size (2 * k) a a (fun _ => True) wr) (fun i _ => zs.length - (intOf i).toNat)
  case atStart => exact ⟨0, Nat.zero_le _, rfl, newA, H2.out⟩
  case round =>
    clear H2
    obtain ⟨k, hk, rfl, a, B1, m1, d1, B2, m2, d2, B3, m3, d3, B4, m4, d4, B5, m5, d5, hE⟩ := hrel
    generalize hX : w2.heap.size = D at *
    by_cases hlt : k < zs.length
    · obtain ⟨d, hd⟩ : ∃ d, zs[k]? = some d := ⟨_, List.getElem?_eq_getElem hlt⟩
      have hip := HI.out d (List.mem_of_getElem? hd)
      obtain ⟨b, off, rfl, hbb, q0, q1, q2⟩ := HA.out k d hd
      obtain ⟨⟨kd, x⟩, p⟩ := d
      simp only at hip q0 q1 q2
      have hbl := hE.belowR
      have r0 := (hbl.cell (p := ⟨b, off + k * 3, none⟩) hbb).trans q0
      have r1 := (hbl.cell (p := ⟨b, off + k * 3 + 1, none⟩) hbb).trans q1
      have r2 := (hbl.cell (p := ⟨b, off + k * 3 + 2, none⟩) hbb).trans q2
      clear q0 q1 q2 hd hX hbl
      have hkl : (k : Int) < (zs.length : Int) := by omega
      have hk0 : (0 : Int) ≤ (k : Int) := by omega
      have HIP := Lib.hid hip
      have HK : Hid (2 * k < 700) := Lib.hid (by omega)
      have HK2 : Hid (3 * k < 90000) := Lib.hid (by omega)
      have HD := Lib.hid (hE.newbox [.int .i64 kd, .int .i64 x, .int .i64 p] 32)
      clear hE hip
      obtain ⟨E, hE⟩ : ∃ E, wr.heap.size = E := ⟨_, rfl⟩
      rw [hE] at HD
      go_upto_block 2 with (fail)
      generalize wr.alloc (.cells #[.int .i64 kd, .int .i64 x, .int .i64 p] 32) = W0 at *
      clear r0 r1 r2 hE
      go_cut [7, 21] from 21 to 102 (fun bv iv wc => bv = .bool (doA a ((kd, x), p)).2 ∧ iv = .int .i64 (k : Int) ∧ RHalf w (3 * k) B D (2 * k + 2) a (doA a ((kd, x), p)).1 (CellsR E [.int .i64 kd, .int .i64 x, .int .i64 p]) wc)
      case first =>
        have g0 := HD.out.bx.c 0 _ rfl
        have g1 := HD.out.bx.c 1 _ rfl
        have g2 := HD.out.bx.c 2 _ rfl
        have g3 := HD.out.bx.c 3 _ rfl
        have g4 := HD.out.bx.c 4 _ rfl
        have e0 := HD.out.fact.c 0 _ rfl
        have e1 := HD.out.fact.c 1 _ rfl
        have e2 := HD.out.fact.c 2 _ rfl
        by_cases k0 : kd = 0
        · subst k0
          have HT := Lib.hid (doA_true a (kd := 0) (by decide) (by decide) x p)
          have HL := Lib.hid (Load_rs HD.out HK.out x p)
          clear HD
          go_wp2_with fail
          refine HL.out.mono ?_
          rintro e w4 ⟨V', rfl, h4⟩
          obtain ⟨A1, l1, c1, A2, l2, c2, A3, l3, c3, A4, l4, c4, A5, l5, c5, rfl⟩ := h4.form
          have H4 := Lib.hid h4
          clear h4 HL g0 g1 g2 g3 g4 e0 e1 e2
          have g0 := H4.out.bx.c 0 _ rfl
          have g1 := H4.out.bx.c 1 _ rfl
          have g2 := H4.out.bx.c 2 _ rfl
          have g3 := H4.out.bx.c 3 _ rfl
          have g4 := H4.out.bx.c 4 _ rfl
          have f0 := H4.out.bx.f 0
          have f1 := H4.out.bx.f 1
          have f2 := H4.out.bx.f 2
          have f3 := H4.out.bx.f 3
          have f4 := H4.out.bx.f 4
          have H5 := Lib.hid H4.out.box
          clear H4
          go_wp2_with fail
          go_meet
          exact ⟨by rw [HT.out], rfl, _, _, _, _, _, _, _, _, _, _, _, _, _, _, _, H5.out⟩
        by_cases k1 : kd = 1
        · subst k1
          have HT := Lib.hid (doA_true a (kd := 1) (by decide) (by decide) x p)
          have HL := Lib.hid (Store_rs HD.out HK.out x p)
          clear HD
          go_wp2_with fail
          refine HL.out.mono ?_
          rintro e w4 ⟨V', rfl, h4⟩
          obtain ⟨A1, l1, c1, A2, l2, c2, A3, l3, c3, A4, l4, c4, A5, l5, c5, rfl⟩ := h4.form
          have H4 := Lib.hid h4
          clear h4 HL g0 g1 g2 g3 g4 e0 e1 e2
          have g0 := H4.out.bx.c 0 _ rfl
          have g1 := H4.out.bx.c 1 _ rfl
          have g2 := H4.out.bx.c 2 _ rfl
          have g3 := H4.out.bx.c 3 _ rfl
          have g4 := H4.out.bx.c 4 _ rfl
          have f0 := H4.out.bx.f 0
          have f1 := H4.out.bx.f 1
          have f2 := H4.out.bx.f 2
          have f3 := H4.out.bx.f 3
          have f4 := H4.out.bx.f 4
          have H5 := Lib.hid H4.out.box
          clear H4
          go_wp2_with fail
          go_meet
          exact ⟨by rw [HT.out], rfl, _, _, _, _, _, _, _, _, _, _, _, _, _, _, _, H5.out⟩
        by_cases k2 : kd = 2
        · subst k2
          have HT := Lib.hid (doA_true a (kd := 2) (by decide) (by decide) x p)
          have HL := Lib.hid (Swap_rs HD.out HK.out x p)
          clear HD
          go_wp2_with fail
          refine HL.out.mono ?_
          rintro e w4 ⟨V', rfl, h4⟩
          obtain ⟨A1, l1, c1, A2, l2, c2, A3, l3, c3, A4, l4, c4, A5, l5, c5, rfl⟩ := h4.form
          have H4 := Lib.hid h4
          clear h4 HL g0 g1 g2 g3 g4 e0 e1 e2
          have g0 := H4.out.bx.c 0 _ rfl
          have g1 := H4.out.bx.c 1 _ rfl
          have g2 := H4.out.bx.c 2 _ rfl
          have g3 := H4.out.bx.c 3 _ rfl
          have g4 := H4.out.bx.c 4 _ rfl
          have f0 := H4.out.bx.f 0
          have f1 := H4.out.bx.f 1
          have f2 := H4.out.bx.f 2
          have f3 := H4.out.bx.f 3
          have f4 := H4.out.bx.f 4
          have H5 := Lib.hid H4.out.box
          clear H4
          go_wp2_with fail
          go_meet
          exact ⟨by rw [HT.out], rfl, _, _, _, _, _, _, _, _, _, _, _, _, _, _, _, H5.out⟩
        by_cases k3 : kd = 3
        · subst k3
          have HL := Lib.hid (Read_rs HD.out HK.out x p)
          clear HD
          generalize (doA a ((3, x), p)).2 = bt at *
          go_wp2_with fail
          refine HL.out.mono ?_
          rintro e w4 ⟨V', rfl, h4⟩
          obtain ⟨A1, l1, c1, A2, l2, c2, A3, l3, c3, A4, l4, c4, A5, l5, c5, rfl⟩ := h4.form
          have H4 := Lib.hid (h4.later (below_new w4 (.cells #[.slice A1 l1 c1, .slice A2 l2 c2, .slice A3 l3 c3, .slice A4 l4 c4, .slice A5 l5 c5] 30)))
          have Y4 := Lib.hid (show Bx (w4.alloc (.cells #[.slice A1 l1 c1, .slice A2 l2 c2, .slice A3 l3 c3, .slice A4 l4 c4, .slice A5 l5 c5] 30)) w4.heap.size [.slice A1 l1 c1, .slice A2 l2 c2, .slice A3 l3 c3, .slice A4 l4 c4, .slice A5 l5 c5] from Bx.new w4 [.slice A1 l1 c1, .slice A2 l2 c2, .slice A3 l3 c3, .slice A4 l4 c4, .slice A5 l5 c5] 30)
          clear h4 HL g0 g1 g2 g3 g4 e0 e1 e2
          go_upto_region 20 with (fail)
          generalize w4.alloc (.cells #[.slice A1 l1 c1, .slice A2 l2 c2, .slice A3 l3 c3, .slice A4 l4 c4, .slice A5 l5 c5] 30) = X4 at *
          generalize w4.heap.size = Y at *
          have g0 := H4.out.bx.c 0 _ rfl
          have g1 := H4.out.bx.c 1 _ rfl
          have g2 := H4.out.bx.c 2 _ rfl
          have g3 := H4.out.bx.c 3 _ rfl
          have g4 := H4.out.bx.c 4 _ rfl
          have f0 := H4.out.bx.f 0
          have f1 := H4.out.bx.f 1
          have f2 := H4.out.bx.f 2
          have f3 := H4.out.bx.f 3
          have f4 := H4.out.bx.f 4
          have y0 := Y4.out.c 0 _ rfl
          have y1 := Y4.out.c 1 _ rfl
          have y2 := Y4.out.c 2 _ rfl
          have y3 := Y4.out.c 3 _ rfl
          have y4 := Y4.out.c 4 _ rfl
          have H5 := Lib.hid H4.out.box
          clear H4 Y4
          go_wp2_with fail
          go_meet
          exact ⟨rfl, rfl, _, _, _, _, _, _, _, _, _, _, _, _, _, _, _, H5.out⟩
        by_cases k4 : kd = 4
        · subst k4
          have HL := Lib.hid (Write_rs HD.out HK.out x p)
          clear HD
          generalize (doA a ((4, x), p)).2 = bt at *
          go_wp2_with fail
          refine HL.out.mono ?_
          rintro e w4 ⟨V', rfl, h4⟩
          obtain ⟨A1, l1, c1, A2, l2, c2, A3, l3, c3, A4, l4, c4, A5, l5, c5, rfl⟩ := h4.form
          have H4 := Lib.hid (h4.later (below_new w4 (.cells #[.slice A1 l1 c1, .slice A2 l2 c2, .slice A3 l3 c3, .slice A4 l4 c4, .slice A5 l5 c5] 30)))
          have Y4 := Lib.hid (show Bx (w4.alloc (.cells #[.slice A1 l1 c1, .slice A2 l2 c2, .slice A3 l3 c3, .slice A4 l4 c4, .slice A5 l5 c5] 30)) w4.heap.size [.slice A1 l1 c1, .slice A2 l2 c2, .slice A3 l3 c3, .slice A4 l4 c4, .slice A5 l5 c5] from Bx.new w4 [.slice A1 l1 c1, .slice A2 l2 c2, .slice A3 l3 c3, .slice A4 l4 c4, .slice A5 l5 c5] 30)
          clear h4 HL g0 g1 g2 g3 g4 e0 e1 e2
          go_upto_region 24 with (fail)
          generalize w4.alloc (.cells #[.slice A1 l1 c1, .slice A2 l2 c2, .slice A3 l3 c3, .slice A4 l4 c4, .slice A5 l5 c5] 30) = X4 at *
          generalize w4.heap.size = Y at *
          have g0 := H4.out.bx.c 0 _ rfl
          have g1 := H4.out.bx.c 1 _ rfl
          have g2 := H4.out.bx.c 2 _ rfl
          have g3 := H4.out.bx.c 3 _ rfl
          have g4 := H4.out.bx.c 4 _ rfl
          have f0 := H4.out.bx.f 0
          have f1 := H4.out.bx.f 1
          have f2 := H4.out.bx.f 2
          have f3 := H4.out.bx.f 3
          have f4 := H4.out.bx.f 4
          have y0 := Y4.out.c 0 _ rfl
          have y1 := Y4.out.c 1 _ rfl
          have y2 := Y4.out.c 2 _ rfl
          have y3 := Y4.out.c 3 _ rfl
          have y4 := Y4.out.c 4 _ rfl
          have H5 := Lib.hid H4.out.box
          clear H4 Y4
          go_wp2_with fail
          go_meet
          exact ⟨rfl, rfl, _, _, _, _, _, _, _, _, _, _, _, _, _, _, _, H5.out⟩
        have HE := Lib.hid (doA_else a k0 k1 k2 k3 k4 x p)
        have H5 := Lib.hid (HD.out.more (n' := 3 * k) (m' := 2 * k + 2) (by omega) (by omega))
        clear HD
        go_wp2_with fail
        go_meet
        exact ⟨by rw [HE.out], rfl, _, _, _, _, _, _, _, _, _, _, _, _, _, _, _, by rw [HE.out]; exact H5.out⟩
      case rest =>
        obtain ⟨rfl, rfl, A1, l1, c1, A2, l2, c2, A3, l3, c3, A4, l4, c4, A5, l5, c5, hM⟩ := hcut
        have HDO := Lib.hid (fun W h => do_rs (w0 := w) (w := W) (n := 3 * k) (B := B) (a := a) (D := D) (Vb := [.slice A1 l1 c1, .slice A2 l2 c2, .slice A3 l3 c3, .slice A4 l4 c4, .slice A5 l5 c5]) (Vd := .agg #[.slice A1 l1 c1, .slice A2 l2 c2, .slice A3 l3 c3, .slice A4 l4 c4, .slice A5 l5 c5]) (m := 2 * k + 2) (ad := (doA a ((kd, x), p)).1) (F := CellsR E [.int .i64 kd, .int .i64 x, .int .i64 p]) h HK2.out ((kd, x), p) HIP.out)
        obtain ⟨hl5, hcl, hcn⟩ := hM.clsOf
        have HLN := Lib.hid hcn
        clear hcl hcn
        generalize (doA a ((kd, x), p)).1 = a2 at *
        generalize (doA a ((kd, x), p)).2 = bt at *
        subst hl5
        obtain ⟨I0, hI0⟩ : ∃ I0, I0 = RS w (3 * k) B a D [.slice A1 l1 c1, .slice A2 l2 c2, .slice A3 l3 c3, .slice A4 l4 c4, .slice A5 a2.cl.length c5] (.agg #[.slice A1 l1 c1, .slice A2 l2 c2, .slice A3 l3 c3, .slice A4 l4 c4, .slice A5 a2.cl.length c5]) (2 * k + 2) a2 (CellsR E [.int .i64 kd, .int .i64 x, .int .i64 p]) := ⟨_, rfl⟩
        obtain ⟨I1, hI1⟩ : ∃ I1, I1 = RS w (3 * k + 3) B a2 D [.slice A1 l1 c1, .slice A2 l2 c2, .slice A3 l3 c3, .slice A4 l4 c4, .slice A5 a2.cl.length c5] (.agg #[.slice A1 l1 c1, .slice A2 l2 c2, .slice A3 l3 c3, .slice A4 l4 c4, .slice A5 a2.cl.length c5]) (2 * k + 2) a2 (CellsR E [.int .i64 kd, .int .i64 x, .int .i64 p]) := ⟨_, rfl⟩
        have HL0 : Hid (∀ W W', Below W.heap.size W W' → I0 W → I0 W') := Lib.hid fun W W' hb h => by rw [hI0] at h ⊢; exact h.later hb
        have HL1 : Hid (∀ W W', Below W.heap.size W W' → I1 W → I1 W') := Lib.hid fun W W' hb h => by rw [hI1] at h ⊢; exact h.later hb
        have HBX : Hid (∀ W, I0 W ∨ I1 W → Bx W D [.slice A1 l1 c1, .slice A2 l2 c2, .slice A3 l3 c3, .slice A4 l4 c4, .slice A5 a2.cl.length c5]) := Lib.hid fun W h => by
          rcases h with h | h
          · rw [hI0] at h; exact h.bx
          · rw [hI1] at h; exact h.bx
        have HEX : Hid (∀ W, I0 W ∨ I1 W → Bx W E [.int .i64 kd, .int .i64 x, .int .i64 p]) := Lib.hid fun W h => by
          rcases h with h | h
          · rw [hI0] at h; exact h.fact
          · rw [hI1] at h; exact h.fact
        have HDD : Hid (∀ W, I0 W → Calls Try.prog 15 #[.pointer (some ⟨B, 0, none⟩), .agg #[.int .i64 kd, .int .i64 x, .int .i64 p]] W fun e w' => e = .returned (.bool bt) ∧ I1 w') := Lib.hid fun W h => by
          rw [hI0] at h
          rw [hI1]
          exact HDO.out W h
        have HPC : Hid (∀ W, I1 W → Calls Try.prog 17 #[.pointer (some ⟨B, 0, none⟩), .int .i64 x] W (TellI (ckL a2 x) W)) := Lib.hid fun W h => by rw [hI1] at h; exact PClock_rs h x
        have HRC : Hid (∀ W, I1 W → Calls Try.prog 18 #[.agg #[.slice A1 l1 c1, .slice A2 l2 c2, .slice A3 l3 c3, .slice A4 l4 c4, .slice A5 a2.cl.length c5], .int .i64 x] W (TellI (ckL a2 x) W)) := Lib.hid fun W h => by rw [hI1] at h; exact RClock_rs h x
        have HCL : Hid (∀ W, I1 W → Calls Try.prog 20 #[.pointer (some ⟨B, 0, none⟩)] W (ClOut a2.cl W)) := Lib.hid fun W h => by rw [hI1] at h; exact PClashes_rs h (by have := HK2.out; omega)
        have HRD : Hid (∀ W, I1 W → RdC W A5 a2.cl) := Lib.hid fun W h => by rw [hI1] at h; exact h.clsOf.2.1
        have HQ : Hid (∀ W, I1 W → RHalf w (3 * (k + 1)) B D (2 * (k + 1)) a2 a2 (fun _ => True) W) := Lib.hid fun W h => by
          rw [hI1] at h
          exact ⟨A1, l1, c1, A2, l2, c2, A3, l3, c3, A4, l4, c4, A5, _, c5, h.drop.more (by omega) (by omega)⟩
        have HLC : Hid ((ckL a2 x).length ≤ 9223372036854775807) := Lib.hid (by have := ckL_le a2 x; omega)
        have HLD : Hid (a2.cl.length ≤ 100000) := Lib.hid (by have := HLN.out; omega)
        have HS0 : Hid (I0 wc.drew) := Lib.hid (by rw [hI0]; exact hM.later ((Drawn.refl.step 1).below _))
        clear hM hI0 hI1 HDO HD HK HK2 HIP HLN
        go_upto_region 26 with (fail)
        refine region_heldW 104 2 hmix rfl (VI (rcDs B D E A1 l1 c1 A2 l2 c2 A3 l3 c3 A4 l4 c4 A5 c5 a2 kd x p bt)) I0 I1 (VI_later _) HL0.out HL1.out (by kernel_rfl) (by decide) (VI_const (by kernel_rfl)) rfl rfl HS0.out ?_ ?_ ?_
        · intro a' W h0 ho hg
          have e0 : a'.eval (.tmp 77) = .pointer (some ⟨B, 0, none⟩) := hg 0 77 rfl rfl
          have e1 : a'.eval (.tmp 78) = .agg #[.int .i64 kd, .int .i64 x, .int .i64 p] := hg 1 78 rfl rfl
          exact n_callG (f := 15) rfl (by simp only [List.map_toArray, List.map_cons, List.map_nil, e0, e1] <;> rfl) (by go_simp) (HDD.out W h0) (fun e W' h => ⟨_, h.1, h.2, rfl⟩)
        rotate_left 1
        · intro a' W hw1 h
          have e0 : a'.eval (.tmp 101) = .bool false := h.at_ 24 101 rfl
          obtain ⟨g', hg', hge⟩ := h.frame [77, 78, 79, 80, 81, 82, 83, 84, 85, 86, 87, 88, 89, 90, 91, 92, 93, 94, 95, 96, 97, 98, 99, 100, 101] rfl
          rw [hge 101] at e0
          clear h hge
          subst hg'
          simp only [List.foldl_cons, List.foldl_nil, List.setIfInBounds_toArray, List.set_cons_zero, List.set_cons_succ, e0]
          have HR := Lib.hid (HQ.out W hw1)
          clear HL0 HL1 HBX HEX HDD HPC HRC HCL HRD HQ HLC HLD HS0 e0 hw1
          go_wp2
          go_roundw
          case rel => exact ⟨k + 1, by omega, by go_num, a2, HR.out⟩
          case measure => simp [intOf]; omega
        refine ⟨?_, ?_, ?_, ?_, ?_, ?_, ?_, ?_, ?_, ?_, ?_, ?_, ?_, ?_, ?_, ?_, ?_, ?_, ?_, ?_, ?_, ?_, ?_, ?_, ?_, trivial⟩
        · intro _ a W hI h1 ho hg
          rw [if_pos (nw_none rfl)]
          have e : a.eval (.tmp 3) = .pointer (some ⟨B, 0, none⟩) := ho 3 rfl
          exact n_move rfl e rfl
        · intro _ a W hI h1 ho hg
          rw [if_pos (nw_none rfl)]
          have e : a.eval (.tmp 6) = .pointer (some ⟨E, 0, none⟩) := ho 6 rfl
          exact n_run (np_loadDd rfl e (HEX.out W hI)) rfl
        · exact fun h => absurd rfl h
        · intro _ a W hI h1 ho hg
          rw [if_pos (nw_none rfl)]
          have e : a.eval (.tmp 7) = .bool bt := ho 7 rfl
          exact n_move rfl e rfl
        · intro _ a W hI h1 ho hg
          rw [if_pos (nw_none rfl)]
          have e : a.eval (.tmp 79) = .bool bt := hg 2 79 rfl rfl
          have f : a.eval (.tmp 80) = .bool bt := hg 3 80 rfl rfl
          exact n_run (np_neB rfl e f) rfl
        · intro _ a W hI h1 ho hg
          rw [if_pos (nw_none rfl)]
          have e : a.eval (.tmp 81) = .bool false := hg 4 81 rfl rfl
          exact n_move rfl e rfl
        · intro _ a W hI h1 ho hg
          have eg : a.eval (.tmp 82) = .bool false := hg 5 82 rfl rfl
          rw [if_pos (nw_some rfl rfl eg)]
          have e : a.eval (.tmp 3) = .pointer (some ⟨B, 0, none⟩) := ho 3 rfl
          exact n_move rfl e rfl
        · intro _ a W hI h1 ho hg
          have eg : a.eval (.tmp 82) = .bool false := hg 5 82 rfl rfl
          rw [if_pos (nw_some rfl rfl eg)]
          have e : a.eval (.tmp 6) = .pointer (some ⟨E, 0, none⟩) := ho 6 rfl
          exact n_run (v := .pointer (some ⟨E, 1, none⟩)) (by simp only [execOp, e]; go_simp) rfl
        · intro _ a W hI h1 ho hg
          have eg : a.eval (.tmp 82) = .bool false := hg 5 82 rfl rfl
          rw [if_pos (nw_some rfl rfl eg)]
          have e : a.eval (.tmp 84) = .pointer (some ⟨E, 1, none⟩) := hg 7 84 rfl rfl
          exact n_run (np_loadI rfl e ((HEX.out W hI).c 1 _ rfl)) rfl
        · intro _ a W hI h1 ho hg
          have eg : a.eval (.tmp 82) = .bool false := hg 5 82 rfl rfl
          rw [if_pos (nw_some rfl rfl eg)]
          have e0 : a.eval (.tmp 83) = .pointer (some ⟨B, 0, none⟩) := hg 6 83 rfl rfl
          have e1 : a.eval (.tmp 85) = .int .i64 x := hg 8 85 rfl rfl
          exact n_call (f := 17) rfl (by simp only [List.map_toArray, List.map_cons, List.map_nil, e0, e1] <;> rfl) (by go_simp) (HPC.out W (h1 (by kernel_rfl))) (fun e W' h => h)
        · intro _ a W hI h1 ho hg
          have eg : a.eval (.tmp 82) = .bool false := hg 5 82 rfl rfl
          rw [if_pos (nw_some rfl rfl eg)]
          have e : a.eval (.tmp 4) = .pointer (some ⟨D, 0, none⟩) := ho 4 rfl
          exact n_run (np_loadW18 rfl e (HBX.out W hI)) rfl
        · intro _ a W hI h1 ho hg
          have eg : a.eval (.tmp 82) = .bool false := hg 5 82 rfl rfl
          rw [if_pos (nw_some rfl rfl eg)]
          have e : a.eval (.tmp 6) = .pointer (some ⟨E, 0, none⟩) := ho 6 rfl
          exact n_run (v := .pointer (some ⟨E, 1, none⟩)) (by simp only [execOp, e]; go_simp) rfl
        · intro _ a W hI h1 ho hg
          have eg : a.eval (.tmp 82) = .bool false := hg 5 82 rfl rfl
          rw [if_pos (nw_some rfl rfl eg)]
          have e : a.eval (.tmp 88) = .pointer (some ⟨E, 1, none⟩) := hg 11 88 rfl rfl
          exact n_run (np_loadI rfl e ((HEX.out W hI).c 1 _ rfl)) rfl
        · intro _ a W hI h1 ho hg
          have eg : a.eval (.tmp 82) = .bool false := hg 5 82 rfl rfl
          rw [if_pos (nw_some rfl rfl eg)]
          have e0 : a.eval (.tmp 87) = .agg #[.slice A1 l1 c1, .slice A2 l2 c2, .slice A3 l3 c3, .slice A4 l4 c4, .slice A5 a2.cl.length c5] := hg 10 87 rfl rfl
          have e1 : a.eval (.tmp 89) = .int .i64 x := hg 12 89 rfl rfl
          exact n_call (f := 18) rfl (by simp only [List.map_toArray, List.map_cons, List.map_nil, e0, e1] <;> rfl) (by go_simp) (HRC.out W (h1 (by kernel_rfl))) (fun e W' h => h)
        · intro _ a W hI h1 ho hg
          have eg : a.eval (.tmp 82) = .bool false := hg 5 82 rfl rfl
          rw [if_pos (nw_some rfl rfl eg)]
          obtain ⟨Ae0, ce0, e0, re0⟩ := (show ∃ A k, a.eval (.tmp 86) = .slice A (ckL a2 x).length k ∧ Rd (Value.int .i64) W W.heap.size A (ckL a2 x) from hg 9 86 rfl rfl)
          obtain ⟨Ae1, ce1, e1, re1⟩ := (show ∃ A k, a.eval (.tmp 90) = .slice A (ckL a2 x).length k ∧ Rd (Value.int .i64) W W.heap.size A (ckL a2 x) from hg 13 90 rfl rfl)
          exact n_call (f := 16) rfl (by simp only [List.map_toArray, List.map_cons, List.map_nil, e0, e1] <;> rfl) (by go_simp) (SameInts_refl Ae0 Ae1 (ckL a2 x) ce0 ce1 W re0 re1 HLC.out) (fun e W' h => ⟨_, h.1, h.2.below _, rfl⟩)
        · intro _ a W hI h1 ho hg
          have eg : a.eval (.tmp 82) = .bool false := hg 5 82 rfl rfl
          rw [if_pos (nw_some rfl rfl eg)]
          have e : a.eval (.tmp 91) = .bool true := hg 14 91 rfl rfl
          exact n_not rfl e rfl
        · intro _ a W hI h1 ho hg
          rw [if_pos (nw_none rfl)]
          have e : a.eval (.tmp 82) = .bool false := hg 5 82 rfl rfl
          have f : a.eval (.tmp 92) = .bool false := hg 15 92 rfl rfl
          exact n_pick rfl e (fun h => by cases h) (fun _ => f) rfl
        · intro _ a W hI h1 ho hg
          rw [if_pos (nw_none rfl)]
          have e : a.eval (.tmp 93) = .bool false := hg 16 93 rfl rfl
          exact n_move rfl e rfl
        · intro _ a W hI h1 ho hg
          have eg : a.eval (.tmp 94) = .bool false := hg 17 94 rfl rfl
          rw [if_pos (nw_some rfl rfl eg)]
          have e : a.eval (.tmp 3) = .pointer (some ⟨B, 0, none⟩) := ho 3 rfl
          exact n_move rfl e rfl
        · intro _ a W hI h1 ho hg
          have eg : a.eval (.tmp 94) = .bool false := hg 17 94 rfl rfl
          rw [if_pos (nw_some rfl rfl eg)]
          have e0 : a.eval (.tmp 95) = .pointer (some ⟨B, 0, none⟩) := hg 18 95 rfl rfl
          exact n_call (f := 20) rfl (by simp only [List.map_toArray, List.map_cons, List.map_nil, e0] <;> rfl) (by go_simp) (HCL.out W (h1 (by kernel_rfl))) (fun e W' ⟨A, c, he, hr, hb⟩ => ⟨_, he, hb, A, c, rfl, hr⟩)
        · intro _ a W hI h1 ho hg
          have eg : a.eval (.tmp 94) = .bool false := hg 17 94 rfl rfl
          rw [if_pos (nw_some rfl rfl eg)]
          have e : a.eval (.tmp 4) = .pointer (some ⟨D, 0, none⟩) := ho 4 rfl
          exact n_run (v := .pointer (some ⟨D, 4, none⟩)) (by simp only [execOp, e]; go_simp) rfl
        · intro _ a W hI h1 ho hg
          have eg : a.eval (.tmp 94) = .bool false := hg 17 94 rfl rfl
          rw [if_pos (nw_some rfl rfl eg)]
          have e : a.eval (.tmp 97) = .pointer (some ⟨D, 4, none⟩) := hg 20 97 rfl rfl
          exact n_run (np_loadCl rfl e ((HBX.out W hI).c 4 _ rfl)) rfl
        · intro _ a W hI h1 ho hg
          have eg : a.eval (.tmp 94) = .bool false := hg 17 94 rfl rfl
          rw [if_pos (nw_some rfl rfl eg)]
          obtain ⟨Ae0, ce0, e0, re0⟩ := (show ∃ A k, a.eval (.tmp 96) = .slice A (a2.cl).length k ∧ RdC W A a2.cl from hg 19 96 rfl rfl)
          have e1 : a.eval (.tmp 98) = .slice A5 a2.cl.length c5 := hg 21 98 rfl rfl
          exact n_call (f := 19) rfl (by simp only [List.map_toArray, List.map_cons, List.map_nil, e0, e1] <;> rfl) (by go_simp) (SameC_refl Ae0 A5 a2.cl ce0 c5 W re0 (HRD.out W (h1 (by kernel_rfl))) HLD.out) (fun e W' h => ⟨_, h.1, h.2.below _, rfl⟩)
        · intro _ a W hI h1 ho hg
          have eg : a.eval (.tmp 94) = .bool false := hg 17 94 rfl rfl
          rw [if_pos (nw_some rfl rfl eg)]
          have e : a.eval (.tmp 99) = .bool true := hg 22 99 rfl rfl
          exact n_not rfl e rfl
        · intro _ a W hI h1 ho hg
          rw [if_pos (nw_none rfl)]
          have e : a.eval (.tmp 94) = .bool false := hg 17 94 rfl rfl
          have f : a.eval (.tmp 100) = .bool false := hg 23 100 rfl rfl
          exact n_pick rfl e (fun h => by cases h) (fun _ => f) rfl
    · obtain rfl : k = zs.length := by omega
      have HB := Lib.hid hE.belowR
      clear hE
      go_wp2_with fail
      refine (race_lives_any _).mono ?_
      rintro e w5 ⟨rfl, hb5⟩
      have HB5 := Lib.hid (Below.next HB.out hb5)
      clear hb5
      go_wp2
      go_ret
      exact ⟨rfl, HB5.out⟩
end Go.Proofs.Ytdgmcaehadigaaa
