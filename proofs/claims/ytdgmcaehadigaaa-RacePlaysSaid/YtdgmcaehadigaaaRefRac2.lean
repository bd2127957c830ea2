/- The document's watch (ganglionref18), by contract: known. -/
import Derived.Test.YtdgmcaehadigaaaRefRac
import Derived.Test.YtdgmcaehadigaaaRacData
import Derived.BigQuiet
namespace Go.Proofs.Ytdgmcaehadigaaa
open Go.RowKit

/-- A clock told, by its numbers. -/
def PV.clk (N : List Int) : PV := ⟨fun v W => ∃ A zs c, v = .slice A (zs : List Int).length c ∧ Rd (Value.int .i64) W W.heap.size A zs ∧ numL zs = N, fun _ _ _ hb ⟨A, zs, c, e, hr, hn⟩ => ⟨A, zs, c, e, rd_later hr hb, hn⟩⟩
theorem CkOut.told {w w' : World} {S : Nat → Prop} {N : List Int} {e : Ending} (h : CkOut w S N e w') : ∃ v, e = .returned v ∧ Below w.heap.size w w' ∧ (PV.clk N).P v w' := by
  obtain ⟨v, zs, he, ⟨A, c, rfl, hr, _⟩, hn, hb⟩ := h
  exact ⟨_, he, hb, A, zs, c, rfl, hr.rd, hn⟩
section
variable {o : Oper} {a : Act} {W : World} {s t : Operand}
theorem np_loadW {D : Nat} {A1 A2 A3 A4 A5 : Option Addr} {l1 c1 l2 c2 l3 c3 l4 c4 l5 c5 : Nat} (ho : o.op = .load 30 s) (e : a.eval s = .pointer (some ⟨D, 0, none⟩)) (h : Bx W D [.slice A1 l1 c1, .slice A2 l2 c2, .slice A3 l3 c3, .slice A4 l4 c4, .slice A5 l5 c5]) : (execOp a.eval o).run Try.prog W = .ok (.value (.agg #[.slice A1 l1 c1, .slice A2 l2 c2, .slice A3 l3 c3, .slice A4 l4 c4, .slice A5 l5 c5])) W := by
  have h0 := h.c 0 _ rfl
  have h1 := h.c 1 _ rfl
  have h2 := h.c 2 _ rfl
  have h3 := h.c 3 _ rfl
  have h4 := h.c 4 _ rfl
  simp only [execOp, ho, e]
  go_simp
theorem np_eqF {x y : Int} (ho : o.op = .binOp .eql 3 s t 3) (e : a.eval s = .int .i64 x) (e' : a.eval t = .int .i64 y) (hne : x ≠ y) : (execOp a.eval o).run Try.prog W = .ok (.value (.bool false)) W := by
  have : (x == y) = false := by simpa using hne
  simp only [execOp, ho, e, e']
  go_simp
theorem np_geI {x y : Int} (ho : o.op = .binOp .geq 3 s t 3) (e : a.eval s = .int .i64 x) (e' : a.eval t = .int .i64 y) : (execOp a.eval o).run Try.prog W = .ok (.value (.bool (decide (y ≤ x)))) W := by
  simp only [execOp, ho, e, e']
  go_simp
theorem n_assign {P : Program} {Q : Exit → Act → World → Prop} {V : Nat → Value → World → Prop} {i : Nat} {v : Value} (ho : o.op = .assign s) (e : a.eval s = v) (hv : V i v W) : Oper.wp P o a W (NextN V i o a W) Q := by
  unfold Oper.wp
  simp only [execOp, ho, e]
  exact ⟨v, rfl, Below.refl _ _, hv⟩
end
def knDs (_D E : Nat) (A1 A2 A3 A4 A5 : Option Addr) (l1 c1 l2 c2 l3 c3 l4 c4 l5 c5 : Nat) (y : YX) (k : Nat) (wk tm : Int) : List DI := [.c (.pointer (some ⟨E, 1, none⟩)), .c (.int .i64 wk), .c (.int .i64 (k : Int)), .c (.bool false), .c (.bool false), .c (.agg #[.slice A1 l1 c1, .slice A2 l2 c2, .slice A3 l3 c3, .slice A4 l4 c4, .slice A5 l5 c5]), .c (.int .i64 (k : Int)), .p (PV.clk (ckN y k)), .c (.pointer (some ⟨E, 1, none⟩)), .c (.int .i64 wk), .c (.int .i64 (atM (ckN y k) wk)), .c (.pointer (some ⟨E, 2, none⟩)), .c (.int .i64 tm), .c (.bool (decide (tm ≤ atM (ckN y k) wk))), .c (.bool (decide (tm ≤ atM (ckN y k) wk))), .c (.bool (decide (tm ≤ atM (ckN y k) wk)))]
/-- Does a worker whose clock says N know of it? -/
def knownN (N : List Int) (k : Nat) (n : NT) : Bool := decide (n.1.2 = k) || decide (n.2 ≤ atM N n.1.2)
set_option maxRecDepth 100000 in
set_option maxHeartbeats 4000000 in
theorem RKnown_any {w : World} {S : Nat → Prop} {A1 A2 A3 A4 A5 : Option Addr} {c1 c2 c3 c4 c5 l1 l2 l3 l4 l5 : Nat} {y : YX} (h : RYs w S A1 A2 A3 A4 A5 y) (hl : y.ck.length = l1) (k : Nat) (pl wk tm : Int) :
    Calls Try.prog 116 #[.agg #[.slice A1 l1 c1, .slice A2 l2 c2, .slice A3 l3 c3, .slice A4 l4 c4, .slice A5 l5 c5], .int .i64 (k : Int), .agg #[.int .i64 pl, .int .i64 wk, .int .i64 tm]] w fun e w' => e = .returned (.bool (knownN (ckN y k) k ((pl, wk), tm))) ∧ Below w.heap.size w w' := by
  subst hl
  have hmix : Try.prog.follows .mixedOrders = true := by kernel_rfl
  have b1 := Bx.new w [.slice A1 y.ck.length c1, .slice A2 l2 c2, .slice A3 l3 c3, .slice A4 l4 c4, .slice A5 l5 c5] 30
  have b2 := Bx.new (w.alloc (.cells #[.slice A1 y.ck.length c1, .slice A2 l2 c2, .slice A3 l3 c3, .slice A4 l4 c4, .slice A5 l5 c5] 30)) [.int .i64 pl, .int .i64 wk, .int .i64 tm] 131
  rw [World.size_alloc] at b2
  have hb0 := below_new w (.cells #[.slice A1 y.ck.length c1, .slice A2 l2 c2, .slice A3 l3 c3, .slice A4 l4 c4, .slice A5 l5 c5] 30)
  have hb1 := below_new (w.alloc (.cells #[.slice A1 y.ck.length c1, .slice A2 l2 c2, .slice A3 l3 c3, .slice A4 l4 c4, .slice A5 l5 c5] 30)) (.cells #[.int .i64 pl, .int .i64 wk, .int .i64 tm] 131)
  have HB1 := Lib.hid (show Bx ((w.alloc (.cells #[.slice A1 y.ck.length c1, .slice A2 l2 c2, .slice A3 l3 c3, .slice A4 l4 c4, .slice A5 l5 c5] 30)).alloc (.cells #[.int .i64 pl, .int .i64 wk, .int .i64 tm] 131)) w.heap.size _ from b1.below hb1)
  have HB2 := Lib.hid (show Bx ((w.alloc (.cells #[.slice A1 y.ck.length c1, .slice A2 l2 c2, .slice A3 l3 c3, .slice A4 l4 c4, .slice A5 l5 c5] 30)).alloc (.cells #[.int .i64 pl, .int .i64 wk, .int .i64 tm] 131)) (w.heap.size + 1) _ from b2)
  have HB := Lib.hid (Below.next hb0 hb1)
  have HY := Lib.hid h
  clear b1 b2 hb0 hb1 h
  go_enter Try.func116, Try.ntmps116
  go_upto_region 1 with (fail)
  obtain ⟨X, hX⟩ : ∃ X, X = (w.alloc (.cells #[.slice A1 y.ck.length c1, .slice A2 l2 c2, .slice A3 l3 c3, .slice A4 l4 c4, .slice A5 l5 c5] 30)).alloc (.cells #[.int .i64 pl, .int .i64 wk, .int .i64 tm] 131) := ⟨_, rfl⟩
  rw [← hX] at HB1 HB2 HB ⊢
  clear hX
  by_cases e : wk = (k : Int)
  · have HR : Hid (knownN (ckN y k) k ((pl, wk), tm) = true) := Lib.hid (by unfold knownN; rw [decide_eq_true e, Bool.true_or])
    subst e
    have g1 := HB2.out.c 1 _ rfl
    go_big_quiet (fail)
    go_wp2
    go_ret
    exact ⟨by rw [HR.out]; rfl, Below.next HB.out ((Drawn.refl.step _).below _)⟩
  · have HR : Hid (knownN (ckN y k) k ((pl, wk), tm) = decide (tm ≤ atM (ckN y k) wk)) := Lib.hid (by unfold knownN; rw [decide_eq_false e, Bool.false_or])
    have HNE := Lib.hid e
    clear e
    obtain ⟨D, hD⟩ : ∃ D, w.heap.size = D := ⟨_, rfl⟩
    obtain ⟨E, hE⟩ : ∃ E, w.heap.size + 1 = E := ⟨_, rfl⟩
    have HXD : Hid (∀ W, Below X.drew.heap.size X.drew W → Bx W D [.slice A1 y.ck.length c1, .slice A2 l2 c2, .slice A3 l3 c3, .slice A4 l4 c4, .slice A5 l5 c5]) := Lib.hid fun W hb => by
      rw [← hD]
      exact HB1.out.below (((Drawn.refl.step 1).below _).trans hb)
    have HXE : Hid (∀ W, Below X.drew.heap.size X.drew W → W.cell? ⟨E, 1, none⟩ = some (.int .i64 wk) ∧ W.cell? ⟨E, 2, none⟩ = some (.int .i64 tm)) := Lib.hid fun W hb => by
      rw [← hE]
      have := HB2.out.below (((Drawn.refl.step 1).below _).trans hb)
      exact ⟨this.c 1 _ rfl, this.c 2 _ rfl⟩
    have HYS : Hid (∀ W, Below X.drew.heap.size X.drew W → RYs W S A1 A2 A3 A4 A5 y) := Lib.hid fun W hb => HY.out.below (Below.next HB.out (((Drawn.refl.step 1).below _).trans hb))
    rw [hE]
    have HBW : Hid (∀ W, Below X.drew.heap.size X.drew W → Below w.heap.size w W) := Lib.hid fun W hb => Below.next HB.out (((Drawn.refl.step 1).below _).trans hb)
    rw [hD]
    clear hD hE HB1 HB2 HB HY
    refine region_held 22 hmix rfl (VI (knDs D E A1 A2 A3 A4 A5 y.ck.length c1 l2 c2 l3 c3 l4 c4 l5 c5 y k wk tm)) (VI_later _) (by kernel_rfl) ?_ ?_
    rotate_left 1
    · intro a' W h
      have e0 : a'.eval (.tmp 6) = .bool (decide (tm ≤ atM (ckN y k) wk)) := h.at_ 15 6 rfl
      have hbW : Below X.drew.heap.size X.drew W := h.hb
      obtain ⟨g', hg', hge⟩ := h.frame [7, 8, 9, 10, 11, 12, 13, 14, 15, 16, 17, 18, 19, 20, 21, 6] rfl
      rw [hge 6] at e0
      clear h hge
      subst hg'
      simp only [List.foldl_cons, List.foldl_nil, List.setIfInBounds_toArray, List.set_cons_zero, List.set_cons_succ, e0]
      have HQ := Lib.hid (HBW.out W hbW)
      clear HXD HXE HYS HBW e0 hbW
      go_wp2
      go_ret
      exact ⟨by rw [HR.out]; rfl, HQ.out⟩
    refine ⟨?_, ?_, ?_, ?_, ?_, ?_, ?_, ?_, ?_, ?_, ?_, ?_, ?_, ?_, ?_, ?_, trivial⟩
    · intro a W hb ho hg
      rw [if_pos (nw_none rfl)]
      have e : a.eval (.tmp 5) = .pointer (some ⟨E, 0, none⟩) := ho 5 rfl
      exact n_run (v := .pointer (some ⟨E, 1, none⟩)) (by simp only [execOp, e]; go_simp) rfl
    · intro a W hb ho hg
      rw [if_pos (nw_none rfl)]
      have e : a.eval (.tmp 7) = .pointer (some ⟨E, 1, none⟩) := hg 0 7 rfl rfl
      exact n_run (np_loadI rfl e (HXE.out W hb).1) rfl
    · intro a W hb ho hg
      rw [if_pos (nw_none rfl)]
      have e : a.eval (.tmp 1) = .int .i64 (k : Int) := ho 1 rfl
      exact n_move rfl e rfl
    · intro a W hb ho hg
      rw [if_pos (nw_none rfl)]
      have e : a.eval (.tmp 8) = .int .i64 wk := hg 1 8 rfl rfl
      have f : a.eval (.tmp 9) = .int .i64 (k : Int) := hg 2 9 rfl rfl
      exact n_run (np_eqF rfl e f HNE.out) rfl
    · intro a W hb ho hg
      rw [if_pos (nw_none rfl)]
      have e : a.eval (.tmp 10) = .bool false := hg 3 10 rfl rfl
      exact n_move rfl e rfl
    · intro a W hb ho hg
      have eg : a.eval (.tmp 11) = .bool false := hg 4 11 rfl rfl
      rw [if_pos (nw_some rfl rfl eg)]
      have e : a.eval (.tmp 3) = .pointer (some ⟨D, 0, none⟩) := ho 3 rfl
      exact n_run (np_loadW rfl e (HXD.out W hb)) rfl
    · intro a W hb ho hg
      have eg : a.eval (.tmp 11) = .bool false := hg 4 11 rfl rfl
      rw [if_pos (nw_some rfl rfl eg)]
      have e : a.eval (.tmp 1) = .int .i64 (k : Int) := ho 1 rfl
      exact n_move rfl e rfl
    · intro a W hb ho hg
      have eg : a.eval (.tmp 11) = .bool false := hg 4 11 rfl rfl
      rw [if_pos (nw_some rfl rfl eg)]
      have e0 : a.eval (.tmp 12) = .agg #[.slice A1 y.ck.length c1, .slice A2 l2 c2, .slice A3 l3 c3, .slice A4 l4 c4, .slice A5 l5 c5] := hg 5 12 rfl rfl
      have e1 : a.eval (.tmp 13) = .int .i64 (k : Int) := hg 6 13 rfl rfl
      exact n_call (f := 74) rfl (by simp only [List.map_toArray, List.map_cons, List.map_nil, e0, e1] <;> rfl) (by go_simp) (RClockOf_any (HYS.out W hb) rfl k) (fun e W' h => h.told)
    · intro a W hb ho hg
      have eg : a.eval (.tmp 11) = .bool false := hg 4 11 rfl rfl
      rw [if_pos (nw_some rfl rfl eg)]
      have e : a.eval (.tmp 5) = .pointer (some ⟨E, 0, none⟩) := ho 5 rfl
      exact n_run (v := .pointer (some ⟨E, 1, none⟩)) (by simp only [execOp, e]; go_simp) rfl
    · intro a W hb ho hg
      have eg : a.eval (.tmp 11) = .bool false := hg 4 11 rfl rfl
      rw [if_pos (nw_some rfl rfl eg)]
      have e : a.eval (.tmp 15) = .pointer (some ⟨E, 1, none⟩) := hg 8 15 rfl rfl
      exact n_run (np_loadI rfl e (HXE.out W hb).1) rfl
    · intro a W hb ho hg
      have eg : a.eval (.tmp 11) = .bool false := hg 4 11 rfl rfl
      rw [if_pos (nw_some rfl rfl eg)]
      obtain ⟨Ae0, ze0, ce0, e0, re0, ne0⟩ := (show ∃ A zs c, a.eval (.tmp 14) = .slice A (zs : List Int).length c ∧ Rd (Value.int .i64) W W.heap.size A zs ∧ numL zs = ckN y k from hg 7 14 rfl rfl)
      have e1 : a.eval (.tmp 16) = .int .i64 wk := hg 9 16 rfl rfl
      exact n_call (f := 78) rfl (by simp only [List.map_toArray, List.map_cons, List.map_nil, e0, e1] <;> rfl) (by go_simp) (refAt_any Ae0 ze0 ce0 wk W re0) (fun e W' h => ⟨_, h.1, by rw [← h.2]; exact Below.refl _ _, (show Value.int .i64 _ = Value.int .i64 _ from by rw [atZ_atM, ne0])⟩)
    · intro a W hb ho hg
      have eg : a.eval (.tmp 11) = .bool false := hg 4 11 rfl rfl
      rw [if_pos (nw_some rfl rfl eg)]
      have e : a.eval (.tmp 5) = .pointer (some ⟨E, 0, none⟩) := ho 5 rfl
      exact n_run (v := .pointer (some ⟨E, 2, none⟩)) (by simp only [execOp, e]; go_simp) rfl
    · intro a W hb ho hg
      have eg : a.eval (.tmp 11) = .bool false := hg 4 11 rfl rfl
      rw [if_pos (nw_some rfl rfl eg)]
      have e : a.eval (.tmp 18) = .pointer (some ⟨E, 2, none⟩) := hg 11 18 rfl rfl
      exact n_run (np_loadI rfl e (HXE.out W hb).2) rfl
    · intro a W hb ho hg
      have eg : a.eval (.tmp 11) = .bool false := hg 4 11 rfl rfl
      rw [if_pos (nw_some rfl rfl eg)]
      have e : a.eval (.tmp 17) = .int .i64 (atM (ckN y k) wk) := hg 10 17 rfl rfl
      have f : a.eval (.tmp 19) = .int .i64 tm := hg 12 19 rfl rfl
      exact n_run (np_geI rfl e f) rfl
    · intro a W hb ho hg
      rw [if_pos (nw_none rfl)]
      have e : a.eval (.tmp 11) = .bool false := hg 4 11 rfl rfl
      have f : a.eval (.tmp 20) = .bool (decide (tm ≤ atM (ckN y k) wk)) := hg 13 20 rfl rfl
      exact n_pick rfl e (fun h => by cases h) (fun _ => f) rfl
    · intro a W hb ho hg
      rw [if_pos (nw_none rfl)]
      have e : a.eval (.tmp 21) = .bool (decide (tm ≤ atM (ckN y k) wk)) := hg 14 21 rfl rfl
      exact n_assign rfl e rfl
end Go.Proofs.Ytdgmcaehadigaaa
