/- The document's epoch clock: Unpin. -/
import Derived.Test.YtdgmcaehadigaaaRefEpPin2
namespace Go.Proofs.Ytdgmcaehadigaaa
open Go.RowKit

set_option maxRecDepth 100000 in
set_option maxHeartbeats 4000000 in
theorem RUnpin_not {w : World} {Z : Nat → Prop} {V : Value} {x : EX} (h : RC w Z V x) (v : Int) (hv : unpinB x v = false) :
    Calls Try.prog 43 #[V, .int .i64 v] w fun r w' => r = .returned (.tuple #[V, .bool false]) ∧ Below w.heap.size w w' := by
  obtain ⟨A1, c1, A2, c2, A3, c3, rfl, _, r2, _⟩ := h
  have HH := Lib.hid (fun W => RHas_any (x.e : Int) A1 x.ld.length c1 A2 x.rc.length c2 A3 x.lb.length c3 (x.lk : Int) v W)
  by_cases hh : hasE x v = true
  · have hvb := of_decide_eq_true (show decide (0 ≤ v ∧ v < (x.rc.length : Int)) = true from hh)
    obtain ⟨k, rfl⟩ : ∃ k : Nat, v = (k : Int) := ⟨v.toNat, by omega⟩
    have hk : k < x.rc.length := by omega
    have hrk : x.rc.getD k 0 = 0 := by
      unfold unpinB at hv
      rw [hh, Bool.true_and, Int.toNat_natCast] at hv
      simpa using hv
    obtain ⟨rk, hrk2⟩ : ∃ rk : Nat, x.rc.getD k 0 = rk := ⟨_, rfl⟩
    rw [hrk2] at hrk
    obtain ⟨b2, o2, rfl, hb2, hcell⟩ := r2 k (rk : Int) (by unfold natI; rw [List.getElem?_map, List.getElem?_eq_getElem hk]; simp only [Option.map_some]; rw [← hrk2, List.getD_eq_getElem?_getD, List.getElem?_eq_getElem hk]; rfl)
    have hd : decide (0 ≤ (k : Int) ∧ (k : Int) < (x.rc.length : Int)) = true := hh
    rw [hd] at HH
    have hrk3 : ((rk : Int) == 0) = true := by rw [hrk]; rfl
    have hk0 : (0 : Int) ≤ (k : Int) := by omega
    have hk1 : (k : Int) < (x.rc.length : Int) := by omega
    clear hv hh hvb hd r2 hrk2 hrk
    unfold cV at *
    generalize (x.e : Int) = e at *
    generalize (x.lk : Int) = lk at *
    generalize x.ld.length = l1 at *
    generalize x.rc.length = l2 at *
    generalize x.lb.length = l3 at *
    obtain ⟨b1, b4, b3⟩ := Five.two w (.int .i64 e) (.slice A1 l1 c1) (.slice (some ⟨b2, o2, none⟩) l2 c2) (.slice A3 l3 c3) (.int .i64 lk) (.int .i64 0) (.slice none 0 0) (.slice none 0 0) (.slice none 0 0) (.int .i64 0) 69
    have HB1 := Lib.hid b1
    have HB2 := Lib.hid b4
    have HB3 := Lib.hid b3
    have HCE := Lib.hid (And.intro hb2 hcell)
    clear b1 b4 b3 hb2 hcell
    go_enter Try.func43, Try.ntmps43
    go_wp2_with fail
    refine (HH.out _).mono ?_
    rintro r w2 ⟨rfl, hb2⟩
    obtain ⟨_, x0, x1, x2, x3, x4, y0, y1, y2, y3, y4⟩ := HB1.out.below hb2
    obtain ⟨hlt, u0, u1, u2, u3, u4, z0, z1, z2, z3, z4⟩ := HB2.out.below hb2
    have HBB := Lib.hid (Below.next HB3.out hb2)
    have hc := (HBB.out.cell (p := ⟨b2, o2 + k, none⟩) HCE.out.1).trans HCE.out.2
    have HP := Lib.hid ((HB2.out.below hb2).put (.int .i64 e) (.slice A1 l1 c1) (.slice (some ⟨b2, o2, none⟩) l2 c2) (.slice A3 l3 c3) (.int .i64 lk))
    clear hb2 HB1 HB2 HB3 HH
    go_wp2
    obtain ⟨_, q0, q1, q2, q3, q4, _, _, _, _, _⟩ := HP.out
    exact bodyPost_ret (v := .tuple #[.agg #[.int .i64 e, .slice A1 l1 c1, .slice (some ⟨b2, o2, none⟩) l2 c2, .slice A3 l3 c3, .int .i64 lk], .bool false]) (by simp [results, Try.results43, go_sem, q0, q1, q2, q3, q4]) rfl ⟨rfl, below_put HBB.out (Nat.le_succ _) _ _ _ _ _⟩
  · have hd : decide (0 ≤ v ∧ v < (x.rc.length : Int)) = false := Bool.eq_false_iff.2 hh
    rw [hd] at HH
    clear hv hh hd r2
    unfold cV at *
    generalize (x.e : Int) = e at *
    generalize (x.lk : Int) = lk at *
    generalize x.ld.length = l1 at *
    generalize x.rc.length = l2 at *
    generalize x.lb.length = l3 at *
    obtain ⟨b1, b4, b3⟩ := Five.two w (.int .i64 e) (.slice A1 l1 c1) (.slice A2 l2 c2) (.slice A3 l3 c3) (.int .i64 lk) (.int .i64 0) (.slice none 0 0) (.slice none 0 0) (.slice none 0 0) (.int .i64 0) 69
    have HB1 := Lib.hid b1
    have HB2 := Lib.hid b4
    have HB3 := Lib.hid b3
    clear b1 b4 b3
    go_enter Try.func43, Try.ntmps43
    go_wp2_with fail
    refine (HH.out _).mono ?_
    rintro r w2 ⟨rfl, hb2⟩
    obtain ⟨_, x0, x1, x2, x3, x4, y0, y1, y2, y3, y4⟩ := HB1.out.below hb2
    obtain ⟨hlt, u0, u1, u2, u3, u4, z0, z1, z2, z3, z4⟩ := HB2.out.below hb2
    have HBB := Lib.hid (Below.next HB3.out hb2)
    have HP := Lib.hid ((HB2.out.below hb2).put (.int .i64 e) (.slice A1 l1 c1) (.slice A2 l2 c2) (.slice A3 l3 c3) (.int .i64 lk))
    clear hb2 HB1 HB2 HB3 HH
    go_wp2
    obtain ⟨_, q0, q1, q2, q3, q4, _, _, _, _, _⟩ := HP.out
    exact bodyPost_ret (v := .tuple #[.agg #[.int .i64 e, .slice A1 l1 c1, .slice A2 l2 c2, .slice A3 l3 c3, .int .i64 lk], .bool false]) (by simp [results, Try.results43, go_sem, q0, q1, q2, q3, q4]) rfl ⟨rfl, below_put HBB.out (Nat.le_succ _) _ _ _ _ _⟩

set_option maxRecDepth 100000 in
set_option maxHeartbeats 4000000 in
theorem RUnpin_yes {w : World} {Z : Nat → Prop} {V : Value} {x : EX} {n : Nat} (h : RC w Z V x) (hf : EFit n x) (_hn : n ≤ 100000) (k : Nat) (hk : k < x.rc.length) (hz : x.rc.getD k 0 ≠ 0) :
    Calls Try.prog 43 #[V, .int .i64 (k : Int)] w fun r w' => ∃ V', r = .returned (.tuple #[V', .bool true]) ∧ RC w' (ZZ Z w) V' (unpinE x k) ∧ Below w.heap.size w w' := by
  obtain ⟨A1, c1, A2, c2, A3, c3, rfl, r1, r2, r3, t1, t2, t3⟩ := h
  have HH := Lib.hid (fun W => RHas_any (x.e : Int) A1 x.ld.length c1 A2 x.rc.length c2 A3 x.lb.length c3 (x.lk : Int) (k : Int) W)
  have hd : decide (0 ≤ (k : Int) ∧ (k : Int) < (x.rc.length : Int)) = true := decide_eq_true ⟨by omega, by omega⟩
  rw [hd] at HH
  have HS := Lib.hid (fun W (hb : Below w.heap.size w W) v => RSet_n (c := c2) (rd_later r2 hb) hf.few hk v rfl)
  have HO : Hid (∀ W A c, Below w.heap.size w W → Rd (Value.int .i64) W W.heap.size A (natI (x.rc.set k 0)) → (∀ g o, A = some ⟨g, o, none⟩ → w.heap.size ≤ g) → RC W (ZZ Z w) (cV x.e A1 x.ld.length c1 A x.rc.length c A3 x.lb.length c3 x.lk) (unpinE x k)) := Lib.hid fun W A c hb hr hz =>
    ⟨A1, c1, A, c, A3, c3, by show _ = cV _ _ _ _ _ (x.rc.set k _).length _ _ _ _ _; rw [List.length_set]; rfl, rd_later r1 hb, hr, (r3.below hb).more hb.size, t1.old, .new hz, t3.old⟩
  obtain ⟨g2, o2, rfl, hg2, hc2⟩ := natI_cell r2 hk
  have hrk3 : (((x.rc.getD k 0 : Nat) : Int) == 0) = false := by rw [beq_eq_false_iff_ne]; omega
  have HC := Lib.hid (fun W (hb : Below w.heap.size w W) => (hb.cell (p := ⟨g2, o2 + k, none⟩) hg2).trans hc2)
  have hk0 : (0 : Int) ≤ (k : Int) := by omega
  have hk1 : (k : Int) < (x.rc.length : Int) := by omega
  clear hd r1 r2 r3 t1 t2 t3 hf hk hz hc2 hg2
  unfold cV at *
  generalize (x.e : Int) = e at *
  generalize (x.lk : Int) = lk at *
  generalize x.rc.getD k 0 = rk at *
  generalize x.ld.length = l1 at *
  generalize x.rc.length = l2 at *
  generalize x.lb.length = l3 at *
  obtain ⟨b1, b2, b3⟩ := Five.two w (.int .i64 e) (.slice A1 l1 c1) (.slice (some ⟨g2, o2, none⟩) l2 c2) (.slice A3 l3 c3) (.int .i64 lk) (.int .i64 0) (.slice none 0 0) (.slice none 0 0) (.slice none 0 0) (.int .i64 0) 69
  have HB1 := Lib.hid b1
  have HB2 := Lib.hid b2
  have HB3 := Lib.hid b3
  clear b1 b2 b3
  go_enter Try.func43, Try.ntmps43
  go_wp2_with fail
  refine (HH.out _).mono ?_
  rintro r w2 ⟨rfl, hb2⟩
  have H1 := Lib.hid (HB1.out.below hb2)
  have H2 := Lib.hid (HB2.out.below hb2)
  have HBB := Lib.hid (Below.next HB3.out hb2)
  have x1 := H1.out.c1
  have x2 := H1.out.c2
  have y2 := HC.out _ HBB.out
  clear hb2 HB1 HB2 HB3 HH
  have HD1 := H1
  have HD2 := H2
  have HDB := HBB
  have HSS := Lib.hid (HS.out w2 HDB.out 0)
  clear H1 H2 HBB HC
  go_wp2_with fail
  refine HSS.out.mono ?_
  rintro r w3 ⟨A5, c5, rfl, hr5, hb3, hg5⟩
  have HZ5 : Hid (∀ g o, A5 = some ⟨g, o, none⟩ → w.heap.size ≤ g) := Lib.hid fun g o e => Nat.le_trans (HDB.out).size (hg5 g o e)
  clear x1 x2 y2
  obtain ⟨_, x0, x1, x2, x3, x4, y0, y1, y2, y3, y4⟩ := HD1.out.below hb3
  have H5 := Lib.hid hr5
  have H3 := Lib.hid (HD2.out.below hb3)
  have HB5 := Lib.hid (Below.next HDB.out hb3)
  have HW1 := Lib.hid ((HD1.out.below hb3).one (.slice A5 l2 c5)).2.1
  have HW2 := Lib.hid (H3.out.other (a := ⟨w.heap.size, 2, none⟩) (by show w.heap.size ≠ w.heap.size + 1; omega) (.slice A5 l2 c5))
  have HW3 := Lib.hid (HB5.out.setCell (p := ⟨w.heap.size, 2, none⟩) (Nat.le_refl _) (.slice A5 l2 c5))
  have HWR := Lib.hid (rd_set (v := .slice A5 l2 c5) H5.out (a := ⟨w.heap.size, 2, none⟩) (fun g o e => by have := hg5 g o e; have := HD1.out.lt; show w.heap.size ≠ g; omega))
  have HG5 : Hid (∀ g o, A5 = some ⟨g, o, none⟩ → w.heap.size + 1 ≠ g) := Lib.hid fun g o e => by
    have := hg5 g o e
    have := HD2.out.lt
    omega
  clear hb3 hr5 HD1 HD2 HDB H3 HB5 H5 hg5 HS HSS
  go_upto_region 4 with (fail)
  generalize w3.setCell ⟨w.heap.size, 2, none⟩ (.slice A5 l2 c5) = W4 at *
  clear x0 x1 x2 x3 x4 y0 y1 y2 y3 y4
  obtain ⟨_, x0, x1, x2, x3, x4, y0, y1, y2, y3, y4⟩ := HW1.out
  obtain ⟨_, u0, u1, u2, u3, u4, z0, z1, z2, z3, z4⟩ := HW2.out
  have HP := Lib.hid (HW2.out.put (.int .i64 e) (.slice A1 l1 c1) (.slice A5 l2 c5) (.slice A3 l3 c3) (.int .i64 lk))
  have HBF := Lib.hid (below_put HW3.out (Nat.le_succ w.heap.size) (.int .i64 e) (.slice A1 l1 c1) (.slice A5 l2 c5) (.slice A3 l3 c3) (.int .i64 lk))
  have HRF := Lib.hid (HO.out _ A5 c5 HBF.out (rd_putE HWR.out HG5.out (.int .i64 e) (.slice A1 l1 c1) (.slice A5 l2 c5) (.slice A3 l3 c3) (.int .i64 lk)) HZ5.out)
  clear HW1 HW2 HW3 HWR HG5 HO
  go_wp2
  obtain ⟨_, q0, q1, q2, q3, q4, _, _, _, _, _⟩ := HP.out
  exact bodyPost_ret (v := .tuple #[.agg #[.int .i64 e, .slice A1 l1 c1, .slice A5 l2 c5, .slice A3 l3 c3, .int .i64 lk], .bool true]) (by simp [results, Try.results43, go_sem, q0, q1, q2, q3, q4]) rfl ⟨_, rfl, HRF.out, HBF.out⟩
end Go.Proofs.Ytdgmcaehadigaaa
