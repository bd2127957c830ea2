/- The document's epoch clock: Pin where it pins, Unpin. -/
import Derived.Test.YtdgmcaehadigaaaRefEpPin
import Derived.StillTailTactics
namespace Go.Proofs.Ytdgmcaehadigaaa
open Go.RowKit

theorem natI_cell {W : World} {B : Nat} {A : Option Addr} {L : List Nat} {k : Nat} (h : Rd (Value.int .i64) W B A (natI L)) (hk : k < L.length) : ∃ b o, A = some ⟨b, o, none⟩ ∧ b < B ∧ W.cell? ⟨b, o + k, none⟩ = some (.int .i64 ((L.getD k 0 : Nat) : Int)) :=
  h k _ (by unfold natI; rw [List.getElem?_map, List.getElem?_eq_getElem hk, List.getD_eq_getElem?_getD, List.getElem?_eq_getElem hk]; rfl)
theorem rd_putE {W : World} {A : Option Addr} {L : List Int} (h : Rd (Value.int .i64) W W.heap.size A L) {b : Nat} (ha : ∀ g o, A = some ⟨g, o, none⟩ → b ≠ g) (v0 v1 v2 v3 v4 : Value) :
    Rd (Value.int .i64) (((((W.setCell ⟨b, 0, none⟩ v0).setCell ⟨b, 1, none⟩ v1).setCell ⟨b, 2, none⟩ v2).setCell ⟨b, 3, none⟩ v3).setCell ⟨b, 4, none⟩ v4) (((((W.setCell ⟨b, 0, none⟩ v0).setCell ⟨b, 1, none⟩ v1).setCell ⟨b, 2, none⟩ v2).setCell ⟨b, 3, none⟩ v3).setCell ⟨b, 4, none⟩ v4).heap.size A L :=
  rd_set (rd_set (rd_set (rd_set (rd_set h (a := ⟨b, 0, none⟩) ha (v := v0)) (a := ⟨b, 1, none⟩) ha (v := v1)) (a := ⟨b, 2, none⟩) ha (v := v2)) (a := ⟨b, 3, none⟩) ha (v := v3)) (a := ⟨b, 4, none⟩) ha (v := v4)
set_option maxRecDepth 100000 in
set_option maxHeartbeats 4000000 in
theorem RPin_yes {w : World} {Z : Nat → Prop} {V : Value} {x : EX} {n : Nat} (h : RC w Z V x) (hf : EFit n x) (hn : n ≤ 100000) (k : Nat) (hk : k < x.rc.length) (hz : x.rc.getD k 0 = 0) :
    Calls Try.prog 41 #[V, .int .i64 (k : Int)] w fun r w' => ∃ V', r = .returned (.tuple #[V', .bool true]) ∧ RC w' (ZZ Z w) V' (pinE x k) ∧ Below w.heap.size w w' := by
  obtain ⟨A1, c1, A2, c2, A3, c3, rfl, r1, r2, r3, t1, t2, t3⟩ := h
  have HH := Lib.hid (fun W => RHas_any (x.e : Int) A1 x.ld.length c1 A2 x.rc.length c2 A3 x.lb.length c3 (x.lk : Int) (k : Int) W)
  have hd : decide (0 ≤ (k : Int) ∧ (k : Int) < (x.rc.length : Int)) = true := decide_eq_true ⟨by omega, by omega⟩
  rw [hd] at HH
  have HS := Lib.hid (fun W (hb : Below w.heap.size w W) v => RSet_n (c := c2) (rd_later r2 hb) hf.few hk v rfl)
  have HO : Hid (∀ W A c, Below w.heap.size w W → Rd (Value.int .i64) W W.heap.size A (natI (x.rc.set k (x.ld.getD k 0 + 1))) → (∀ g o, A = some ⟨g, o, none⟩ → w.heap.size ≤ g) → RC W (ZZ Z w) (cV x.e A1 x.ld.length c1 A x.rc.length c A3 x.lb.length c3 x.lk) (pinE x k)) := Lib.hid fun W A c hb hr hz =>
    ⟨A1, c1, A, c, A3, c3, by show _ = cV _ _ _ _ _ (x.rc.set k _).length _ _ _ _ _; rw [List.length_set]; rfl, rd_later r1 hb, hr, (r3.below hb).more hb.size, t1.old, .new hz, t3.old⟩
  obtain ⟨g1, o1, rfl, hg1, hc1⟩ := natI_cell r1 (k := k) (by rw [hf.len]; exact hk)
  obtain ⟨g2, o2, rfl, hg2, hc2⟩ := natI_cell r2 hk
  rw [hz] at hc2
  have hldk : x.ld.getD k 0 ≤ 100000 := by have := hf.ld k; have := hf.en; omega
  have HC := Lib.hid (fun W (hb : Below w.heap.size w W) => (⟨(hb.cell (p := ⟨g1, o1 + k, none⟩) hg1).trans hc1, (hb.cell (p := ⟨g2, o2 + k, none⟩) hg2).trans hc2⟩ : W.cell? ⟨g1, o1 + k, none⟩ = some (.int .i64 ((x.ld.getD k 0 : Nat) : Int)) ∧ W.cell? ⟨g2, o2 + k, none⟩ = some (.int .i64 ((0 : Nat) : Int))))
  have hk0 : (0 : Int) ≤ (k : Int) := by omega
  have hk1 : (k : Int) < (x.rc.length : Int) := by omega
  have hk2 : (k : Int) < (x.ld.length : Int) := by rw [hf.len]; omega
  clear hd r1 r2 r3 t1 t2 t3 hf hk hz hc1 hc2 hg1 hg2
  unfold cV at *
  generalize (x.e : Int) = e at *
  generalize (x.lk : Int) = lk at *
  generalize x.ld.getD k 0 = ldk at *
  generalize x.ld.length = l1 at *
  generalize x.rc.length = l2 at *
  generalize x.lb.length = l3 at *
  obtain ⟨b1, b2, b3⟩ := Five.two w (.int .i64 e) (.slice (some ⟨g1, o1, none⟩) l1 c1) (.slice (some ⟨g2, o2, none⟩) l2 c2) (.slice A3 l3 c3) (.int .i64 lk) (.int .i64 0) (.slice none 0 0) (.slice none 0 0) (.slice none 0 0) (.int .i64 0) 69
  have HB1 := Lib.hid b1
  have HB2 := Lib.hid b2
  have HB3 := Lib.hid b3
  clear b1 b2 b3
  go_enter Try.func41, Try.ntmps41
  go_wp2_with fail
  refine (HH.out _).mono ?_
  rintro r w2 ⟨rfl, hb2⟩
  have H1 := Lib.hid (HB1.out.below hb2)
  have H2 := Lib.hid (HB2.out.below hb2)
  have HBB := Lib.hid (Below.next HB3.out hb2)
  have x1 := H1.out.c1
  have x2 := H1.out.c2
  obtain ⟨y1, y2⟩ := HC.out _ HBB.out
  have hl0 : (0 : Int) ≤ (ldk : Int) := by omega
  have hl1 : (ldk : Int) ≤ 100000 := by omega
  clear hb2 HB1 HB2 HB3 HH
  go_upto_region 3 with (fail)
  go_still_tail 9, (by kernel_rfl)
  change wpList _ _ _ _ _ w2.drew
  rw [show IntKind.i64.wrap ((ldk : Int) + 1) = ((ldk + 1 : Nat) : Int) from by rw [IntWalk.i64_in _ (by omega)]; omega]
  have HD1 := Lib.hid H1.out.drew
  have HD2 := Lib.hid H2.out.drew
  have HDB := Lib.hid HBB.out.drew
  clear x1 x2 y1 y2 H1 H2 HBB HC hl0 hl1
  generalize w2.drew = W2 at *
  have HSS := Lib.hid (HS.out W2 HDB.out (ldk + 1))
  generalize ((ldk + 1 : Nat) : Int) = nv at *
  go_wp2_with fail
  refine HSS.out.mono ?_
  rintro r w3 ⟨A5, c5, rfl, hr5, hb3, hg5⟩
  have HZ5 : Hid (∀ g o, A5 = some ⟨g, o, none⟩ → w.heap.size ≤ g) := Lib.hid fun g o e => Nat.le_trans (HDB.out).size (hg5 g o e)
  obtain ⟨_, x0, x1, x2, x3, x4, y0, y1, y2, y3, y4⟩ := HD1.out.below hb3
  have H5 := Lib.hid hr5
  have H3 := Lib.hid (HD2.out.below hb3)
  have HB5 := Lib.hid (Below.next HDB.out hb3)
  have HW1 := Lib.hid ((HD1.out.below hb3).one (.slice A5 l2 c5)).2.1
  have HW2 := Lib.hid (H3.out.other (a := ⟨w.heap.size, 2, none⟩) (by show w.heap.size ≠ w.heap.size + 1; omega) (.slice A5 l2 c5))
  have HW3 := Lib.hid (HB5.out.setCell (p := ⟨w.heap.size, 2, none⟩) (Nat.le_refl _) (.slice A5 l2 c5))
  have HWR := Lib.hid (rd_set (v := .slice A5 l2 c5) H5.out (a := ⟨w.heap.size, 2, none⟩) (fun g o e => by have := hg5 g o e; have := HD1.out.lt; show w.heap.size ≠ g; omega))
  have HG5 : Hid (∀ g o, A5 = some ⟨g, o, none⟩ → w.heap.size + 1 ≠ g) := Lib.hid fun g o e => by
    have := hg5 g o e
    have := HD2.out.lt
    omega
  clear hb3 hr5 HD1 HD2 HDB H3 HB5 H5 hg5 HS HSS
  go_upto_region 4 with (fail)
  generalize w3.setCell ⟨w.heap.size, 2, none⟩ (.slice A5 l2 c5) = W4 at *
  clear x0 x1 x2 x3 x4 y0 y1 y2 y3 y4
  obtain ⟨_, x0, x1, x2, x3, x4, y0, y1, y2, y3, y4⟩ := HW1.out
  obtain ⟨_, u0, u1, u2, u3, u4, z0, z1, z2, z3, z4⟩ := HW2.out
  have HP := Lib.hid (HW2.out.put (.int .i64 e) (.slice (some ⟨g1, o1, none⟩) l1 c1) (.slice A5 l2 c5) (.slice A3 l3 c3) (.int .i64 lk))
  have HBF := Lib.hid (below_put HW3.out (Nat.le_succ w.heap.size) (.int .i64 e) (.slice (some ⟨g1, o1, none⟩) l1 c1) (.slice A5 l2 c5) (.slice A3 l3 c3) (.int .i64 lk))
  have HRF := Lib.hid (HO.out _ A5 c5 HBF.out (rd_putE HWR.out HG5.out (.int .i64 e) (.slice (some ⟨g1, o1, none⟩) l1 c1) (.slice A5 l2 c5) (.slice A3 l3 c3) (.int .i64 lk)) HZ5.out)
  clear HW1 HW2 HW3 HWR HG5 HO
  go_wp2
  obtain ⟨_, q0, q1, q2, q3, q4, _, _, _, _, _⟩ := HP.out
  exact bodyPost_ret (v := .tuple #[.agg #[.int .i64 e, .slice (some ⟨g1, o1, none⟩) l1 c1, .slice A5 l2 c5, .slice A3 l3 c3, .int .i64 lk], .bool true]) (by simp [results, Try.results41, go_sem, q0, q1, q2, q3, q4]) rfl ⟨_, rfl, HRF.out, HBF.out⟩
end Go.Proofs.Ytdgmcaehadigaaa
