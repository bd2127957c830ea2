/- The document's own probe (ganglionref11: Want, Offer), by contract. -/
import Derived.Test.YtajmnhnepoomjaaRefOffer
import Derived.Test.YtajmnhnepoomjaaPrb
import Derived.Test.YtajmnhnepoomjaaRankSame
import Derived.Lib.QuietBelow
import Derived.Test.YtajmnhnepoomjaaPrbOffer
import Derived.Test.YtajmnhnepoomjaaRefDist
import Derived.Test.YtajmnhnepoomjaaAppAny
namespace Go.Proofs.Ytajmnhnepoomjaa
open Go.RowKit Go.Shelf Go.Sort Go.Lib

theorem refSpot_v (x y : SpotT) (W : World) (b : Bool) (h : ltS x y = b) :
    Calls Try.prog 75 #[.agg #[.int .u64 x.1.1, .int .u64 x.1.2, .int .i64 x.2], .agg #[.int .u64 y.1.1, .int .u64 y.1.2, .int .i64 y.2]] W fun e w' => e = .returned (.bool b) ∧ Below W.heap.size W w' := by
  rw [← h]
  exact (refSpot_any x y W).mono fun _ _ ⟨he, hg⟩ => ⟨he, hg.below⟩
/-- Six cells of a block. -/
structure SixC (W : World) (b : Nat) (v0 v1 v2 v3 v4 v5 : Value) : Prop where
  lt : b < W.heap.size
  c0 : W.cell? ⟨b, 0, none⟩ = some v0
  c1 : W.cell? ⟨b, 1, none⟩ = some v1
  c2 : W.cell? ⟨b, 2, none⟩ = some v2
  c3 : W.cell? ⟨b, 3, none⟩ = some v3
  c4 : W.cell? ⟨b, 4, none⟩ = some v4
  c5 : W.cell? ⟨b, 5, none⟩ = some v5
  f0 : W.frozen? ⟨b, 0, none⟩ = false
  f1 : W.frozen? ⟨b, 1, none⟩ = false
  f2 : W.frozen? ⟨b, 2, none⟩ = false
  f3 : W.frozen? ⟨b, 3, none⟩ = false
  f4 : W.frozen? ⟨b, 4, none⟩ = false
  f5 : W.frozen? ⟨b, 5, none⟩ = false
section
variable {W W' : World} {b : Nat} {v0 v1 v2 v3 v4 v5 : Value}
theorem SixC.new (W : World) (v0 v1 v2 v3 v4 v5 : Value) (t : TypeId) : SixC (W.alloc (.cells #[v0, v1, v2, v3, v4, v5] t)) W.heap.size v0 v1 v2 v3 v4 v5 := ⟨by simp, by go_cell, by go_cell, by go_cell, by go_cell, by go_cell, by go_cell, by go_simp, by go_simp, by go_simp, by go_simp, by go_simp, by go_simp⟩
theorem SixC.below (h : SixC W b v0 v1 v2 v3 v4 v5) (hb : Below W.heap.size W W') : SixC W' b v0 v1 v2 v3 v4 v5 :=
  have c := fun i => hb.cell (p := ⟨b, i, none⟩) h.lt
  have f := fun i => hb.frozen (p := ⟨b, i, none⟩) h.lt
  ⟨Nat.lt_of_lt_of_le h.lt hb.size, (c 0).trans h.c0, (c 1).trans h.c1, (c 2).trans h.c2, (c 3).trans h.c3, (c 4).trans h.c4, (c 5).trans h.c5, (f 0).trans h.f0, (f 1).trans h.f1, (f 2).trans h.f2, (f 3).trans h.f3, (f 4).trans h.f4, (f 5).trans h.f5⟩
theorem SixC.other {a : Addr} (h : SixC W b v0 v1 v2 v3 v4 v5) (ha : a.block ≠ b) (v : Value) : SixC (W.setCell a v) b v0 v1 v2 v3 v4 v5 := by
  have c : ∀ i, (W.setCell a v).cell? ⟨b, i, none⟩ = W.cell? ⟨b, i, none⟩ := fun i => World.cell?_setCell_other _ _ _ _ (fun e => ha (by rw [e]))
  have f : ∀ i, (W.setCell a v).frozen? ⟨b, i, none⟩ = W.frozen? ⟨b, i, none⟩ := fun i => World.frozen?_setCell W _ _ _
  exact ⟨by simpa using h.lt, (c 0).trans h.c0, (c 1).trans h.c1, (c 2).trans h.c2, (c 3).trans h.c3, (c 4).trans h.c4, (c 5).trans h.c5, (f 0).trans h.f0, (f 1).trans h.f1, (f 2).trans h.f2, (f 3).trans h.f3, (f 4).trans h.f4, (f 5).trans h.f5⟩
theorem SixC.keep (_h : SixC W b v0 v1 v2 v3 v4 v5) {j : Nat} (v : Value) : (∀ i, i ≠ j → (W.setCell ⟨b, j, none⟩ v).cell? ⟨b, i, none⟩ = W.cell? ⟨b, i, none⟩) ∧ (∀ i, (W.setCell ⟨b, j, none⟩ v).frozen? ⟨b, i, none⟩ = W.frozen? ⟨b, i, none⟩) :=
  ⟨fun i hi => World.cell?_setCell_other _ _ _ _ (fun e => hi (by injection e with _ e; exact e.symm)), fun i => World.frozen?_setCell W _ _ _⟩
theorem SixC.set3 (h : SixC W b v0 v1 v2 v3 v4 v5) (v : Value) : SixC (W.setCell ⟨b, 3, none⟩ v) b v0 v1 v2 v v4 v5 := by
  obtain ⟨c, f⟩ := h.keep (j := 3) v
  exact ⟨by simpa using h.lt, (c 0 (by decide)).trans h.c0, (c 1 (by decide)).trans h.c1, (c 2 (by decide)).trans h.c2, World.cell?_setCell_same _ _ _ h.c3, (c 4 (by decide)).trans h.c4, (c 5 (by decide)).trans h.c5, (f 0).trans h.f0, (f 1).trans h.f1, (f 2).trans h.f2, (f 3).trans h.f3, (f 4).trans h.f4, (f 5).trans h.f5⟩
theorem SixC.set4 (h : SixC W b v0 v1 v2 v3 v4 v5) (v : Value) : SixC (W.setCell ⟨b, 4, none⟩ v) b v0 v1 v2 v3 v v5 := by
  obtain ⟨c, f⟩ := h.keep (j := 4) v
  exact ⟨by simpa using h.lt, (c 0 (by decide)).trans h.c0, (c 1 (by decide)).trans h.c1, (c 2 (by decide)).trans h.c2, (c 3 (by decide)).trans h.c3, World.cell?_setCell_same _ _ _ h.c4, (c 5 (by decide)).trans h.c5, (f 0).trans h.f0, (f 1).trans h.f1, (f 2).trans h.f2, (f 3).trans h.f3, (f 4).trans h.f4, (f 5).trans h.f5⟩
theorem SixC.set5 (h : SixC W b v0 v1 v2 v3 v4 v5) (v : Value) : SixC (W.setCell ⟨b, 5, none⟩ v) b v0 v1 v2 v3 v4 v := by
  obtain ⟨c, f⟩ := h.keep (j := 5) v
  exact ⟨by simpa using h.lt, (c 0 (by decide)).trans h.c0, (c 1 (by decide)).trans h.c1, (c 2 (by decide)).trans h.c2, (c 3 (by decide)).trans h.c3, (c 4 (by decide)).trans h.c4, World.cell?_setCell_same _ _ _ h.c5, (f 0).trans h.f0, (f 1).trans h.f1, (f 2).trans h.f2, (f 3).trans h.f3, (f 4).trans h.f4, (f 5).trans h.f5⟩
/-- All six are stored. -/
theorem SixC.all6 (h : SixC W b v0 v1 v2 v3 v4 v5) (u0 u1 u2 u3 u4 u5 : Value) : SixC ((((((W.setCell ⟨b, 0, none⟩ u0).setCell ⟨b, 1, none⟩ u1).setCell ⟨b, 2, none⟩ u2).setCell ⟨b, 3, none⟩ u3).setCell ⟨b, 4, none⟩ u4).setCell ⟨b, 5, none⟩ u5) b u0 u1 u2 u3 u4 u5 := by
  have h0 : SixC (W.setCell ⟨b, 0, none⟩ u0) b u0 v1 v2 v3 v4 v5 := by
    obtain ⟨c, f⟩ := h.keep (j := 0) u0
    exact ⟨by simpa using h.lt, World.cell?_setCell_same _ _ _ h.c0, (c 1 (by decide)).trans h.c1, (c 2 (by decide)).trans h.c2, (c 3 (by decide)).trans h.c3, (c 4 (by decide)).trans h.c4, (c 5 (by decide)).trans h.c5, (f 0).trans h.f0, (f 1).trans h.f1, (f 2).trans h.f2, (f 3).trans h.f3, (f 4).trans h.f4, (f 5).trans h.f5⟩
  have h1 : SixC ((W.setCell ⟨b, 0, none⟩ u0).setCell ⟨b, 1, none⟩ u1) b u0 u1 v2 v3 v4 v5 := by
    obtain ⟨c, f⟩ := h0.keep (j := 1) u1
    exact ⟨by simpa using h0.lt, (c 0 (by decide)).trans h0.c0, World.cell?_setCell_same _ _ _ h0.c1, (c 2 (by decide)).trans h0.c2, (c 3 (by decide)).trans h0.c3, (c 4 (by decide)).trans h0.c4, (c 5 (by decide)).trans h0.c5, (f 0).trans h0.f0, (f 1).trans h0.f1, (f 2).trans h0.f2, (f 3).trans h0.f3, (f 4).trans h0.f4, (f 5).trans h0.f5⟩
  have h2 : SixC (((W.setCell ⟨b, 0, none⟩ u0).setCell ⟨b, 1, none⟩ u1).setCell ⟨b, 2, none⟩ u2) b u0 u1 u2 v3 v4 v5 := by
    obtain ⟨c, f⟩ := h1.keep (j := 2) u2
    exact ⟨by simpa using h1.lt, (c 0 (by decide)).trans h1.c0, (c 1 (by decide)).trans h1.c1, World.cell?_setCell_same _ _ _ h1.c2, (c 3 (by decide)).trans h1.c3, (c 4 (by decide)).trans h1.c4, (c 5 (by decide)).trans h1.c5, (f 0).trans h1.f0, (f 1).trans h1.f1, (f 2).trans h1.f2, (f 3).trans h1.f3, (f 4).trans h1.f4, (f 5).trans h1.f5⟩
  exact ((h2.set3 u3).set4 u4).set5 u5
theorem below_all6 {B : Nat} {w : World} (h : Below B w W) (hb : B ≤ b) (u0 u1 u2 u3 u4 u5 : Value) : Below B w ((((((W.setCell ⟨b, 0, none⟩ u0).setCell ⟨b, 1, none⟩ u1).setCell ⟨b, 2, none⟩ u2).setCell ⟨b, 3, none⟩ u3).setCell ⟨b, 4, none⟩ u4).setCell ⟨b, 5, none⟩ u5) :=
  (((((h.setCell (p := ⟨b, 0, none⟩) hb _).setCell (p := ⟨b, 1, none⟩) hb _).setCell (p := ⟨b, 2, none⟩) hb _).setCell (p := ⟨b, 3, none⟩) hb _).setCell (p := ⟨b, 4, none⟩) hb _).setCell (p := ⟨b, 5, none⟩) hb _
end

/-- The document's probe by value. -/
def refP (Q : Option Addr) (qn cq : Nat) (mask most : Int) (KA : Option Addr) (kn kc : Nat) (WA : Option Addr) (wn wc : Nat) (BA : Option Addr) (bn bc : Nat) : Value :=
  .agg #[.slice Q qn cq, .int .u64 mask, .int .i64 most, .slice KA kn kc, .slice WA wn wc, .slice BA bn bc]

set_option maxRecDepth 100000 in
set_option maxHeartbeats 4000000 in
theorem refWant_no (Q : Option Addr) (qn cq : Nat) (mask most : Int) (KA : Option Addr) (kn kc : Nat) (WA : Option Addr) (wc : Nat) (BA : Option Addr) (bc : Nat) (L O : List SpotT) (w : World) (hW : RdS w w.heap.size WA (sortS L)) (hB : RdS w w.heap.size BA (keepS (bestN most) O)) (hl : L.length ≤ 100000) (hh : hopeB (bestN most) L O = false) :
    Calls Try.prog 25 #[refP Q qn cq mask most KA kn kc WA (sortS L).length wc BA (keepS (bestN most) O).length bc] w fun e w' => e = .returned (.tuple #[refP Q qn cq mask most KA kn kc WA (sortS L).length wc BA (keepS (bestN most) O).length bc, .int .i64 0, .bool false]) ∧ Below w.heap.size w w' := by
  have mixed : Try.prog.follows .mixedOrders = true := by kernel_rfl
  have HMO := Lib.hid (refMost_any most)
  have hm1 := bestN_le most
  have hkl := keepS_len (bestN most) O
  generalize hm : bestN most = m at *
  clear hm
  obtain ⟨Z, hZ⟩ : ∃ Z, sortS L = Z := ⟨_, rfl⟩
  have hZl : Z.length = L.length := by rw [← hZ, sortS_len]
  obtain ⟨Bs, hBs⟩ : ∃ Bs, keepS m O = Bs := ⟨_, rfl⟩
  have hcase : Z.length = 0 ∨ (0 < Z.length ∧ m = 0) ∨ (0 < Z.length ∧ 0 < m ∧ Bs.length = m ∧ ltS (spAt Bs (m - 1)) (spAt Z 0) = true) := by
    unfold hopeB lastS at hh
    rw [hZ, hBs] at hh
    rw [hBs] at hkl
    by_cases h0 : Z.length = 0
    · exact .inl h0
    · refine .inr ?_
      have h1 : decide (0 < L.length) = true := decide_eq_true (by omega)
      rw [h1, Bool.true_and] at hh
      by_cases h2 : m ≤ Bs.length
      · have hbl : Bs.length = m := by omega
        by_cases h3 : m = 0
        · exact .inl ⟨by omega, h3⟩
        · refine .inr ⟨by omega, by omega, hbl, ?_⟩
          rw [decide_eq_true h2, Bool.not_true, Bool.false_or, decide_eq_true (show 0 < Bs.length by omega), Bool.true_and, if_pos (by omega), hbl] at hh
          simpa using hh
      · rw [decide_eq_false h2] at hh
        simp at hh
  rw [hZ] at hW ⊢
  rw [hBs] at hB ⊢
  obtain ⟨nb, hnb⟩ : ∃ n, Bs.length = n := ⟨_, rfl⟩
  obtain ⟨nz, hnz⟩ : ∃ n, Z.length = n := ⟨_, rfl⟩
  rw [hnb] at hcase ⊢
  rw [hnz] at hcase ⊢
  have HNB := Lib.hid hnb
  have HNZ := Lib.hid hnz
  clear hnb hnz
  unfold refP
  have hbA := below_new3 w (.cells #[.slice Q qn cq, .int .u64 mask, .int .i64 most, .slice KA kn kc, .slice WA nz wc, .slice BA nb bc] 46)
  have hbB := below_new3 (w.alloc (.cells #[.slice Q qn cq, .int .u64 mask, .int .i64 most, .slice KA kn kc, .slice WA nz wc, .slice BA nb bc] 46)) (.cells #[.slice none 0 0, .int .u64 0, .int .i64 0, .slice none 0 0, .slice none 0 0, .slice none 0 0] 46)
  have hsA := (SixC.new w (.slice Q qn cq) (.int .u64 mask) (.int .i64 most) (.slice KA kn kc) (.slice WA nz wc) (.slice BA nb bc) 46).below hbB
  have hsB := SixC.new (w.alloc (.cells #[.slice Q qn cq, .int .u64 mask, .int .i64 most, .slice KA kn kc, .slice WA nz wc, .slice BA nb bc] 46)) (.slice none 0 0) (.int .u64 0) (.int .i64 0) (.slice none 0 0) (.slice none 0 0) (.slice none 0 0) 46
  have hbX := hbA.trans (hbB.mono hbA.size)
  have hsz : (w.alloc (.cells #[.slice Q qn cq, .int .u64 mask, .int .i64 most, .slice KA kn kc, .slice WA nz wc, .slice BA nb bc] 46)).heap.size = w.heap.size + 1 := by simp
  rw [hsz] at hsB
  have HW := Lib.hid ((hW.below hbX).more hbX.size)
  have HB := Lib.hid ((hB.below hbX).more hbX.size)
  have HBX := Lib.hid hbX
  clear hW hB hbA hbB hbX hsz hh hZ hBs hZl hl hkl
  go_enter Try.func25, Try.ntmps25
  have HA := Lib.hid hsA
  have HBB := Lib.hid hsB
  obtain ⟨-, k0, k1, k2, k3, k4, k5, -⟩ := hsA
  clear hsB
  go_wp2_with fail
  generalize (w.alloc (.cells #[.slice Q qn cq, .int .u64 mask, .int .i64 most, .slice KA kn kc, .slice WA nz wc, .slice BA nb bc] 46)).alloc (.cells #[.slice none 0 0, .int .u64 0, .int .i64 0, .slice none 0 0, .slice none 0 0, .slice none 0 0] 46) = X at *
  refine (HMO.out X).mono ?_
  rintro e X' ⟨rfl, rfl⟩
  have g4 := cell_regrown k4
  have g5 := cell_regrown k5
  clear k0 k1 k2 k3 k4 k5
  rcases hcase with rfl | ⟨hz, rfl⟩ | ⟨hz, hmp, rfl, hlt⟩
  · clear HW HB HNB HNZ
    go_wp2_with fail
    refine wp_region_quiet_below (by assumption) (by kernel_rfl) ?_
    repeat (go_big_quiet_step (fail))
    refine wpQuiet_nil ?_
    intro _ hw'
    obtain ⟨⟨dq, osq⟩, hw''⟩ := hw'
    subst hw''
    have hy := below_regrown X dq osq
    clear g4 g5
    have a := HA.out.below hy
    have b := HBB.out.below hy
    have HYB := Lib.hid (HBX.out.trans (hy.mono HBX.out.size))
    skip
    generalize grow (redrawn X dq) osq = Y at *
    obtain ⟨-, k0, k1, k2, k3, k4, k5, -⟩ := a
    have HB6 := Lib.hid (b.all6 (.slice Q qn cq) (.int .u64 mask) (.int .i64 most) (.slice KA kn kc) (.slice WA 0 wc) (.slice BA nb bc))
    have HBE := Lib.hid (below_all6 (b := w.heap.size + 1) HYB.out (Nat.le_succ _) (.slice Q qn cq) (.int .u64 mask) (.int .i64 most) (.slice KA kn kc) (.slice WA 0 wc) (.slice BA nb bc))
    obtain ⟨-, m0, m1, m2, m3, m4, m5, f0, f1, f2, f3, f4, f5⟩ := b
    clear hy
    go_wp2
    obtain ⟨-, q0, q1, q2, q3, q4, q5, -⟩ := HB6.out
    exact bodyPost_ret (v := .tuple #[.agg #[.slice Q qn cq, .int .u64 mask, .int .i64 most, .slice KA kn kc, .slice WA 0 wc, .slice BA nb bc], .int .i64 0, .bool false]) (by simp [results, Try.results25, go_sem, q0, q1, q2, q3, q4, q5]) rfl ⟨rfl, HBE.out⟩
  · clear HW HB HNB HNZ
    have n1 : ¬ (nz : Int) = 0 := by omega
    have n2 : ((nz : Int) == 0) = false := by simpa using n1
    have n3 : decide ((nz : Int) = 0) = false := by simpa using n1
    have n4 : decide (nz = 0) = false := by simp; omega
    have n5 : (nz == 0) = false := by simp; omega
    go_wp2_with fail
    refine wp_region_quiet_below (by assumption) (by kernel_rfl) ?_
    repeat (go_big_quiet_step (fail))
    refine wpQuiet_nil ?_
    intro _ hw'
    obtain ⟨⟨dq, osq⟩, hw''⟩ := hw'
    subst hw''
    have hy := below_regrown X dq osq
    clear g4 g5
    have a := HA.out.below hy
    have b := HBB.out.below hy
    have HYB := Lib.hid (HBX.out.trans (hy.mono HBX.out.size))
    clear n1 n2 n3 n4 n5
    generalize grow (redrawn X dq) osq = Y at *
    obtain ⟨-, k0, k1, k2, k3, k4, k5, -⟩ := a
    have HB6 := Lib.hid (b.all6 (.slice Q qn cq) (.int .u64 mask) (.int .i64 most) (.slice KA kn kc) (.slice WA nz wc) (.slice BA nb bc))
    have HBE := Lib.hid (below_all6 (b := w.heap.size + 1) HYB.out (Nat.le_succ _) (.slice Q qn cq) (.int .u64 mask) (.int .i64 most) (.slice KA kn kc) (.slice WA nz wc) (.slice BA nb bc))
    obtain ⟨-, m0, m1, m2, m3, m4, m5, f0, f1, f2, f3, f4, f5⟩ := b
    clear hy
    go_wp2
    obtain ⟨-, q0, q1, q2, q3, q4, q5, -⟩ := HB6.out
    exact bodyPost_ret (v := .tuple #[.agg #[.slice Q qn cq, .int .u64 mask, .int .i64 most, .slice KA kn kc, .slice WA nz wc, .slice BA nb bc], .int .i64 0, .bool false]) (by simp [results, Try.results25, go_sem, q0, q1, q2, q3, q4, q5]) rfl ⟨rfl, HBE.out⟩
  · obtain ⟨q, rfl⟩ : ∃ q, nb = q + 1 := ⟨nb - 1, by omega⟩
    have n1 : ¬ (nz : Int) = 0 := by omega
    have n2 : ((nz : Int) == 0) = false := by simpa using n1
    have n3 : decide ((nz : Int) = 0) = false := by simpa using n1
    have n4 : decide (nz = 0) = false := by simp; omega
    have n5 : (nz == 0) = false := by simp; omega
    obtain ⟨⟨⟨ya, yb⟩, yc⟩, hy0⟩ : ∃ y, spAt Bs q = y := ⟨_, rfl⟩
    obtain ⟨⟨⟨za, zb⟩, zc⟩, hz0⟩ : ∃ z, spAt Z 0 = z := ⟨_, rfl⟩
    obtain ⟨bb, ob, rfl, hbb, y0, y1, y2⟩ := HB.out q _ (spAt_lt (by rw [HNB.out]; omega))
    obtain ⟨bz, oz, rfl, hbz, z0, z1, z2⟩ := HW.out 0 _ (spAt_lt (by rw [HNZ.out]; omega))
    rw [hy0] at y0 y1 y2
    rw [hz0] at z0 z1 z2
    rw [show q + 1 - 1 = q by omega, hy0, hz0] at hlt
    simp only [Nat.zero_mul, Nat.add_zero] at y0 y1 y2 z0 z1 z2
    have r0 := cell_regrown y0
    have r1 := cell_regrown y1
    have r2 := cell_regrown y2
    have s0 := cell_regrown z0
    have s1 := cell_regrown z1
    have s2 := cell_regrown z2
    have m1 : ((q : Int) + 1 == 0) = false := by simp; omega
    have m2 : decide ((q : Int) + 1 = 0) = false := by simp; omega
    have m3 : decide (((q + 1 : Nat) : Int) = 0) = false := by simp; omega
    have m4 : (q + 1 == 0) = false := by simp
    have m5 : decide (q + 1 = 0) = false := by simp
    have m6 : (((q + 1 : Nat) : Int) == 0) = false := by simp; omega
    have u1 : ((q + 1 : Nat) : Int) - 1 = (q : Int) := by omega
    have u2 : (q : Int) < ((q + 1 : Nat) : Int) := by omega
    have u3 : (0 : Int) ≤ (q : Int) := by omega
    have u4 : ((q : Int)).toNat = q := Int.toNat_natCast q
    have u5 : IntKind.i64.wrap (q : Int) = (q : Int) := by rw [IntKind.wrap_i64]; omega
    have u6 : (q : Int) < (q : Int) + 1 := by omega
    have u7 : (0 : Int) < (nz : Int) := by omega
    clear y0 y1 y2 z0 z1 z2 hy0 hz0 hbb hbz
    go_wp2_with fail
    refine wp_region_quiet_below (by assumption) (by kernel_rfl) ?_
    repeat (go_big_quiet_step ((go_at_call 75; exact Calls.regrown_of (refSpot_v ((_, _), _) ((_, _), _) _ _ (by assumption)))))
    refine wpQuiet_nil ?_
    intro _ hw'
    obtain ⟨⟨dq, osq⟩, hw''⟩ := hw'
    subst hw''
    have hy := below_regrown X dq osq
    clear g4 g5
    have a := HA.out.below hy
    have b := HBB.out.below hy
    have HYB := Lib.hid (HBX.out.trans (hy.mono HBX.out.size))
    clear r0 r1 r2 s0 s1 s2 m1 m2 m3 m4 m5 m6 u1 u2 u3 u4 u5 u6 u7 n1 n2 n3 n4 n5 hlt
    generalize grow (redrawn X dq) osq = Y at *
    obtain ⟨-, k0, k1, k2, k3, k4, k5, -⟩ := a
    have HB6 := Lib.hid (b.all6 (.slice Q qn cq) (.int .u64 mask) (.int .i64 most) (.slice KA kn kc) (.slice (some ⟨bz, oz, none⟩) nz wc) (.slice (some ⟨bb, ob, none⟩) (q + 1) bc))
    have HBE := Lib.hid (below_all6 (b := w.heap.size + 1) HYB.out (Nat.le_succ _) (.slice Q qn cq) (.int .u64 mask) (.int .i64 most) (.slice KA kn kc) (.slice (some ⟨bz, oz, none⟩) nz wc) (.slice (some ⟨bb, ob, none⟩) (q + 1) bc))
    obtain ⟨-, m0, m1, m2, m3, m4, m5, f0, f1, f2, f3, f4, f5⟩ := b
    clear hy
    go_wp2
    obtain ⟨-, q0, q1, q2, q3, q4, q5, -⟩ := HB6.out
    exact bodyPost_ret (v := .tuple #[.agg #[.slice Q qn cq, .int .u64 mask, .int .i64 most, .slice KA kn kc, .slice (some ⟨bz, oz, none⟩) nz wc, .slice (some ⟨bb, ob, none⟩) (q + 1) bc], .int .i64 0, .bool false]) (by simp [results, Try.results25, go_sem, q0, q1, q2, q3, q4, q5]) rfl ⟨rfl, HBE.out⟩

end Go.Proofs.Ytajmnhnepoomjaa

namespace Go.Proofs.Ytajmnhnepoomjaa
open Go.RowKit Go.Shelf Go.Sort Go.Lib

theorem rdS_tail {w : World} {B bz oz wc : Nat} {Z : List SpotT} (h : RdS w B (some ⟨bz, oz, none⟩) Z) (hn : Z.length ≤ wc) : RdS w B (if wc = 1 then some ⟨bz, oz, none⟩ else some ⟨bz, oz + 3, none⟩) Z.tail := by
  intro k z hz
  rw [List.getElem?_tail] at hz
  have hk : k + 1 < Z.length := (List.getElem?_eq_some_iff.1 hz).1
  rw [if_neg (by omega)]
  obtain ⟨b, off, e, hb, h0, h1, h2⟩ := h (k + 1) z hz
  injection e with e
  injection e with e1 e2
  subst e1 e2
  rw [show oz + (k + 1) * 3 = oz + 3 + k * 3 by omega] at h0 h1 h2
  exact ⟨bz, oz + 3, rfl, hb, h0, h1, h2⟩

set_option maxRecDepth 100000 in
set_option maxHeartbeats 4000000 in
theorem refWant_yes (Q : Option Addr) (qn cq : Nat) (mask most : Int) (KA : Option Addr) (kn kc : Nat) (WA : Option Addr) (wc : Nat) (BA : Option Addr) (bc : Nat) (L O : List SpotT) (w : World) (hW : RdS w w.heap.size WA (sortS L)) (hB : RdS w w.heap.size BA (keepS (bestN most) O)) (hl : L.length ≤ 100000) (hwc : (sortS L).length ≤ wc ∧ wc ≤ 9223372036854775807) (hh : hopeB (bestN most) L O = true) :
    Calls Try.prog 25 #[refP Q qn cq mask most KA kn kc WA (sortS L).length wc BA (keepS (bestN most) O).length bc] w fun e w' => (∃ WA' wc', e = .returned (.tuple #[refP Q qn cq mask most KA kn kc WA' (sortS L).tail.length wc' BA (keepS (bestN most) O).length bc, .int .i64 (spAt (sortS L) 0).2, .bool true]) ∧ RdS w' w'.heap.size WA' (sortS L).tail ∧ (∀ b o mm, WA' = some ⟨b, o, mm⟩ → (sortS L).tail ≠ [] → ∃ o', WA = some ⟨b, o', none⟩) ∧ (sortS L).tail.length ≤ wc' ∧ wc' ≤ 9223372036854775807) ∧ Below w.heap.size w w' := by
  have mixed : Try.prog.follows .mixedOrders = true := by kernel_rfl
  have HMO := Lib.hid (refMost_any most)
  have hm1 := bestN_le most
  have hkl := keepS_len (bestN most) O
  generalize hm : bestN most = m at *
  clear hm
  obtain ⟨Z, hZ⟩ : ∃ Z, sortS L = Z := ⟨_, rfl⟩
  have hZl : Z.length = L.length := by rw [← hZ, sortS_len]
  obtain ⟨Bs, hBs⟩ : ∃ Bs, keepS m O = Bs := ⟨_, rfl⟩
  have hcase : 0 < Z.length ∧ 0 < m ∧ (¬ Bs.length = m ∨ (Bs.length = m ∧ ltS (spAt Bs (m - 1)) (spAt Z 0) = false)) := by
    unfold hopeB lastS at hh
    rw [hZ, hBs] at hh
    rw [hBs] at hkl
    rw [Bool.and_eq_true] at hh
    have h0 := of_decide_eq_true hh.1
    refine ⟨by omega, ?_, ?_⟩
    · rcases Nat.eq_zero_or_pos m with rfl | h
      · have h1 : Bs.length = 0 := by omega
        rw [h1] at hh
        simp at hh
      · exact h
    · by_cases h2 : m ≤ Bs.length
      · have hbl : Bs.length = m := by omega
        refine .inr ⟨hbl, ?_⟩
        rw [decide_eq_true h2, Bool.not_true, Bool.false_or, Bool.and_eq_true, hbl] at hh
        have h3 := of_decide_eq_true hh.2.1
        rw [if_pos h3] at hh
        simpa using hh.2.2
      · exact .inl (by omega)
  rw [hZ] at hW hwc ⊢
  rw [hBs] at hB ⊢
  have hTL : Z.tail.length = Z.length - 1 := List.length_tail
  rw [hTL]
  clear hTL
  obtain ⟨nb, hnb⟩ : ∃ n, Bs.length = n := ⟨_, rfl⟩
  obtain ⟨nz, hnz⟩ : ∃ n, Z.length = n := ⟨_, rfl⟩
  rw [hnb] at hcase ⊢
  rw [hnz] at hcase hwc ⊢
  have HWC := Lib.hid hwc
  clear hwc
  have HNB := Lib.hid hnb
  have HNZ := Lib.hid hnz
  clear hnb hnz
  unfold refP
  have hbA := below_new3 w (.cells #[.slice Q qn cq, .int .u64 mask, .int .i64 most, .slice KA kn kc, .slice WA nz wc, .slice BA nb bc] 46)
  have hbB := below_new3 (w.alloc (.cells #[.slice Q qn cq, .int .u64 mask, .int .i64 most, .slice KA kn kc, .slice WA nz wc, .slice BA nb bc] 46)) (.cells #[.slice none 0 0, .int .u64 0, .int .i64 0, .slice none 0 0, .slice none 0 0, .slice none 0 0] 46)
  have hsA := (SixC.new w (.slice Q qn cq) (.int .u64 mask) (.int .i64 most) (.slice KA kn kc) (.slice WA nz wc) (.slice BA nb bc) 46).below hbB
  have hsB := SixC.new (w.alloc (.cells #[.slice Q qn cq, .int .u64 mask, .int .i64 most, .slice KA kn kc, .slice WA nz wc, .slice BA nb bc] 46)) (.slice none 0 0) (.int .u64 0) (.int .i64 0) (.slice none 0 0) (.slice none 0 0) (.slice none 0 0) 46
  have hbX := hbA.trans (hbB.mono hbA.size)
  have hsz : (w.alloc (.cells #[.slice Q qn cq, .int .u64 mask, .int .i64 most, .slice KA kn kc, .slice WA nz wc, .slice BA nb bc] 46)).heap.size = w.heap.size + 1 := by simp
  rw [hsz] at hsB
  have HW0 := Lib.hid hW
  have HW := Lib.hid ((hW.below hbX).more hbX.size)
  have HB := Lib.hid ((hB.below hbX).more hbX.size)
  have HBX := Lib.hid hbX
  clear hW hB hbA hbB hbX hsz hh hZ hBs hZl hl hkl
  go_enter Try.func25, Try.ntmps25
  have HA := Lib.hid hsA
  have HBB := Lib.hid hsB
  obtain ⟨-, k0, k1, k2, k3, k4, k5, -⟩ := hsA
  clear hsB
  go_wp2_with fail
  generalize (w.alloc (.cells #[.slice Q qn cq, .int .u64 mask, .int .i64 most, .slice KA kn kc, .slice WA nz wc, .slice BA nb bc] 46)).alloc (.cells #[.slice none 0 0, .int .u64 0, .int .i64 0, .slice none 0 0, .slice none 0 0, .slice none 0 0] 46) = X at *
  refine (HMO.out X).mono ?_
  rintro e X' ⟨rfl, rfl⟩
  have g4 := cell_regrown k4
  have g5 := cell_regrown k5
  clear k0 k1 k2 k3 k4 k5
  obtain ⟨hz, hmp, hcase⟩ := hcase
  rcases hcase with hne | ⟨rfl, hlt⟩
  · skip
    have n1 : ¬ (nz : Int) = 0 := by omega
    have n2 : ((nz : Int) == 0) = false := by simpa using n1
    have n3 : decide ((nz : Int) = 0) = false := by simpa using n1
    have n4 : decide (nz = 0) = false := by simp; omega
    have n5 : (nz == 0) = false := by simp; omega
    obtain ⟨⟨⟨za, zb⟩, zc⟩, hz0⟩ : ∃ z, spAt Z 0 = z := ⟨_, rfl⟩
    obtain ⟨bz, oz, rfl, hbz, z0, z1, z2⟩ := HW.out 0 _ (spAt_lt (by rw [HNZ.out]; omega))
    rw [hz0] at z0 z1 z2
    simp only [Nat.zero_mul, Nat.add_zero] at z0 z1 z2
    have HZC := Lib.hid (And.intro z2 hbz)
    have HZ0 := Lib.hid hz0
    have m1 : ¬ (m : Int) = 0 := by omega
    have m2 : ((m : Int) == 0) = false := by simpa using m1
    have m3 : decide ((m : Int) = 0) = false := by simpa using m1
    have m4 : (m == 0) = false := by simp; omega
    have m5 : decide (m = 0) = false := by simp; omega
    have u1 : ¬ (nb : Int) = (m : Int) := by omega
    have u2 : ((nb : Int) == (m : Int)) = false := by simpa using u1
    have u3 : decide ((nb : Int) = (m : Int)) = false := by simpa using u1
    have u4 : (nb == m) = false := by simpa using hne
    have u5 : decide (nb = m) = false := by simpa using hne
    clear z0 z1 z2 hz0 hbz
    go_wp2_with fail
    refine wp_region_quiet_below (by assumption) (by kernel_rfl) ?_
    repeat (go_big_quiet_step (fail))
    refine wpQuiet_nil ?_
    intro _ hw'
    obtain ⟨⟨dq, osq⟩, hw''⟩ := hw'
    subst hw''
    have hy := below_regrown X dq osq
    clear g4 g5
    have a := HA.out.below hy
    have b := HBB.out.below hy
    have HYB := Lib.hid (HBX.out.trans (hy.mono HBX.out.size))
    have zs := (hy.cell (p := ⟨bz, oz + 2, none⟩) HZC.out.2).trans HZC.out.1
    clear m1 m2 m3 m4 m5 u1 u2 u3 u4 u5 n1 n2 n3 n4 n5 hne
    generalize grow (redrawn X dq) osq = Y at *
    have HAY := Lib.hid a
    have HBY := Lib.hid b
    obtain ⟨-, k0, k1, k2, k3, k4, k5, f0, f1, f2, f3, f4, f5⟩ := a
    clear b
    have v1 : (1 : Int) ≤ (nz : Int) := by omega
    have v2 : (nz : Int) ≤ (wc : Int) := by have := HWC.out.1; omega
    have v3 : (1 : Int) ≤ (wc : Int) := by omega
    have v4 : (0 : Int) < (nz : Int) := by omega
    clear hy
    go_upto_region 6 with (fail)
    generalize hTA : (if wc = 1 then some (⟨bz, oz, none⟩ : Addr) else some ⟨bz, oz + 3, none⟩) = TA at *
    have HTA := Lib.hid hTA
    have a := HAY.out.set4 (.slice TA (nz - 1) (wc - 1))
    have b := HBY.out.other (a := ⟨w.heap.size, 4, none⟩) (by simp) (.slice TA (nz - 1) (wc - 1))
    have HY2 := Lib.hid (HYB.out.setCell (p := ⟨w.heap.size, 4, none⟩) (Nat.le_refl _) (.slice TA (nz - 1) (wc - 1)))
    clear hTA k0 k1 k2 k3 k4 k5 f0 f1 f2 f3 f4 f5 zs
    generalize Y.setCell ⟨w.heap.size, 4, none⟩ (.slice TA (nz - 1) (wc - 1)) = Y2 at *
    have HB6 := Lib.hid (b.all6 (.slice Q qn cq) (.int .u64 mask) (.int .i64 most) (.slice KA kn kc) (.slice TA (nz - 1) (wc - 1)) (.slice BA nb bc))
    have HBE := Lib.hid (below_all6 (b := w.heap.size + 1) HY2.out (Nat.le_succ _) (.slice Q qn cq) (.int .u64 mask) (.int .i64 most) (.slice KA kn kc) (.slice TA (nz - 1) (wc - 1)) (.slice BA nb bc))
    obtain ⟨-, k0, k1, k2, k3, k4, k5, -⟩ := a
    obtain ⟨-, m0, m1, m2, m3, m4, m5, f0, f1, f2, f3, f4, f5⟩ := b
    go_wp2
    obtain ⟨-, q0, q1, q2, q3, q4, q5, -⟩ := HB6.out
    have hrd := (rdS_tail (wc := wc) (HW0.out.below HBE.out) (by have := HNZ.out; have := HWC.out.1; omega)).more HBE.out.size
    rw [HTA.out] at hrd
    have hlo : ∀ b o mm, TA = some ⟨b, o, mm⟩ → Z.tail ≠ [] → ∃ o', some (⟨bz, oz, none⟩ : Addr) = some ⟨b, o', none⟩ := fun b o mm e _ => by
      have h := HTA.out
      rw [e] at h
      split at h
      · injection h with h; injection h with h _; exact ⟨oz, by rw [h]⟩
      · injection h with h; injection h with h _; exact ⟨oz, by rw [h]⟩
    refine bodyPost_ret (v := .tuple #[.agg #[.slice Q qn cq, .int .u64 mask, .int .i64 most, .slice KA kn kc, .slice TA (nz - 1) (wc - 1), .slice BA nb bc], .int .i64 zc, .bool true]) ?rr rfl ⟨⟨TA, wc - 1, ?ee, hrd, hlo, by have := HWC.out; omega, by have := HWC.out; omega⟩, HBE.out⟩
    case rr => simp [results, Try.results25, go_sem, q0, q1, q2, q3, q4, q5]
    case ee => rw [HZ0.out]
  · obtain ⟨q, rfl⟩ : ∃ q, nb = q + 1 := ⟨nb - 1, by omega⟩
    have n1 : ¬ (nz : Int) = 0 := by omega
    have n2 : ((nz : Int) == 0) = false := by simpa using n1
    have n3 : decide ((nz : Int) = 0) = false := by simpa using n1
    have n4 : decide (nz = 0) = false := by simp; omega
    have n5 : (nz == 0) = false := by simp; omega
    obtain ⟨⟨⟨ya, yb⟩, yc⟩, hy0⟩ : ∃ y, spAt Bs q = y := ⟨_, rfl⟩
    obtain ⟨⟨⟨za, zb⟩, zc⟩, hz0⟩ : ∃ z, spAt Z 0 = z := ⟨_, rfl⟩
    obtain ⟨bb, ob, rfl, hbb, y0, y1, y2⟩ := HB.out q _ (spAt_lt (by rw [HNB.out]; omega))
    obtain ⟨bz, oz, rfl, hbz, z0, z1, z2⟩ := HW.out 0 _ (spAt_lt (by rw [HNZ.out]; omega))
    rw [hy0] at y0 y1 y2
    rw [hz0] at z0 z1 z2
    rw [show q + 1 - 1 = q by omega, hy0, hz0] at hlt
    simp only [Nat.zero_mul, Nat.add_zero] at y0 y1 y2 z0 z1 z2
    have r0 := cell_regrown y0
    have r1 := cell_regrown y1
    have r2 := cell_regrown y2
    have s0 := cell_regrown z0
    have s1 := cell_regrown z1
    have s2 := cell_regrown z2
    have m1 : ((q : Int) + 1 == 0) = false := by simp; omega
    have m2 : decide ((q : Int) + 1 = 0) = false := by simp; omega
    have m3 : decide (((q + 1 : Nat) : Int) = 0) = false := by simp; omega
    have m4 : (q + 1 == 0) = false := by simp
    have m5 : decide (q + 1 = 0) = false := by simp
    have m6 : (((q + 1 : Nat) : Int) == 0) = false := by simp; omega
    have u1 : ((q + 1 : Nat) : Int) - 1 = (q : Int) := by omega
    have u2 : (q : Int) < ((q + 1 : Nat) : Int) := by omega
    have u3 : (0 : Int) ≤ (q : Int) := by omega
    have u4 : ((q : Int)).toNat = q := Int.toNat_natCast q
    have u5 : IntKind.i64.wrap (q : Int) = (q : Int) := by rw [IntKind.wrap_i64]; omega
    have u6 : (q : Int) < (q : Int) + 1 := by omega
    have u7 : (0 : Int) < (nz : Int) := by omega
    have HZC := Lib.hid (And.intro z2 hbz)
    have HZ0 := Lib.hid hz0
    clear y0 y1 y2 z0 z1 z2 hy0 hz0 hbb hbz
    go_wp2_with fail
    refine wp_region_quiet_below (by assumption) (by kernel_rfl) ?_
    repeat (go_big_quiet_step ((go_at_call 75; exact Calls.regrown_of (refSpot_v ((_, _), _) ((_, _), _) _ _ (by assumption)))))
    refine wpQuiet_nil ?_
    intro _ hw'
    obtain ⟨⟨dq, osq⟩, hw''⟩ := hw'
    subst hw''
    have hy := below_regrown X dq osq
    clear g4 g5
    have a := HA.out.below hy
    have b := HBB.out.below hy
    have HYB := Lib.hid (HBX.out.trans (hy.mono HBX.out.size))
    have zs := (hy.cell (p := ⟨bz, oz + 2, none⟩) HZC.out.2).trans HZC.out.1
    clear r0 r1 r2 s0 s1 s2 m1 m2 m3 m4 m5 m6 u1 u2 u3 u4 u5 u6 u7 n1 n2 n3 n4 n5 hlt
    generalize grow (redrawn X dq) osq = Y at *
    have HAY := Lib.hid a
    have HBY := Lib.hid b
    obtain ⟨-, k0, k1, k2, k3, k4, k5, f0, f1, f2, f3, f4, f5⟩ := a
    clear b
    have v1 : (1 : Int) ≤ (nz : Int) := by omega
    have v2 : (nz : Int) ≤ (wc : Int) := by have := HWC.out.1; omega
    have v3 : (1 : Int) ≤ (wc : Int) := by omega
    have v4 : (0 : Int) < (nz : Int) := by omega
    clear hy
    go_upto_region 6 with (fail)
    generalize hTA : (if wc = 1 then some (⟨bz, oz, none⟩ : Addr) else some ⟨bz, oz + 3, none⟩) = TA at *
    have HTA := Lib.hid hTA
    have a := HAY.out.set4 (.slice TA (nz - 1) (wc - 1))
    have b := HBY.out.other (a := ⟨w.heap.size, 4, none⟩) (by simp) (.slice TA (nz - 1) (wc - 1))
    have HY2 := Lib.hid (HYB.out.setCell (p := ⟨w.heap.size, 4, none⟩) (Nat.le_refl _) (.slice TA (nz - 1) (wc - 1)))
    clear hTA k0 k1 k2 k3 k4 k5 f0 f1 f2 f3 f4 f5 zs
    generalize Y.setCell ⟨w.heap.size, 4, none⟩ (.slice TA (nz - 1) (wc - 1)) = Y2 at *
    have HB6 := Lib.hid (b.all6 (.slice Q qn cq) (.int .u64 mask) (.int .i64 most) (.slice KA kn kc) (.slice TA (nz - 1) (wc - 1)) (.slice (some ⟨bb, ob, none⟩) (q + 1) bc))
    have HBE := Lib.hid (below_all6 (b := w.heap.size + 1) HY2.out (Nat.le_succ _) (.slice Q qn cq) (.int .u64 mask) (.int .i64 most) (.slice KA kn kc) (.slice TA (nz - 1) (wc - 1)) (.slice (some ⟨bb, ob, none⟩) (q + 1) bc))
    obtain ⟨-, k0, k1, k2, k3, k4, k5, -⟩ := a
    obtain ⟨-, m0, m1, m2, m3, m4, m5, f0, f1, f2, f3, f4, f5⟩ := b
    go_wp2
    obtain ⟨-, q0, q1, q2, q3, q4, q5, -⟩ := HB6.out
    have hrd := (rdS_tail (wc := wc) (HW0.out.below HBE.out) (by have := HNZ.out; have := HWC.out.1; omega)).more HBE.out.size
    rw [HTA.out] at hrd
    have hlo : ∀ b o mm, TA = some ⟨b, o, mm⟩ → Z.tail ≠ [] → ∃ o', some (⟨bz, oz, none⟩ : Addr) = some ⟨b, o', none⟩ := fun b o mm e _ => by
      have h := HTA.out
      rw [e] at h
      split at h
      · injection h with h; injection h with h _; exact ⟨oz, by rw [h]⟩
      · injection h with h; injection h with h _; exact ⟨oz, by rw [h]⟩
    refine bodyPost_ret (v := .tuple #[.agg #[.slice Q qn cq, .int .u64 mask, .int .i64 most, .slice KA kn kc, .slice TA (nz - 1) (wc - 1), .slice (some ⟨bb, ob, none⟩) (q + 1) bc], .int .i64 zc, .bool true]) ?rr rfl ⟨⟨TA, wc - 1, ?ee, hrd, hlo, by have := HWC.out; omega, by have := HWC.out; omega⟩, HBE.out⟩
    case rr => simp [results, Try.results25, go_sem, q0, q1, q2, q3, q4, q5]
    case ee => rw [HZ0.out]

end Go.Proofs.Ytajmnhnepoomjaa

namespace Go.Proofs.Ytajmnhnepoomjaa
open Go.RowKit Go.Shelf Go.Sort Go.Lib

theorem contains_no {K : List Int} {s : Int} (h : K.contains s = false) (k : Nat) (hk : k < K.length) : K[k] ≠ s := by
  intro e
  have : K.contains s = true := by
    rw [List.contains_iff_mem]
    exact e ▸ List.getElem_mem hk
  rw [h] at this
  cases this
theorem contains_yes {K : List Int} {s : Int} (h : K.contains s = true) : ∃ k, ∃ hk : k < K.length, K[k] = s := by
  rw [List.contains_iff_mem] at h
  exact List.getElem_of_mem h
theorem VecB.refDist2 {w : World} {B : Nat} {A A' : Option Addr} {xs ys : List Int} (hA : VecB w B A xs) (hB : VecB w B A' ys) (ca cb : Nat) :
    Calls Try.prog 78 #[.slice A xs.length ca, .slice A' ys.length cb] w fun e w' => e = .returned (.int .u64 (satN (distN xs ys (max xs.length ys.length)))) ∧ w = w' :=
  refDist_any A A' xs ys ca cb w hA.rd hB.rd hA.len hB.len hA.all hB.all

set_option maxRecDepth 100000 in
set_option maxHeartbeats 4000000 in
theorem refOffer_old (Q : Option Addr) (qn cq : Nat) (mask most : Int) (KA : Option Addr) (K : List Int) (kc : Nat) (WA : Option Addr) (wn wc : Nat) (BA : Option Addr) (bn bc : Nat) (s : Int) (z : ItT) (w : World) (hK : Rd (Value.int .i64) w w.heap.size KA K) (hl : K.length ≤ 1000) (hs : K.contains s = true) :
    Calls Try.prog 27 #[refP Q qn cq mask most KA K.length kc WA wn wc BA bn bc, .int .i64 s, itV z] w fun e w' => e = .returned (.tuple #[refP Q qn cq mask most KA K.length kc WA wn wc BA bn bc, .bool false]) ∧ Below w.heap.size w w' := by
  obtain ⟨id, ZA, zv, zc, tg⟩ := z
  unfold refP itV
  have hbA := below_new3 w (.cells #[.slice Q qn cq, .int .u64 mask, .int .i64 most, .slice KA K.length kc, .slice WA wn wc, .slice BA bn bc] 46)
  have hb1 := below_new3 (w.alloc (.cells #[.slice Q qn cq, .int .u64 mask, .int .i64 most, .slice KA K.length kc, .slice WA wn wc, .slice BA bn bc] 46)) (.cells #[.int .u64 id, .slice ZA zv.length zc, .int .u64 tg] 36)
  have hb2 := below_new3 ((w.alloc (.cells #[.slice Q qn cq, .int .u64 mask, .int .i64 most, .slice KA K.length kc, .slice WA wn wc, .slice BA bn bc] 46)).alloc (.cells #[.int .u64 id, .slice ZA zv.length zc, .int .u64 tg] 36)) (.cells #[.slice none 0 0, .int .u64 0, .int .i64 0, .slice none 0 0, .slice none 0 0, .slice none 0 0] 46)
  have hsA := ((SixC.new w (.slice Q qn cq) (.int .u64 mask) (.int .i64 most) (.slice KA K.length kc) (.slice WA wn wc) (.slice BA bn bc) 46).below hb1).below hb2
  have hsB := SixC.new ((w.alloc (.cells #[.slice Q qn cq, .int .u64 mask, .int .i64 most, .slice KA K.length kc, .slice WA wn wc, .slice BA bn bc] 46)).alloc (.cells #[.int .u64 id, .slice ZA zv.length zc, .int .u64 tg] 36)) (.slice none 0 0) (.int .u64 0) (.int .i64 0) (.slice none 0 0) (.slice none 0 0) (.slice none 0 0) 46
  have hbX := (hbA.trans (hb1.mono hbA.size)).trans (hb2.mono (Nat.le_trans hbA.size hb1.size))
  have hsz : ((w.alloc (.cells #[.slice Q qn cq, .int .u64 mask, .int .i64 most, .slice KA K.length kc, .slice WA wn wc, .slice BA bn bc] 46)).alloc (.cells #[.int .u64 id, .slice ZA zv.length zc, .int .u64 tg] 36)).heap.size = w.heap.size + 1 + 1 := by simp
  rw [hsz] at hsB
  have HK := Lib.hid ((hK.below hbX).more hbX.size)
  have HBX := Lib.hid hbX
  have HA := Lib.hid hsA
  have HBB := Lib.hid hsB
  obtain ⟨-, k0, k1, k2, k3, k4, k5, -⟩ := hsA
  obtain ⟨k9, hk9, hks⟩ := contains_yes hs
  have HK9 : Hid (∃ h : k9 < K.length, K[k9] = s) := ⟨hk9, hks⟩
  clear hK hbA hb1 hb2 hbX hsz hsB hs hks
  clear hk9
  go_enter Try.func27, Try.ntmps27
  go_wp2
  generalize ((w.alloc (.cells #[.slice Q qn cq, .int .u64 mask, .int .i64 most, .slice KA K.length kc, .slice WA wn wc, .slice BA bn bc] 46)).alloc (.cells #[.int .u64 id, .slice ZA zv.length zc, .int .u64 tg] 36)).alloc (.cells #[.slice none 0 0, .int .u64 0, .int .i64 0, .slice none 0 0, .slice none 0 0, .slice none 0 0] 46) = X at *
  go_loop [16] (fun i => ∃ k : Nat, k ≤ K.length ∧ i = .int .i64 k ∧ Hid (∀ j (h : j < K.length), j < k → K[j] ≠ s)) (fun i => K.length - (intOf i).toNat)
  case atStart => exact ⟨0, Nat.zero_le _, rfl, fun j _ h => absurd h (by omega)⟩
  case round =>
    obtain ⟨k, hk, rfl, HN⟩ := hrel
    by_cases hlt : k < K.length
    · obtain ⟨kb, ko, rfl, hb, h0⟩ := HK.out k _ (List.getElem?_eq_getElem hlt)
      have hkl : (k : Int) < (K.length : Int) := by omega
      have hk0 : (0 : Int) ≤ (k : Int) := by omega
      have hkn : ((k : Int)).toNat = k := Int.toNat_natCast k
      have HN2 : Hid (K[k] ≠ s → ∀ j (h : j < K.length), j < k + 1 → K[j] ≠ s) := Lib.hid fun hne j h hj => by
        rcases Nat.lt_or_ge j k with h2 | h2
        · exact HN.out j h h2
        · obtain rfl : j = k := by omega
          exact hne
      generalize K[k] = x at *
      by_cases hx : x = s
      · subst hx
        have HB6 := Lib.hid (HBB.out.all6 (.slice Q qn cq) (.int .u64 mask) (.int .i64 most) (.slice (some ⟨kb, ko, none⟩) K.length kc) (.slice WA wn wc) (.slice BA bn bc))
        have HBE := Lib.hid (below_all6 (b := w.heap.size + 1 + 1) HBX.out (by omega) (.slice Q qn cq) (.int .u64 mask) (.int .i64 most) (.slice (some ⟨kb, ko, none⟩) K.length kc) (.slice WA wn wc) (.slice BA bn bc))
        obtain ⟨-, m0, m1, m2, m3, m4, m5, f0, f1, f2, f3, f4, f5⟩ := HBB.out
        clear HN HN2
        go_wp2
        obtain ⟨-, q0, q1, q2, q3, q4, q5, -⟩ := HB6.out
        refine bodyPost_ret (v := .tuple #[.agg #[.slice Q qn cq, .int .u64 mask, .int .i64 most, .slice (some ⟨kb, ko, none⟩) K.length kc, .slice WA wn wc, .slice BA bn bc], .bool false]) ?rr rfl ⟨rfl, HBE.out⟩
        case rr => simp [results, Try.results27, go_sem, q0, q1, q2, q3, q4, q5]
      · have hx2 : (x == s) = false := by simpa using hx
        have hx3 : decide (x = s) = false := by simpa using hx
        have HN3 := Lib.hid (HN2.out hx)
        go_wp2
        go_round
        case rel => exact ⟨k + 1, by omega, by go_num, HN3.out⟩
        case measure => simp [intOf]; omega
    · obtain ⟨h9, e9⟩ := HK9.out
      exact absurd e9 (HN.out k9 h9 (by omega))

/-- What the document's probe is behind an offer. -/
def OffNew (q : List Int) (cq : Nat) (Q : Option Addr) (mask most : Int) (_WA BA : Option Addr) (K : List Int) (L O : List SpotT) (s d id : Int) (O' : List SpotT) (w : World) (e : Ending) (w' : World) : Prop :=
  (∃ KA' kc' WA' wc' BA' bc', e = .returned (.tuple #[refP Q q.length cq mask most KA' (K.length + 1) kc' WA' (sortS (L ++ [((d, id), s)])).length wc' BA' (keepS (bestN most) O').length bc', .bool true]) ∧
    Rd (Value.int .i64) w' w'.heap.size KA' (K ++ [s]) ∧ (∀ b o, KA' = some ⟨b, o, none⟩ → w.heap.size ≤ b) ∧
    RdS w' w'.heap.size WA' (sortS (L ++ [((d, id), s)])) ∧ (∀ b o, WA' = some ⟨b, o, none⟩ → w.heap.size ≤ b) ∧ (sortS (L ++ [((d, id), s)])).length ≤ wc' ∧ wc' ≤ 9223372036854775807 ∧
    RdS w' w'.heap.size BA' (keepS (bestN most) O') ∧ (∀ b o, BA' = some ⟨b, o, none⟩ → keepS (bestN most) O' ≠ [] → BA = some ⟨b, o, none⟩ ∧ keepS (bestN most) O ≠ [] ∨ w.heap.size ≤ b)) ∧ Below w.heap.size w w'

theorem newsI {W : World} {o : Obj} {x : Value} (ho : o = .cells #[x] 3) : ∀ ad, (some (⟨W.heap.size, 0, none⟩ : Addr)) = some ad → ∀ (j : Nat) u, ([x] : List Value)[j]? = some u → (W.alloc o).cell? (ad.add j) = some u := by
  subst ho
  intro ad had j u hu
  injection had with had
  subst had
  match j, hu with
  | 0, hu => simp at hu; subst hu; go_cell
section
variable {W : World} {B : Nat} {A : Option Addr}
theorem spc_other {k : Nat} {s : SpotT} (h : SpC W k s) {a : Addr} (ha : k ≠ a.block) (v : Value) : SpC (W.setCell a v) k s :=
  have c : ∀ i, (W.setCell a v).cell? ⟨k, i, none⟩ = W.cell? ⟨k, i, none⟩ := fun i => World.cell?_setCell_other _ _ _ _ (fun e => ha (by rw [e]))
  ⟨(c 0).trans h.1, (c 1).trans h.2.1, (c 2).trans h.2.2⟩
theorem rd_other {zs : List Int} (h : Rd (Value.int .i64) W B A zs) {a : Addr} (ha : ∀ b o, A = some ⟨b, o, none⟩ → b ≠ a.block) (v : Value) : Rd (Value.int .i64) (W.setCell a v) B A zs := fun k z hz => by
  obtain ⟨b, off, rfl, hb, hc⟩ := h k z hz
  exact ⟨b, off, rfl, hb, (World.cell?_setCell_other _ _ _ _ (fun e => ha b off rfl (by rw [e]))).trans hc⟩
theorem rdS_other2 {zs : List SpotT} (h : RdS W B A zs) {a : Addr} (ha : ∀ b o, A = some ⟨b, o, none⟩ → zs ≠ [] → b ≠ a.block) (v : Value) : RdS (W.setCell a v) B A zs := fun k z hz => by
  obtain ⟨b, off, rfl, hb, h0, h1, h2⟩ := h k z hz
  have hne : b ≠ a.block := ha b off rfl (fun e => by subst e; simp at hz)
  have c : ∀ i, (W.setCell a v).cell? ⟨b, i, none⟩ = W.cell? ⟨b, i, none⟩ := fun i => World.cell?_setCell_other _ _ _ _ (fun e => hne (by rw [e]))
  exact ⟨b, off, rfl, hb, (c _).trans h0, (c _).trans h1, (c _).trans h2⟩
theorem rdS_other {zs : List SpotT} (h : RdS W B A zs) {a : Addr} (ha : ∀ b o, A = some ⟨b, o, none⟩ → b ≠ a.block) (v : Value) : RdS (W.setCell a v) B A zs := rdS_other2 h (fun b o e _ => ha b o e) v
theorem rdS_lt {zs : List SpotT} (h : RdS W B A zs) {b o : Nat} (e : A = some ⟨b, o, none⟩) (hne : zs ≠ []) : b < B := by
  obtain ⟨x, hx⟩ : ∃ x, zs[0]? = some x := by
    cases zs with
    | nil => exact absurd rfl hne
    | cons x r => exact ⟨x, rfl⟩
  obtain ⟨b2, o2, e1, e2, _⟩ := h 0 x hx
  rw [e1] at e
  injection e with e
  injection e with e
  omega
theorem rd_all6 {zs : List Int} (h : Rd (Value.int .i64) W W.heap.size A zs) {b : Nat} (ha : ∀ b' o, A = some ⟨b', o, none⟩ → b' ≠ b) (u0 u1 u2 u3 u4 u5 : Value) : Rd (Value.int .i64) ((((((W.setCell ⟨b, 0, none⟩ u0).setCell ⟨b, 1, none⟩ u1).setCell ⟨b, 2, none⟩ u2).setCell ⟨b, 3, none⟩ u3).setCell ⟨b, 4, none⟩ u4).setCell ⟨b, 5, none⟩ u5) ((((((W.setCell ⟨b, 0, none⟩ u0).setCell ⟨b, 1, none⟩ u1).setCell ⟨b, 2, none⟩ u2).setCell ⟨b, 3, none⟩ u3).setCell ⟨b, 4, none⟩ u4).setCell ⟨b, 5, none⟩ u5).heap.size A zs :=
  (rd_other (rd_other (rd_other (rd_other (rd_other (rd_other h ha u0) ha u1) ha u2) ha u3) ha u4) ha u5).more (by simp)
theorem rdS_all6 {zs : List SpotT} (h : RdS W W.heap.size A zs) {b : Nat} (ha : ∀ b' o, A = some ⟨b', o, none⟩ → zs ≠ [] → b' ≠ b) (u0 u1 u2 u3 u4 u5 : Value) : RdS ((((((W.setCell ⟨b, 0, none⟩ u0).setCell ⟨b, 1, none⟩ u1).setCell ⟨b, 2, none⟩ u2).setCell ⟨b, 3, none⟩ u3).setCell ⟨b, 4, none⟩ u4).setCell ⟨b, 5, none⟩ u5) ((((((W.setCell ⟨b, 0, none⟩ u0).setCell ⟨b, 1, none⟩ u1).setCell ⟨b, 2, none⟩ u2).setCell ⟨b, 3, none⟩ u3).setCell ⟨b, 4, none⟩ u4).setCell ⟨b, 5, none⟩ u5).heap.size A zs :=
  (rdS_other2 (rdS_other2 (rdS_other2 (rdS_other2 (rdS_other2 (rdS_other2 h ha u0) ha u1) ha u2) ha u3) ha u4) ha u5).more (by simp)
end

set_option maxRecDepth 100000 in
set_option maxHeartbeats 8000000 in
theorem refOffer_new (Q : Option Addr) (q : List Int) (cq : Nat) (mask most : Int) (KA : Option Addr) (K : List Int) (kc : Nat) (WA : Option Addr) (wcp : Nat) (BA : Option Addr) (bc : Nat) (L O : List SpotT) (s : Int) (z : ItT) (w : World) (hQ : VecB w w.heap.size Q q) (hK : Rd (Value.int .i64) w w.heap.size KA K) (hl : K.length ≤ 1000) (hW : RdS w w.heap.size WA (sortS L)) (hL : L.length ≤ 1000) (hB : RdS w w.heap.size BA (keepS (bestN most) O)) (hO : O.length ≤ 1000) (hz : VecB w w.heap.size z.A z.vec) (hs : K.contains s = false) :
    Calls Try.prog 27 #[refP Q q.length cq mask most KA K.length kc WA (sortS L).length wcp BA (keepS (bestN most) O).length bc, .int .i64 s, itV z] w (OffNew q cq Q mask most WA BA K L O s (distI q z) z.id (if bits .and .u64 z.tags mask = mask then O ++ [((distI q z, z.id), s)] else O) w) := by
  have mixed : Try.prog.follows .mixedOrders = true := by kernel_rfl
  obtain ⟨i2, hq0, hq1, hq2, hq3⟩ := info_parts info_int
  obtain ⟨id, ZA, zv, zc, tg⟩ := z
  simp only at hz ⊢
  have HDI : Hid (distI q ⟨id, ZA, zv, zc, tg⟩ = satN (distN q zv (max q.length zv.length))) := rfl
  generalize distI q ⟨id, ZA, zv, zc, tg⟩ = dd at *
  obtain ⟨O', hO'⟩ : ∃ O', (if bits .and .u64 tg mask = mask then O ++ [((dd, id), s)] else O) = O' := ⟨_, rfl⟩
  rw [hO']
  have HOO := Lib.hid hO'
  clear hO'
  obtain ⟨wn, hwn⟩ : ∃ n, (sortS L).length = n := ⟨_, rfl⟩
  obtain ⟨bn, hbn⟩ : ∃ n, (keepS (bestN most) O).length = n := ⟨_, rfl⟩
  have HWN := Lib.hid hwn
  have HBN := Lib.hid hbn
  rw [hwn, hbn]
  clear hwn hbn
  unfold refP itV
  have hbA := below_new3 w (.cells #[.slice Q q.length cq, .int .u64 mask, .int .i64 most, .slice KA K.length kc, .slice WA wn wcp, .slice BA bn bc] 46)
  have hb1 := below_new3 (w.alloc (.cells #[.slice Q q.length cq, .int .u64 mask, .int .i64 most, .slice KA K.length kc, .slice WA wn wcp, .slice BA bn bc] 46)) (.cells #[.int .u64 id, .slice ZA zv.length zc, .int .u64 tg] 36)
  have hb2 := below_new3 ((w.alloc (.cells #[.slice Q q.length cq, .int .u64 mask, .int .i64 most, .slice KA K.length kc, .slice WA wn wcp, .slice BA bn bc] 46)).alloc (.cells #[.int .u64 id, .slice ZA zv.length zc, .int .u64 tg] 36)) (.cells #[.slice none 0 0, .int .u64 0, .int .i64 0, .slice none 0 0, .slice none 0 0, .slice none 0 0] 46)
  have hsA := ((SixC.new w (.slice Q q.length cq) (.int .u64 mask) (.int .i64 most) (.slice KA K.length kc) (.slice WA wn wcp) (.slice BA bn bc) 46).below hb1).below hb2
  have hsB := SixC.new ((w.alloc (.cells #[.slice Q q.length cq, .int .u64 mask, .int .i64 most, .slice KA K.length kc, .slice WA wn wcp, .slice BA bn bc] 46)).alloc (.cells #[.int .u64 id, .slice ZA zv.length zc, .int .u64 tg] 36)) (.slice none 0 0) (.int .u64 0) (.int .i64 0) (.slice none 0 0) (.slice none 0 0) (.slice none 0 0) 46
  have hbX := (hbA.trans (hb1.mono hbA.size)).trans (hb2.mono (Nat.le_trans hbA.size hb1.size))
  have hsz : ((w.alloc (.cells #[.slice Q q.length cq, .int .u64 mask, .int .i64 most, .slice KA K.length kc, .slice WA wn wcp, .slice BA bn bc] 46)).alloc (.cells #[.int .u64 id, .slice ZA zv.length zc, .int .u64 tg] 36)).heap.size = w.heap.size + 1 + 1 := by simp
  rw [hsz] at hsB
  have HQ := Lib.hid ((hQ.below hbX).more hbX.size)
  have HZ := Lib.hid ((hz.below hbX).more hbX.size)
  have HWS := Lib.hid hW
  have HBS := Lib.hid hB
  have HNN := Lib.hid (And.intro hl (And.intro hL hO))
  have i0 := (hb2.cell (p := ⟨w.heap.size + 1, 0, none⟩) (by simp)).trans (show (World.alloc _ (.cells #[.int .u64 id, .slice ZA zv.length zc, .int .u64 tg] 36)).cell? ⟨w.heap.size + 1, 0, none⟩ = some (.int .u64 id) by go_cell)
  have i1 := (hb2.cell (p := ⟨w.heap.size + 1, 1, none⟩) (by simp)).trans (show (World.alloc _ (.cells #[.int .u64 id, .slice ZA zv.length zc, .int .u64 tg] 36)).cell? ⟨w.heap.size + 1, 1, none⟩ = some (.slice ZA zv.length zc) by go_cell)
  have i2' := (hb2.cell (p := ⟨w.heap.size + 1, 2, none⟩) (by simp)).trans (show (World.alloc _ (.cells #[.int .u64 id, .slice ZA zv.length zc, .int .u64 tg] 36)).cell? ⟨w.heap.size + 1, 2, none⟩ = some (.int .u64 tg) by go_cell)
  have HK := Lib.hid ((hK.below hbX).more hbX.size)
  have HBX := Lib.hid hbX
  have HA := Lib.hid hsA
  have HBB := Lib.hid hsB
  obtain ⟨-, k0, k1, k2, k3, k4, k5, -⟩ := hsA
  have HNC := Lib.hid (fun k hk => contains_no hs k hk)
  have hltD2 : w.heap.size + 1 + 1 < (((w.alloc (.cells #[.slice Q q.length cq, .int .u64 mask, .int .i64 most, .slice KA K.length kc, .slice WA wn wcp, .slice BA bn bc] 46)).alloc (.cells #[.int .u64 id, .slice ZA zv.length zc, .int .u64 tg] 36)).alloc (.cells #[.slice none 0 0, .int .u64 0, .int .i64 0, .slice none 0 0, .slice none 0 0, .slice none 0 0] 46)).heap.size := by simp
  have hltD := Nat.lt_of_succ_lt hltD2
  have hltB : w.heap.size < (((w.alloc (.cells #[.slice Q q.length cq, .int .u64 mask, .int .i64 most, .slice KA K.length kc, .slice WA wn wcp, .slice BA bn bc] 46)).alloc (.cells #[.int .u64 id, .slice ZA zv.length zc, .int .u64 tg] 36)).alloc (.cells #[.slice none 0 0, .int .u64 0, .int .i64 0, .slice none 0 0, .slice none 0 0, .slice none 0 0] 46)).heap.size := by simp; omega
  clear hQ hz hK hW hB hbA hb1 hb2 hbX hsz hsB hs hl hL hO
  go_enter Try.func27, Try.ntmps27
  go_wp2
  generalize ((w.alloc (.cells #[.slice Q q.length cq, .int .u64 mask, .int .i64 most, .slice KA K.length kc, .slice WA wn wcp, .slice BA bn bc] 46)).alloc (.cells #[.int .u64 id, .slice ZA zv.length zc, .int .u64 tg] 36)).alloc (.cells #[.slice none 0 0, .int .u64 0, .int .i64 0, .slice none 0 0, .slice none 0 0, .slice none 0 0] 46) = X at *
  go_loop [16] (fun i => ∃ k : Nat, k ≤ K.length ∧ i = .int .i64 k) (fun i => K.length - (intOf i).toNat)
  case atStart => exact ⟨0, Nat.zero_le _, rfl⟩
  case round =>
    obtain ⟨k, hk, rfl⟩ := hrel
    have hll := HNN.out.1
    by_cases hlt : k < K.length
    · obtain ⟨kb, ko, rfl, hb, h0⟩ := HK.out k _ (List.getElem?_eq_getElem hlt)
      have hkl : (k : Int) < (K.length : Int) := by omega
      have hk0 : (0 : Int) ≤ (k : Int) := by omega
      have hkn : ((k : Int)).toNat = k := Int.toNat_natCast k
      have hx := HNC.out k hlt
      generalize K[k] = x at *
      have hx2 : (x == s) = false := by simpa using hx
      have hx3 : decide (x = s) = false := by simpa using hx
      go_wp2
      go_round
      case rel => exact ⟨k + 1, by omega, by go_num⟩
      case measure => simp [intOf]; omega
    · obtain rfl : k = K.length := by omega
      have HDT : Hid (∀ W, Below X.heap.size X W → Calls Try.prog 78 #[.slice Q q.length cq, .slice ZA zv.length zc] W fun e w' => e = .returned (.int .u64 dd) ∧ Below X.heap.size X w' ∧ Below W.heap.size W w') := Lib.hid fun W hb => (VecB.refDist2 (HQ.out.below hb) (HZ.out.below hb) cq zc).mono fun _ _ ⟨he, h2⟩ => ⟨by rw [he, HDI.out], by rw [← h2]; exact hb, by rw [← h2]; exact Below.refl _ _⟩
      have HALL := Lib.hid (fun W (hb : Below X.heap.size X W) => offer_all (W := W) hltB hltD k0 i0 i1 hb)
      have hX0 := Below.refl X.heap.size X
      have HIC := Lib.hid i2'
      have HLT := Lib.hid (And.intro hltB hltD2)
      clear k0 k1 k2 k3 k4 k5 i0 i1 i2' hltD hltD2 hltB
      go_upto_region 7 with (fail)
      go_cut [10] (fun p wx => ∃ E, p = .pointer (some ⟨E, 0, none⟩) ∧ X.heap.size ≤ E ∧ E < wx.heap.size ∧ SpC wx E ((dd, id), s) ∧ Below X.heap.size X wx)
      case first =>
        go_region_held3 (fun W => Below X.heap.size X W ∧ W.cell? ⟨w.heap.size, 0, none⟩ = some (.slice Q q.length cq) ∧ W.cell? ⟨w.heap.size + 1, 0, none⟩ = some (.int .u64 id) ∧ W.cell? ⟨w.heap.size + 1, 1, none⟩ = some (.slice ZA zv.length zc))
          (with_reducible first | assumption | exact HALL.out _ (Below.set3 (by assumption) (Nat.le_refl _) _ _ _) | exact HALL.out _ (Below.set3 (And.left (by assumption)) (Nat.le_refl _) _ _ _) | exact HALL.out _ (by assumption) | exact HALL.out _ (below_dr (by assumption)) | exact HALL.out _ (And.left (by assumption)) | exact HALL.out _ (below_dr (And.left (by assumption))) | exact HALL.out _ (below_al (by assumption) _) | exact HALL.out _ (below_al (And.left (by assumption)) _) | exact HALL.out _ (below_al (below_dr (by assumption)) _) | exact HALL.out _ (below_al (below_dr (And.left (by assumption))) _))
          (first
            | (go_at_call 78; (with_reducible refine Calls.mono (HDT.out _ (And.left (by assumption))) ?_); rintro e W1 ⟨rfl, hb1, hb2⟩; (with_reducible first | have hq := @offer_new1 X W1 hb2 | have hq := @offer_new2 X W1 hb2 | have hq := trivial); clear hb2; try obtain ⟨q0, q1, q2, r0, r1, r2⟩ := hq))
        all_goals
          go_wp2
          go_meet
          first
            | exact ⟨_, rfl, hb1.size, by simp, SpC.new _ _ _ _, below_al hb1 _⟩
            | exact ⟨_, rfl, Nat.le_refl _, by have := World.block_lt_of_cell? _ _ q0; simpa using this, set3_cells q0 q1 q2 _ _ _, Below.set3 hb1 (Nat.le_refl _) _ _ _⟩
      case rest =>
        obtain ⟨E, rfl, hE1, hE2, hsp, hbc⟩ := hcut
        have hAc := HA.out.below hbc
        have hBc := HBB.out.below hbc
        have iC := (hbc.cell (p := ⟨w.heap.size + 1, 2, none⟩) (Nat.lt_of_succ_lt HLT.out.2)).trans HIC.out
        have HAc := Lib.hid hAc
        have HBc := Lib.hid hBc
        have HiC := Lib.hid iC
        have HbC := Lib.hid (HBX.out.trans (hbc.mono HBX.out.size))
        have HEE : Hid (w.heap.size + 1 < E ∧ E < wc.heap.size ∧ w.heap.size + 1 + 1 < wc.heap.size) := Lib.hid ⟨by have := HLT.out.2; omega, hE2, by have := HLT.out.2; have := hbc.size; omega⟩
        have hkc := (HK.out.below hbc).more hbc.size
        have h00 : (wc.alloc (.cells #[] 3)).ownsRow wc.heap.size 3 1 (.slice (some ⟨wc.heap.size, 0, none⟩) 0 0) 0 [] := World.ownsRow_made wc #[] 0 (Nat.le_refl _) (Nat.zero_le _) rfl
        have hkl : (K.map (Value.int .i64)).length = K.length * 1 := by simp
        have hkn : KA = none → K.length = 0 := fun e => by subst e; rw [hkc.none_nil]; rfl
        have hkw : ∀ ad, KA = some ad → ∀ j u, (K.map (Value.int .i64))[j]? = some u → (wc.alloc (.cells #[] 3)).cell? (ad.add j) = some u := fun ad e => by subst e; exact Rd.news (hkc.below (below_new3 wc _))
        have l4 : 0 + K.length ≤ maxLen := by unfold maxLen; omega
        have l5 : (0 + K.length) * 8 ≤ 140737488355328 := by omega
        have l6 : wc.heap.size ≤ (wc.alloc (.cells #[] 3)).heap.size := by simp
        have l7 : 0 + K.length + 1 ≤ maxLen := by unfold maxLen; omega
        have l8 : (0 + K.length + 1) * 8 ≤ 140737488355328 := by omega
        have hSPc := Lib.hid hsp
        obtain ⟨-, -, -, -, k3, -⟩ := hAc
        have k3b : (wc.alloc (.cells #[] 3)).cell? ⟨w.heap.size, 3, none⟩ = some (.slice KA K.length kc) := (World.cell?_alloc_lt wc _ ⟨w.heap.size, 3, none⟩ (by have := HEE.out.2.2; show w.heap.size < wc.heap.size; omega)).trans k3
        clear hBc iC hE1 hE2 hbc hsp HDT HALL hX0 HK HA HBB HIC hlt hk
        go_upto_region 9 with (first
          | (at_builtin; refine' wpList_append_cells rfl _ _ 43 rfl wc.heap.size 3 i2 _ 1 8 Try.underlying43 hq0 hq1 hq2 hq3 rfl (by decide) _ 0 [] rfl h00 KA K.length kc (K.map (Value.int .i64)) rfl hkl hkn hkw ints_one l4 l5 l6 _; intro v1 W1 hown1 hg1; have hbW1 := ownBase h00 (below_new3 wc _) (Nat.le_refl _) l6 hg1)
          | (at_builtin; refine wpList_append_lies _ rfl _ _ 43 rfl wc.heap.size 3 i2 (.int .i64 0) 1 8 Try.underlying43 hq0 hq1 hq2 hq3 rfl (by decide) _ (0 + K.length) ([] ++ K.map (Value.int .i64)) rfl (hown1.alloc _) ⟨W1.heap.size, 0, none⟩ 1 1 [.int .i64 s] rfl rfl (newsI rfl _ rfl) (by simp [Value.oneCell']) (by decide) l7 l8 (by have := hbW1.size; simp; omega) (W1.heap.size + 1) (by simp) ?_; intro g cap W2 hown2 hg2 hat2 hlt2; have hbW2 := ownBase (hown1.alloc (.cells #[.int .i64 s] 3)) (below_al hbW1 _) (Nat.le_refl _) (by have := hbW1.size; simp; omega) hg2; have e3 := (HAc.out.below hbW2).c3; have f3 := (HAc.out.below hbW2).f3))
        have hrk : Rd (Value.int .i64) W2 W2.heap.size (some ⟨g, 0, none⟩) (K ++ [s]) := Rd.of_own (by simpa using hown2)
        have hkb : ∀ b o, (some ⟨g, 0, none⟩ : Option Addr) = some ⟨b, o, none⟩ → wc.heap.size ≤ b := fun b o e => by
          obtain ⟨g', e2, h1, _⟩ := ownPos hown2 (by omega)
          rw [e2] at e
          injection e with e
          injection e with e
          omega
        have a3 := (HAc.out.below hbW2).set3 (.slice (some ⟨g, 0, none⟩) (K.length + 1) cap)
        have b3 := (HBc.out.below hbW2).other (a := ⟨w.heap.size, 3, none⟩) (by show w.heap.size ≠ w.heap.size + 1 + 1; omega) (.slice (some ⟨g, 0, none⟩) (K.length + 1) cap)
        have s3 := spc_other (hSPc.out.below hbW2 HEE.out.2.1) (a := ⟨w.heap.size, 3, none⟩) (by have := HEE.out.1; show _ ≠ w.heap.size; omega) (.slice (some ⟨g, 0, none⟩) (K.length + 1) cap)
        have i3 : (W2.setCell ⟨w.heap.size, 3, none⟩ (.slice (some ⟨g, 0, none⟩) (K.length + 1) cap)).cell? ⟨w.heap.size + 1, 2, none⟩ = some (.int .u64 tg) := (World.cell?_setCell_other _ _ _ _ (by simp)).trans ((hbW2.cell (p := ⟨w.heap.size + 1, 2, none⟩) (Nat.lt_of_succ_lt HEE.out.2.2)).trans HiC.out)
        have HbW := Lib.hid ((HbC.out.trans (hbW2.mono HbC.out.size)).setCell (p := ⟨w.heap.size, 3, none⟩) (Nat.le_refl _) (.slice (some ⟨g, 0, none⟩) (K.length + 1) cap))
        have r3 := rd_other hrk (a := ⟨w.heap.size, 3, none⟩) (fun b o e => by have := hkb b o e; have := HEE.out.2.2; show _ ≠ w.heap.size; omega) (.slice (some ⟨g, 0, none⟩) (K.length + 1) cap)
        have HE3 : Hid (E < (W2.setCell ⟨w.heap.size, 3, none⟩ (.slice (some ⟨g, 0, none⟩) (K.length + 1) cap)).heap.size ∧ w.heap.size + 1 + 1 < (W2.setCell ⟨w.heap.size, 3, none⟩ (.slice (some ⟨g, 0, none⟩) (K.length + 1) cap)).heap.size) := Lib.hid ⟨by have := HEE.out.2.1; have := hbW2.size; simp; omega, by have := HEE.out.2.2; have := hbW2.size; simp; omega⟩
        have HKB : Hid (∀ b o, (some ⟨g, 0, none⟩ : Option Addr) = some ⟨b, o, none⟩ → w.heap.size + 1 + 1 < b) := Lib.hid fun b o e => by have := hkb b o e; have := HEE.out.2.2; omega
        rw [show W2.heap.size = (W2.setCell ⟨w.heap.size, 3, none⟩ (.slice (some ⟨g, 0, none⟩) (K.length + 1) cap)).heap.size by simp] at r3
        clear hown1 hg1 hbW1 hown2 hg2 hat2 hlt2 hbW2 e3 f3 hrk hkb h00 hkl hkn hkw l4 l5 l6 l7 l8 k3 k3b hkc HAc HBc HiC HbC hSPc
        generalize W2.setCell ⟨w.heap.size, 3, none⟩ (.slice (some ⟨g, 0, none⟩) (K.length + 1) cap) = W3 at *
        have HA3 := Lib.hid a3
        have HB3 := Lib.hid b3
        have HS3 := Lib.hid s3
        have HI3 := Lib.hid i3
        have HR3 := Lib.hid r3
        have hpu := refPush_new WA (sortS L) wcp ((dd, id), s) W3 ((HWS.out.below HbW.out).more HbW.out.size) (by rw [sortS_len]; have := HNN.out.2.1; omega)
        rw [sortS_perm_eq ((sortS_perm L).append_right [((dd, id), s)]), HWN.out] at hpu
        unfold sptV at hpu
        simp only at hpu
        have HPU := Lib.hid hpu
        obtain ⟨-, -, -, -, -, k4, -⟩ := a3
        obtain ⟨z0, z1, z2⟩ := s3
        simp only at z0 z1 z2
        clear b3 i3 r3 hpu
        go_wp2_with fail
        refine HPU.out.mono ?_
        rintro e W4 ⟨A4, c4, rfl, hr4, hc4, hm4, hb4, hn4⟩
        generalize hZ : sortS (L ++ [((dd, id), s)]) = Z4 at *
        have HZ4 := Lib.hid hZ
        have hZne : Z4 ≠ [] := by rw [← hZ]; intro e; have := congrArg List.length e; rw [sortS_len, List.length_append] at this; simp at this
        have HN4 : Hid (∀ b o, A4 = some ⟨b, o, none⟩ → w.heap.size + 1 + 1 < b) := Lib.hid fun b o e => by have := hn4 hZne b o e; have := HE3.out.2; omega
        have a4 := HA3.out.below hb4
        have e4 := a4.c4
        have f4 := a4.f4
        have HAW := Lib.hid a4
        have HBW := Lib.hid (HB3.out.below hb4)
        have HSW := Lib.hid (HS3.out.below hb4 HE3.out.1)
        have HIW := Lib.hid ((hb4.cell (p := ⟨w.heap.size + 1, 2, none⟩) (Nat.lt_of_succ_lt HE3.out.2)).trans HI3.out)
        have HRW := Lib.hid ((HR3.out.below hb4).more hb4.size)
        have HbX := Lib.hid (HbW.out.trans (hb4.mono HbW.out.size))
        have HR4 := Lib.hid hr4
        have HC4 := Lib.hid (And.intro hc4 hm4)
        clear hZ hZne hr4 hc4 hm4 hb4 hn4 HPU a4 k4 z0 z1 z2 HA3 HB3 HS3 HI3 HR3 HbW
        go_upto_region 10 with (fail)
        have a5 := HAW.out.set4 (.slice A4 Z4.length c4)
        have HB5 := Lib.hid (HBW.out.other (a := ⟨w.heap.size, 4, none⟩) (by show w.heap.size ≠ w.heap.size + 1 + 1; omega) (.slice A4 Z4.length c4))
        have s5 := spc_other HSW.out (a := ⟨w.heap.size, 4, none⟩) (by have := HEE.out.1; show _ ≠ w.heap.size; omega) (.slice A4 Z4.length c4)
        have i5 : (W4.setCell ⟨w.heap.size, 4, none⟩ (.slice A4 Z4.length c4)).cell? ⟨w.heap.size + 1, 2, none⟩ = some (.int .u64 tg) := (World.cell?_setCell_other _ _ _ _ (by simp)).trans HIW.out
        have HbY := Lib.hid (HbX.out.setCell (p := ⟨w.heap.size, 4, none⟩) (Nat.le_refl _) (.slice A4 Z4.length c4))
        have r5 := rd_other HRW.out (a := ⟨w.heap.size, 4, none⟩) (fun b o e => by have := HKB.out b o e; show _ ≠ w.heap.size; omega) (.slice A4 Z4.length c4)
        have q5 := rdS_other HR4.out (a := ⟨w.heap.size, 4, none⟩) (fun b o e => by have := HN4.out b o e; show _ ≠ w.heap.size; omega) (.slice A4 Z4.length c4)
        rw [show W4.heap.size = (W4.setCell ⟨w.heap.size, 4, none⟩ (.slice A4 Z4.length c4)).heap.size by simp] at r5 q5
        have HR5 := Lib.hid r5
        have HQ5 := Lib.hid q5
        have HA5 := Lib.hid a5
        clear e4 f4 HAW HBW HSW HIW HRW HbX r5 q5
        clear HR4
        generalize W4.setCell ⟨w.heap.size, 4, none⟩ (.slice A4 Z4.length c4) = W5 at *
        obtain ⟨-, k0, k1, k2, k3, k4, k5, -⟩ := a5
        obtain ⟨z0, z1, z2⟩ := s5
        simp only at z0 z1 z2
        have hbo := (HBS.out.below HbY.out).more HbY.out.size
        by_cases ht : bits .and .u64 tg mask = mask
        · have HO2 : Hid (O' = O ++ [((dd, id), s)]) := HOO.out.symm.trans (if_pos ht)
          have ho := refOffer_any BA O bc most ((dd, id), s) W5 hbo HNN.out.2.2
          rw [HBN.out] at ho
          have HO := Lib.hid ho
          clear ho hbo
          go_wp2_with fail
          refine HO.out.mono ?_
          rintro e W6 ⟨A6, c6, rfl, hr6, hb6, hn6⟩
          have hO2 := HO2.out
          rw [← hO2] at hr6 hn6 ⊢
          generalize hKS : keepS (bestN most) O' = R6 at *
          have HKS := Lib.hid hKS
          have a6 := HA5.out.below hb6
          have e5 := a6.c5
          have f5 := a6.f5
          have HA6 := Lib.hid a6
          have HB6 := Lib.hid (HB5.out.below hb6)
          have HbZ := Lib.hid (HbY.out.trans (hb6.mono HbY.out.size))
          have HR6 := Lib.hid ((HR5.out.below hb6).more hb6.size)
          have HQ6 := Lib.hid ((HQ5.out.below hb6).more hb6.size)
          have HBL := Lib.hid hr6
          have HN6 : Hid (∀ b o, A6 = some ⟨b, o, none⟩ → R6 ≠ [] → BA = some ⟨b, o, none⟩ ∧ keepS (bestN most) O ≠ [] ∨ w.heap.size + 1 + 1 < b) := Lib.hid fun b o e hne => by
            rcases hn6 hne b o e with ⟨h1, h2⟩ | h1
            · exact .inl ⟨h1, by rw [h2]; exact hne⟩
            · have := HbY.out.size
              have := HB5.out.lt
              exact .inr (by omega)
          clear hO2 hKS a6 hr6 hb6 hn6 HO k0 k1 k2 k3 k4 k5 z0 z1 z2 i5 HA5 HB5 HbY HR5 HQ5 ht
          go_upto_region 13 with (fail)
          have a7 := HA6.out.set5 (.slice A6 R6.length c6)
          have b7 := HB6.out.other (a := ⟨w.heap.size, 5, none⟩) (by show w.heap.size ≠ w.heap.size + 1 + 1; omega) (.slice A6 R6.length c6)
          have HbQ := Lib.hid (HbZ.out.setCell (p := ⟨w.heap.size, 5, none⟩) (Nat.le_refl _) (.slice A6 R6.length c6))
          have r7 := rd_other HR6.out (a := ⟨w.heap.size, 5, none⟩) (fun b o e => by have := HKB.out b o e; show _ ≠ w.heap.size; omega) (.slice A6 R6.length c6)
          have q7 := rdS_other HQ6.out (a := ⟨w.heap.size, 5, none⟩) (fun b o e => by have := HN4.out b o e; show _ ≠ w.heap.size; omega) (.slice A6 R6.length c6)
          have l7 : RdS (W6.setCell ⟨w.heap.size, 5, none⟩ (.slice A6 R6.length c6)) W6.heap.size A6 R6 := rdS_other2 HBL.out (a := ⟨w.heap.size, 5, none⟩) (fun b o e hne => by
            rcases HN6.out b o e hne with ⟨h1, h2⟩ | h1
            · have := rdS_lt HBS.out h1 h2
              show _ ≠ w.heap.size; omega
            · show _ ≠ w.heap.size; omega) (.slice A6 R6.length c6)
          rw [show W6.heap.size = (W6.setCell ⟨w.heap.size, 5, none⟩ (.slice A6 R6.length c6)).heap.size by simp] at r7 q7 l7
          clear e5 f5 HA6 HB6 HbZ HR6 HQ6 HBL
          generalize W6.setCell ⟨w.heap.size, 5, none⟩ (.slice A6 R6.length c6) = W7 at *
          have HB6 := Lib.hid (b7.all6 (.slice Q q.length cq) (.int .u64 mask) (.int .i64 most) (.slice (some ⟨g, 0, none⟩) (K.length + 1) cap) (.slice A4 Z4.length c4) (.slice A6 R6.length c6))
          have HBE := Lib.hid (below_all6 (b := w.heap.size + 1 + 1) HbQ.out (by omega) (.slice Q q.length cq) (.int .u64 mask) (.int .i64 most) (.slice (some ⟨g, 0, none⟩) (K.length + 1) cap) (.slice A4 Z4.length c4) (.slice A6 R6.length c6))
          have HRK := Lib.hid (rd_all6 r7 (b := w.heap.size + 1 + 1) (fun b o e => by have := HKB.out b o e; omega) (.slice Q q.length cq) (.int .u64 mask) (.int .i64 most) (.slice (some ⟨g, 0, none⟩) (K.length + 1) cap) (.slice A4 Z4.length c4) (.slice A6 R6.length c6))
          have HRQ := Lib.hid (rdS_all6 q7 (b := w.heap.size + 1 + 1) (fun b o e _ => by have := HN4.out b o e; omega) (.slice Q q.length cq) (.int .u64 mask) (.int .i64 most) (.slice (some ⟨g, 0, none⟩) (K.length + 1) cap) (.slice A4 Z4.length c4) (.slice A6 R6.length c6))
          have HRL := Lib.hid (rdS_all6 l7 (b := w.heap.size + 1 + 1) (fun b o e hne => by rcases HN6.out b o e hne with ⟨h1, h2⟩ | h1; (have := rdS_lt HBS.out h1 h2; omega); omega) (.slice Q q.length cq) (.int .u64 mask) (.int .i64 most) (.slice (some ⟨g, 0, none⟩) (K.length + 1) cap) (.slice A4 Z4.length c4) (.slice A6 R6.length c6))
          obtain ⟨-, k0, k1, k2, k3, k4, k5, -⟩ := a7
          obtain ⟨-, m0, m1, m2, m3, m4, m5, f0, f1, f2, f3, f4, f5⟩ := b7
          clear r7 q7 l7
          go_wp2
          obtain ⟨-, q0, q1, q2, q3, q4, q5, -⟩ := HB6.out
          refine bodyPost_ret (v := .tuple #[.agg #[.slice Q q.length cq, .int .u64 mask, .int .i64 most, .slice (some ⟨g, 0, none⟩) (K.length + 1) cap, .slice A4 Z4.length c4, .slice A6 R6.length c6], .bool true]) ?rr rfl ⟨⟨some ⟨g, 0, none⟩, cap, A4, c4, A6, c6, ?ee, HRK.out, fun b o e => by have := HKB.out b o e; omega, ?rq, fun b o e => by have := HN4.out b o e; omega, ?c1, ?c2, ?rl, ?nl⟩, HBE.out⟩
          case rr => simp [results, Try.results27, go_sem, q0, q1, q2, q3, q4, q5]
          case ee => rw [HZ4.out, HKS.out]; try rfl
          case rq => rw [HZ4.out]; exact HRQ.out
          case c1 => rw [HZ4.out]; exact HC4.out.1
          case c2 => exact HC4.out.2
          case rl => rw [HKS.out]; exact HRL.out
          case nl => rw [HKS.out]; exact fun b o e hne => (HN6.out b o e hne).imp (fun h => h) (fun h => by omega)
        · have HO2 : Hid (O' = O) := HOO.out.symm.trans (if_neg ht)
          have ht2 : (bits .and .u64 tg mask == mask) = false := by simpa using ht
          have ht3 : decide (bits .and .u64 tg mask = mask) = false := by simpa using ht
          have hO2 := HO2.out
          rw [← hO2] at hbo
          have HBL := Lib.hid hbo
          have hBN := HBN.out
          rw [← hO2] at hBN
          have HN6 : Hid (∀ b o, BA = some ⟨b, o, none⟩ → keepS (bestN most) O' ≠ [] → BA = some ⟨b, o, none⟩ ∧ keepS (bestN most) O ≠ [] ∨ w.heap.size + 1 + 1 < b) := Lib.hid fun b o e hne => .inl ⟨e, by rw [← hO2]; exact hne⟩
          generalize hKS : keepS (bestN most) O' = R6 at *
          have HKS := Lib.hid hKS
          subst hBN
          clear hO2 hKS hbo
          go_upto_region 13 with (fail)
          have a7 := HA5.out
          have b7 := HB5.out
          have HbQ := Lib.hid HbY.out
          have r7 := HR5.out
          have q7 := HQ5.out
          have l7 := HBL.out
          clear k0 k1 k2 k3 k4 k5 z0 z1 z2 i5
          have HB6 := Lib.hid (b7.all6 (.slice Q q.length cq) (.int .u64 mask) (.int .i64 most) (.slice (some ⟨g, 0, none⟩) (K.length + 1) cap) (.slice A4 Z4.length c4) (.slice BA R6.length bc))
          have HBE := Lib.hid (below_all6 (b := w.heap.size + 1 + 1) HbQ.out (by omega) (.slice Q q.length cq) (.int .u64 mask) (.int .i64 most) (.slice (some ⟨g, 0, none⟩) (K.length + 1) cap) (.slice A4 Z4.length c4) (.slice BA R6.length bc))
          have HRK := Lib.hid (rd_all6 r7 (b := w.heap.size + 1 + 1) (fun b o e => by have := HKB.out b o e; omega) (.slice Q q.length cq) (.int .u64 mask) (.int .i64 most) (.slice (some ⟨g, 0, none⟩) (K.length + 1) cap) (.slice A4 Z4.length c4) (.slice BA R6.length bc))
          have HRQ := Lib.hid (rdS_all6 q7 (b := w.heap.size + 1 + 1) (fun b o e _ => by have := HN4.out b o e; omega) (.slice Q q.length cq) (.int .u64 mask) (.int .i64 most) (.slice (some ⟨g, 0, none⟩) (K.length + 1) cap) (.slice A4 Z4.length c4) (.slice BA R6.length bc))
          have HRL := Lib.hid (rdS_all6 l7 (b := w.heap.size + 1 + 1) (fun b o e hne => by rcases HN6.out b o e hne with ⟨h1, h2⟩ | h1; (have := rdS_lt HBS.out h1 h2; omega); omega) (.slice Q q.length cq) (.int .u64 mask) (.int .i64 most) (.slice (some ⟨g, 0, none⟩) (K.length + 1) cap) (.slice A4 Z4.length c4) (.slice BA R6.length bc))
          obtain ⟨-, k0, k1, k2, k3, k4, k5, -⟩ := a7
          obtain ⟨-, m0, m1, m2, m3, m4, m5, f0, f1, f2, f3, f4, f5⟩ := b7
          clear r7 q7 l7
          go_wp2
          obtain ⟨-, q0, q1, q2, q3, q4, q5, -⟩ := HB6.out
          refine bodyPost_ret (v := .tuple #[.agg #[.slice Q q.length cq, .int .u64 mask, .int .i64 most, .slice (some ⟨g, 0, none⟩) (K.length + 1) cap, .slice A4 Z4.length c4, .slice BA R6.length bc], .bool true]) ?rr rfl ⟨⟨some ⟨g, 0, none⟩, cap, A4, c4, BA, bc, ?ee, HRK.out, fun b o e => by have := HKB.out b o e; omega, ?rq, fun b o e => by have := HN4.out b o e; omega, ?c1, ?c2, ?rl, ?nl⟩, HBE.out⟩
          case rr => simp [results, Try.results27, go_sem, q0, q1, q2, q3, q4, q5]
          case ee => rw [HZ4.out, HKS.out]; try rfl
          case rq => rw [HZ4.out]; exact HRQ.out
          case c1 => rw [HZ4.out]; exact HC4.out.1
          case c2 => exact HC4.out.2
          case rl => rw [HKS.out]; exact HRL.out
          case nl => rw [HKS.out]; exact fun b o e hne => (HN6.out b o e hne).imp (fun h => h) (fun h => by omega)

end Go.Proofs.Ytajmnhnepoomjaa
