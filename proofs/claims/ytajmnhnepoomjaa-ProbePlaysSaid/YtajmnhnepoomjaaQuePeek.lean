/- The queue's methods, by contract: Peek and Pop; the best list's Worst. -/
import Derived.Test.YtajmnhnepoomjaaQueMeth
import Derived.Test.YtajmnhnepoomjaaEdSpot
namespace Go.Proofs.Ytajmnhnepoomjaa
open Go.RowKit Go.Shelf Go.Sort

set_option maxRecDepth 100000 in
set_option maxHeartbeats 4000000 in
theorem qPeek_any {b : Nat} {fv : Value} {A : Option Addr} {c : Nat} {M : List SpotT} {W : World} (h : HeapAt W b fv A c M) :
    Calls Try.prog 117 #[.pointer (some ⟨b, 0, none⟩)] W fun e W' => e = .returned (.tuple #[sptV (spAt M 0), .bool (decide (0 < M.length))]) ∧ Below W.heap.size W W' := by
  have hX := below_new3 W (.cells #[.int .u64 0, .int .u64 0, .int .i64 0] 62)
  have H := Lib.hid (h.later hX)
  have HB := Lib.hid hX
  clear h hX
  generalize hx : spAt M 0 = x at *
  have HX := Lib.hid hx
  clear hx
  obtain ⟨⟨xa, xb⟩, xc⟩ := x
  have b0 : (W.alloc (.cells #[.int .u64 0, .int .u64 0, .int .i64 0] 62)).cell? ⟨W.heap.size, 0, none⟩ = some (.int .u64 0) := by go_cell
  have b1 : (W.alloc (.cells #[.int .u64 0, .int .u64 0, .int .i64 0] 62)).cell? ⟨W.heap.size, 1, none⟩ = some (.int .u64 0) := by go_cell
  have b2 : (W.alloc (.cells #[.int .u64 0, .int .u64 0, .int .i64 0] 62)).cell? ⟨W.heap.size, 2, none⟩ = some (.int .i64 0) := by go_cell
  have f0 : (W.alloc (.cells #[.int .u64 0, .int .u64 0, .int .i64 0] 62)).frozen? ⟨W.heap.size, 0, none⟩ = false := by go_simp
  have f1 : (W.alloc (.cells #[.int .u64 0, .int .u64 0, .int .i64 0] 62)).frozen? ⟨W.heap.size, 1, none⟩ = false := by go_simp
  have f2 : (W.alloc (.cells #[.int .u64 0, .int .u64 0, .int .i64 0] 62)).frozen? ⟨W.heap.size, 2, none⟩ = false := by go_simp
  have hsz : (W.alloc (.cells #[.int .u64 0, .int .u64 0, .int .i64 0] 62)).heap.size = W.heap.size + 1 := by simp
  go_enter Try.func117, Try.ntmps117
  go_upto_region 3 with (fail)
  generalize W.alloc (.cells #[.int .u64 0, .int .u64 0, .int .i64 0] 62) = X at *
  go_wp2_with fail
  refine (top_any H.out).mono ?_
  rintro e W' ⟨rfl, hb⟩
  rw [HX.out]
  have k0 := (hb.cell (p := ⟨W.heap.size, 0, none⟩) (by simp; omega)).trans b0
  have k1 := (hb.cell (p := ⟨W.heap.size, 1, none⟩) (by simp; omega)).trans b1
  have k2 := (hb.cell (p := ⟨W.heap.size, 2, none⟩) (by simp; omega)).trans b2
  have k3 := (hb.frozen (p := ⟨W.heap.size, 0, none⟩) (by simp; omega)).trans f0
  have k4 := (hb.frozen (p := ⟨W.heap.size, 1, none⟩) (by simp; omega)).trans f1
  have k5 := (hb.frozen (p := ⟨W.heap.size, 2, none⟩) (by simp; omega)).trans f2
  have hB2 := HB.out.trans (hb.mono HB.out.size)
  clear b0 b1 b2 f0 f1 f2 hb hsz H
  have HQ := Lib.hid (set3_cells k0 k1 k2 (.int .u64 xa) (.int .u64 xb) (.int .i64 xc))
  have HB3 := Lib.hid (Below.set3 hB2 (Nat.le_refl _) (.int .u64 xa) (.int .u64 xb) (.int .i64 xc))
  clear hB2
  generalize hd : decide (0 < M.length) = d at *
  unfold sptV
  go_wp2
  obtain ⟨q0, q1, q2⟩ := HQ.out
  exact bodyPost_ret (v := .tuple #[.agg #[.int .u64 xa, .int .u64 xb, .int .i64 xc], .bool d]) (by simp [results, Try.results117, go_sem, q0, q1, q2]) rfl ⟨by rw [hd]; rfl, HB3.out⟩

set_option maxRecDepth 100000 in
set_option maxHeartbeats 4000000 in
theorem bWorst_any {b : Nat} {fv : Value} {A : Option Addr} {c : Nat} {M : List SpotT} {W : World} (h : HeapAt W b fv A c M) :
    Calls Try.prog 119 #[.pointer (some ⟨b, 0, none⟩)] W fun e W' => e = .returned (.tuple #[sptV (spAt M 0), .bool (decide (0 < M.length))]) ∧ Below W.heap.size W W' := by
  have hX := below_new3 W (.cells #[.int .u64 0, .int .u64 0, .int .i64 0] 62)
  have H := Lib.hid (h.later hX)
  have HB := Lib.hid hX
  clear h hX
  generalize hx : spAt M 0 = x at *
  have HX := Lib.hid hx
  clear hx
  obtain ⟨⟨xa, xb⟩, xc⟩ := x
  have b0 : (W.alloc (.cells #[.int .u64 0, .int .u64 0, .int .i64 0] 62)).cell? ⟨W.heap.size, 0, none⟩ = some (.int .u64 0) := by go_cell
  have b1 : (W.alloc (.cells #[.int .u64 0, .int .u64 0, .int .i64 0] 62)).cell? ⟨W.heap.size, 1, none⟩ = some (.int .u64 0) := by go_cell
  have b2 : (W.alloc (.cells #[.int .u64 0, .int .u64 0, .int .i64 0] 62)).cell? ⟨W.heap.size, 2, none⟩ = some (.int .i64 0) := by go_cell
  have f0 : (W.alloc (.cells #[.int .u64 0, .int .u64 0, .int .i64 0] 62)).frozen? ⟨W.heap.size, 0, none⟩ = false := by go_simp
  have f1 : (W.alloc (.cells #[.int .u64 0, .int .u64 0, .int .i64 0] 62)).frozen? ⟨W.heap.size, 1, none⟩ = false := by go_simp
  have f2 : (W.alloc (.cells #[.int .u64 0, .int .u64 0, .int .i64 0] 62)).frozen? ⟨W.heap.size, 2, none⟩ = false := by go_simp
  have hsz : (W.alloc (.cells #[.int .u64 0, .int .u64 0, .int .i64 0] 62)).heap.size = W.heap.size + 1 := by simp
  go_enter Try.func119, Try.ntmps119
  go_upto_region 3 with (fail)
  generalize W.alloc (.cells #[.int .u64 0, .int .u64 0, .int .i64 0] 62) = X at *
  go_wp2_with fail
  refine (top_any H.out).mono ?_
  rintro e W' ⟨rfl, hb⟩
  rw [HX.out]
  have k0 := (hb.cell (p := ⟨W.heap.size, 0, none⟩) (by simp; omega)).trans b0
  have k1 := (hb.cell (p := ⟨W.heap.size, 1, none⟩) (by simp; omega)).trans b1
  have k2 := (hb.cell (p := ⟨W.heap.size, 2, none⟩) (by simp; omega)).trans b2
  have k3 := (hb.frozen (p := ⟨W.heap.size, 0, none⟩) (by simp; omega)).trans f0
  have k4 := (hb.frozen (p := ⟨W.heap.size, 1, none⟩) (by simp; omega)).trans f1
  have k5 := (hb.frozen (p := ⟨W.heap.size, 2, none⟩) (by simp; omega)).trans f2
  have hB2 := HB.out.trans (hb.mono HB.out.size)
  clear b0 b1 b2 f0 f1 f2 hb hsz H
  have HQ := Lib.hid (set3_cells k0 k1 k2 (.int .u64 xa) (.int .u64 xb) (.int .i64 xc))
  have HB3 := Lib.hid (Below.set3 hB2 (Nat.le_refl _) (.int .u64 xa) (.int .u64 xb) (.int .i64 xc))
  clear hB2
  generalize hd : decide (0 < M.length) = d at *
  unfold sptV
  go_wp2
  obtain ⟨q0, q1, q2⟩ := HQ.out
  exact bodyPost_ret (v := .tuple #[.agg #[.int .u64 xa, .int .u64 xb, .int .i64 xc], .bool d]) (by simp [results, Try.results119, go_sem, q0, q1, q2]) rfl ⟨by rw [hd]; rfl, HB3.out⟩

set_option maxHeartbeats 1000000 in
theorem qPeek_nil (W : World) : Calls Try.prog 117 #[.pointer none] W fun e W' => e = .returned (.tuple #[sptV ((0, 0), 0), .bool false]) ∧ Below W.heap.size W W' := by
  have q0 : (W.alloc (.cells #[.int .u64 0, .int .u64 0, .int .i64 0] 62)).cell? ⟨W.heap.size, 0, none⟩ = some (.int .u64 0) := by go_cell
  have q1 : (W.alloc (.cells #[.int .u64 0, .int .u64 0, .int .i64 0] 62)).cell? ⟨W.heap.size, 1, none⟩ = some (.int .u64 0) := by go_cell
  have q2 : (W.alloc (.cells #[.int .u64 0, .int .u64 0, .int .i64 0] 62)).cell? ⟨W.heap.size, 2, none⟩ = some (.int .i64 0) := by go_cell
  go_enter Try.func117, Try.ntmps117
  go_wp2
  exact bodyPost_ret (v := .tuple #[.agg #[.int .u64 0, .int .u64 0, .int .i64 0], .bool false]) (by simp [results, Try.results117, go_sem, q0, q1, q2]) rfl ⟨rfl, below_new3 W _⟩

set_option maxHeartbeats 1000000 in
theorem bWorst_nil (W : World) : Calls Try.prog 119 #[.pointer none] W fun e W' => e = .returned (.tuple #[sptV ((0, 0), 0), .bool false]) ∧ Below W.heap.size W W' := by
  have q0 : (W.alloc (.cells #[.int .u64 0, .int .u64 0, .int .i64 0] 62)).cell? ⟨W.heap.size, 0, none⟩ = some (.int .u64 0) := by go_cell
  have q1 : (W.alloc (.cells #[.int .u64 0, .int .u64 0, .int .i64 0] 62)).cell? ⟨W.heap.size, 1, none⟩ = some (.int .u64 0) := by go_cell
  have q2 : (W.alloc (.cells #[.int .u64 0, .int .u64 0, .int .i64 0] 62)).cell? ⟨W.heap.size, 2, none⟩ = some (.int .i64 0) := by go_cell
  go_enter Try.func119, Try.ntmps119
  go_wp2
  exact bodyPost_ret (v := .tuple #[.agg #[.int .u64 0, .int .u64 0, .int .i64 0], .bool false]) (by simp [results, Try.results119, go_sem, q0, q1, q2]) rfl ⟨rfl, below_new3 W _⟩

theorem Kp.frozen {S : Nat → Nat → Prop} {w w' : World} (h : Kp S w w') {p : Addr} (hp : p.block < w.heap.size) (hs : ∀ i, ¬ S p.block i) : w'.frozen? p = w.frozen? p := World.frozen?_of_block (h.block p.block hp hs)
theorem kp_set3 {X : World} {d : Nat} (u0 u1 u2 : Value) : Kp (fun k _ => k = d) X (((X.setCell ⟨d, 0, none⟩ u0).setCell ⟨d, 1, none⟩ u1).setCell ⟨d, 2, none⟩ u2) := (((Kp.refl (S := fun k _ => k = d)).set (g := d) rfl _).set (g := d) rfl _).set (g := d) rfl _
theorem HeapAt.set3 {X : World} {b d : Nat} {fv : Value} {A : Option Addr} {c : Nat} {M : List SpotT} (h : HeapAt X b fv A c M) (hd : ¬ (d = b ∨ A = some ⟨d, 0, none⟩)) (u0 u1 u2 : Value) : HeapAt (((X.setCell ⟨d, 0, none⟩ u0).setCell ⟨d, 1, none⟩ u1).setCell ⟨d, 2, none⟩ u2) b fv A c M :=
  h.kept (kp_set3 u0 u1 u2) (fun k _ hk e => hd (by rw [← e]; exact hk))
theorem Kp.set3 {S : Nat → Nat → Prop} {w X : World} {d : Nat} (h : Kp S w X) (hd : w.heap.size ≤ d) (u0 u1 u2 : Value) : Kp S w (((X.setCell ⟨d, 0, none⟩ u0).setCell ⟨d, 1, none⟩ u1).setCell ⟨d, 2, none⟩ u2) :=
  h.later (kp_set3 u0 u1 u2) (fun j _ hj e => by omega)
theorem HeapAt.new {X : World} {b d : Nat} {fv : Value} {A : Option Addr} {c : Nat} {M : List SpotT} (h : HeapAt X b fv A c M) (hd : X.heap.size ≤ d) : ¬ (d = b ∨ A = some ⟨d, 0, none⟩) := by
  rintro (rfl | e)
  · have := h.lt; omega
  · have := (h.blk d 0 (.inr e)).2; omega

/-- What Pop tells and leaves. -/
def PopOut (b : Nat) (A : Option Addr) (c : Nat) (M : List SpotT) (W : World) (e : Ending) (W' : World) : Prop :=
  e = .returned (.tuple #[sptV (spAt M 0), .bool (decide (0 < M.length))]) ∧ ∃ M', HeapAt W' b fvS A c M' ∧ M'.Perm (dropS M) ∧ HeapOK ltS M' ∧ Kp (BlkH b A) W W'

set_option maxRecDepth 100000 in
set_option maxHeartbeats 4000000 in
theorem qPop_any {b : Nat} {A : Option Addr} {c : Nat} {M : List SpotT} {W : World} (h : HeapAt W b fvS A c M) (hn : M.length ≤ 100000) (hu : HeapOK ltS M) :
    Calls Try.prog 77 #[.pointer (some ⟨b, 0, none⟩)] W (PopOut b A c M W) := by
  have hX := below_new3 W (.cells #[.int .u64 0, .int .u64 0, .int .i64 0] 62)
  have H := Lib.hid (h.later hX)
  have HB := Lib.hid hX
  have HL := Lib.hid h.blk
  have NA := Lib.hid (h.new (Nat.le_refl _))
  have HU := Lib.hid hu
  clear h hX hu
  generalize hx : spAt M 0 = x at *
  have HX := Lib.hid hx
  clear hx
  obtain ⟨⟨xa, xb⟩, xc⟩ := x
  have b0 : (W.alloc (.cells #[.int .u64 0, .int .u64 0, .int .i64 0] 62)).cell? ⟨W.heap.size, 0, none⟩ = some (.int .u64 0) := by go_cell
  have b1 : (W.alloc (.cells #[.int .u64 0, .int .u64 0, .int .i64 0] 62)).cell? ⟨W.heap.size, 1, none⟩ = some (.int .u64 0) := by go_cell
  have b2 : (W.alloc (.cells #[.int .u64 0, .int .u64 0, .int .i64 0] 62)).cell? ⟨W.heap.size, 2, none⟩ = some (.int .i64 0) := by go_cell
  have f0 : (W.alloc (.cells #[.int .u64 0, .int .u64 0, .int .i64 0] 62)).frozen? ⟨W.heap.size, 0, none⟩ = false := by go_simp
  have f1 : (W.alloc (.cells #[.int .u64 0, .int .u64 0, .int .i64 0] 62)).frozen? ⟨W.heap.size, 1, none⟩ = false := by go_simp
  have f2 : (W.alloc (.cells #[.int .u64 0, .int .u64 0, .int .i64 0] 62)).frozen? ⟨W.heap.size, 2, none⟩ = false := by go_simp
  have hsz : (W.alloc (.cells #[.int .u64 0, .int .u64 0, .int .i64 0] 62)).heap.size = W.heap.size + 1 := by simp
  go_enter Try.func77, Try.ntmps77
  go_upto_region 1 with (fail)
  generalize W.alloc (.cells #[.int .u64 0, .int .u64 0, .int .i64 0] 62) = X at *
  go_wp2_with fail
  refine (qPeek_any H.out).mono ?_
  rintro e W1 ⟨rfl, hb⟩
  rw [HX.out]
  have k0 := (hb.cell (p := ⟨W.heap.size, 0, none⟩) (by simp; omega)).trans b0
  have k1 := (hb.cell (p := ⟨W.heap.size, 1, none⟩) (by simp; omega)).trans b1
  have k2 := (hb.cell (p := ⟨W.heap.size, 2, none⟩) (by simp; omega)).trans b2
  have k3 := (hb.frozen (p := ⟨W.heap.size, 0, none⟩) (by simp; omega)).trans f0
  have k4 := (hb.frozen (p := ⟨W.heap.size, 1, none⟩) (by simp; omega)).trans f1
  have k5 := (hb.frozen (p := ⟨W.heap.size, 2, none⟩) (by simp; omega)).trans f2
  have hs1 : W.heap.size < W1.heap.size := by have := hb.size; omega
  have HB2 := Lib.hid (HB.out.trans (hb.mono HB.out.size))
  have H1 := Lib.hid (H.out.later hb)
  clear b0 b1 b2 f0 f1 f2 hb hsz H HB
  unfold sptV
  have hX2 := below_new3 W1 (.cells #[.int .u64 xa, .int .u64 xb, .int .i64 xc] 62)
  have hg2 := fun i => (hX2.cell (p := ⟨W.heap.size, i, none⟩) hs1)
  have hf2 := fun i => (hX2.frozen (p := ⟨W.heap.size, i, none⟩) hs1)
  have l0 := (hg2 0).trans k0
  have l1 := (hg2 1).trans k1
  have l2 := (hg2 2).trans k2
  have l3 := (hf2 0).trans k3
  have l4 := (hf2 1).trans k4
  have l5 := (hf2 2).trans k5
  have b0 : (W1.alloc (.cells #[.int .u64 xa, .int .u64 xb, .int .i64 xc] 62)).cell? ⟨W1.heap.size, 0, none⟩ = some (.int .u64 xa) := by go_cell
  have b1 : (W1.alloc (.cells #[.int .u64 xa, .int .u64 xb, .int .i64 xc] 62)).cell? ⟨W1.heap.size, 1, none⟩ = some (.int .u64 xb) := by go_cell
  have b2 : (W1.alloc (.cells #[.int .u64 xa, .int .u64 xb, .int .i64 xc] 62)).cell? ⟨W1.heap.size, 2, none⟩ = some (.int .i64 xc) := by go_cell
  have H2 := Lib.hid (H1.out.later hX2)
  have HB3 := Lib.hid (HB2.out.trans (hX2.mono HB2.out.size))
  have hsz : (W1.alloc (.cells #[.int .u64 xa, .int .u64 xb, .int .i64 xc] 62)).heap.size = W1.heap.size + 1 := by simp
  have HZ := Lib.hid hsz
  clear hX2 hg2 hf2 k0 k1 k2 k3 k4 k5 HB2 H1 hsz
  simp only
  by_cases h0 : 0 < M.length
  · rw [decide_eq_true h0]
    have HT : ∀ Y, HeapAt Y b fvS A c M → Calls Try.prog 120 #[.pointer (some ⟨b, 0, none⟩)] Y (HeapS b A c (dropS M) Y) := fun Y hy => takeS_any hy h0 hn HU.out
    have H0 := Lib.hid h0
    clear h0 HU
    go_upto_region 3 with (fail)
    generalize W1.alloc (.cells #[.int .u64 xa, .int .u64 xb, .int .i64 xc] 62) = X2 at *
    generalize W1.heap.size = B1 at *
    go_wp2_with fail
    refine (HT _ H2.out).mono ?_
    clear HT
    rintro e W3 ⟨rfl, M', h1, h2, h3, h4⟩
    have na : ∀ k, W.heap.size ≤ k → ∀ i, ¬ BlkH b A k i := fun k hk i e => by have := (HL.out k i e).2; omega
    have s1 : W.heap.size < X2.heap.size := by rw [HZ.out]; omega
    have s2 : B1 < X2.heap.size := by rw [HZ.out]; omega
    have p0 := (h4.cells W.heap.size 0 s1 (na _ (Nat.le_refl _) _)).trans l0
    have p1 := (h4.cells W.heap.size 1 s1 (na _ (Nat.le_refl _) _)).trans l1
    have p2 := (h4.cells W.heap.size 2 s1 (na _ (Nat.le_refl _) _)).trans l2
    have p3 := (h4.frozen (p := ⟨W.heap.size, 0, none⟩) s1 (na _ (Nat.le_refl _))).trans l3
    have p4 := (h4.frozen (p := ⟨W.heap.size, 1, none⟩) s1 (na _ (Nat.le_refl _))).trans l4
    have p5 := (h4.frozen (p := ⟨W.heap.size, 2, none⟩) s1 (na _ (Nat.le_refl _))).trans l5
    have r0 := (h4.cells B1 0 s2 (na _ (Nat.le_of_lt hs1) _)).trans b0
    have r1 := (h4.cells B1 1 s2 (na _ (Nat.le_of_lt hs1) _)).trans b1
    have r2 := (h4.cells B1 2 s2 (na _ (Nat.le_of_lt hs1) _)).trans b2
    clear l0 l1 l2 l3 l4 l5 b0 b1 b2
    have HQ := Lib.hid (set3_cells p0 p1 p2 (.int .u64 xa) (.int .u64 xb) (.int .i64 xc))
    have h5 := Kp.trans (Kp.of_below (S := BlkH b A) (show Below W.heap.size W X2 from HB3.out)) h4
    have hh := h1
    have hb3 : Below W3.heap.size W3 W3 := Below.refl _ _
    have HA := Lib.hid (And.intro h1 (And.intro h2 (And.intro h3 h5)))
    clear h1 h2 h3 h4 h5 hh hb3 HZ HB3 H2
    clear na s1 s2
    go_wp2
    obtain ⟨q0, q1, q2⟩ := HQ.out
    obtain ⟨h1, h2, h3, h5⟩ := HA.out
    refine bodyPost_ret (v := .tuple #[.agg #[.int .u64 xa, .int .u64 xb, .int .i64 xc], .bool true]) (by simp [results, Try.results77, go_sem, q0, q1, q2]) rfl ⟨by rw [HX.out, decide_eq_true H0.out]; rfl, M', ?_, h2, h3, ?_⟩
    · exact h1.set3 NA.out _ _ _
    · exact h5.set3 (Nat.le_refl _) _ _ _
  · rw [decide_eq_false h0]
    obtain rfl := List.eq_nil_of_length_eq_zero (show M.length = 0 by omega)
    clear h0
    go_upto_region 4 with (fail)
    generalize W1.alloc (.cells #[.int .u64 xa, .int .u64 xb, .int .i64 xc] 62) = X2 at *
    generalize W1.heap.size = B1 at *
    have HQ := Lib.hid (set3_cells l0 l1 l2 (.int .u64 xa) (.int .u64 xb) (.int .i64 xc))
    go_wp2
    obtain ⟨q0, q1, q2⟩ := HQ.out
    refine bodyPost_ret (R := PopOut b A c [] W) (v := .tuple #[.agg #[.int .u64 xa, .int .u64 xb, .int .i64 xc], .bool false]) (by simp [results, Try.results77, go_sem, q0, q1, q2]) rfl ⟨by rw [HX.out]; rfl, [], ?_, by simp [dropS], HeapOK.nil, ?_⟩
    · exact H2.out.set3 NA.out _ _ _
    · exact (Kp.of_below HB3.out).set3 (Nat.le_refl _) _ _ _

end Go.Proofs.Ytajmnhnepoomjaa
