/- The methods of nil, and the document's Most. -/
import Derived.Test.YtajmnhnepoomjaaQuePlain
namespace Go.Proofs.Ytajmnhnepoomjaa
open Go.RowKit Go.Shelf Go.Sort

set_option maxRecDepth 100000 in
set_option maxHeartbeats 2000000 in
theorem bOffer_nil (s : SpotT) (W : World) : Calls Try.prog 83 #[.pointer none, sptV s] W fun e W' => e = .returned (.bool false) ∧ Below W.heap.size W W' := by
  have hX := below_new3 W (.cells #[.int .u64 s.1.1, .int .u64 s.1.2, .int .i64 s.2] 62)
  unfold sptV
  go_enter Try.func83, Try.ntmps83
  go_upto_region 1 with (fail)
  generalize W.alloc (.cells #[.int .u64 s.1.1, .int .u64 s.1.2, .int .i64 s.2] 62) = X at *
  go_wp2_with fail
  refine (bFull_nil _).mono ?_
  rintro e X1 ⟨rfl, q, rfl⟩
  have hX := hX.trans (below_draws X q W.heap.size)
  generalize X.drewN q = Y at *
  go_wp2_with fail
  refine (bWorst_nil _).mono ?_
  rintro e Z ⟨rfl, hb⟩
  have hY := Lib.hid (((hX.trans (hb.mono hX.size)).alloc (Nat.le_trans hX.size hb.size) (.cells #[.int .u64 0, .int .u64 0, .int .i64 0] 62)))
  clear hX hb
  unfold sptV
  go_upto_region 5 with (fail)
  generalize Z.alloc (.cells #[.int .u64 0, .int .u64 0, .int .i64 0] 62) = V at *
  go_wp2
  go_ret
  exact ⟨rfl, hY.out⟩

set_option maxRecDepth 100000 in
set_option maxHeartbeats 2000000 in
theorem qPop_nil (W : World) : Calls Try.prog 77 #[.pointer none] W fun e W' => e = .returned (.tuple #[sptV ((0, 0), 0), .bool false]) ∧ Below W.heap.size W W' := by
  have hX := below_new3 W (.cells #[.int .u64 0, .int .u64 0, .int .i64 0] 62)
  have b0 : (W.alloc (.cells #[.int .u64 0, .int .u64 0, .int .i64 0] 62)).cell? ⟨W.heap.size, 0, none⟩ = some (.int .u64 0) := by go_cell
  have b1 : (W.alloc (.cells #[.int .u64 0, .int .u64 0, .int .i64 0] 62)).cell? ⟨W.heap.size, 1, none⟩ = some (.int .u64 0) := by go_cell
  have b2 : (W.alloc (.cells #[.int .u64 0, .int .u64 0, .int .i64 0] 62)).cell? ⟨W.heap.size, 2, none⟩ = some (.int .i64 0) := by go_cell
  have f0 : (W.alloc (.cells #[.int .u64 0, .int .u64 0, .int .i64 0] 62)).frozen? ⟨W.heap.size, 0, none⟩ = false := by go_simp
  have f1 : (W.alloc (.cells #[.int .u64 0, .int .u64 0, .int .i64 0] 62)).frozen? ⟨W.heap.size, 1, none⟩ = false := by go_simp
  have f2 : (W.alloc (.cells #[.int .u64 0, .int .u64 0, .int .i64 0] 62)).frozen? ⟨W.heap.size, 2, none⟩ = false := by go_simp
  have hsz : (W.alloc (.cells #[.int .u64 0, .int .u64 0, .int .i64 0] 62)).heap.size = W.heap.size + 1 := by simp
  go_enter Try.func77, Try.ntmps77
  go_upto_region 1 with (fail)
  generalize W.alloc (.cells #[.int .u64 0, .int .u64 0, .int .i64 0] 62) = X at *
  go_wp2_with fail
  refine (qPeek_nil _).mono ?_
  rintro e Z ⟨rfl, hb⟩
  have hs1 : W.heap.size < Z.heap.size := by have := hb.size; omega
  have hX2 := below_new3 Z (.cells #[.int .u64 0, .int .u64 0, .int .i64 0] 62)
  have k0 := (hX2.cell (p := ⟨W.heap.size, 0, none⟩) hs1).trans ((hb.cell (p := ⟨W.heap.size, 0, none⟩) (by simp; omega)).trans b0)
  have k1 := (hX2.cell (p := ⟨W.heap.size, 1, none⟩) hs1).trans ((hb.cell (p := ⟨W.heap.size, 1, none⟩) (by simp; omega)).trans b1)
  have k2 := (hX2.cell (p := ⟨W.heap.size, 2, none⟩) hs1).trans ((hb.cell (p := ⟨W.heap.size, 2, none⟩) (by simp; omega)).trans b2)
  have k3 := (hX2.frozen (p := ⟨W.heap.size, 0, none⟩) hs1).trans ((hb.frozen (p := ⟨W.heap.size, 0, none⟩) (by simp; omega)).trans f0)
  have k4 := (hX2.frozen (p := ⟨W.heap.size, 1, none⟩) hs1).trans ((hb.frozen (p := ⟨W.heap.size, 1, none⟩) (by simp; omega)).trans f1)
  have k5 := (hX2.frozen (p := ⟨W.heap.size, 2, none⟩) hs1).trans ((hb.frozen (p := ⟨W.heap.size, 2, none⟩) (by simp; omega)).trans f2)
  have y0 : (Z.alloc (.cells #[.int .u64 0, .int .u64 0, .int .i64 0] 62)).cell? ⟨Z.heap.size, 0, none⟩ = some (.int .u64 0) := by go_cell
  have y1 : (Z.alloc (.cells #[.int .u64 0, .int .u64 0, .int .i64 0] 62)).cell? ⟨Z.heap.size, 1, none⟩ = some (.int .u64 0) := by go_cell
  have y2 : (Z.alloc (.cells #[.int .u64 0, .int .u64 0, .int .i64 0] 62)).cell? ⟨Z.heap.size, 2, none⟩ = some (.int .i64 0) := by go_cell
  have hB := Lib.hid ((hX.trans (hb.mono hX.size)).trans (hX2.mono (Nat.le_of_lt hs1)))
  have HQ := Lib.hid (set3_cells k0 k1 k2 (.int .u64 0) (.int .u64 0) (.int .i64 0))
  clear b0 b1 b2 f0 f1 f2 hb hX hX2 hs1 hsz
  unfold sptV
  go_upto_region 4 with (fail)
  generalize Z.alloc (.cells #[.int .u64 0, .int .u64 0, .int .i64 0] 62) = V at *
  generalize Z.heap.size = d at *
  go_wp2
  obtain ⟨q0, q1, q2⟩ := HQ.out
  exact bodyPost_ret (v := .tuple #[.agg #[.int .u64 0, .int .u64 0, .int .i64 0], .bool false]) (by simp [results, Try.results77, go_sem, q0, q1, q2]) rfl ⟨rfl, Below.set3 hB.out (Nat.le_refl _) _ _ _⟩

theorem refMost_any (most : Int) (W : World) : Calls Try.prog 74 #[.int .i64 most] W fun e W' => e = .returned (.int .i64 (bestN most)) ∧ W = W' := by
  have e : ((bestN most : Nat) : Int) = max 0 (min most 4096) := by rw [bestN_eq]; omega
  rw [e]
  go_enter Try.func74, Try.ntmps74
  go_wp2
  go_ret
  exact ⟨rfl, rfl⟩

end Go.Proofs.Ytajmnhnepoomjaa
