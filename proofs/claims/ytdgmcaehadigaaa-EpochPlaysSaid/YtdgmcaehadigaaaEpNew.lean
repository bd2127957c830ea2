/- epoch's New, by contract. -/
import Derived.Test.YtdgmcaehadigaaaEpDo
namespace Go.Proofs.Ytdgmcaehadigaaa
open Go.RowKit

theorem info_worker : (Try.prog.info? 152).map (fun i => (i.zero, i.size, i.bytes)) = some (some (.agg #[.int .i64 0, .int .i64 0]), 2, 16) := by kernel_rfl
theorem ENew_not (v : Int) (hv : v < 1 ∨ 64 < v) (w : World) : Calls Try.prog 37 #[.int .i64 v] w fun e w' => e = .returned (.tuple #[.pointer none, .int .i64 6]) ∧ w = w' := by
  rcases hv with h | h
  · go_enter Try.func37, Try.ntmps37
    go_wp2
    go_ret2
    exact ⟨rfl, rfl⟩
  · have h1 : ¬ v < 1 := by omega
    go_enter Try.func37, Try.ntmps37
    go_wp2
    go_ret2
    exact ⟨rfl, rfl⟩

set_option maxRecDepth 100000 in
theorem ENew_any (k : Nat) (h1 : 1 ≤ k) (h2 : k ≤ 64) (w : World) : Calls Try.prog 37 #[.int .i64 (k : Int)] w fun e w' => ∃ B bw bm, e = .returned (.tuple #[.pointer (some ⟨B, 0, none⟩), .int .i64 0]) ∧ Ep w' B bw bm 0 (.slice none 0 0) (newE k) ∧ Below w.heap.size w w' ∧ ∀ b, EpM B bw bm (.slice none 0 0) b → w.heap.size ≤ b := by
  have hmm := @run_makeMap Try.prog
  obtain ⟨i0, hi0, hz0, hz1, hz2⟩ := info_parts info_worker
  have hmk := run_make (P := Try.prog) w 146 152 i0 _ Try.underlying146 hi0 hz0 .i64 .i64 (k : Int) (k : Int) (by omega) (Int.le_refl _) (by rw [hz2]; omega) (by omega)
  rw [hz1] at hmk
  simp only [Int.toNat_natCast] at hmk
  have k1 : ¬ (k : Int) < 1 := by omega
  have k2 : ¬ (64 : Int) < (k : Int) := by omega
  have HC : Hid (∀ j, j < k * 2 → (madeCells (Value.agg #[.int .i64 0, .int .i64 0]).cells (k * 2))[j]? = some (.int .i64 0)) := Lib.hid fun j hj => by
    have hm : j % 2 = 0 ∨ j % 2 = 1 := by omega
    unfold madeCells
    rw [Array.getElem?_map, Array.getElem?_range, if_pos hj]
    show some ((#[Value.int .i64 0, Value.int .i64 0] : Array Value)[j % 2]!) = _
    rcases hm with e | e <;> rw [e] <;> rfl
  generalize madeCells (Value.agg #[.int .i64 0, .int .i64 0]).cells (k * 2) = mc at *
  clear hz0 hz1 hz2 hi0
  go_enter Try.func37, Try.ntmps37
  go_wp2
  go_ret2
  obtain ⟨W1, hW1⟩ : ∃ W1, W1 = w.alloc (.cells mc 152) := ⟨_, rfl⟩
  obtain ⟨W2, hW2⟩ : ∃ W2, W2 = W1.alloc (.map #[] 0) := ⟨_, rfl⟩
  have hs1 : W1.heap.size = w.heap.size + 1 := by rw [hW1]; simp
  have hs2 : W2.heap.size = w.heap.size + 2 := by rw [hW2, World.size_alloc, hs1]
  have m1 : MapU W2 (w.heap.size + 1) 0 (fun _ => false) := by
    rw [hW2, ← hs1]
    exact MapU.made W1
  have hw1 : ∀ j, j < k * 2 → W2.cell? ⟨w.heap.size, j, none⟩ = some (.int .i64 0) ∧ W2.frozen? ⟨w.heap.size, j, none⟩ = false := fun j hj => by
    have hh : W2.heap[w.heap.size]? = some (.cells mc 152 (0, 0)) := by
      rw [hW2, Below.heap_alloc W1 (.map #[] 0) w.heap.size (by omega), hW1]
      exact heap_alloc_last w _
    exact ⟨(cell_of_row _ _ j _ _ (0, 0) hh).trans (HC.out j hj), by simp only [World.frozen?]; rw [hh]; simp⟩
  rw [← hW1, ← hW2]
  have hh : ∀ o t, (W2.alloc (.cells o t)).heap[w.heap.size + 2]? = some (.cells o t (0, 0)) := fun o t => by
    rw [← hs2]
    exact heap_alloc_last W2 _
  have hc : ∀ (o : Array Value) t j, (W2.alloc (.cells o t)).cell? ⟨w.heap.size + 2, j, none⟩ = o[j]? := fun o t j => cell_of_row _ _ j _ t (0, 0) (hh o t)
  have hf : ∀ (o : Array Value) t j, (W2.alloc (.cells o t)).frozen? ⟨w.heap.size + 2, j, none⟩ = false := fun o t j => by simp only [World.frozen?]; rw [hh]; simp
  have hb : ∀ o, Below w.heap.size w (W2.alloc o) := fun o => by
    rw [hW2, hW1]
    exact (((Below.refl _ w).alloc (Nat.le_refl _) _).alloc (by simp) _).alloc (by simp; omega) _
  have hbb : ∀ o, Below W2.heap.size W2 (W2.alloc o) := fun o => (Below.refl _ W2).alloc (Nat.le_refl _) o
  have hl : (newE k).rc.length = k := by simp [newE]
  refine ⟨w.heap.size + 2, rfl, w.heap.size, w.heap.size + 1, {
    c0 := ⟨(hc _ _ _).trans rfl, hf _ _ _⟩, c1 := ?_, c2 := ⟨(hc _ _ _).trans rfl, hf _ _ _⟩, c3 := (hc _ _ _).trans rfl, c4 := ⟨(hc _ _ _).trans rfl, hf _ _ _⟩
    wk := fun j hj => ?_, row := World.ownsRow_nil _ _ _ _, mp := m1.same (Below.heap_alloc _ _ _ (by omega)), nw := by omega, nr := fun g hg => by cases hg }, hb _, fun b hb => ?_⟩
  · rw [hl]
    exact (hc _ _ _).trans rfl
  · rw [hl] at hj
    have a1 := hw1 (j * 2) (by omega)
    have a2 := hw1 (j * 2 + 1) (by omega)
    rw [newE, getD_rep]
    exact ⟨⟨((hbb _).cell (p := ⟨w.heap.size, j * 2, none⟩) (by show w.heap.size < _; omega)).trans a1.1, ((hbb _).frozen (p := ⟨w.heap.size, j * 2, none⟩) (by show w.heap.size < _; omega)).trans a1.2⟩, ((hbb _).cell (p := ⟨w.heap.size, j * 2 + 1, none⟩) (by show w.heap.size < _; omega)).trans a2.1, ((hbb _).frozen (p := ⟨w.heap.size, j * 2 + 1, none⟩) (by show w.heap.size < _; omega)).trans a2.2⟩
  · rcases hb with rfl | rfl | rfl | hb
    · omega
    · omega
    · omega
    · cases hb

end Go.Proofs.Ytdgmcaehadigaaa
