/- A heap in memory; two of its spots change places. -/
import Derived.Test.YtajmnhnepoomjaaHeapPlain
import Derived.Test.YtajmnhnepoomjaaAppAny
import Derived.BigRegion
import Derived.Deep.CutBlock
namespace Go.Proofs.Ytajmnhnepoomjaa
open Go.RowKit Go.Shelf Go.Sort

/-- Only the cells of S may hold something else; new blocks may have come. -/
structure Kp (S : Nat → Nat → Prop) (w w' : World) : Prop where
  os : w'.os = w.os
  tape : w'.tape = w.tape
  output : w'.output = w.output
  size : w.heap.size ≤ w'.heap.size
  block : ∀ k, k < w.heap.size → (∀ i, ¬ S k i) → w'.heap[k]? = w.heap[k]?
  cells : ∀ k i, k < w.heap.size → ¬ S k i → w'.cell? ⟨k, i, none⟩ = w.cell? ⟨k, i, none⟩
section
variable {S : Nat → Nat → Prop} {w w' w'' : World}
theorem Kp.refl : Kp S w w := ⟨rfl, rfl, rfl, Nat.le_refl _, fun _ _ _ => rfl, fun _ _ _ _ => rfl⟩
theorem Kp.later (h : Kp S w w') {T : Nat → Nat → Prop} (k : Kp T w' w'') (hs : ∀ j i, j < w.heap.size → T j i → S j i) : Kp S w w'' := ⟨k.os.trans h.os, k.tape.trans h.tape, k.output.trans h.output, Nat.le_trans h.size k.size,
  fun j hj hn => (k.block j (Nat.lt_of_lt_of_le hj h.size) (fun i e => hn i (hs j i hj e))).trans (h.block j hj hn), fun j i hj hn => (k.cells j i (Nat.lt_of_lt_of_le hj h.size) (fun e => hn (hs j i hj e))).trans (h.cells j i hj hn)⟩
theorem Kp.trans (h : Kp S w w') (k : Kp S w' w'') : Kp S w w'' := h.later k (fun _ _ _ e => e)
theorem Kp.of_below (h : Below w.heap.size w w') : Kp S w w' := ⟨h.os, h.tape, h.output, h.size, fun k hk _ => h.block k hk, fun k i hk _ => h.cell (p := ⟨k, i, none⟩) hk⟩
theorem Kp.below (h : Kp S w w') {B : Nat} (hB : B ≤ w.heap.size) (hs : ∀ k i, S k i → B ≤ k) : Below B w w' := ⟨h.os, h.tape, h.output, h.size, fun k hk => h.block k (by omega) (fun i e => by have := hs k i e; omega)⟩
theorem Kp.set (h : Kp S w w') {g o : Nat} (hg : S g o) (v : Value) : Kp S w (w'.setCell ⟨g, o, none⟩ v) := ⟨h.os, h.tape, h.output, by simpa using h.size, fun k hk hs => (Below.heap_setCell _ _ _ _ (fun e => hs o (by rw [e]; exact hg))).trans (h.block k hk hs),
  fun k i hk hs => (World.cell?_setCell_other _ _ _ _ (fun e => by injection e with e1 e2; subst e1; subst e2; exact hs hg)).trans (h.cells k i hk hs)⟩
theorem Kp.drew (h : Kp S w w') : Kp S w w'.drew := ⟨h.os, h.tape, h.output, h.size, h.block, h.cells⟩
end

/-- A heap's two cells in block b, and its row in a block of its own. -/
structure HeapAt (W : World) (b : Nat) (fv : Value) (A : Option Addr) (c : Nat) (M : List SpotT) : Prop where
  h0 : W.cell? ⟨b, 0, none⟩ = some (.slice A M.length c)
  h1 : W.cell? ⟨b, 1, none⟩ = some fv
  f0 : W.frozen? ⟨b, 0, none⟩ = false
  row : W.ownsRow (b + 1) 62 3 (.slice A M.length c) M.length (cellsS M)
/-- The cells that a heap writes. -/
def BlkH (b : Nat) (A : Option Addr) (k i : Nat) : Prop := (k = b ∧ i = 0) ∨ A = some ⟨k, 0, none⟩
section
variable {W W' : World} {b : Nat} {fv : Value} {A : Option Addr} {c : Nat} {M : List SpotT}
theorem HeapAt.lt (h : HeapAt W b fv A c M) : b < W.heap.size := World.block_lt_of_cell? _ _ h.h0
theorem HeapAt.blk (h : HeapAt W b fv A c M) : ∀ k i, BlkH b A k i → b ≤ k ∧ k < W.heap.size := by
  rintro k i (⟨rfl, _⟩ | rfl)
  · exact ⟨Nat.le_refl _, h.lt⟩
  · have := h.row.lt k rfl
    omega
theorem HeapAt.kept (h : HeapAt W b fv A c M) {S : Nat → Nat → Prop} (hk : Kp S W W') (hs : ∀ k i, k = b ∨ A = some ⟨k, 0, none⟩ → ¬ S k i) : HeapAt W' b fv A c M :=
  have e := hk.block b h.lt (fun i => hs b i (.inl rfl))
  ⟨(World.cell?_of_block (a := ⟨b, 0, none⟩) e).trans h.h0, (World.cell?_of_block (a := ⟨b, 1, none⟩) e).trans h.h1, (World.frozen?_of_block (a := ⟨b, 0, none⟩) e).trans h.f0, by
    refine ⟨h.row.1, ?_⟩
    rcases h.row.2 with hn | ⟨g, cap, cur, hv, hb, hgg, rest⟩
    · exact .inl hn
    · refine .inr ⟨g, cap, cur, hv, hb, ?_, rest⟩
      injection hv with hv
      rw [hk.block g (Array.getElem?_eq_some_iff.1 hgg).1 (fun i => hs g i (.inr hv))]
      exact hgg⟩
theorem HeapAt.later (h : HeapAt W b fv A c M) (hk : Below W.heap.size W W') : HeapAt W' b fv A c M := h.kept (S := fun _ _ => False) (Kp.of_below hk) (fun _ _ _ e => e)
theorem cellsS_set (M : List SpotT) (i : Nat) (x : SpotT) (hi : i < M.length) : (((cellsS M).set (i * 3) (.int .u64 x.1.1)).set (i * 3 + 1) (.int .u64 x.1.2)).set (i * 3 + 2) (.int .i64 x.2) = cellsS (M.set i x) := by
  apply List.ext_getElem?
  intro j
  by_cases hj : j < M.length * 3
  · obtain ⟨k, r, hr, rfl⟩ : ∃ k r, r < 3 ∧ j = k * 3 + r := ⟨j / 3, j % 3, by omega, by omega⟩
    rw [cellsS_get (M.set i x) k r (by simp; omega) hr]
    have hk : k < M.length := by omega
    by_cases e : k = i
    · subst e
      have hl := cellsS_len M
      rcases (show r = 0 ∨ r = 1 ∨ r = 2 by omega) with rfl | rfl | rfl
      · rw [List.getElem?_set_ne (by omega), List.getElem?_set_ne (by omega)]
        simp only [Nat.add_zero, encS, List.getElem_set_self]
        exact List.getElem?_set_self (by simp only [hl]; omega)
      · rw [List.getElem?_set_ne (by omega)]
        simp only [encS, List.getElem_set_self]
        exact List.getElem?_set_self (by simp only [List.length_set, hl]; omega)
      · simp only [encS, List.getElem_set_self]
        exact List.getElem?_set_self (by simp only [List.length_set, hl]; omega)
    · rw [List.getElem?_set_ne (by omega), List.getElem?_set_ne (by omega), List.getElem?_set_ne (by omega), cellsS_get M k r hk hr]
      simp [List.getElem_set_ne (fun h => e h.symm)]
  · have l1 : (cellsS M).length ≤ j := by rw [cellsS_len]; omega
    have l2 : (cellsS (M.set i x)).length ≤ j := by rw [cellsS_len]; simp; omega
    rw [List.getElem?_eq_none l2, List.getElem?_eq_none (by simpa using l1)]
theorem own_set3 {base g n c : Nat} (h : W.ownsRow base 62 3 (.slice (some ⟨g, 0, none⟩) n c) n (cellsS M)) (i : Nat) (x : SpotT) (hi : i < M.length) :
    (((W.setCell ⟨g, i * 3, none⟩ (.int .u64 x.1.1)).setCell ⟨g, i * 3 + 1, none⟩ (.int .u64 x.1.2)).setCell ⟨g, i * 3 + 2, none⟩ (.int .i64 x.2)).ownsRow base 62 3 (.slice (some ⟨g, 0, none⟩) n c) n (cellsS (M.set i x)) := by
  rw [← cellsS_set M i x hi]
  exact ((h.stored _ _).1.stored _ _).1.stored _ _ |>.1
end

set_option maxRecDepth 100000 in
set_option maxHeartbeats 4000000 in
theorem swap_raw (b g n c i k : Nat) (M : List SpotT) (W : World) (h0 : W.cell? ⟨b, 0, none⟩ = some (.slice (some ⟨g, 0, none⟩) n c)) (hA : ArrS W g n M) (hi : i < n) (hk : k < n) (hik : i ≠ k) (_hn : n ≤ 100000) :
    Calls Try.prog 176 #[.pointer (some ⟨b, 0, none⟩), .int .i64 i, .int .i64 k] W fun e W' => e = .returned (.tuple #[]) ∧
      W' = ((((((W.setCell ⟨g, i * 3, none⟩ (.int .u64 (spAt M k).1.1)).setCell ⟨g, i * 3 + 1, none⟩ (.int .u64 (spAt M k).1.2)).setCell ⟨g, i * 3 + 2, none⟩ (.int .i64 (spAt M k).2)).setCell ⟨g, k * 3, none⟩ (.int .u64 (spAt M i).1.1)).setCell ⟨g, k * 3 + 1, none⟩ (.int .u64 (spAt M i).1.2)).setCell ⟨g, k * 3 + 2, none⟩ (.int .i64 (spAt M i).2)).drew := by
  have a0 := hA.c0 i hi
  have a1 := hA.c1 i hi
  have a2 := hA.c2 i hi
  have b0 := hA.c0 k hk
  have b1 := hA.c1 k hk
  have b2 := hA.c2 k hk
  have v0 := hA.fr (i * 3) (by omega)
  have v1 := hA.fr (i * 3 + 1) (by omega)
  have v2 := hA.fr (i * 3 + 2) (by omega)
  have HA2 := hA.set hi (spAt M k)
  have e0 := HA2.c0 k hk
  have e1 := HA2.c1 k hk
  have e2 := HA2.c2 k hk
  clear HA2
  rw [spAt_set _ _ _ _ (by rw [hA.len]; exact hi), if_neg (fun e => hik e.symm)] at e0 e1 e2
  generalize spAt M i = x at *
  generalize spAt M k = y at *
  obtain ⟨⟨xa, xb⟩, xc⟩ := x
  obtain ⟨⟨ya, yb⟩, yc⟩ := y
  simp only at a0 a1 a2 b0 b1 b2 e0 e1 e2 ⊢
  have w0 := hA.fr (k * 3) (by omega)
  have w1 := hA.fr (k * 3 + 1) (by omega)
  have w2 := hA.fr (k * 3 + 2) (by omega)
  clear hA
  have i0 : (0 : Int) ≤ (i : Int) := by omega
  have k0 : (0 : Int) ≤ (k : Int) := by omega
  have i1 : (i : Int) < (n : Int) := by omega
  have k1 : (k : Int) < (n : Int) := by omega
  go_enter Try.func176, Try.ntmps176
  go_wp2_with fail
  go_region
  exact bodyPost_end (results_none rfl _ _ _) rfl ⟨rfl, rfl⟩

end Go.Proofs.Ytajmnhnepoomjaa
