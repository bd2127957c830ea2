/- idmap's New, by contract. -/
import Derived.Test.YtoaikdnooafjmaaImPut
namespace Go.Proofs.Ytoaikdnooafjmaa
open Go.RowKit Go.Maps Go.ChangeMaps Go.MapKept

theorem info_ids : (Try.prog.info? 211).map (fun i => (i.zero, i.size, i.bytes)) = some (some (.map none), 1, 8) := by kernel_rfl
theorem imNew_not (v : Int) (hv : v < 1 ∨ 64 < v) (w : World) : Calls Try.prog 75 #[.int .i64 v] w fun e w' => e = .returned (.tuple #[.pointer none, .int .i64 6]) ∧ w = w' := by
  rcases hv with h | h
  · go_enter Try.func75, Try.ntmps75
    go_wp2
    go_ret2
    exact ⟨rfl, rfl⟩
  · have h1 : ¬ v < 1 := by omega
    go_enter Try.func75, Try.ntmps75
    go_wp2
    go_ret2
    exact ⟨rfl, rfl⟩
/-- A map in the making: j of its shards are there. -/
structure ImJ (w0 w : World) (B bs n j : Nat) (bm : Nat → Nat) : Prop where
  c0 : w.cell? ⟨B, 0, none⟩ = some (.slice (some ⟨bs, 0, none⟩) n n)
  c1 : w.cell? ⟨B, 1, none⟩ = some (.int .i64 0) ∧ w.frozen? ⟨B, 1, none⟩ = false
  sh : ∀ i, i < n → w.cell? ⟨bs, i, none⟩ = some (if i < j then .map (some (bm i)) else .map none) ∧ w.frozen? ⟨bs, i, none⟩ = false
  mp : ∀ i, i < j → MapW w (bm i) 0 (fun _ => none) 0 ∧ w0.heap.size ≤ bm i
  inj : ∀ i k, i < j → k < j → bm i = bm k → i = k
  ns : bs ≠ B
  hb : Below w0.heap.size w0 w
  lo : w0.heap.size ≤ B ∧ w0.heap.size ≤ bs
theorem ImJ.next {w0 w : World} {B bs n j : Nat} {bm : Nat → Nat} (h : ImJ w0 w B bs n j bm) (hj : j < n) : ImJ w0 ((w.alloc (.map #[] 0)).setCell ⟨bs, j, none⟩ (.map (some w.heap.size))) B bs n (j + 1) (fun i => if i = j then w.heap.size else bm i) := by
  have hbn := below_new w (.map #[] 0)
  have hBl : B < w.heap.size := cellI_lt h.c0
  have hSl : bs < w.heap.size := cellI_lt (h.sh j hj).1
  have q : ∀ b, b ≠ bs → ((w.alloc (.map #[] 0)).setCell ⟨bs, j, none⟩ (.map (some w.heap.size))).heap[b]? = (w.alloc (.map #[] 0)).heap[b]? := fun b hb => Below.heap_setCell _ _ _ _ hb
  have qB : ((w.alloc (.map #[] 0)).setCell ⟨bs, j, none⟩ (.map (some w.heap.size))).heap[B]? = w.heap[B]? := (q B (fun e => h.ns e.symm)).trans (hbn.block B hBl)
  have hm1 : ∀ i, i < j → bm i < w.heap.size := fun i hi => (h.mp i hi).1.lt
  have hSm : ∀ i, i < j → bs ≠ bm i := fun i hi => (h.mp i hi).1.not_cell (h.sh j hj).1
  refine ⟨(World.cell?_of_block (w := w) qB).trans h.c0, ⟨(World.cell?_of_block (w := w) qB).trans h.c1.1, (World.frozen?_of_block (w := w) qB).trans h.c1.2⟩, fun i hi => ⟨?_, ?_⟩, fun i hi => ?_, fun i k hi hk e => ?_, h.ns, ?_, h.lo⟩
  · by_cases e : i = j
    · subst e
      rw [if_pos (Nat.lt_succ_self i), if_pos rfl]
      exact World.cell?_setCell_same _ _ _ ((hbn.cell (p := ⟨bs, i, none⟩) hSl).trans (h.sh i hi).1)
    · have h1 := (World.cell?_setCell_other (w := w.alloc (.map #[] 0)) (a := ⟨bs, j, none⟩) (b := ⟨bs, i, none⟩) (v := .map (some w.heap.size)) (fun e2 => e (by injection e2 with _ e2; exact e2.symm))).trans ((hbn.cell (p := ⟨bs, i, none⟩) hSl).trans (h.sh i hi).1)
      rw [h1, if_neg e]
      by_cases e3 : i < j
      · rw [if_pos e3, if_pos (by omega)]
      · rw [if_neg e3, if_neg (by omega)]
  · rw [World.frozen?_setCell]
    exact (hbn.frozen (p := ⟨bs, i, none⟩) hSl).trans (h.sh i hi).2
  · by_cases e : i = j
    · rw [if_pos e]
      exact ⟨(MapW.made w).same (q _ (by omega)), h.hb.size⟩
    · rw [if_neg e]
      have hi2 : i < j := by omega
      exact ⟨(h.mp i hi2).1.same ((q _ (fun e2 => hSm i hi2 e2.symm)).trans (hbn.block _ (hm1 i hi2))), (h.mp i hi2).2⟩
  · by_cases e1 : i = j
    · by_cases e2 : k = j
      · omega
      · have := hm1 k (by omega)
        rw [if_pos e1, if_neg e2] at e
        omega
    · by_cases e2 : k = j
      · have := hm1 i (by omega)
        rw [if_neg e1, if_pos e2] at e
        omega
      · rw [if_neg e1, if_neg e2] at e
        exact h.inj i k (by omega) (by omega) e
  · exact (h.hb.alloc h.hb.size _).setCell (p := ⟨bs, j, none⟩) h.lo.2 _
set_option maxRecDepth 100000 in
set_option maxHeartbeats 2000000 in
theorem imNew_any (n : Nat) (h1 : 1 ≤ n) (h2 : n ≤ 64) (w : World) : Calls Try.prog 75 #[.int .i64 (n : Int)] w fun e w' => ∃ B bs bm, e = .returned (.tuple #[.pointer (some ⟨B, 0, none⟩), .int .i64 0]) ∧ Im w' B bs bm 0 (imNew n) ∧ Below w.heap.size w w' ∧ ∀ b, ImM B bs bm n b → w.heap.size ≤ b := by
  have hmm := @run_makeMap Try.prog
  obtain ⟨i0, hi0, hz0, hz1, hz2⟩ := info_parts info_ids
  have hmk := run_make (P := Try.prog) w 208 211 i0 _ Try.underlying208 hi0 hz0 .i64 .i64 (n : Int) (n : Int) (by omega) (Int.le_refl _) (by rw [hz2]; omega) (by omega)
  rw [hz1] at hmk
  simp only [Int.toNat_natCast, Nat.mul_one] at hmk
  have k1 : ¬ (n : Int) < 1 := by omega
  have k2 : ¬ (64 : Int) < (n : Int) := by omega
  have HC : Hid (∀ j, j < n → (madeCells (Value.map none).cells n)[j]? = some (.map none)) := Lib.hid fun j hj => by
    unfold madeCells
    rw [Array.getElem?_map, Array.getElem?_range, if_pos hj]
    simp [Value.cells, Nat.mod_one]
  generalize madeCells (Value.map none).cells n = mc at *
  clear hz0 hz1 hz2 hi0
  go_enter Try.func75, Try.ntmps75
  go_wp2
  have H0 : Hid (ImJ w ((w.alloc (.cells mc 211)).alloc (.cells #[.slice (some ⟨w.heap.size, 0, none⟩) n n, .int .i64 0] 210)) (w.heap.size + 1) w.heap.size n 0 (fun _ => 0)) := Lib.hid (by
    obtain ⟨W1, hW1⟩ : ∃ W1, W1 = w.alloc (.cells mc 211) := ⟨_, rfl⟩
    have hs1 : W1.heap.size = w.heap.size + 1 := by rw [hW1]; simp
    rw [← hW1]
    have hh : ∀ o t, (W1.alloc (.cells o t)).heap[w.heap.size + 1]? = some (.cells o t (0, 0)) := fun o t => by
      rw [← hs1]
      exact heap_alloc_last W1 _
    have hg : ∀ o t, (W1.alloc (.cells o t)).heap[w.heap.size]? = some (.cells mc 211 (0, 0)) := fun o t => by
      rw [Below.heap_alloc W1 _ w.heap.size (by omega), hW1]
      exact heap_alloc_last w _
    refine ⟨(cell_of_row _ _ 0 _ _ (0, 0) (hh _ _)).trans rfl, ⟨(cell_of_row _ _ 1 _ _ (0, 0) (hh _ _)).trans rfl, by simp only [World.frozen?]; rw [hh]; simp⟩, fun i hi => ⟨?_, by simp only [World.frozen?]; rw [hg]; simp⟩, fun i hi => by omega, fun i k hi => by omega, by omega, ?_, by omega, Nat.le_refl _⟩
    · rw [if_neg (Nat.not_lt_zero i)]
      exact (cell_of_row _ _ i _ _ (0, 0) (hg _ _)).trans (HC.out i hi)
    · rw [hW1]
      exact ((Below.refl _ w).alloc (Nat.le_refl _) _).alloc (by simp) _)
  generalize (w.alloc (.cells mc 211)).alloc (.cells #[.slice (some ⟨w.heap.size, 0, none⟩) n n, .int .i64 0] 210) = W0 at *
  generalize w.heap.size + 1 = B at *
  obtain ⟨bs, hbs⟩ : ∃ bs, w.heap.size = bs := ⟨_, rfl⟩
  rw [hbs] at H0
  rw [hbs]
  clear hmk HC hbs
  go_loopw [21] (fun i wr => ∃ (j : Nat) (bm : Nat → Nat), j ≤ n ∧ i = .int .i64 (j : Int) ∧ ImJ w wr B bs n j bm) (fun i _ => n - (intOf i).toNat)
  case atStart => exact ⟨0, _, Nat.zero_le _, rfl, H0.out⟩
  case round =>
    obtain ⟨j, bm, hj, rfl, hI⟩ := hrel
    by_cases hjn : j < n
    · have hjn1 : (j : Int) < (n : Int) := by omega
      have hj0 : (0 : Int) ≤ (j : Int) := by omega
      have c0 := hI.c0
      obtain ⟨s0, s1⟩ := hI.sh j hjn
      rw [if_neg (Nat.lt_irrefl j)] at s0
      have hSl : bs < wr.heap.size := cellI_lt (p := ⟨bs, j, none⟩) s0
      have hBl : B < wr.heap.size := cellI_lt (p := ⟨B, 0, none⟩) c0
      have HI := hI.next hjn
      rw [World.setCell_alloc_past _ _ _ _ hSl] at HI
      have HI2 := Lib.hid HI
      clear hI HI
      go_wp2
      go_roundw
      case rel => exact ⟨j + 1, _, by omega, by go_num, HI2.out⟩
      case measure => simp [intOf]; omega
    · obtain rfl : j = n := by omega
      have HI2 := Lib.hid hI
      clear hI
      go_wp2
      go_ret2
      have hI := HI2.out
      refine ⟨B, bs, bm, rfl, ⟨hI.c0, hI.c1, fun i hi => ?_, fun i hi => ((hI.mp i hi).1).eq (fun k _ => ?_) ?_, hI.inj, hI.ns⟩, hI.hb, fun b hb => ?_⟩
      · have hi : i < j := hi
        have := (hI.sh i hi).1
        rw [if_pos hi] at this
        exact this
      · show none = if shI j k = i then findI [] k else none
        rw [findI_nil]
        split <;> rfl
      · simp [imNew, cntI]
      · rcases hb with e | e | ⟨i, hi, e⟩
        · rw [e]; exact hI.lo.1
        · rw [e]; exact hI.lo.2
        · rw [← e]; exact (hI.mp i hi).2

end Go.Proofs.Ytoaikdnooafjmaa
