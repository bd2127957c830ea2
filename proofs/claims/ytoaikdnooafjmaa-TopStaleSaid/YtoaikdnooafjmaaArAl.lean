/- arena's Alloc, New, by contract. -/
import Derived.Test.YtoaikdnooafjmaaArFr
namespace Go.Proofs.Ytoaikdnooafjmaa
open Go.RowKit

theorem below_set2 {w W : World} {b : Nat} (h : Below w.heap.size w W) (hb : w.heap.size ≤ b) (u v : Value) : Below w.heap.size w ((W.setCell ⟨b, 0, none⟩ u).setCell ⟨b, 1, none⟩ v) := (h.setCell (p := ⟨b, 0, none⟩) hb _).setCell (p := ⟨b, 1, none⟩) hb _
section
variable {w : World} {B bs n : Nat} {fv : Value} {x : AR}
theorem arAlloc_no (h : Ar w B bs fv x) (hf : AFit n x) (h0 : x.fr = []) : Calls Try.prog 63 #[.pointer (some ⟨B, 0, none⟩)] w (ArOut w B bs fv x (.tuple #[.agg #[.int .i64 0, .int .i64 0], .bool false])) := by
  have c1 := h.c1.1
  have hrow := h.row
  rw [h0] at hrow
  obtain ⟨A, c, hv, _, _⟩ := ownSlice hrow
  rw [hv, List.length_nil] at c1
  have hB := h.lt
  have HO : Hid (ArOut w B bs fv x (.tuple #[.agg #[.int .i64 0, .int .i64 0], .bool false]) (.returned (.tuple #[.agg #[.int .i64 0, .int .i64 0], .bool false])) (w.alloc (.cells #[.int .i64 0, .int .i64 0] 99))) := Lib.hid ⟨rfl, fv, h.later hf.pos (below_new w _), Chg.of_below (below_new w _), fun _ e => .inl e⟩
  clear h hf h0 hv hrow
  go_enter Try.func63, Try.ntmps63
  go_wp2
  have q0 : (w.alloc (.cells #[.int .i64 0, .int .i64 0] 99)).cell? ⟨w.heap.size, 0, none⟩ = some (.int .i64 0) := by go_cell
  have q1 : (w.alloc (.cells #[.int .i64 0, .int .i64 0] 99)).cell? ⟨w.heap.size, 1, none⟩ = some (.int .i64 0) := by go_cell
  exact bodyPost_ret (v := .tuple #[.agg #[.int .i64 0, .int .i64 0], .bool false]) (by simp [results, Try.results63, go_sem, q0, q1]) rfl HO.out
set_option maxRecDepth 100000 in
set_option maxHeartbeats 2000000 in
theorem arAlloc_yes (h : Ar w B bs fv x) (hf : AFit n x) {F : List Nat} {s : Nat} (h0 : x.fr = F ++ [s]) : Calls Try.prog 63 #[.pointer (some ⟨B, 0, none⟩)] w (ArOut w B bs fv (arAlE x F s) (.tuple #[.agg #[.int .i64 (s : Int), .int .i64 ((x.gn.getD (s - 1) 0 : Nat) : Int)], .bool true])) := by
  have hs := hf.fin s (by rw [h0]; simp)
  obtain ⟨k, rfl⟩ : ∃ k, s = k + 1 := ⟨s - 1, by omega⟩
  have hk : k < x.st.length := by omega
  have hst : x.st.getD k 0 = 0 := hs.2.2
  have hfl := hf.frl
  have hB := h.lt
  have hbn := below_new w (.cells #[.int .i64 0, .int .i64 0] 99)
  have h1 := h.later hf.pos hbn
  have hrow := h1.row
  have c1 := h1.c1.1
  have c2 := h1.c1.2
  rw [h0] at hrow hfl
  obtain ⟨m, hm⟩ : ∃ m, F.length = m := ⟨_, rfl⟩
  rw [List.length_append, List.length_singleton, hm] at hrow hfl
  obtain ⟨A, c, hv, hmc, hcm⟩ := ownSlice hrow
  rw [hv] at hrow c1
  obtain ⟨g, rfl, _, hgl⟩ := ownPos hrow (by omega)
  have hcell : (w.alloc (.cells #[.int .i64 0, .int .i64 0] 99)).cell? ⟨g, m, none⟩ = some (.int .i64 ((k : Int) + 1)) := by
    have hr := Rd.of_own (f := natV) hrow
    obtain ⟨b, off, e1, _, e3⟩ := hr m (k + 1) (by rw [List.getElem?_append_right (by omega), hm, Nat.sub_self]; rfl)
    injection e1 with e1
    injection e1 with e1 e2
    subst e1 e2
    rw [Nat.zero_add] at e3
    exact e3
  have hcut := own_cut (m := m) hrow (by omega) (by omega)
  rw [List.take_left' hm] at hcut
  have HA := Lib.hid (ArC.swapFree (w2 := w.alloc (.cells #[.int .i64 0, .int .i64 0] 99)) (fv' := .slice (some ⟨g, 0, none⟩) m c) (fr' := F) h1 rfl rfl (by rw [hm]; exact hcut) (fun g' e => h1.nf g' (by rw [hv]; exact e)))
  have HC := Lib.hid (Chg.setCell (M := ArM B bs fv) (b := B) (o := 1) (Chg.of_below hbn) (.inl rfl) (.slice (some ⟨g, 0, none⟩) m c))
  have HV : Hid (∀ g', (Value.slice (some ⟨g, 0, none⟩) m c).ownBlock = some g' → fv.ownBlock = some g') := Lib.hid fun g' e => by rw [hv]; exact e
  have HX : Hid (∀ b, ArM B bs (.slice (some ⟨g, 0, none⟩) m c) b → ArM B bs fv b ∧ b < w.heap.size) := Lib.hid fun b e => by
    have e2 : ArM B bs fv b := by
      rcases e with e | e | e
      · exact .inl e
      · exact .inr (.inl e)
      · exact .inr (.inr (by rw [hv]; exact e))
    exact ⟨e2, h.mlt hf.pos e2⟩
  have HF := Lib.hid hf
  have HST := Lib.hid hst
  have HK := Lib.hid hk
  have b0 : (w.alloc (.cells #[.int .i64 0, .int .i64 0] 99)).cell? ⟨w.heap.size, 0, none⟩ = some (.int .i64 0) := by go_cell
  have b1 : (w.alloc (.cells #[.int .i64 0, .int .i64 0] 99)).cell? ⟨w.heap.size, 1, none⟩ = some (.int .i64 0) := by go_cell
  have b2 : (w.alloc (.cells #[.int .i64 0, .int .i64 0] 99)).frozen? ⟨w.heap.size, 0, none⟩ = false := by go_cell
  have b3 : (w.alloc (.cells #[.int .i64 0, .int .i64 0] 99)).frozen? ⟨w.heap.size, 1, none⟩ = false := by go_cell
  have HBX := Lib.hid (And.intro (And.intro b0 b1) (And.intro b2 b3))
  have m0 : (0 : Int) ≤ (m : Int) := by omega
  have m1 : (m : Int) < (m : Int) + 1 := by omega
  have m2 : (m : Int) + 1 - 1 = (m : Int) := by omega
  have m3 : (m : Int) ≤ 4096 := by omega
  have m4 : (m : Int) ≤ (c : Int) := by omega
  have m5 : ¬ ((m : Int) + 1 = 0) := by omega
  have hc0 := hbn.cell (p := ⟨B, 1, none⟩) hB
  have c0 := hc0.symm.trans c1
  clear h h1 hf h0 hs hst hk hrow hv hm hcut hbn hc0 b0 b1 b2 b3
  rw [show ((k + 1 : Nat) : Int) = (k : Int) + 1 by omega, Nat.add_sub_cancel]
  obtain ⟨gv, hgv⟩ : ∃ gv, x.gn.getD k 0 = gv := ⟨_, rfl⟩
  rw [hgv]
  have HGV := Lib.hid hgv
  clear hgv
  go_enter Try.func63, Try.ntmps63
  go_upto_region 6 with (fail)
  have HSZ : Hid (((w.alloc (.cells #[.int .i64 0, .int .i64 0] 99)).setCell ⟨B, 1, none⟩ (.slice (some ⟨g, 0, none⟩) m c)).heap.size = w.heap.size + 1) := Lib.hid (by rw [World.size_setCell, World.size_alloc])
  have HB0 : Hid (∀ o, ((w.alloc (.cells #[.int .i64 0, .int .i64 0] 99)).setCell ⟨B, 1, none⟩ (.slice (some ⟨g, 0, none⟩) m c)).cell? ⟨w.heap.size, o, none⟩ = (w.alloc (.cells #[.int .i64 0, .int .i64 0] 99)).cell? ⟨w.heap.size, o, none⟩ ∧ ((w.alloc (.cells #[.int .i64 0, .int .i64 0] 99)).setCell ⟨B, 1, none⟩ (.slice (some ⟨g, 0, none⟩) m c)).frozen? ⟨w.heap.size, o, none⟩ = (w.alloc (.cells #[.int .i64 0, .int .i64 0] 99)).frozen? ⟨w.heap.size, o, none⟩) := Lib.hid fun o => ⟨World.cell?_setCell_other _ _ _ _ (fun e => by injection e with e; omega), World.frozen?_setCell _ _ _ _⟩
  rw [World.setCell_alloc_past _ _ _ _ hB] at HA HC HSZ HB0
  generalize (w.setCell ⟨B, 1, none⟩ (.slice (some ⟨g, 0, none⟩) m c)).alloc (.cells #[.int .i64 0, .int .i64 0] 99) = V at *
  have HT := Lib.hid (arSet_ar (s := 1) HA.out HK.out HF.out.len HF.out.few HST.out (by omega) (by omega) (by omega))
  clear HA c0 c1 c2 hcell m0 m1 m2 m4 m5
  go_wp2_with fail
  refine HT.out.mono ?_
  rintro e w1 ⟨rfl, h1, hc⟩
  have HG := Lib.hid (arGen_any (x := { x with st := x.st.set k 1 }) h1 rfl rfl (by rw [List.length_set]; exact HF.out.few) ((k : Int) + 1))
  rw [arGn_in (x := { x with st := x.st.set k 1 }) (by rw [List.length_set]; exact HK.out)] at HG
  have HH := Lib.hid (And.intro h1 hc)
  clear h1 hc HT
  have x0 : w1.cell? ⟨w.heap.size, 0, none⟩ = some (.int .i64 0) := ((HH.out.2.cell (p := ⟨w.heap.size, 0, none⟩) (by have := HSZ.out; show w.heap.size < _; omega) (fun e => by have := HX.out w.heap.size (e.elim .inl (fun e => .inr (.inl e))); omega)).trans (HB0.out 0).1).trans HBX.out.1.1
  have x1 : w1.cell? ⟨w.heap.size, 1, none⟩ = some (.int .i64 0) := ((HH.out.2.cell (p := ⟨w.heap.size, 1, none⟩) (by have := HSZ.out; show w.heap.size < _; omega) (fun e => by have := HX.out w.heap.size (e.elim .inl (fun e => .inr (.inl e))); omega)).trans (HB0.out 1).1).trans HBX.out.1.2
  have x2 : w1.frozen? ⟨w.heap.size, 0, none⟩ = false := ((HH.out.2.frozen (p := ⟨w.heap.size, 0, none⟩) (by have := HSZ.out; show w.heap.size < _; omega) (fun e => by have := HX.out w.heap.size (e.elim .inl (fun e => .inr (.inl e))); omega)).trans (HB0.out 0).2).trans HBX.out.2.1
  have x3 : w1.frozen? ⟨w.heap.size, 1, none⟩ = false := ((HH.out.2.frozen (p := ⟨w.heap.size, 1, none⟩) (by have := HSZ.out; show w.heap.size < _; omega) (fun e => by have := HX.out w.heap.size (e.elim .inl (fun e => .inr (.inl e))); omega)).trans (HB0.out 1).2).trans HBX.out.2.2
  simp only [] at HG
  rw [HGV.out] at HG
  go_wp2_with fail
  refine HG.out.mono ?_
  rintro e w2 ⟨rfl, rfl⟩
  clear HG
  have HP : Hid (ArOut w B bs fv (arAlE x F (k + 1)) (.tuple #[.agg #[.int .i64 ((k : Int) + 1), .int .i64 (gv : Int)], .bool true]) (.returned (.tuple #[.agg #[.int .i64 ((k : Int) + 1), .int .i64 (gv : Int)], .bool true])) ((w1.setCell ⟨w.heap.size, 0, none⟩ (.int .i64 ((k : Int) + 1))).setCell ⟨w.heap.size, 1, none⟩ (.int .i64 (gv : Int)))) := Lib.hid (by
    have hq : ∀ b, ArM B bs (.slice (some ⟨g, 0, none⟩) m c) b → ((w1.setCell ⟨w.heap.size, 0, none⟩ (.int .i64 ((k : Int) + 1))).setCell ⟨w.heap.size, 1, none⟩ (.int .i64 (gv : Int))).heap[b]? = w1.heap[b]? := fun b hb => by
      have := (HX.out b hb).2
      rw [Below.heap_setCell _ _ _ _ (by show b ≠ w.heap.size; omega), Below.heap_setCell _ _ _ _ (by show b ≠ w.heap.size; omega)]
    refine ⟨rfl, _, HH.out.1.same hq, ?_, fun g' e => .inl (HV.out g' e)⟩
    have c1 : Chg (ArM B bs fv) w w1 := HC.out.trans HH.out.2 (fun b e => .inl (e.elim .inl (fun e => .inr (.inl e))))
    exact c1.trans (M' := fun b => b = w.heap.size) (Chg.setCell (M := fun b => b = w.heap.size) (Chg.setCell (M := fun b => b = w.heap.size) Chg.refl rfl _) rfl _) (fun b e => .inr (by omega)))
  clear HX HH HC HSZ HB0 HBX
  go_wp2
  have q1 : ((w1.setCell ⟨w.heap.size, 0, none⟩ (.int .i64 ((k : Int) + 1))).setCell ⟨w.heap.size, 1, none⟩ (.int .i64 (gv : Int))).cell? ⟨w.heap.size, 1, none⟩ = some (.int .i64 (gv : Int)) := World.cell?_setCell_same _ _ _ ((World.cell?_setCell_other _ _ _ _ (fun e => by injection e with _ e; cases e)).trans x1)
  have q0 : ((w1.setCell ⟨w.heap.size, 0, none⟩ (.int .i64 ((k : Int) + 1))).setCell ⟨w.heap.size, 1, none⟩ (.int .i64 (gv : Int))).cell? ⟨w.heap.size, 0, none⟩ = some (.int .i64 ((k : Int) + 1)) := (World.cell?_setCell_other _ _ _ _ (fun e => by injection e with _ e; cases e)).trans (World.cell?_setCell_same _ _ _ x0)
  exact bodyPost_ret (v := .tuple #[.agg #[.int .i64 ((k : Int) + 1), .int .i64 (gv : Int)], .bool true]) (by simp [results, Try.results63, go_sem, q0, q1]) rfl HP.out
end

theorem arNew_not (v : Int) (hv : v < 1 ∨ 4096 < v) (w : World) : Calls Try.prog 60 #[.int .i64 v] w fun e w' => e = .returned (.tuple #[.pointer none, .int .i64 6]) ∧ w = w' := by
  rcases hv with h | h
  · go_enter Try.func60, Try.ntmps60
    go_wp2
    go_ret2
    exact ⟨rfl, rfl⟩
  · have h1 : ¬ v < 1 := by omega
    go_enter Try.func60, Try.ntmps60
    go_wp2
    go_ret2
    exact ⟨rfl, rfl⟩

set_option maxRecDepth 100000 in
set_option maxHeartbeats 4000000 in
theorem arNew_any (k : Nat) (h1 : 1 ≤ k) (h2 : k ≤ 4096) (w : World) : Calls Try.prog 60 #[.int .i64 (k : Int)] w fun e w' => ∃ B bs fv, e = .returned (.tuple #[.pointer (some ⟨B, 0, none⟩), .int .i64 0]) ∧ Ar w' B bs fv (arNew k) ∧ Below w.heap.size w w' ∧ ∀ b, ArM B bs fv b → w.heap.size ≤ b := by
  obtain ⟨i1, hi1, hy0, hy1, hy2⟩ := info_parts info_int_ar
  obtain ⟨i0, hi0, hz0, hz1, hz2⟩ := info_parts info_slot_ar
  have hmk := run_make (P := Try.prog) w 202 207 i0 _ Try.underlying202 hi0 hz0 .i64 .i64 (k : Int) (k : Int) (by omega) (Int.le_refl _) (by rw [hz2]; omega) (by omega)
  rw [hz1] at hmk
  simp only [Int.toNat_natCast] at hmk
  have k1 : ¬ (k : Int) < 1 := by omega
  have k2 : ¬ (4096 : Int) < (k : Int) := by omega
  have HC : Hid (∀ j, j < k * 2 → (madeCells (Value.agg #[.int .i64 0, .int .i64 0]).cells (k * 2))[j]? = some (.int .i64 0)) := Lib.hid fun j hj => by
    have hm : j % 2 = 0 ∨ j % 2 = 1 := by omega
    unfold madeCells
    rw [Array.getElem?_map, Array.getElem?_range, if_pos hj]
    show some ((#[Value.int .i64 0, Value.int .i64 0] : Array Value)[j % 2]!) = _
    rcases hm with e | e <;> rw [e] <;> rfl
  generalize madeCells (Value.agg #[.int .i64 0, .int .i64 0]).cells (k * 2) = mc at *
  clear hz0 hz1 hz2 hi0
  go_enter Try.func60, Try.ntmps60
  go_upto_region 5 with (fail)
  have H0 : Hid (ArC ((w.alloc (.cells mc 207)).alloc (.cells #[.slice (some ⟨w.heap.size, 0, none⟩) k k, .slice none 0 0, .int .i64 (k : Int), .int .i64 0, .int .i64 0, .int .i64 0, .int .i64 0] 205)) (w.heap.size + 1) w.heap.size (.slice none 0 0) (List.replicate k 0) (List.replicate k 0) (downL k (k - k)) (fun j => (((List.replicate k 0).count j : Nat) : Int))) := Lib.hid (by
    obtain ⟨W1, hW1⟩ : ∃ W1, W1 = w.alloc (.cells mc 207) := ⟨_, rfl⟩
    have hs1 : W1.heap.size = w.heap.size + 1 := by rw [hW1]; simp
    rw [← hW1]
    have hh : ∀ o t, (W1.alloc (.cells o t)).heap[w.heap.size + 1]? = some (.cells o t (0, 0)) := fun o t => by
      rw [← hs1]
      exact heap_alloc_last W1 _
    have hc : ∀ (o : Array Value) t j, (W1.alloc (.cells o t)).cell? ⟨w.heap.size + 1, j, none⟩ = o[j]? := fun o t j => cell_of_row _ _ j _ t (0, 0) (hh o t)
    have hf : ∀ (o : Array Value) t j, (W1.alloc (.cells o t)).frozen? ⟨w.heap.size + 1, j, none⟩ = false := fun o t j => by simp only [World.frozen?]; rw [hh]; simp
    have hg : ∀ o t, (W1.alloc (.cells o t)).heap[w.heap.size]? = some (.cells mc 207 (0, 0)) := fun o t => by
      rw [Below.heap_alloc W1 _ w.heap.size (by omega), hW1]
      exact heap_alloc_last w _
    refine { c0 := by rw [hc, List.length_replicate]; rfl, c1 := ⟨(hc _ _ _).trans rfl, hf _ _ _⟩, cc := fun j hj => ⟨?_, hf _ _ _⟩, sl := fun j hj => ?_, row := by rw [Nat.sub_self]; exact World.ownsRow_nil _ _ _ _, ns := by omega, nf := fun g e => by cases e }
    · rw [hc, count_rep]
      rcases (show j = 0 ∨ j = 1 ∨ j = 2 ∨ j = 3 ∨ j = 4 by omega) with rfl | rfl | rfl | rfl | rfl <;> rfl
    · rw [List.length_replicate] at hj
      rw [getD_rep]
      exact ⟨⟨(cell_of_row _ _ _ _ _ (0, 0) (hg _ _)).trans (HC.out (j * 2) (by omega)), by simp only [World.frozen?]; rw [hg]; simp⟩, (cell_of_row _ _ _ _ _ (0, 0) (hg _ _)).trans (HC.out (j * 2 + 1) (by omega)), by simp only [World.frozen?]; rw [hg]; simp⟩)
  have HB : Hid (Below w.heap.size w ((w.alloc (.cells mc 207)).alloc (.cells #[.slice (some ⟨w.heap.size, 0, none⟩) k k, .slice none 0 0, .int .i64 (k : Int), .int .i64 0, .int .i64 0, .int .i64 0, .int .i64 0] 205))) := Lib.hid (((Below.refl _ w).alloc (Nat.le_refl _) _).alloc (by simp) _)
  generalize (w.alloc (.cells mc 207)).alloc (.cells #[.slice (some ⟨w.heap.size, 0, none⟩) k k, .slice none 0 0, .int .i64 (k : Int), .int .i64 0, .int .i64 0, .int .i64 0, .int .i64 0] 205) = W0 at *
  obtain ⟨Bn, hBn⟩ : ∃ Bn, w.heap.size + 1 = Bn := ⟨_, rfl⟩
  obtain ⟨bs, hbs⟩ : ∃ bs, w.heap.size = bs := ⟨_, rfl⟩
  rw [hBn] at H0
  rw [hbs] at H0
  rw [hBn, hbs]
  have HBS : Hid (w.heap.size ≤ Bn ∧ w.heap.size ≤ bs) := Lib.hid ⟨by omega, by omega⟩
  clear hmk HC hBn hbs k1 k2
  go_wp2
  go_loopw [5] (fun i wr => ∃ (m : Nat) (fv : Value), m ≤ k ∧ i = .int .i64 (m : Int) ∧ ArC wr Bn bs fv (List.replicate k 0) (List.replicate k 0) (downL k (k - m)) (fun j => (((List.replicate k 0).count j : Nat) : Int)) ∧ Below w.heap.size w wr ∧ ∀ g, fv.ownBlock = some g → w.heap.size ≤ g) (fun i _ => (intOf i).toNat)
  case atStart => exact ⟨k, _, Nat.le_refl _, rfl, H0.out, HB.out, fun g e => by cases e⟩
  case round =>
    obtain ⟨m, fv, hm, rfl, hA, hb, hfv⟩ := hrel
    by_cases hm1 : 1 ≤ m
    · have hi : (1 : Int) ≤ (m : Int) := by omega
      have hi2 : (m : Int) ≤ 4096 := by omega
      have c1 := hA.c1.1
      have c2 := hA.c1.2
      have hrow := hA.row
      obtain ⟨A, c, rfl, _, _⟩ := ownSlice hrow
      obtain ⟨nn, hnn⟩ : ∃ nn, (downL k (k - m)).length = nn := ⟨_, rfl⟩
      have hnn2 : nn ≤ 4096 := by rw [downL_len] at hnn; omega
      rw [hnn] at c1 hrow hA hfv
      have hBl := hA.lt
      have HD := Lib.hid (show downL k (k - (m - 1)) = downL k (k - m) ++ [m] by rw [show k - (m - 1) = (k - m) + 1 by omega, downL_succ, show k - (k - m) = m by omega])
      have HP := Lib.hid (fun W1 w2 gg cap (hb : Below wr.heap.size wr W1) (hg : W1.grownBy w2 (Value.slice A nn c).ownBlock) hown hat => hA.putFree (by rw [List.length_replicate]; exact h1) (gg := gg) (cap := cap) (s := m) hb hg hnn rfl hown hat)
      have HR := Lib.hid (hrow.alloc (.cells #[.int .i64 (m : Int)] 3))
      have HNE := Lib.hid (show some Bn ≠ (Value.slice A nn c).ownBlock from fun e => (hA.nf Bn e.symm).1 rfl)
      have C1 := Lib.hid ((below_new wr (.cells #[.int .i64 (m : Int)] 3)).cell (p := ⟨Bn, 1, none⟩) hBl |>.trans c1)
      have F1 := Lib.hid ((below_new wr (.cells #[.int .i64 (m : Int)] 3)).frozen (p := ⟨Bn, 1, none⟩) hBl |>.trans c2)
      have HNW : Hid (∀ j u, [Value.int .i64 (m : Int)][j]? = some u → (wr.alloc (.cells #[.int .i64 (m : Int)] 3)).cell? (Addr.add ⟨wr.heap.size, 0, none⟩ j) = some u) := Lib.hid fun j u hj => by
        match j, hj with
        | 0, hj => simp at hj; subst hj; simp [Addr.add]
      have HON : Hid (∀ u ∈ [Value.int .i64 (m : Int)], u.oneCell' = true) := Lib.hid fun u hu => by simp at hu; subst hu; rfl
      have HBW := Lib.hid (And.intro hb hfv)
      clear hrow c2 hnn hA hb hfv
      go_wp2_with (at_builtin; refine wpList_append_lies _ rfl _ _ 38 rfl 0 3 i1 (.int .i64 0) 1 8 Try.underlying38 hi1 hy0 hy1 hy2 rfl (by decide) (.slice A nn c) nn ((downL k (k - m)).map natV) rfl HR.out ⟨wr.heap.size, 0, none⟩ 1 1 [.int .i64 (m : Int)] rfl rfl HNW.out HON.out (by decide) (by unfold maxLen; omega) (by omega) (by omega) (wr.heap.size + 1) (by simp) ?_; intro gg cap w6 hown6 hgrow hat hlt6; have q0 := hgrow.cell C1.out HNE.out; have q1 := (World.frozen?_of_block (a := ⟨Bn, 1, none⟩) (hgrow.block Bn (by rw [World.size_alloc]; omega) HNE.out)).trans F1.out; have HG := Lib.hid hgrow; have HO := Lib.hid hown6; have HA := Lib.hid hat; clear hgrow hown6 hat hlt6)
      have hfin := HP.out _ w6 gg cap (below_new wr _) HG.out HO.out (by rw [World.size_alloc]; exact HA.out)
      rw [← HD.out] at hfin
      have HFIN := Lib.hid hfin
      clear hfin HP HR HNE C1 F1 HNW HON HG HO HA q0 q1 HD
      go_roundw
      case rel => exact ⟨m - 1, _, by omega, by rw [show ((m - 1 : Nat) : Int) = (m : Int) - 1 by omega], HFIN.out.1, by
        have h9 := HFIN.out.2.1
        have hz := HBW.out.1.size
        exact HBW.out.1.trans (h9.below (fun b e => by
          rcases e with e | e | e
          · rw [e]; exact HBS.out.1
          · rw [e]; exact HBS.out.2
          · exact HBW.out.2 b e) hz), fun g e => (HFIN.out.2.2 g e).elim (HBW.out.2 g) (fun e2 => Nat.le_trans HBW.out.1.size e2)⟩
      case measure => simp [intOf]; omega
    · obtain rfl : m = 0 := by omega
      have HFIN := Lib.hid (And.intro hA (And.intro hb hfv))
      clear hA hb hfv
      go_wp2
      go_ret2
      refine ⟨Bn, bs, fv, rfl, ?_, HFIN.out.2.1, fun b e => ?_⟩
      · have := HFIN.out.1
        rw [Nat.sub_zero] at this
        exact this
      · rcases e with e | e | e
        · rw [e]; exact HBS.out.1
        · rw [e]; exact HBS.out.2
        · exact HFIN.out.2.2 b e

end Go.Proofs.Ytoaikdnooafjmaa
