/- The contract of the document's own reader of texts. -/
import Derived.Test.YtbedlaggmlckdaaLitNext
import Derived.RegionTactic
import Derived.BigRegion
namespace Go.Proofs.Ytbedlaggmlckdaa
open Go.RowKit

theorem tstep_ok {s : ByteArray} {t1 t2 : ByteArray} (h : textR s = (t1, t2, 0)) : textStep s 0 = (t1, t2, 0) := by
  rw [textStep, if_pos rfl, h, if_pos rfl]
theorem tstep_err {s : ByteArray} {t1 t2 : ByteArray} {z : Nat} (h : textR s = (t1, t2, z)) (hz : z ≠ 0) : textStep s 0 = (nob, s, z) := by
  rw [textStep, if_pos rfl, h, if_neg hz]

def WordBack (r : ByteArray × ByteArray × Nat) (w : World) (e : Ending) (w' : World) : Prop :=
  e = .returned (.tuple #[.agg #[.string r.2.1, .int .i64 r.2.2], .string r.1]) ∧ Below w.heap.size w w'
theorem word_mk {r : ByteArray × ByteArray × Nat} {y : Nat} {t u : ByteArray} {yv : Int} {w w' : World} (h : r = (u, t, y)) (hy : yv = y) (hb : Below w.heap.size w w') :
    WordBack r w (.returned (.tuple #[.agg #[.string t, .int .i64 yv], .string u])) w' := by
  refine ⟨?_, hb⟩
  rw [h, hy]

/-- Boxes made ahead of a call stand as they were, also when one more is made. -/
theorem boxes {w w1 : World} {a0 a1 b0 b1 : Value} {T : TypeId}
    (hb : Below ((w.alloc (.cells #[a0, a1] T)).alloc (.cells #[b0, b1] T)).heap.size ((w.alloc (.cells #[a0, a1] T)).alloc (.cells #[b0, b1] T)) w1) :
    w.heap.size + 2 ≤ w1.heap.size ∧ w1.cell? ⟨w.heap.size, 0, none⟩ = some a0 ∧ w1.cell? ⟨w.heap.size, 1, none⟩ = some a1 ∧
    w1.cell? ⟨w.heap.size + 1, 0, none⟩ = some b0 ∧ w1.cell? ⟨w.heap.size + 1, 1, none⟩ = some b1 ∧
    w1.frozen? ⟨w.heap.size + 1, 0, none⟩ = false ∧ w1.frozen? ⟨w.heap.size + 1, 1, none⟩ = false ∧ Below w.heap.size w w1 := by
  have hsz : ((w.alloc (.cells #[a0, a1] T)).alloc (.cells #[b0, b1] T)).heap.size = w.heap.size + 2 := by simp
  rw [hsz] at hb
  have c : ∀ b o, b < w.heap.size + 2 → w1.cell? ⟨b, o, none⟩ = ((w.alloc (.cells #[a0, a1] T)).alloc (.cells #[b0, b1] T)).cell? ⟨b, o, none⟩ := fun b o h => hb.cell (p := ⟨b, o, none⟩) h
  have f : ∀ b o, b < w.heap.size + 2 → w1.frozen? ⟨b, o, none⟩ = ((w.alloc (.cells #[a0, a1] T)).alloc (.cells #[b0, b1] T)).frozen? ⟨b, o, none⟩ := fun b o h => hb.frozen (p := ⟨b, o, none⟩) h
  refine ⟨by have := hb.size; omega, ?_, ?_, ?_, ?_, ?_, ?_, ?_⟩
  · rw [c _ _ (by omega)]; go_cell
  · rw [c _ _ (by omega)]; go_cell
  · rw [c _ _ (by omega)]; go_cell
  · rw [c _ _ (by omega)]; go_cell
  · rw [f _ _ (by omega)]; go_simp
  · rw [f _ _ (by omega)]; go_simp
  · exact (((Below.refl _ w).alloc (Nat.le_refl _) _).alloc (by simp) _).trans (hb.mono (by omega))

/-- The struct that comes back lies in its box. -/
theorem word_cells {w1 : World} {b : Nat} {O : Obj} {x0 x1 : Value} (B0 : (w1.alloc O).cell? ⟨b, 0, none⟩ = some x0) (B1 : (w1.alloc O).cell? ⟨b, 1, none⟩ = some x1) (u v : Value) :
    ((((w1.alloc O).setCell ⟨b, 0, none⟩ u).setCell ⟨b, 1, none⟩ v).cell? ⟨b, 0, none⟩ = some u) ∧ ((((w1.alloc O).setCell ⟨b, 0, none⟩ u).setCell ⟨b, 1, none⟩ v).cell? ⟨b, 1, none⟩ = some v) :=
  ⟨(World.cell?_setCell_other _ _ _ _ (by simp)).trans (World.cell?_setCell_same _ _ _ B0), World.cell?_setCell_same _ _ _ ((World.cell?_setCell_other _ _ _ _ (by simp)).trans B1)⟩

set_option maxRecDepth 100000 in
set_option maxHeartbeats 2000000 in
theorem Word_any (s : ByteArray) (y : Nat) (w : World) (hs : s.size ≤ maxLen) :
    Calls Try.prog 28 #[.agg #[.string s, .int .i64 y]] w (WordBack (textStep s y) w) := by
  have hc := fun w => Next_any s y w hs
  unfold NextOut at hc
  by_cases hy : y = 0
  · subst hy
    have HT : Hid (textR s = _) := Lib.hid (show textR s = _ from by rw [textR])
    have HN0 : Hid (numStep s 0 = _) := Lib.hid (show numStep s 0 = _ from by rw [numStep, if_pos rfl])
    have hlt := numL_lt s.data.toList
    have hts := restB_size s (numL s.data.toList)
    unfold maxLen at hs
    generalize restB s (numL s.data.toList) = t at *
    generalize numL s.data.toList = r at *
    obtain ⟨n, k, z⟩ := r
    simp only at hlt HT HN0
    have hn1 : (n : Int) ≤ 18446744073709551615 := by omega
    have HC := Lib.hid hc
    clear hc hlt
    by_cases hz : z = 0
    · have HN : Hid (numStep s 0 = (n, t, 0)) := by rw [Hid, HN0.out, if_pos hz]
      have HT2 : Hid (textR s = if 65536 < n then (nob, nob, 9) else if t.size < n then (nob, nob, 8) else (t.extract 0 n, t.extract n t.size, 0)) := by
        rw [Hid, HT.out, if_pos hz]
      clear HT HN0
      subst hz
      by_cases h9 : 65536 < n
      · have HS : Hid (textStep s 0 = (nob, s, 9)) := tstep_err (HT2.out.trans (if_pos h9)) (by decide)
        have hnI : (65536 : Int) < (n : Int) := by omega
        go_enter Try.func28, Try.ntmps28
        go_wp2_with fail
        refine (HC.out _).mono ?_
        rintro e w1 ⟨rfl, hb⟩
        rw [HN.out]
        obtain ⟨hsz, a0, a1, b0, b1, f0, f1, hbb⟩ := boxes hb
        have A0 := fun O => (World.cell?_alloc_lt w1 O ⟨w.heap.size, 0, none⟩ (by show w.heap.size < _; omega)).trans a0
        have B0 := fun O => (World.cell?_alloc_lt w1 O ⟨w.heap.size + 1, 0, none⟩ (by show w.heap.size + 1 < _; omega)).trans b0
        have B1 := fun O => (World.cell?_alloc_lt w1 O ⟨w.heap.size + 1, 1, none⟩ (by show w.heap.size + 1 < _; omega)).trans b1
        have F0 := fun c T => (frozen?_alloc_cells w1 c T ⟨w.heap.size + 1, 0, none⟩).trans f0
        have F1 := fun c T => (frozen?_alloc_cells w1 c T ⟨w.heap.size + 1, 1, none⟩).trans f1
        have hs1 := hbb.size
        clear hb a0 a1 b0 b1 f0 f1
        go_wp2
        obtain ⟨k0, k1⟩ := word_cells (B0 (.cells #[.string t, .int .i64 0] 39)) (B1 (.cells #[.string t, .int .i64 0] 39)) (.string s) (.int .i64 9)
        exact bodyPost_ret (v := .tuple #[.agg #[.string s, .int .i64 9], .string ⟨#[]⟩]) (by simp [results, Try.results28, go_sem, k0, k1]) rfl (word_mk HS.out rfl (((hbb.alloc hs1 _).setCell (Nat.le_succ _) _).setCell (Nat.le_succ _) _))
      · by_cases h8 : t.size < n
        · have HS : Hid (textStep s 0 = (nob, s, 8)) := tstep_err (HT2.out.trans ((if_neg h9).trans (if_pos h8))) (by decide)
          have hnI : (n : Int) ≤ 65536 := by omega
          have hnJ : (t.size : Int) < (n : Int) := by omega
          go_enter Try.func28, Try.ntmps28
          go_wp2_with fail
          refine (HC.out _).mono ?_
          rintro e w1 ⟨rfl, hb⟩
          rw [HN.out]
          obtain ⟨hsz, a0, a1, b0, b1, f0, f1, hbb⟩ := boxes hb
          have A0 := fun O => (World.cell?_alloc_lt w1 O ⟨w.heap.size, 0, none⟩ (by show w.heap.size < _; omega)).trans a0
          have B0 := fun O => (World.cell?_alloc_lt w1 O ⟨w.heap.size + 1, 0, none⟩ (by show w.heap.size + 1 < _; omega)).trans b0
          have B1 := fun O => (World.cell?_alloc_lt w1 O ⟨w.heap.size + 1, 1, none⟩ (by show w.heap.size + 1 < _; omega)).trans b1
          have F0 := fun c T => (frozen?_alloc_cells w1 c T ⟨w.heap.size + 1, 0, none⟩).trans f0
          have F1 := fun c T => (frozen?_alloc_cells w1 c T ⟨w.heap.size + 1, 1, none⟩).trans f1
          have hs1 := hbb.size
          clear hb a0 a1 b0 b1 f0 f1
          go_wp2
          obtain ⟨k0, k1⟩ := word_cells (B0 (.cells #[.string t, .int .i64 0] 39)) (B1 (.cells #[.string t, .int .i64 0] 39)) (.string s) (.int .i64 8)
          exact bodyPost_ret (v := .tuple #[.agg #[.string s, .int .i64 8], .string ⟨#[]⟩]) (by simp [results, Try.results28, go_sem, k0, k1]) rfl (word_mk HS.out rfl (((hbb.alloc hs1 _).setCell (Nat.le_succ _) _).setCell (Nat.le_succ _) _))
        · have HS : Hid (textStep s 0 = (t.extract 0 n, t.extract n t.size, 0)) := tstep_ok (HT2.out.trans ((if_neg h9).trans (if_neg h8)))
          have hnI : (n : Int) ≤ 65536 := by omega
          have hnJ : (n : Int) ≤ (t.size : Int) := by omega
          have htI : (t.size : Int) ≤ 9223372036854775807 := by omega
          have hn0 : (0 : Int) ≤ (n : Int) := by omega
          go_enter Try.func28, Try.ntmps28
          go_wp2_with fail
          refine (HC.out _).mono ?_
          rintro e w1 ⟨rfl, hb⟩
          rw [HN.out]
          obtain ⟨hsz, a0, a1, b0, b1, f0, f1, hbb⟩ := boxes hb
          have A0 := fun O => (World.cell?_alloc_lt w1 O ⟨w.heap.size, 0, none⟩ (by show w.heap.size < _; omega)).trans a0
          have B0 := fun O => (World.cell?_alloc_lt w1 O ⟨w.heap.size + 1, 0, none⟩ (by show w.heap.size + 1 < _; omega)).trans b0
          have B1 := fun O => (World.cell?_alloc_lt w1 O ⟨w.heap.size + 1, 1, none⟩ (by show w.heap.size + 1 < _; omega)).trans b1
          have F0 := fun c T => (frozen?_alloc_cells w1 c T ⟨w.heap.size + 1, 0, none⟩).trans f0
          have F1 := fun c T => (frozen?_alloc_cells w1 c T ⟨w.heap.size + 1, 1, none⟩).trans f1
          have hs1 := hbb.size
          clear hb a0 a1 b0 b1 f0 f1
          go_wp2
          go_region
          all_goals
            go_wp2
            obtain ⟨k0, k1⟩ := word_cells (B0 (.cells #[.string t, .int .i64 0] 39)) (B1 (.cells #[.string t, .int .i64 0] 39)) (.string (t.extract n t.size)) (.int .i64 0)
            exact bodyPost_ret (v := .tuple #[.agg #[.string (t.extract n t.size), .int .i64 0], .string (t.extract 0 n)]) (by simp [results, Try.results28, go_sem, k0, k1]) rfl (word_mk HS.out rfl (((hbb.alloc hs1 _).setCell (Nat.le_succ _) _).setCell (Nat.le_succ _) _).drew)
    · have HN : Hid (numStep s 0 = (0, s, z)) := by rw [Hid, HN0.out, if_neg hz]
      have HS : Hid (textStep s 0 = (nob, s, z)) := tstep_err (HT.out.trans (if_neg hz)) hz
      have hzb : ((z : Int) != 0) = true := by simp [hz]
      clear HT HN0 hz
      go_enter Try.func28, Try.ntmps28
      go_wp2_with fail
      refine (HC.out _).mono ?_
      rintro e w1 ⟨rfl, hb⟩
      rw [HN.out]
      obtain ⟨hsz, a0, a1, b0, b1, f0, f1, hbb⟩ := boxes hb
      have A0 := fun O => (World.cell?_alloc_lt w1 O ⟨w.heap.size, 0, none⟩ (by show w.heap.size < _; omega)).trans a0
      have B0 := fun O => (World.cell?_alloc_lt w1 O ⟨w.heap.size + 1, 0, none⟩ (by show w.heap.size + 1 < _; omega)).trans b0
      have B1 := fun O => (World.cell?_alloc_lt w1 O ⟨w.heap.size + 1, 1, none⟩ (by show w.heap.size + 1 < _; omega)).trans b1
      have F0 := fun c T => (frozen?_alloc_cells w1 c T ⟨w.heap.size + 1, 0, none⟩).trans f0
      have F1 := fun c T => (frozen?_alloc_cells w1 c T ⟨w.heap.size + 1, 1, none⟩).trans f1
      have hs1 := hbb.size
      clear hb a0 a1 b0 b1 f0 f1
      go_wp2
      obtain ⟨k0, k1⟩ := word_cells (B0 (.cells #[.string s, .int .i64 z] 39)) (B1 (.cells #[.string s, .int .i64 z] 39)) (.string s) (.int .i64 z)
      exact bodyPost_ret (v := .tuple #[.agg #[.string s, .int .i64 z], .string ⟨#[]⟩]) (by simp [results, Try.results28, go_sem, k0, k1]) rfl (word_mk HS.out rfl (((hbb.alloc hs1 _).setCell (Nat.le_succ _) _).setCell (Nat.le_succ _) _))
  · have HN : Hid (numStep s y = (0, s, y)) := by rw [Hid, numStep, if_neg hy]
    have HS : Hid (textStep s y = (nob, s, y)) := by rw [Hid, textStep, if_neg hy]
    have hyb : ((y : Int) != 0) = true := by simp [hy]
    have HC := Lib.hid hc
    clear hy hc
    go_enter Try.func28, Try.ntmps28
    go_wp2_with fail
    refine (HC.out _).mono ?_
    rintro e w1 ⟨rfl, hb⟩
    rw [HN.out]
    obtain ⟨hsz, a0, a1, b0, b1, f0, f1, hbb⟩ := boxes hb
    have A0 := fun O => (World.cell?_alloc_lt w1 O ⟨w.heap.size, 0, none⟩ (by show w.heap.size < _; omega)).trans a0
    have B0 := fun O => (World.cell?_alloc_lt w1 O ⟨w.heap.size + 1, 0, none⟩ (by show w.heap.size + 1 < _; omega)).trans b0
    have B1 := fun O => (World.cell?_alloc_lt w1 O ⟨w.heap.size + 1, 1, none⟩ (by show w.heap.size + 1 < _; omega)).trans b1
    have F0 := fun c T => (frozen?_alloc_cells w1 c T ⟨w.heap.size + 1, 0, none⟩).trans f0
    have F1 := fun c T => (frozen?_alloc_cells w1 c T ⟨w.heap.size + 1, 1, none⟩).trans f1
    have hs1 := hbb.size
    clear hb a0 a1 b0 b1 f0 f1
    go_wp2
    obtain ⟨k0, k1⟩ := word_cells (B0 (.cells #[.string s, .int .i64 y] 39)) (B1 (.cells #[.string s, .int .i64 y] 39)) (.string s) (.int .i64 y)
    exact bodyPost_ret (v := .tuple #[.agg #[.string s, .int .i64 y], .string ⟨#[]⟩]) (by simp [results, Try.results28, go_sem, k0, k1]) rfl (word_mk HS.out rfl (((hbb.alloc hs1 _).setCell (Nat.le_succ _) _).setCell (Nat.le_succ _) _))

end Go.Proofs.Ytbedlaggmlckdaa
