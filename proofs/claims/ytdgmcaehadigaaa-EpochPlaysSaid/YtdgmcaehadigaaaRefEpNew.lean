/- The document's epoch clock: New. -/
import Derived.Test.YtdgmcaehadigaaaRefEpPin2
import Derived.Test.YtdgmcaehadigaaaEpNew
import Derived.BigRegion
import Derived.Test.YtdgmcaehadigaaaBx
namespace Go.Proofs.Ytdgmcaehadigaaa
open Go.RowKit

/-- What a New of the document's leaves. -/
def RNewNo (w : World) (e : Ending) (w' : World) : Prop := e = .returned (.tuple #[.agg #[.int .i64 0, .slice none 0 0, .slice none 0 0, .slice none 0 0, .int .i64 0], .int .i64 6]) ∧ Below w.heap.size w w'
def RNewOut (w : World) (k : Nat) (e : Ending) (w' : World) : Prop := ∃ V, e = .returned (.tuple #[V, .int .i64 0]) ∧ RC w' (fun b => w.heap.size ≤ b) V (newE k) ∧ Below w.heap.size w w'
set_option maxRecDepth 100000 in
set_option maxHeartbeats 4000000 in
theorem RNew_not (v : Int) (hv : v < 1 ∨ 64 < v) (w : World) : Calls Try.prog 38 #[.int .i64 v] w (RNewNo w) := by
  have f1 := Five.new w (.int .i64 0) (.slice none 0 0) (.slice none 0 0) (.slice none 0 0) (.int .i64 0) 69
  have HB := Lib.hid (below_new w (.cells #[.int .i64 0, .slice none 0 0, .slice none 0 0, .slice none 0 0, .int .i64 0] 69))
  have HP := Lib.hid f1
  obtain ⟨_, x0, x1, x2, x3, x4, y0, y1, y2, y3, y4⟩ := f1
  rcases hv with h | h
  · go_enter Try.func38, Try.ntmps38
    go_wp2
    obtain ⟨_, q0, q1, q2, q3, q4, _, _, _, _, _⟩ := HP.out
    exact bodyPost_ret (v := .tuple #[.agg #[.int .i64 0, .slice none 0 0, .slice none 0 0, .slice none 0 0, .int .i64 0], .int .i64 6]) (by simp [results, Try.results38, go_sem, q0, q1, q2, q3, q4]) rfl ⟨rfl, HB.out⟩
  · have h1 : ¬ v < 1 := by omega
    go_enter Try.func38, Try.ntmps38
    go_wp2
    obtain ⟨_, q0, q1, q2, q3, q4, _, _, _, _, _⟩ := HP.out
    exact bodyPost_ret (v := .tuple #[.agg #[.int .i64 0, .slice none 0 0, .slice none 0 0, .slice none 0 0, .int .i64 0], .int .i64 6]) (by simp [results, Try.results38, go_sem, q0, q1, q2, q3, q4]) rfl ⟨rfl, HB.out⟩

/-- Two lists of k zeros each, made in new memory, and a box that names them. -/
theorem RC.made {w : World} {k : Nat} {mc : Array Value} (hm : mc = madeCells (Value.int .i64 0).cells k) {W : World} {g1 g2 c1 c2 : Nat} (h1 : W.heap[g1]? = some (.cells mc 3 (0, 0))) (h2 : W.heap[g2]? = some (.cells mc 3 (0, 0))) (n1 : w.heap.size ≤ g1) (n2 : w.heap.size ≤ g2) :
    RC W (fun b => w.heap.size ≤ b) (.agg #[.int .i64 0, .slice (some ⟨g1, 0, none⟩) k c1, .slice (some ⟨g2, 0, none⟩) k c2, .slice none 0 0, .int .i64 0]) (newE k) := by
  have rr : ∀ g, W.heap[g]? = some (.cells mc 3 (0, 0)) → Rd (Value.int .i64) W W.heap.size (some ⟨g, 0, none⟩) (natI (List.replicate k 0)) := fun g hg i z hz => by
    rw [natI, List.map_replicate, List.getElem?_replicate] at hz
    split at hz
    · rename_i hlt
      injection hz with hz
      subst hz
      refine ⟨g, 0, rfl, (Array.getElem?_eq_some_iff.1 hg).1, ?_⟩
      rw [Nat.zero_add, cell_of_row _ _ i _ _ (0, 0) hg, hm]
      unfold madeCells
      rw [Array.getElem?_map, Array.getElem?_range, if_pos hlt]
      show some ((#[Value.int .i64 0] : Array Value)[i % 1]!) = _
      rw [Nat.mod_one]
      rfl
    · cases hz
  refine ⟨some ⟨g1, 0, none⟩, c1, some ⟨g2, 0, none⟩, c2, none, 0, ?_, rr g1 h1, rr g2 h2, (fun k p h => by cases h), (fun _ g o e => by injection e with e; injection e with e; omega), (fun _ g o e => by injection e with e; injection e with e; omega), (fun _ g o e => by cases e)⟩
  simp [cV, newE]
theorem exit_is2 {f : Exit → Act → World → Prop} {x : Exit} {a : Act} (W : World) (h : f x a W) : f x a W := h
/-- A new clock: its box, and the two lists behind it. -/
theorem RNewEnd {w W0 : World} {k g1 g2 : Nat} {mc : Array Value} {u0 u1 u2 u3 u4 : Value} (hm : mc = madeCells (Value.int .i64 0).cells k) (h1 : Five W0 w.heap.size u0 u1 u2 u3 u4) (hb : Below w.heap.size w W0) (hs : W0.heap.size = w.heap.size + 1)
    (hg : (g1 = w.heap.size + 1 ∧ g2 = w.heap.size + 1 + 1) ∨ (g1 = w.heap.size + 1 + 1 ∧ g2 = w.heap.size + 1)) :
    Five (((((((W0.setCell ⟨w.heap.size, 0, none⟩ (.int .i64 0)).setCell ⟨w.heap.size, 1, none⟩ (.slice (some ⟨g1, 0, none⟩) k k)).setCell ⟨w.heap.size, 2, none⟩ (.slice (some ⟨g2, 0, none⟩) k k)).setCell ⟨w.heap.size, 3, none⟩ (.slice none 0 0)).setCell ⟨w.heap.size, 4, none⟩ (.int .i64 0)).alloc (.cells mc 3)).alloc (.cells mc 3)).drew w.heap.size (.int .i64 0) (.slice (some ⟨g1, 0, none⟩) k k) (.slice (some ⟨g2, 0, none⟩) k k) (.slice none 0 0) (.int .i64 0) ∧
    RC (((((((W0.setCell ⟨w.heap.size, 0, none⟩ (.int .i64 0)).setCell ⟨w.heap.size, 1, none⟩ (.slice (some ⟨g1, 0, none⟩) k k)).setCell ⟨w.heap.size, 2, none⟩ (.slice (some ⟨g2, 0, none⟩) k k)).setCell ⟨w.heap.size, 3, none⟩ (.slice none 0 0)).setCell ⟨w.heap.size, 4, none⟩ (.int .i64 0)).alloc (.cells mc 3)).alloc (.cells mc 3)).drew (fun b => w.heap.size ≤ b) (.agg #[.int .i64 0, .slice (some ⟨g1, 0, none⟩) k k, .slice (some ⟨g2, 0, none⟩) k k, .slice none 0 0, .int .i64 0]) (newE k) ∧
    Below w.heap.size w (((((((W0.setCell ⟨w.heap.size, 0, none⟩ (.int .i64 0)).setCell ⟨w.heap.size, 1, none⟩ (.slice (some ⟨g1, 0, none⟩) k k)).setCell ⟨w.heap.size, 2, none⟩ (.slice (some ⟨g2, 0, none⟩) k k)).setCell ⟨w.heap.size, 3, none⟩ (.slice none 0 0)).setCell ⟨w.heap.size, 4, none⟩ (.int .i64 0)).alloc (.cells mc 3)).alloc (.cells mc 3)).drew := by
  have hp := h1.put (.int .i64 0) (.slice (some ⟨g1, 0, none⟩) k k) (.slice (some ⟨g2, 0, none⟩) k k) (.slice none 0 0) (.int .i64 0)
  have hbp := below_put hb (Nat.le_refl _) (.int .i64 0) (.slice (some ⟨g1, 0, none⟩) k k) (.slice (some ⟨g2, 0, none⟩) k k) (.slice none 0 0) (.int .i64 0)
  generalize hX : ((((W0.setCell ⟨w.heap.size, 0, none⟩ (.int .i64 0)).setCell ⟨w.heap.size, 1, none⟩ (.slice (some ⟨g1, 0, none⟩) k k)).setCell ⟨w.heap.size, 2, none⟩ (.slice (some ⟨g2, 0, none⟩) k k)).setCell ⟨w.heap.size, 3, none⟩ (.slice none 0 0)).setCell ⟨w.heap.size, 4, none⟩ (.int .i64 0) = X at *
  have hsX : X.heap.size = w.heap.size + 1 := by rw [← hX]; simp only [World.size_setCell]; exact hs
  have b2 : Below X.heap.size X ((X.alloc (.cells mc 3)).alloc (.cells mc 3)).drew := (below_one (below_new _ _) _).drew
  have q1 : ((X.alloc (.cells mc 3)).alloc (.cells mc 3)).drew.heap[w.heap.size + 1]? = some (.cells mc 3 (0, 0)) := by
    rw [← hsX]
    exact (Below.heap_alloc _ _ _ (by simp)).trans (heap_alloc_last X _)
  have q2 : ((X.alloc (.cells mc 3)).alloc (.cells mc 3)).drew.heap[w.heap.size + 1 + 1]? = some (.cells mc 3 (0, 0)) := by
    have := heap_alloc_last (X.alloc (.cells mc 3)) (.cells mc 3)
    rw [World.size_alloc, hsX] at this
    exact this
  refine ⟨hp.below b2, ?_, Below.next hbp b2⟩
  rcases hg with ⟨rfl, rfl⟩ | ⟨rfl, rfl⟩
  · exact RC.made hm q1 q2 (by omega) (by omega)
  · exact RC.made hm q2 q1 (by omega) (by omega)
set_option maxRecDepth 100000 in
set_option maxHeartbeats 4000000 in
theorem RNew_any (k : Nat) (h1 : 1 ≤ k) (h2 : k ≤ 64) (w : World) : Calls Try.prog 38 #[.int .i64 (k : Int)] w (RNewOut w k) := by
  obtain ⟨i1, hi1, hy0, hy1, hy2⟩ := info_parts info_int
  have hmk : ∀ W : World, (Instr.makeSlice 38 (.int .i64 (k : Int)) (.int .i64 (k : Int))).run Try.prog W = .ok (.slice (some ⟨W.heap.size, 0, none⟩) k k) (W.alloc (.cells (madeCells (Value.int .i64 0).cells k) 3)) := fun W => by
    have := run_make (P := Try.prog) W 38 3 i1 _ Try.underlying38 hi1 hy0 .i64 .i64 (k : Int) (k : Int) (by omega) (Int.le_refl _) (by rw [hy2]; omega) (by omega)
    rw [hy1] at this
    simpa using this
  have k1 : ¬ (k : Int) < 1 := by omega
  have k2 : ¬ (64 : Int) < (k : Int) := by omega
  obtain ⟨mc, hmc⟩ : ∃ mc, mc = madeCells (Value.int .i64 0).cells k := ⟨_, rfl⟩
  rw [← hmc] at hmk
  have HM := Lib.hid hmc
  clear hmc
  have f1 := Five.new w (.int .i64 0) (.slice none 0 0) (.slice none 0 0) (.slice none 0 0) (.int .i64 0) 69
  have HB := Lib.hid (below_new w (.cells #[.int .i64 0, .slice none 0 0, .slice none 0 0, .slice none 0 0, .int .i64 0] 69))
  go_enter Try.func38, Try.ntmps38
  go_upto_region 3 with (fail)
  obtain ⟨W0, hW0⟩ : ∃ W0, W0 = w.alloc (.cells #[.int .i64 0, .slice none 0 0, .slice none 0 0, .slice none 0 0, .int .i64 0] 69) := ⟨_, rfl⟩
  rw [← hW0] at f1 HB ⊢
  have hs0 : W0.heap.size = w.heap.size + 1 := by rw [hW0]; simp
  clear hW0
  have HE := Lib.hid (fun g1 g2 hg => RNewEnd (k := k) (g1 := g1) (g2 := g2) HM.out f1 HB.out hs0 hg)
  obtain ⟨_, x0, x1, x2, x3, x4, y0, y1, y2, y3, y4⟩ := f1
  go_region
  all_goals
    first
      | (with_reducible refine exit_is2 ((((((((W0.setCell ⟨w.heap.size, 0, none⟩ (.int .i64 0)).setCell ⟨w.heap.size, 1, none⟩ (.slice (some ⟨w.heap.size + 1, 0, none⟩) k k)).setCell ⟨w.heap.size, 2, none⟩ (.slice (some ⟨w.heap.size + 1 + 1, 0, none⟩) k k)).setCell ⟨w.heap.size, 3, none⟩ (.slice none 0 0)).setCell ⟨w.heap.size, 4, none⟩ (.int .i64 0)).alloc (.cells mc 3)).alloc (.cells mc 3)).drew) ?_)
        have HF := Lib.hid (HE.out (w.heap.size + 1) (w.heap.size + 1 + 1) (.inl ⟨rfl, rfl⟩))
        generalize (((((((W0.setCell ⟨w.heap.size, 0, none⟩ (.int .i64 0)).setCell ⟨w.heap.size, 1, none⟩ (.slice (some ⟨w.heap.size + 1, 0, none⟩) k k)).setCell ⟨w.heap.size, 2, none⟩ (.slice (some ⟨w.heap.size + 1 + 1, 0, none⟩) k k)).setCell ⟨w.heap.size, 3, none⟩ (.slice none 0 0)).setCell ⟨w.heap.size, 4, none⟩ (.int .i64 0)).alloc (.cells mc 3)).alloc (.cells mc 3)).drew = X at HF ⊢
        go_wp2
        obtain ⟨⟨_, q0, q1, q2, q3, q4, _, _, _, _, _⟩, hr, hb⟩ := HF.out
        exact bodyPost_ret (v := .tuple #[.agg #[.int .i64 0, .slice (some ⟨w.heap.size + 1, 0, none⟩) k k, .slice (some ⟨w.heap.size + 1 + 1, 0, none⟩) k k, .slice none 0 0, .int .i64 0], .int .i64 0]) (by simp [results, Try.results38, go_sem, q0, q1, q2, q3, q4]) rfl ⟨_, rfl, hr, hb⟩
      | (with_reducible refine exit_is2 ((((((((W0.setCell ⟨w.heap.size, 0, none⟩ (.int .i64 0)).setCell ⟨w.heap.size, 1, none⟩ (.slice (some ⟨w.heap.size + 1 + 1, 0, none⟩) k k)).setCell ⟨w.heap.size, 2, none⟩ (.slice (some ⟨w.heap.size + 1, 0, none⟩) k k)).setCell ⟨w.heap.size, 3, none⟩ (.slice none 0 0)).setCell ⟨w.heap.size, 4, none⟩ (.int .i64 0)).alloc (.cells mc 3)).alloc (.cells mc 3)).drew) ?_)
        have HF := Lib.hid (HE.out (w.heap.size + 1 + 1) (w.heap.size + 1) (.inr ⟨rfl, rfl⟩))
        generalize (((((((W0.setCell ⟨w.heap.size, 0, none⟩ (.int .i64 0)).setCell ⟨w.heap.size, 1, none⟩ (.slice (some ⟨w.heap.size + 1 + 1, 0, none⟩) k k)).setCell ⟨w.heap.size, 2, none⟩ (.slice (some ⟨w.heap.size + 1, 0, none⟩) k k)).setCell ⟨w.heap.size, 3, none⟩ (.slice none 0 0)).setCell ⟨w.heap.size, 4, none⟩ (.int .i64 0)).alloc (.cells mc 3)).alloc (.cells mc 3)).drew = X at HF ⊢
        go_wp2
        obtain ⟨⟨_, q0, q1, q2, q3, q4, _, _, _, _, _⟩, hr, hb⟩ := HF.out
        exact bodyPost_ret (v := .tuple #[.agg #[.int .i64 0, .slice (some ⟨w.heap.size + 1 + 1, 0, none⟩) k k, .slice (some ⟨w.heap.size + 1, 0, none⟩) k k, .slice none 0 0, .int .i64 0], .int .i64 0]) (by simp [results, Try.results38, go_sem, q0, q1, q2, q3, q4]) rfl ⟨_, rfl, hr, hb⟩
end Go.Proofs.Ytdgmcaehadigaaa
