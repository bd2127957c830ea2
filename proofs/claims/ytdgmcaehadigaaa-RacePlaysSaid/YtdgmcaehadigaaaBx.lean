/- A box: a row of cells in one block, told by a list. -/
import Derived.Test.YtdgmcaehadigaaaLits
import Derived.Deep.WholeRow
import Derived.Laws.Rows
namespace Go.Proofs.Ytdgmcaehadigaaa
open Go.RowKit

structure Bx (W : World) (b : Nat) (vs : List Value) : Prop where
  lt : b < W.heap.size
  c : ∀ j v, vs[j]? = some v → W.cell? ⟨b, j, none⟩ = some v
  f : ∀ j, W.frozen? ⟨b, j, none⟩ = false
section
variable {w W W' : World} {b : Nat} {vs : List Value}
theorem Bx.new (W : World) (vs : List Value) (t : TypeId) : Bx (W.alloc (.cells vs.toArray t)) W.heap.size vs := by
  have hh := heap_alloc_last W (.cells vs.toArray t)
  exact ⟨by simp, fun j v hj => (cell_of_row _ _ j _ t (0, 0) hh).trans (by simpa using hj), fun j => by simp only [World.frozen?]; rw [hh]; simp⟩
theorem Bx.below (h : Bx W b vs) (hb : Below W.heap.size W W') : Bx W' b vs :=
  ⟨Nat.lt_of_lt_of_le h.lt hb.size, fun j v hj => (hb.cell (p := ⟨b, j, none⟩) h.lt).trans (h.c j v hj), fun j => (hb.frozen (p := ⟨b, j, none⟩) h.lt).trans (h.f j)⟩
theorem Bx.set (h : Bx W b vs) (k : Nat) (v : Value) : Bx (W.setCell ⟨b, k, none⟩ v) b (vs.set k v) := by
  refine ⟨by rw [World.size_setCell]; exact h.lt, fun j u hj => ?_, fun j => by rw [World.frozen?_setCell]; exact h.f j⟩
  by_cases e : k = j
  · subst e
    have hk : k < vs.length := by
      have := (List.getElem?_eq_some_iff.1 hj).1
      rwa [List.length_set] at this
    rw [List.getElem?_set_self hk] at hj
    injection hj with hj
    rw [← hj]
    exact World.cell?_setCell_same _ _ _ (h.c k _ (List.getElem?_eq_getElem hk))
  · rw [List.getElem?_set_ne e] at hj
    rw [World.cell?_setCell_other _ _ _ _ (fun e2 => e (by injection e2))]
    exact h.c j u hj
theorem Bx.other (h : Bx W b vs) {a : Addr} (ha : a.block ≠ b) (v : Value) : Bx (W.setCell a v) b vs :=
  ⟨by rw [World.size_setCell]; exact h.lt, fun j u hj => (World.cell?_setCell_other _ _ _ _ (fun e => ha (by rw [e]))).trans (h.c j u hj), fun j => by rw [World.frozen?_setCell]; exact h.f j⟩
theorem Bx.drew (h : Bx W b vs) : Bx W.drew b vs := ⟨h.lt, h.c, h.f⟩
theorem Bx.put3 {u0 u1 u2 : Value} (h : Bx W b [u0, u1, u2]) (v0 v1 v2 : Value) : Bx (((W.setCell ⟨b, 0, none⟩ v0).setCell ⟨b, 1, none⟩ v1).setCell ⟨b, 2, none⟩ v2) b [v0, v1, v2] := ((h.set 0 v0).set 1 v1).set 2 v2
theorem bl1 {B b k : Nat} (h : Below B w W) (hb : B ≤ b) (v : Value) : Below B w (W.setCell ⟨b, k, none⟩ v) := h.setCell (p := ⟨b, k, none⟩) hb v
theorem below_put3 {B b : Nat} (h : Below B w W) (hb : B ≤ b) (v0 v1 v2 : Value) : Below B w (((W.setCell ⟨b, 0, none⟩ v0).setCell ⟨b, 1, none⟩ v1).setCell ⟨b, 2, none⟩ v2) := bl1 (bl1 (bl1 h hb v0) hb v1) hb v2
/-- A slice reads as its list, in blocks other than the one that is written. -/
theorem rd_set1 {A : Option Addr} {L : List Int} (h : Rd (Value.int .i64) W W.heap.size A L) {a : Addr} {v : Value} (ha : ∀ g o, A = some ⟨g, o, none⟩ → a.block ≠ g) : Rd (Value.int .i64) (W.setCell a v) (W.setCell a v).heap.size A L := fun k z hk => by
  obtain ⟨b, off, e1, e2, e3⟩ := h k z hk
  exact ⟨b, off, e1, by rw [World.size_setCell]; exact e2, (World.cell?_setCell_other _ _ _ _ (fun e => ha b off e1 (by rw [e]))).trans e3⟩
end

end Go.Proofs.Ytdgmcaehadigaaa
