/- A region that draws its order, in which one operation lays a box, and one, behind all, fills it. -/
import Derived.Test.YtoaikdnooafjmaaOnce
import Derived.Test.YtoaikdnooafjmaaLits
import Derived.Deep.WholeRow
namespace Go.Proofs.Ytoaikdnooafjmaa
open Go.RowKit

theorem Drawn.frozen {w w' : World} (h : Drawn w w') (p : Addr) : w'.frozen? p = w.frozen? p := by
  obtain ⟨m, rfl⟩ := h
  rfl
theorem Drawn.alloc {w w' : World} (h : Drawn w w') (o : Obj) : Drawn (w.alloc o) (w'.alloc o) := by
  obtain ⟨m, rfl⟩ := h
  exact ⟨m, rfl⟩
theorem cellX_lt {w : World} {p : Addr} {v : Value} (h : w.cell? p = some v) : p.block < w.heap.size := by
  unfold World.cell? at h
  cases hb : w.heap[p.block]? with
  | none => rw [hb] at h; simp at h
  | some o => exact (Array.getElem?_eq_some_iff.1 hb).1
/-- A box of two cells. -/
def Two (W : World) (b : Nat) (u v : Value) : Prop := (W.cell? ⟨b, 0, none⟩ = some u ∧ W.cell? ⟨b, 1, none⟩ = some v) ∧ W.frozen? ⟨b, 0, none⟩ = false ∧ W.frozen? ⟨b, 1, none⟩ = false
theorem Two.new (W : World) (u v : Value) (t : TypeId) : Two (W.alloc (.cells #[u, v] t)) W.heap.size u v := by
  have hh := heap_alloc_last W (.cells #[u, v] t)
  exact ⟨⟨cell_of_row _ _ 0 _ t (0, 0) hh, cell_of_row _ _ 1 _ t (0, 0) hh⟩, by simp only [World.frozen?]; rw [hh]; simp, by simp only [World.frozen?]; rw [hh]; simp⟩
theorem Two.below {W W' : World} {b : Nat} {u v : Value} (h : Two W b u v) (hb : Below W.heap.size W W') : Two W' b u v := by
  have hlt := cellX_lt h.1.1
  exact ⟨⟨(hb.cell (p := ⟨b, 0, none⟩) hlt).trans h.1.1, (hb.cell (p := ⟨b, 1, none⟩) hlt).trans h.1.2⟩, (hb.frozen (p := ⟨b, 0, none⟩) hlt).trans h.2.1, (hb.frozen (p := ⟨b, 1, none⟩) hlt).trans h.2.2⟩
theorem Two.drawn {W W' : World} {b : Nat} {u v : Value} (h : Two W b u v) (hd : Drawn W W') : Two W' b u v := h.below (hd.below _)
theorem Two.put {W : World} {b : Nat} {u v : Value} (h : Two W b u v) (u' v' : Value) : Two ((W.setCell ⟨b, 0, none⟩ u').setCell ⟨b, 1, none⟩ v') b u' v' :=
  ⟨⟨(World.cell?_setCell_other _ _ _ _ (fun e => by injection e with _ e; cases e)).trans (World.cell?_setCell_same _ _ _ h.1.1), World.cell?_setCell_same _ _ _ ((World.cell?_setCell_other _ _ _ _ (fun e => by injection e with _ e; cases e)).trans h.1.2)⟩, by simp only [World.frozen?_setCell]; exact h.2.1, by simp only [World.frozen?_setCell]; exact h.2.2⟩
theorem bl_set2 {B : Nat} {X W : World} {b : Nat} (h : Below B X W) (hb : B ≤ b) (u v : Value) : Below B X ((W.setCell ⟨b, 0, none⟩ u).setCell ⟨b, 1, none⟩ v) := (h.setCell (p := ⟨b, 0, none⟩) hb _).setCell (p := ⟨b, 1, none⟩) hb _

/-- Operation A lays the box (W1: the memory with it), S fills it (F), all else draws at most. -/
def JBox (W0 W1 : World) (F : World → Prop) (A S : Nat) (L : Nat → Bool) (W : World) : Prop := (L S = true → F W) ∧ (L S = false → L A = true → Drawn W1 W) ∧ (L S = false → L A = false → Drawn W0 W)
section
variable {W0 W1 W W' : World} {F : World → Prop} {A S i : Nat} {L : Nat → Bool}
theorem JBox.start {w : World} (A S : Nat) (F : World → Prop) (W1 : World) (h : Drawn W0 w) : JBox W0 W1 F A S (fun _ => false) w := ⟨fun e => (by cases e), fun _ e => (by cases e), fun _ _ => h⟩
theorem JBox.read (h : JBox W0 W1 F A S L W) (hA : i ≠ A) (hS : i ≠ S) : JBox W0 W1 F A S (updL L i) W := by
  unfold JBox updL at *
  rw [if_neg (show ¬ S = i from fun e => hS e.symm), if_neg (show ¬ A = i from fun e => hA e.symm)]
  exact h
theorem JBox.step (h : JBox W0 W1 F A S L W) (hA : i ≠ A) (hS : i ≠ S) (hls : L S = false) (hd : Drawn W W') : JBox W0 W1 F A S (updL L i) W' := by
  unfold JBox updL at *
  rw [if_neg (show ¬ S = i from fun e => hS e.symm), if_neg (show ¬ A = i from fun e => hA e.symm)]
  exact ⟨fun e => (by rw [hls] at e; cases e), fun _ e => (h.2.1 hls e).trans hd, fun _ e => (h.2.2 hls e).trans hd⟩
theorem JBox.alloc (h : JBox W0 W1 F A S L W) (hAS : A ≠ S) (hls : L S = false) (hla : L A = false) {o : Obj} (hW : W1 = W0.alloc o) : JBox W0 W1 F A S (updL L A) (W.alloc o) ∧ W.heap.size = W0.heap.size := by
  have hd := h.2.2 hls hla
  refine ⟨?_, hd.size⟩
  unfold JBox updL
  rw [if_pos rfl, if_neg (show ¬ S = A from fun e => hAS e.symm)]
  refine ⟨fun e => (by rw [hls] at e; cases e), fun _ _ => ?_, fun _ e => (by cases e)⟩
  rw [hW]
  exact hd.alloc o
theorem JBox.store (h : JBox W0 W1 F A S L W) (_hAS : A ≠ S) (hls : L S = false) (hla : L A = true) (hF : Drawn W1 W → F W') : JBox W0 W1 F A S (updL L S) W' := by
  have hd := h.2.1 hls hla
  unfold JBox updL
  rw [if_pos rfl]
  exact ⟨fun _ => hF hd, fun e => (by cases e), fun e => (by cases e)⟩
theorem JBox.below {B : Nat} (h : JBox W0 W1 F A S L W) {X : World} (h0 : Below B X W0) (h1 : Below B X W1) (hF : ∀ W, F W → Below B X W) : Below B X W := by
  cases hs : L S with
  | true => exact hF W (h.1 hs)
  | false =>
    cases ha : L A with
    | true => exact h1.trans ((h.2.1 hs ha).below _)
    | false => exact h0.trans ((h.2.2 hs ha).below _)
end

/-- One operation, M, turns the memory (F: what it is then), all else draws at most. -/
def JDraw (W0 : World) (F : World → Prop) (M : Nat) (L : Nat → Bool) (W : World) : Prop := (L M = false → Drawn W0 W) ∧ (L M = true → F W)
section
variable {W0 W W' : World} {F : World → Prop} {M i : Nat} {L : Nat → Bool}
theorem JDraw.start {w : World} (F : World → Prop) (M : Nat) (h : Drawn W0 w) : JDraw W0 F M (fun _ => false) w := ⟨fun _ => h, fun e => (by cases e)⟩
theorem JDraw.read (h : JDraw W0 F M L W) (hM : i ≠ M) : JDraw W0 F M (updL L i) W := by
  unfold JDraw updL at *
  rw [if_neg (show ¬ M = i from fun e => hM e.symm)]
  exact h
theorem JDraw.step (h : JDraw W0 F M L W) (hM : i ≠ M) (hl : L M = false) (hd : Drawn W W') : JDraw W0 F M (updL L i) W' := by
  unfold JDraw updL at *
  rw [if_neg (show ¬ M = i from fun e => hM e.symm)]
  exact ⟨fun e => (h.1 e).trans hd, fun e => (by rw [hl] at e; cases e)⟩
theorem JDraw.turn (hF : F W') : JDraw W0 F M (updL L M) W' := by
  unfold JDraw updL
  rw [if_pos rfl]
  exact ⟨fun e => (by cases e), fun _ => hF⟩
end

end Go.Proofs.Ytoaikdnooafjmaa
