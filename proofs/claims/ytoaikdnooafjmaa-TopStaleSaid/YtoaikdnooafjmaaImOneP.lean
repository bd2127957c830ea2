/- One at most: what a put and a drop change, plainly; a map beside boxes of any cells. -/
import Derived.Test.YtoaikdnooafjmaaImJ
namespace Go.Proofs.Ytoaikdnooafjmaa
open Go.RowKit

/-- What a deed to the id k makes of a map. -/
structure TurnedI (x y : IX) (k : Int) (ch : Bool) : Prop where
  ver : y.v = x.v + ch.toNat
  same : ch = false → y = x
  oth : ∀ j, j ≠ k → imGet y j = imGet x j ∧ imHas y j = imHas x j
theorem TurnedI.none (x : IX) (k : Int) : TurnedI x x k false := ⟨rfl, fun _ => rfl, fun _ _ => ⟨rfl, rfl⟩⟩
section
variable {x : IX} {k : Int} {m : Nat}
theorem put_had (h : imHas x k = true) (r : RefT) : imPut x k r = x := by unfold imPut; rw [if_pos h]
theorem drop_not (h : imHas x k = false) : imDrop x k = x := by unfold imDrop; rw [if_neg (by rw [h]; decide)]
theorem get_not (h : imHas x k = false) : imGet x k = (0, 0) := by unfold imGet; rw [imHas_false.1 h]; rfl
theorem put_not (h : imHas x k = false) (r : RefT) : TurnedI x (imPut x k r) k true ∧ imHas (imPut x k r) k = true ∧ imGet (imPut x k r) k = r ∧ (imPut x k r).L.length = x.L.length + 1 := by
  have e : imPut x k r = ⟨x.n, insI x.L k r, x.v + 1⟩ := by unfold imPut; rw [if_neg (by rw [h]; decide)]
  have hn := imHas_false.1 h
  rw [e]
  refine ⟨⟨rfl, fun e => (by cases e), fun j hj => ?_⟩, ?_, ?_, insI_len _ _ _⟩
  · unfold imGet imHas
    simp only [findI_ins r hn, if_neg hj]
    exact ⟨trivial, trivial⟩
  · unfold imHas
    simp only [findI_ins r hn, if_pos]
    rfl
  · unfold imGet
    simp only [findI_ins r hn, if_pos]
    rfl
theorem drop_had (h : imHas x k = true) : TurnedI x (imDrop x k) k true ∧ imHas (imDrop x k) k = false := by
  have e : imDrop x k = ⟨x.n, delI x.L k, x.v + 1⟩ := by unfold imDrop; rw [if_pos h]
  rw [e]
  refine ⟨⟨rfl, fun e => (by cases e), fun j hj => ?_⟩, ?_⟩
  · unfold imGet imHas
    simp only [findI_del, if_neg hj]
    exact ⟨trivial, trivial⟩
  · unfold imHas
    simp only [findI_del, if_pos]
    rfl
end

/-- A map, and boxes of the law's: which block, and what it holds. -/
def BoxC (L : List (Nat × List Value)) (b : Nat) : Prop := ∃ p ∈ L, p.1 = b
def IC (w0 : World) (m B bs : Nat) (bm : Nat → Nat) (n : Nat) (x : IX) (L : List (Nat × List Value)) (w : World) : Prop := IJ w0 m B bs bm n x (BoxC L) w ∧ ∀ p ∈ L, ∀ (j : Nat) (v : Value), p.2[j]? = some v → w.cell? ⟨p.1, j, none⟩ = some v
section
variable {w0 w w' : World} {m m' B bs n : Nat} {bm : Nat → Nat} {x y : IX} {L L' : List (Nat × List Value)}
theorem IC.keep (h : IC w0 m B bs bm n x L w) (hj : IJ w0 m' B bs bm n y (BoxC L) w') (hk : KeepI (BoxC L) w w') : IC w0 m' B bs bm n y L w' :=
  ⟨hj, fun p hp j v hv => (World.cell?_of_block (w := w) (hk p.1 ⟨p, hp, rfl⟩)).trans (h.2 p hp j v hv)⟩
theorem IC.later (h : IC w0 m B bs bm n x L w) (hb : Below w.heap.size w w') : IC w0 m B bs bm n x L w' := h.keep (h.1.later hb) fun b e => hb.block b (h.1.lt e).2
theorem IC.sub (h : IC w0 m B bs bm n x L w) (hs : ∀ p ∈ L', p ∈ L) : IC w0 m B bs bm n x L' w := ⟨h.1.sub fun _ ⟨p, hp, e⟩ => ⟨p, hs p hp, e⟩, fun p hp => h.2 p (hs p hp)⟩
theorem IC.more (h : IC w0 m B bs bm n x L w) (hm : m ≤ m') : IC w0 m' B bs bm n x L w := ⟨h.1.more hm, h.2⟩
theorem IC.box (h : IC w0 m B bs bm n x L w) (vs : List Value) (t : TypeId) : IC w0 m B bs bm n x ((w.heap.size, vs) :: L) (w.alloc (.cells vs.toArray t)) := by
  have hb := below_new w (.cells vs.toArray t)
  have hh := heap_alloc_last w (.cells vs.toArray t)
  refine ⟨h.1.write (M := fun _ => False) (Chg.of_below hb) (fun _ e => e.elim) (fun b e => ?_), fun p hp j v hv => ?_⟩
  · obtain ⟨p, hp, rfl⟩ := e
    rcases List.mem_cons.1 hp with rfl | hp
    · exact .inr ⟨Nat.le_refl _, by simp⟩
    · exact .inl ⟨p, hp, rfl⟩
  · rcases List.mem_cons.1 hp with rfl | hp
    · exact (cell_of_row _ _ j _ t (0, 0) hh).trans (by simpa using hv)
    · have hlt := (h.1.lt ⟨p, hp, rfl⟩).2
      exact (hb.cell (p := ⟨p.1, j, none⟩) hlt).trans (h.2 p hp j v hv)
end

end Go.Proofs.Ytoaikdnooafjmaa
