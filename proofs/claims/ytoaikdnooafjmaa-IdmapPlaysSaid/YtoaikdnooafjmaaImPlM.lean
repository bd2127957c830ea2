/- The map of ids beside the document's, in memory (IdmapPlays). -/
import Derived.Test.YtoaikdnooafjmaaImJ
import Derived.Test.YtoaikdnooafjmaaRefIm2
namespace Go.Proofs.Ytoaikdnooafjmaa
open Go.RowKit

/-- A map x, the document's map y as the value V, the box X of the document's (cs: what it holds), and other boxes of the law's. -/
structure MP (w0 : World) (m B cs0 : Nat) (cm : Nat → Nat) (n X : Nat) (x y : IX) (V : Value) (cs : List Value) (D : List (Nat × List Value)) (w : World) : Prop where
  ij : IJ w0 m B cs0 cm n x (fun b => (b = X ∨ ∃ p ∈ D, p.1 = b) ∨ VBm V b) w
  rm : RM w V y
  bx : Bx w X cs
  bs : ∀ p ∈ D, Bx w p.1 p.2 ∧ p.1 ≠ X
  nx : ¬ VBm V X
theorem Bx.chgI {M : Nat → Prop} {W W' : World} {b : Nat} {vs : List Value} (h : Bx W b vs) (hc : Chg M W W') (hb : ¬ M b) : Bx W' b vs :=
  ⟨Nat.lt_of_lt_of_le h.lt hc.size, fun j v hj => (hc.cell (p := ⟨b, j, none⟩) h.lt hb).trans (h.c j v hj), fun j => (hc.frozen (p := ⟨b, j, none⟩) h.lt hb).trans (h.f j)⟩
section
variable {w0 w w' : World} {n m m' B cs0 X : Nat} {cm : Nat → Nat} {x x' y y' : IX} {V V' : Value} {cs cs' : List Value} {D D' : List (Nat × List Value)}
theorem MP.below0 (h : MP w0 m B cs0 cm n X x y V cs D w) : Below w0.heap.size w0 w := h.ij.bel
theorem MP.more (h : MP w0 m B cs0 cm n X x y V cs D w) (hm : m ≤ m') : MP w0 m' B cs0 cm n X x y V cs D w := { h with ij := h.ij.more hm }
theorem MP.doc (h : MP w0 m B cs0 cm n X x y V cs D w) (hb : Below w.heap.size w w') (hr : RM w' V' y') (hv : ∀ b, VBm V' b → VBm V b ∨ w.heap.size ≤ b) : MP w0 m B cs0 cm n X x y' V' cs D w' :=
  ⟨h.ij.write (M := fun _ => False) (Chg.of_below hb) (fun _ e => e.elim) (fun b e => by
    rcases e with e | e
    · exact .inl (.inl e)
    · exact (hv b e).imp .inr (fun h2 => ⟨h2, hr.lt e⟩)), hr, h.bx.below hb, fun p hp => ⟨(h.bs p hp).1.below hb, (h.bs p hp).2⟩, fun e => (hv X e).elim h.nx (fun h2 => by have := h.bx.lt; omega)⟩
theorem MP.later (h : MP w0 m B cs0 cm n X x y V cs D w) (hb : Below w.heap.size w w') : MP w0 m B cs0 cm n X x y V cs D w' := h.doc hb (h.rm.later hb) (fun _ e => .inl e)
theorem MP.box (h : MP w0 m B cs0 cm n X x y V cs D w) (vs : List Value) (t : TypeId) : MP w0 m B cs0 cm n X x y V cs ((w.heap.size, vs) :: D) (w.alloc (.cells vs.toArray t)) := by
  have hb := below_new w (.cells vs.toArray t)
  refine ⟨h.ij.write (M := fun _ => False) (Chg.of_below hb) (fun _ e => e.elim) (fun b e => ?_), h.rm.later hb, h.bx.below hb, fun p hp => ?_, h.nx⟩
  · rcases e with (e | ⟨p, hp, e⟩) | e
    · exact .inl (.inl (.inl e))
    · rcases List.mem_cons.1 hp with rfl | hp
      · exact .inr ⟨by simp only at e; omega, by simp only at e; rw [World.size_alloc]; omega⟩
      · exact .inl (.inl (.inr ⟨p, hp, e⟩))
    · exact .inl (.inr e)
  · rcases List.mem_cons.1 hp with rfl | hp
    · exact ⟨Bx.new w vs t, by have := h.bx.lt; show w.heap.size ≠ X; omega⟩
    · exact ⟨(h.bs p hp).1.below hb, (h.bs p hp).2⟩
theorem MP.sub (h : MP w0 m B cs0 cm n X x y V cs D w) (hs : ∀ p ∈ D', p ∈ D) : MP w0 m B cs0 cm n X x y V cs D' w :=
  ⟨h.ij.sub fun b e => by
    rcases e with (e | ⟨p, hp, e⟩) | e
    · exact .inl (.inl e)
    · exact .inl (.inr ⟨p, hs p hp, e⟩)
    · exact .inr e, h.rm, h.bx, fun p hp => h.bs p (hs p hp), h.nx⟩
theorem MP.prog (h : MP w0 m B cs0 cm n X x y V cs D w) (hj : IJ w0 m' B cs0 cm n x' (fun b => (b = X ∨ ∃ p ∈ D, p.1 = b) ∨ VBm V b) w') (hk : KeepI (fun b => (b = X ∨ ∃ p ∈ D, p.1 = b) ∨ VBm V b) w w') : MP w0 m' B cs0 cm n X x' y V cs D w' := by
  have hlt : ∀ b, ((b = X ∨ ∃ p ∈ D, p.1 = b) ∨ VBm V b) → b < w'.heap.size := fun b e => (hj.lt e).2
  refine ⟨hj, h.rm.keep (fun b e => hk b (.inr e)) (fun b e => hlt b (.inr e)), ?_, fun p hp => ?_, h.nx⟩
  · have q := hk X (.inl (.inl rfl))
    exact ⟨hlt X (.inl (.inl rfl)), fun j v hj => (World.cell?_of_block (w := w) q).trans (h.bx.c j v hj), fun j => (World.frozen?_of_block (w := w) q).trans (h.bx.f j)⟩
  · have hJ : (p.1 = X ∨ ∃ q ∈ D, q.1 = p.1) ∨ VBm V p.1 := .inl (.inr ⟨p, hp, rfl⟩)
    have q := hk p.1 hJ
    have hb := (h.bs p hp).1
    exact ⟨⟨hlt _ hJ, fun j v hj => (World.cell?_of_block (w := w) q).trans (hb.c j v hj), fun j => (World.frozen?_of_block (w := w) q).trans (hb.f j)⟩, (h.bs p hp).2⟩
/-- The document's box is written. -/
theorem MP.setX {u0 u1 u2 : Value} (h : MP w0 m B cs0 cm n X x y V [u0, u1, u2] D w) (v0 v1 v2 : Value) : MP w0 m B cs0 cm n X x y V [v0, v1, v2] D (((w.setCell ⟨X, 0, none⟩ v0).setCell ⟨X, 1, none⟩ v1).setCell ⟨X, 2, none⟩ v2) := by
  have hc : Chg (fun b => b = X) w (((w.setCell ⟨X, 0, none⟩ v0).setCell ⟨X, 1, none⟩ v1).setCell ⟨X, 2, none⟩ v2) := Chg.setCell (M := fun b => b = X) (Chg.setCell (M := fun b => b = X) (Chg.setCell (M := fun b => b = X) Chg.refl rfl v0) rfl v1) rfl v2
  refine ⟨h.ij.write hc (fun b e => .inl (.inl e)) (fun b e => .inl e), h.rm.keep (fun b hb => hc.block b (h.rm.lt hb) (fun e => h.nx (e ▸ hb))) (fun b hb => Nat.lt_of_lt_of_le (h.rm.lt hb) hc.size), h.bx.put3 v0 v1 v2, fun p hp => ?_, h.nx⟩
  have hb := h.bs p hp
  exact ⟨hb.1.chgI hc hb.2, hb.2⟩
theorem MP.cell (h : MP w0 m B cs0 cm n X x y V cs D w) {p : Nat × List Value} (hp : p ∈ D) (j : Nat) {v : Value} (hv : p.2[j]? = some v) : w.cell? ⟨p.1, j, none⟩ = some v := (h.bs p hp).1.c j v hv
end


end Go.Proofs.Ytoaikdnooafjmaa
