/- edges.spot, Far, by contract. -/
import Derived.Test.YtajmnhnepoomjaaEdFar
import Derived.Deep.RegionWith
namespace Go.Proofs.Ytajmnhnepoomjaa
open Go.RowKit Go.Shelf

/-- The squared distance of a vector to an item. -/
def distI (v : List Int) (z : ItT) : Int := satN (distN v z.vec (max v.length z.vec.length))
/-- An item's spot, seen from a vector. -/
def spotOf (v : List Int) (slot : Int) (z : ItT) : SpotT := ((distI v z, z.id), slot)

/-- What edges.spot has: its item, and its result, each in a block. -/
structure SpS (w W : World) (V : Option Addr) (vs : List Int) (id : Int) (ZA : Option Addr) (zv : List Int) (zc : Nat) : Prop where
  hb : Below w.heap.size w W
  sz : w.heap.size + 2 ≤ W.heap.size
  x0 : W.cell? ⟨w.heap.size, 0, none⟩ = some (.int .u64 id)
  x1 : W.cell? ⟨w.heap.size, 1, none⟩ = some (.slice ZA zv.length zc)
  y0 : W.cell? ⟨w.heap.size + 1, 0, none⟩ = some (.int .u64 0)
  y1 : W.cell? ⟨w.heap.size + 1, 1, none⟩ = some (.int .u64 0)
  y2 : W.cell? ⟨w.heap.size + 1, 2, none⟩ = some (.int .i64 0)
  f0 : W.frozen? ⟨w.heap.size + 1, 0, none⟩ = false
  f1 : W.frozen? ⟨w.heap.size + 1, 1, none⟩ = false
  f2 : W.frozen? ⟨w.heap.size + 1, 2, none⟩ = false
  va : VecB W w.heap.size V vs
  vb : VecB W w.heap.size ZA zv
section
variable {w W W' : World} {V : Option Addr} {vs : List Int} {id : Int} {ZA : Option Addr} {zv : List Int} {zc : Nat}
theorem SpS.grow (h : SpS w W V vs id ZA zv zc) (hb : Below W.heap.size W W') : SpS w W' V vs id ZA zv zc :=
  have s := h.sz
  have c := fun b o (hlt : b < w.heap.size + 2) => hb.cell (p := ⟨b, o, none⟩) (show b < W.heap.size by omega)
  have f := fun b o (hlt : b < w.heap.size + 2) => hb.frozen (p := ⟨b, o, none⟩) (show b < W.heap.size by omega)
  ⟨h.hb.trans (hb.mono (by omega)), Nat.le_trans s hb.size, (c _ _ (by omega)).trans h.x0, (c _ _ (by omega)).trans h.x1, (c _ _ (by omega)).trans h.y0, (c _ _ (by omega)).trans h.y1, (c _ _ (by omega)).trans h.y2,
    (f _ _ (by omega)).trans h.f0, (f _ _ (by omega)).trans h.f1, (f _ _ (by omega)).trans h.f2, h.va.below (hb.mono (by omega)), h.vb.below (hb.mono (by omega))⟩
theorem SpS.drew (h : SpS w W V vs id ZA zv zc) : SpS w W.drew V vs id ZA zv zc := h.grow (below_draws _ 1 _)
theorem SpS.all (h : SpS w W V vs id ZA zv zc) : SpS w W V vs id ZA zv zc ∧ W.cell? ⟨w.heap.size, 0, none⟩ = some (.int .u64 id) ∧ W.cell? ⟨w.heap.size, 1, none⟩ = some (.slice ZA zv.length zc) ∧ W.cell? ⟨w.heap.size + 1, 0, none⟩ = some (.int .u64 0) ∧ W.cell? ⟨w.heap.size + 1, 1, none⟩ = some (.int .u64 0) ∧ W.cell? ⟨w.heap.size + 1, 2, none⟩ = some (.int .i64 0) ∧
    W.frozen? ⟨w.heap.size + 1, 0, none⟩ = false ∧ W.frozen? ⟨w.heap.size + 1, 1, none⟩ = false ∧ W.frozen? ⟨w.heap.size + 1, 2, none⟩ = false := ⟨h, h.x0, h.x1, h.y0, h.y1, h.y2, h.f0, h.f1, h.f2⟩
theorem SpS.dist (h : SpS w W V vs id ZA zv zc) (cv : Nat) : Calls Try.prog 21 #[.slice V vs.length cv, .slice ZA zv.length zc] W fun e W' => e = .returned (.int .u64 (satN (distN vs zv (max vs.length zv.length)))) ∧ SpS w W' V vs id ZA zv zc :=
  (VecB.dist h.va h.vb (by have := h.sz; omega) cv zc).mono fun _ _ ⟨he, hb⟩ => ⟨he, h.grow hb⟩
theorem SpS.of_new (hV : VecB w w.heap.size V vs) (hZ : VecB w w.heap.size ZA zv) (tg : Int) (t t' : TypeId) : SpS w ((w.alloc (.cells #[.int .u64 id, .slice ZA zv.length zc, .int .u64 tg] t)).alloc (.cells #[.int .u64 0, .int .u64 0, .int .i64 0] t')) V vs id ZA zv zc :=
  have hb : Below w.heap.size w ((w.alloc (.cells #[.int .u64 id, .slice ZA zv.length zc, .int .u64 tg] t)).alloc (.cells #[.int .u64 0, .int .u64 0, .int .i64 0] t')) := ((Below.refl _ w).alloc (Nat.le_refl _) _).alloc (by simp) _
  ⟨hb, by simp, by go_cell, by go_cell, by go_cell, by go_cell, by go_cell, by go_simp, by go_simp, by go_simp, hV.below hb, hZ.below hb⟩

theorem SpS.out (h : SpS w W V vs id ZA zv zc) : W.cell? ⟨w.heap.size, 0, none⟩ = some (.int .u64 id) ∧ W.cell? ⟨w.heap.size, 1, none⟩ = some (.slice ZA zv.length zc) ∧ W.cell? ⟨w.heap.size + 1, 0, none⟩ = some (.int .u64 0) ∧ W.cell? ⟨w.heap.size + 1, 1, none⟩ = some (.int .u64 0) ∧ W.cell? ⟨w.heap.size + 1, 2, none⟩ = some (.int .i64 0) ∧
    W.frozen? ⟨w.heap.size + 1, 0, none⟩ = false ∧ W.frozen? ⟨w.heap.size + 1, 1, none⟩ = false ∧ W.frozen? ⟨w.heap.size + 1, 2, none⟩ = false ∧ Below w.heap.size w W := ⟨h.x0, h.x1, h.y0, h.y1, h.y2, h.f0, h.f1, h.f2, h.hb⟩
end

/-- A struct of three cells that is stored into its block. -/
theorem set3_cells {W : World} {b : Nat} {x0 x1 x2 : Value} (h0 : W.cell? ⟨b, 0, none⟩ = some x0) (h1 : W.cell? ⟨b, 1, none⟩ = some x1) (h2 : W.cell? ⟨b, 2, none⟩ = some x2) (u0 u1 u2 : Value) :
    (((W.setCell ⟨b, 0, none⟩ u0).setCell ⟨b, 1, none⟩ u1).setCell ⟨b, 2, none⟩ u2).cell? ⟨b, 0, none⟩ = some u0 ∧
    (((W.setCell ⟨b, 0, none⟩ u0).setCell ⟨b, 1, none⟩ u1).setCell ⟨b, 2, none⟩ u2).cell? ⟨b, 1, none⟩ = some u1 ∧
    (((W.setCell ⟨b, 0, none⟩ u0).setCell ⟨b, 1, none⟩ u1).setCell ⟨b, 2, none⟩ u2).cell? ⟨b, 2, none⟩ = some u2 :=
  ⟨(World.cell?_setCell_other _ _ _ _ (by simp)).trans ((World.cell?_setCell_other _ _ _ _ (by simp)).trans (World.cell?_setCell_same _ _ _ h0)),
    (World.cell?_setCell_other _ _ _ _ (by simp)).trans (World.cell?_setCell_same _ _ _ ((World.cell?_setCell_other _ _ _ _ (by simp)).trans h1)),
    World.cell?_setCell_same _ _ _ ((World.cell?_setCell_other _ _ _ _ (by simp)).trans ((World.cell?_setCell_other _ _ _ _ (by simp)).trans h2))⟩
theorem Below.set3 {w W : World} {B b : Nat} (h : Below B w W) (hb : B ≤ b) (u0 u1 u2 : Value) : Below B w (((W.setCell ⟨b, 0, none⟩ u0).setCell ⟨b, 1, none⟩ u1).setCell ⟨b, 2, none⟩ u2) :=
  ((h.setCell (p := ⟨b, 0, none⟩) hb _).setCell (p := ⟨b, 1, none⟩) hb _).setCell (p := ⟨b, 2, none⟩) hb _

end Go.Proofs.Ytajmnhnepoomjaa
