/- Items in memory; edges.itemAt, spot, Far, by contract. -/
import Derived.Test.YtajmnhnepoomjaaRankIter
import Derived.Test.YtajmnhnepoomjaaVecDist
import Derived.Test.YtajmnhnepoomjaaEdInts
import Derived.Deep.RegionHeld3
import Derived.Handy
namespace Go.Proofs.Ytajmnhnepoomjaa
open Go.RowKit Go.Shelf

/-- An item, its vector in memory. -/
structure ItT where
  id : Int
  A : Option Addr
  vec : List Int
  cap : Nat
  tags : Int
/-- The item that is not there. -/
def noIt : ItT := ⟨0, none, [], 0, 0⟩
def itV (z : ItT) : Value := .agg #[.int .u64 z.id, .slice z.A z.vec.length z.cap, .int .u64 z.tags]
/-- A vector in memory, in blocks below B. -/
structure VecB (w : World) (B : Nat) (A : Option Addr) (zs : List Int) : Prop where
  rd : Rd (Value.int .i32) w B A zs
  len : zs.length ≤ 9223372036854775807
  all : Hid (∀ z ∈ zs, -2147483648 ≤ z ∧ z ≤ 2147483647)
theorem VecB.below {w w' : World} {B : Nat} {A : Option Addr} {zs : List Int} (h : VecB w B A zs) (hb : Below B w w') : VecB w' B A zs := ⟨h.rd.below hb, h.len, h.all⟩
theorem VecB.more {w : World} {B B' : Nat} {A : Option Addr} {zs : List Int} (h : VecB w B A zs) (hB : B ≤ B') : VecB w B' A zs := ⟨h.rd.more hB, h.len, h.all⟩
theorem VecB.nil {w : World} {B : Nat} {A : Option Addr} : VecB w B A [] := ⟨Rd.nil, by simp, by rw [Hid]; simp⟩
theorem VecB.dist {w : World} {B : Nat} {A A' : Option Addr} {xs ys : List Int} (hA : VecB w B A xs) (hB : VecB w B A' ys) (hw : B ≤ w.heap.size) (ca cb : Nat) :
    Calls Try.prog 21 #[.slice A xs.length ca, .slice A' ys.length cb] w fun e w' => e = .returned (.int .u64 (satN (distN xs ys (max xs.length ys.length)))) ∧ Below w.heap.size w w' :=
  Dist_any A A' xs ys ca cb w (hA.rd.more hw) (hB.rd.more hw) hA.len hB.len hA.all hB.all

/-- Items in memory, in blocks below B. -/
def ItemsAt (w : World) (B : Nat) (A : Option Addr) (zs : List ItT) : Prop :=
  ∀ k z, zs[k]? = some z → (∃ b off, A = some ⟨b, off, none⟩ ∧ b < B ∧ w.cell? ⟨b, off + k * 3, none⟩ = some (.int .u64 z.id) ∧ w.cell? ⟨b, off + k * 3 + 1, none⟩ = some (.slice z.A z.vec.length z.cap) ∧ w.cell? ⟨b, off + k * 3 + 2, none⟩ = some (.int .u64 z.tags)) ∧ VecB w B z.A z.vec
section
variable {w w' : World} {B B' : Nat} {A : Option Addr} {zs : List ItT}
theorem ItemsAt.nil : ItemsAt w B A [] := fun k z h => by simp at h
theorem ItemsAt.below (h : ItemsAt w B A zs) (hb : Below B w w') : ItemsAt w' B A zs := fun k z hz => by
  obtain ⟨⟨b, off, hA, hlt, h0, h1, h2⟩, hv⟩ := h k z hz
  exact ⟨⟨b, off, hA, hlt, (hb.cell (p := ⟨b, off + k * 3, none⟩) hlt).trans h0, (hb.cell (p := ⟨b, off + k * 3 + 1, none⟩) hlt).trans h1, (hb.cell (p := ⟨b, off + k * 3 + 2, none⟩) hlt).trans h2⟩, hv.below hb⟩
theorem ItemsAt.more (h : ItemsAt w B A zs) (hB : B ≤ B') : ItemsAt w B' A zs := fun k z hz => by
  obtain ⟨⟨b, off, hA, hlt, hc⟩, hv⟩ := h k z hz
  exact ⟨⟨b, off, hA, by omega, hc⟩, hv.more hB⟩
end

/-- The item at a place. -/
def itAt (zs : List ItT) (k : Nat) : ItT := zs.getD k noIt
theorem itAt_lt {zs : List ItT} {k : Nat} (h : k < zs.length) : zs[k]? = some (itAt zs k) := by
  unfold itAt
  rw [List.getD_eq_getElem?_getD, List.getElem?_eq_getElem h]
  rfl
theorem itAt_ge {zs : List ItT} {k : Nat} (h : zs.length ≤ k) : itAt zs k = noIt := by
  unfold itAt
  rw [List.getD_eq_getElem?_getD, List.getElem?_eq_none h]
  rfl
theorem ItemsAt.vec {w : World} {B : Nat} {A : Option Addr} {zs : List ItT} (h : ItemsAt w B A zs) (k : Nat) : VecB w B (itAt zs k).A (itAt zs k).vec := by
  rcases Nat.lt_or_ge k zs.length with hk | hk
  · exact (h k _ (itAt_lt hk)).2
  · rw [itAt_ge hk]
    exact VecB.nil

end Go.Proofs.Ytajmnhnepoomjaa
