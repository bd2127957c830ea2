/- Lists that are written out, in memory; what a call tells that tells a list. -/
import Derived.Test.YtdgmcaehadigaaaClkClone
import Derived.Test.YtdgmcaehadigaaaSameInts
namespace Go.Proofs.Ytdgmcaehadigaaa
open Go.RowKit

section
variable {w w' : World} {α : Type} {f : α → Value} {B b : Nat}
theorem Rd.lit1 {x : α} (hb : b < B) (h0 : w.cell? ⟨b, 0, none⟩ = some (f x)) : Rd f w B (some ⟨b, 0, none⟩) [x] := fun k z hz => by
  match k, hz with
  | 0, hz => simp at hz; subst hz; exact ⟨b, 0, rfl, hb, h0⟩
theorem Rd.lit2 {x y : α} (hb : b < B) (h0 : w.cell? ⟨b, 0, none⟩ = some (f x)) (h1 : w.cell? ⟨b, 1, none⟩ = some (f y)) : Rd f w B (some ⟨b, 0, none⟩) [x, y] := fun k z hz => by
  match k, hz with
  | 0, hz => simp at hz; subst hz; exact ⟨b, 0, rfl, hb, h0⟩
  | 1, hz => simp at hz; subst hz; exact ⟨b, 0, rfl, hb, h1⟩
theorem Rd.lit3 {x y z : α} (hb : b < B) (h0 : w.cell? ⟨b, 0, none⟩ = some (f x)) (h1 : w.cell? ⟨b, 1, none⟩ = some (f y)) (h2 : w.cell? ⟨b, 2, none⟩ = some (f z)) : Rd f w B (some ⟨b, 0, none⟩) [x, y, z] := fun k u hu => by
  match k, hu with
  | 0, hu => simp at hu; subst hu; exact ⟨b, 0, rfl, hb, h0⟩
  | 1, hu => simp at hu; subst hu; exact ⟨b, 0, rfl, hb, h1⟩
  | 2, hu => simp at hu; subst hu; exact ⟨b, 0, rfl, hb, h2⟩
end
theorem rd_later {X Y : World} {B : Option Addr} {L : List Int} (h : Rd (Value.int .i64) X X.heap.size B L) (hb : Below X.heap.size X Y) : Rd (Value.int .i64) Y Y.heap.size B L := (h.below hb).more hb.size
theorem below_new (X : World) (o : Obj) : Below X.heap.size X (X.alloc o) := (Below.refl _ X).alloc (Nat.le_refl _) o
theorem below_one {a w : World} (h : Below a.heap.size a w) (o : Obj) : Below a.heap.size a (w.alloc o) := h.alloc h.size o

def IntsAre (L : List Int) (n : Nat) (w : World) (e : Ending) (w' : World) : Prop :=
  ∃ A c, e = .returned (.slice A n c) ∧ Rd (Value.int .i64) w' w'.heap.size A L ∧ Below w.heap.size w w'
theorem IntsOut.are {L : List Int} {n : Nat} {w w' : World} {e : Ending} (h : IntsOut L w e w') (hn : L.length = n) : IntsAre L n w e w' := by
  subst hn
  obtain ⟨A, c, he, hr, _, _, _, hb⟩ := h
  exact ⟨A, c, he, hr, hb⟩
theorem SameI_is {A B : Option Addr} {zs : List Int} {c d n : Nat} {w : World} (hn : zs.length = n) (hA : Rd (Value.int .i64) w w.heap.size A zs) (hB : Rd (Value.int .i64) w w.heap.size B zs) (hl : zs.length ≤ 100000) :
    Calls Try.prog 16 #[.slice A n c, .slice B n d] w fun e w' => e = .returned (.bool true) ∧ Below w.heap.size w w' := by
  subst hn
  exact (SameInts_refl A B zs c d w hA hB (by omega)).mono fun _ _ ⟨he, hd⟩ => ⟨he, hd.below _⟩

end Go.Proofs.Ytdgmcaehadigaaa
