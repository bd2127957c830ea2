/- Words for memory, and plain lemmas, for the contracts of this seat: a slice value that reads as a list. -/
import Derived.Test.YtdgmcaehadigaaaRows
import Derived.WalkKit
import Derived.WalkSpells
import Derived.WalkLawsBesides
import Derived.Lib.Hide
import Derived.Deep.QuietTactic
import Derived.BigQuiet
namespace Go.Proofs.Ytdgmcaehadigaaa
open Go.RowKit

/-- The slice that begins at A reads, in w, as the list zs (f: how an element stands in its cell), in blocks below B. -/
def Rd {α : Type} (f : α → Value) (w : World) (B : Nat) (A : Option Addr) (zs : List α) : Prop :=
  ∀ k z, zs[k]? = some z → ∃ b off, A = some ⟨b, off, none⟩ ∧ b < B ∧ w.cell? ⟨b, off + k, none⟩ = some (f z)

section
variable {α : Type} {f : α → Value} {w w' : World} {B B' : Nat} {A : Option Addr} {zs : List α}
theorem Rd.nil : Rd f w B A [] := fun k z h => by simp at h
theorem Rd.below (h : Rd f w B A zs) (hb : Below B w w') : Rd f w' B A zs := fun k z hz => by
  obtain ⟨b, off, hA, hlt, hc⟩ := h k z hz
  exact ⟨b, off, hA, hlt, (hb.cell (p := ⟨b, off + k, none⟩) hlt).trans hc⟩
theorem Rd.more (h : Rd f w B A zs) (hB : B ≤ B') : Rd f w B' A zs := fun k z hz => by
  obtain ⟨b, off, hA, hlt, hc⟩ := h k z hz
  exact ⟨b, off, hA, by omega, hc⟩
theorem Rd.at_ {k : Nat} (h : Rd f w B A zs) (hk : k < zs.length) : ∃ b off, A = some ⟨b, off, none⟩ ∧ b < B ∧ w.cell? ⟨b, off + k, none⟩ = some (f zs[k]) :=
  h k _ (List.getElem?_eq_getElem hk)
end

/-- What the call owns, one cell an element, reads as its list. -/
theorem Rd.of_own {α : Type} {f : α → Value} {w : World} {base : Nat} {e : TypeId} {A : Option Addr} {n cap : Nat} {zs : List α}
    (h : w.ownsRow base e 1 (.slice A n cap) n (zs.map f)) : Rd f w w.heap.size A zs := by
  intro j z hz
  have hj : j < zs.length := (List.getElem?_eq_some_iff.1 hz).1
  have hn : zs.length = n := by simpa using h.1
  rcases h.2 with ⟨_, h0⟩ | ⟨g, c, cur, hv, _, hh, _⟩
  · omega
  · injection hv with hv _ _
    subst hv
    refine ⟨g, 0, rfl, (Array.getElem?_eq_some_iff.1 hh).1, ?_⟩
    rw [Nat.zero_add, h.cellAt j (by omega), List.getElem?_map, hz]
    rfl

/-- A world that parts from another by draws alone: what is left behind calls and regions that only read. -/
def Drawn (w w' : World) : Prop := ∃ m, w' = w.drewN m
section
variable {w w' : World}
theorem Drawn.refl : Drawn w w := ⟨0, rfl⟩
theorem Drawn.step (h : Drawn w w') (n : Nat) : Drawn w (w'.drewN n) := by
  obtain ⟨m, rfl⟩ := h
  exact ⟨m + n, World.drewN_drewN _ _ _⟩
theorem Drawn.trans {a b c : World} (h : Drawn a b) (k : Drawn b c) : Drawn a c := by
  obtain ⟨n, rfl⟩ := k
  exact h.step n
theorem Drawn.cell (h : Drawn w w') (p : Addr) : w'.cell? p = w.cell? p := by
  obtain ⟨m, rfl⟩ := h
  rfl
theorem Drawn.size (h : Drawn w w') : w'.heap.size = w.heap.size := by
  obtain ⟨m, rfl⟩ := h
  rfl
theorem Drawn.below (h : Drawn w w') (B : Nat) : Below B w w' := by
  obtain ⟨m, rfl⟩ := h
  exact ⟨rfl, rfl, rfl, Nat.le_refl _, fun _ _ => rfl⟩
end

theorem Below.next {a b c : World} (h : Below a.heap.size a b) (k : Below b.heap.size b c) : Below a.heap.size a c := h.trans (k.mono h.size)
theorem below_draws (w : World) (n B : Nat) : Below B w (w.drewN n) := ⟨rfl, rfl, rfl, Nat.le_refl _, fun _ _ => rfl⟩

theorem quiet_same {P : Program} {f : FuncId} {args : Array Value} {w : World} {n : Nat} {v : Value}
    (h : Calls P f args (w.drewN n) fun e w' => e = .returned v ∧ w.drewN n = w') : Calls P f args (w.drewN n) fun e w'' => e = .returned v ∧ ∃ m, w'' = w.drewN m :=
  h.mono fun _ _ ⟨he, hm⟩ => ⟨he, n, hm.symm⟩
theorem quiet_drawn {P : Program} {f : FuncId} {args : Array Value} {w : World} {n : Nat} {v : Value}
    (h : Calls P f args (w.drewN n) fun e w' => e = .returned v ∧ Drawn (w.drewN n) w') : Calls P f args (w.drewN n) fun e w'' => e = .returned v ∧ ∃ m, w'' = w.drewN m :=
  h.mono fun _ _ ⟨he, m, hm⟩ => ⟨he, n + m, hm.trans (World.drewN_drewN _ _ _)⟩

theorem ret_int {k : IntKind} {a b : Int} (h : a = b) : Ending.returned (.int k a) = .returned (.int k b) := by rw [h]
theorem ret_bool {a b : Bool} (h : a = b) : Ending.returned (.bool a) = .returned (.bool b) := by rw [h]

end Go.Proofs.Ytdgmcaehadigaaa
