/- Words for a row of cells that a call owns: its value, its block, and that old memory stays. -/
import Derived.Test.YtdgmcaehadigaaaMem
namespace Go.Proofs.Ytdgmcaehadigaaa
open Go.RowKit

theorem ownSlice {w : World} {base : Nat} {e : TypeId} {size n : Nat} {v : Value} {xs : List Value} (h : w.ownsRow base e size v n xs) : ∃ A c, v = .slice A n c ∧ n ≤ c ∧ c ≤ 9223372036854775807 := by
  rcases h.2 with ⟨rfl, h0⟩ | ⟨g', cap, cur, rfl, _, _, hn, hm, _⟩
  · exact ⟨none, 0, by rw [h0], by omega, by omega⟩
  · exact ⟨_, _, rfl, hn, by unfold maxLen at hm; omega⟩

theorem ownPos {w : World} {base : Nat} {e : TypeId} {size n c : Nat} {A : Option Addr} {xs : List Value} (h : w.ownsRow base e size (.slice A n c) n xs) (hn : 0 < n) : ∃ g, A = some ⟨g, 0, none⟩ ∧ base ≤ g ∧ g < w.heap.size := by
  rcases h.2 with ⟨_, h0⟩ | ⟨g', cap, cur, hv, hg, hh, _⟩
  · omega
  · injection hv with hv _ _
    exact ⟨g', hv, hg, (Array.getElem?_eq_some_iff.1 hh).1⟩

theorem ownBase {w w' : World} {B base : Nat} {e : TypeId} {size n : Nat} {v : Value} {xs : List Value} {a : World} (h : w.ownsRow base e size v n xs) (hb : Below B a w) (hbase : B ≤ base) (hsz : B ≤ w.heap.size) (hg : w.grownBy w' v.ownBlock) : Below B a w' :=
  hb.grown hg hsz (fun g he => by
    rcases h.2 with ⟨rfl, _⟩ | ⟨g', cap, cur, rfl, hg', _⟩
    · simp [Value.ownBlock] at he
    · simp [Value.ownBlock] at he; omega)

end Go.Proofs.Ytdgmcaehadigaaa
