/- The document's own Merge, by contract. -/
import Derived.Test.YtajmnhnepoomjaaRefSort
namespace Go.Proofs.Ytajmnhnepoomjaa
open Go.RowKit Go.Shelf Go.Sort Go.Lib

theorem own_none {w : World} {base : Nat} {e : TypeId} {size n c : Nat} {A : Option Addr} {xs : List Value} (h : w.ownsRow base e size (.slice A n c) n xs) : A = none → c = 0 := by
  intro hA
  subst hA
  rcases h.2 with ⟨hv, _⟩ | ⟨g, cap, cur, hv, _⟩
  · injection hv
  · injection hv with hv; cases hv
theorem cellsS_app (xs ys : List SpotT) : cellsS (xs ++ ys) = cellsS xs ++ cellsS ys := by simp [cellsS]
end Go.Proofs.Ytajmnhnepoomjaa
