/- The spots of items around a vector. -/
import Derived.Test.YtajmnhnepoomjaaOwnKept
import Derived.Test.YtajmnhnepoomjaaEdSpot
namespace Go.Proofs.Ytajmnhnepoomjaa
open Go.RowKit Go.Shelf Go.Sort

/-- Items' spots around a vector, by their places. -/
def spotsL (q : List Int) (its : List ItT) : List SpotT := (List.range its.length).map fun k : Nat => spotOf q (k : Int) (itAt its k)
theorem spotsL_len (q : List Int) (its : List ItT) : (spotsL q its).length = its.length := by simp [spotsL]
theorem spotsL_take (q : List Int) (its : List ItT) (k : Nat) (h : k < its.length) : (spotsL q its).take (k + 1) = (spotsL q its).take k ++ [spotOf q (k : Int) (itAt its k)] := by
  rw [List.take_succ_eq_append_getElem (by rw [spotsL_len]; exact h)]
  congr 1
  simp [spotsL]

end Go.Proofs.Ytajmnhnepoomjaa
