/- partsOf of package tag: the iterator over a text's parts. -/
import Derived.Test.YtepngkhepcjdfaaDoorTagSplit
namespace Go.Proofs.YtepngkhepcjdfaaDoor
open Go.RowKit

set_option maxHeartbeats 400000 in
theorem partsOf_empty (w : World) :
    Calls Tryd.prog 24 #[.string (ByteArray.mk #[])] w fun e w' => e = .returned (.func (.func 38) #[] #[]) ∧ w = w' := by
  go_enter Tryd.func24, Tryd.ntmps24
  go_wp2
  go_ret
  exact ⟨rfl, rfl⟩

set_option maxHeartbeats 400000 in
theorem partsOf_any (s : ByteArray) (w : World) (h : ¬ s.size = 0) :
    Calls Tryd.prog 24 #[.string s] w (SplitOut s w) := by
  have he := toList_ne s h
  have he' : s.toList.isEmpty = false := by simpa using he
  clear h
  go_enter Tryd.func24, Tryd.ntmps24
  go_wp2_with fail
  refine (SplitSeq_any s _).mono ?_
  rintro e w2 ⟨rfl, rfl⟩
  go_wp2
  go_ret
  exact ⟨rfl, rfl⟩

end Go.Proofs.YtepngkhepcjdfaaDoor
