/- The document's own answers of stage 3, as TopTagged asks for them. -/
import Derived.Test.YtepngkhepcjdfaaDoorVecDist
import Derived.Test.YtepngkhepcjdfaaDoorTagLives
namespace Go.Proofs.YtepngkhepcjdfaaDoor
open Go.RowKit

set_option maxHeartbeats 1000000 in
theorem begins3_any (w : World) : Calls Tryd.prog 20 #[] w fun e w' => e = .returned (.bool true) ∧ Below w.heap.size w w' := by
  have hd : satN (distN [1] [4] (max 1 1)) = 9 := by decide
  have HD := Lib.hid hd
  clear hd
  go_enter Tryd.func20, Tryd.ntmps20
  go_wp2_with fail
  refine Calls.mono (Dist_any (some ⟨w.heap.size, 0, none⟩) (some ⟨w.heap.size + 1, 0, none⟩) [1] [4] 1 1 _ (Rd.one (by go_size) (by go_cell)) (Rd.one (by go_size) (by go_cell)) (by decide) (by decide) (by rw [Hid]; decide) (by rw [Hid]; decide)) ?_
  rintro e w1 ⟨rfl, hb⟩
  have B1 : Below w.heap.size w w1 := Below.next (by go_grown) hb
  rw [show max [(1 : Int)].length [(4 : Int)].length = max 1 1 from rfl, HD.out]
  clear hb
  go_wp2_with fail
  refine Calls.mono (tagHas_any 3 1 _) ?_
  rintro e w' ⟨rfl, rfl⟩
  rw [show (bits .and .u64 3 1 == 1) = true from by decide]
  go_wp2_with fail
  refine Calls.mono (tagHas_any 1 3 _) ?_
  rintro e w' ⟨rfl, rfl⟩
  rw [show (bits .and .u64 1 3 == 3) = false from by decide]
  go_wp2
  go_ret
  exact ⟨rfl, B1⟩

end Go.Proofs.YtepngkhepcjdfaaDoor
