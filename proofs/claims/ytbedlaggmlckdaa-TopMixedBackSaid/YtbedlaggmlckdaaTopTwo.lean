/- What the two laws of the whole stage share: what they ask first, and numbers written one behind the other. -/
import Derived.Test.YtbedlaggmlckdaaLitBack
import Derived.Test.YtbedlaggmlckdaaRngLives
namespace Go.Proofs.Ytbedlaggmlckdaa
open Go.RowKit

theorem perm14 : permL 1#64 (clampP 4) = [0, 3, 2, 1] := by decide +kernel
theorem Perm_c4 (w : World) : Calls Try.prog 22 #[.int .u64 1, .int .i64 4] w (IntsOut [0, 3, 2, 1] w) := by
  have h := Perm_any 1#64 4 w
  rw [perm14] at h
  exact h
def lv300 : ByteArray := ⟨#[172, 2]⟩
theorem lv_step300 : numStep lv300 0 = (300, nob, 0) := by decide +kernel
theorem lv_Num300 (b : Nat) (w : World) (h : RdAt w b lv300 0) : Calls Try.prog 27 #[.pointer (some ⟨b, 0, none⟩)] w (NumOut b (300, nob, 0) w) := by
  rw [← lv_step300]
  exact Num_any b lv300 0 w h (by decide)

set_option maxHeartbeats 1000000 in
theorem begins2_any (w : World) : Calls Try.prog 38 #[] w fun e w' => e = .returned (.bool true) ∧ Below w.heap.size w w' := by
  go_enter Try.func38, Try.ntmps38
  go_wp2_with fail
  refine (Perm_c4 _).mono ?_
  rintro e w1 ⟨A, c, rfl, _, hb1⟩
  go_wp2_with fail
  refine (lv_num300 _).mono ?_
  rintro e w2 ⟨rfl, hb⟩
  have hB2 := Below.next hb1 hb
  clear hb hb1
  go_wp2_with fail
  refine (New_any _ _).mono ?_
  rintro e w3 ⟨rfl, hr, hsz, hb⟩
  have hB3 := Below.next hB2 hb
  have hge := hB2.size
  clear hb hB2 hsz
  go_wp2_with fail
  refine (lv_Num300 _ _ hr).mono ?_
  rintro e w4 ⟨rfl, _, hT⟩
  have hB4 := hB3.trans (hT.below hge)
  clear hT hB3 hr
  go_wp2
  go_ret
  exact ⟨rfl, hB4⟩

end Go.Proofs.Ytbedlaggmlckdaa
