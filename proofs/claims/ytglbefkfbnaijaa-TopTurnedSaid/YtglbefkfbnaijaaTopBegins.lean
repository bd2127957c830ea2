/- The question of fixed answers of gangliontop's fourth stage. -/
import Derived.Test.YtglbefkfbnaijaaQueUse
namespace Go.Proofs.Ytglbefkfbnaijaa
open Go.RowKit Go.Shelf Go.Sort

theorem off_one : offQ 1 [] ((0, 0), 2) = true := by
  unfold offQ
  rw [keepS_nil']
  rfl
theorem off_two : offQ 1 ([] ++ [((0, 0), 2)]) ((0, 0), 1) = true := by
  unfold offQ keepS
  rw [sortS_eq (L := [((0, 0), 2)]) (by decide +kernel) (by decide +kernel)]
  decide +kernel
theorem lt_one_two : ltS ((0, 0), 1) ((0, 0), 2) = true := by decide +kernel

set_option maxRecDepth 100000 in
set_option maxHeartbeats 2000000 in
theorem begins4_any (w : World) : Calls Try.prog 67 #[] w fun e w' => e = .returned (.bool true) ∧ Below w.heap.size w w' := by
  have h1 : bestN 1 = 1 := rfl
  have H1 := Lib.hid off_one
  have H2 := Lib.hid off_two
  have H3 := Lib.hid lt_one_two
  go_enter Try.func67, Try.ntmps67
  go_wp2_with fail
  refine (bNew_any 1 w).mono ?_
  rw [h1]
  clear h1
  rintro e w1 ⟨b, rfl, r1, r2, r3, r4⟩
  have HF := Lib.hid (show Fam (fun k => k < w.heap.size) w w1 [⟨b, some 1, []⟩] from (Fam.nil (P := fun k => k < w.heap.size) w (fun _ h => h)).newB r1 r2 r3 r4)
  clear r1 r2 r3 r4
  go_wp2_with fail
  refine (Fam.offer HF.out (i := 0) (L := []) (m := 1) (b := b) rfl ((0, 0), 2) (by decide)).mono ?_
  rw [H1.out]
  rintro e w2 ⟨rfl, hf, -⟩
  have HF2 := Lib.hid hf
  clear hf HF
  go_wp2_with fail
  refine (Fam.offer HF2.out (i := 0) (L := [] ++ [((0, 0), 2)]) (m := 1) (b := b) rfl ((0, 0), 1) (by decide)).mono ?_
  rw [H2.out]
  rintro e w3 ⟨rfl, hf, -⟩
  have HB := Lib.hid hf.below
  clear hf HF2
  go_wp2_with fail
  refine (Spot_any ((0, 0), 1) ((0, 0), 2) _).mono ?_
  rw [H3.out]
  rintro e w4 ⟨rfl, hg⟩
  go_wp2
  go_ret
  exact ⟨rfl, HB.out.trans (hg.below.mono HB.out.size)⟩

end Go.Proofs.Ytglbefkfbnaijaa
