/- The law's own question of the answers that the document gives (lives), for package epoch: the answer is 'true'. -/
import Derived.Test.YtdgmcaehadigaaaEpL1
import Derived.Test.YtdgmcaehadigaaaLits
namespace Go.Proofs.Ytdgmcaehadigaaa
open Go.RowKit

def eA : EX := ⟨0, [0], [0], [(5, 0)], 0⟩
def eB : EX := ⟨1, [0], [0], [(5, 0)], 0⟩
def eC : EX := ⟨1, [1], [0], [(5, 0)], 0⟩
def eD : EX := ⟨1, [1], [2], [(5, 0)], 0⟩
def eE : EX := ⟨2, [1], [2], [(5, 0)], 0⟩
def eF : EX := ⟨2, [1], [2], [], 0⟩
def eG : EX := ⟨2, [1], [0], [], 0⟩

set_option maxRecDepth 100000 in
set_option maxHeartbeats 8000000 in
theorem ep_lives_any (w : World) : Calls Try.prog 36 #[] w fun e w' => e = .returned (.bool true) ∧ Below w.heap.size w w' := by
  have i5 : IsI 5 := by unfold IsI; decide
  go_enter Try.func36, Try.ntmps36
  go_wp2_with fail
  refine (ENew_e1 1 (by decide) (by decide) w).mono ?_
  rintro e w1 ⟨B, rfl, h1⟩
  have H1 := Lib.hid h1
  clear h1
  go_wp2_with fail
  refine (ENew_not 65 (.inr (by decide)) w1).mono ?_
  rintro e w2 ⟨rfl, rfl⟩
  have H := Lib.hid (Retire_e1 H1.out (by decide) 5 i5)
  rw [show retX (newE 1) 5 = eA by decide, show isRet (newE 1) 5 = false by decide] at H
  clear H1
  go_wp2_with fail
  refine H.out.mono ?_
  rintro e w2 ⟨rfl, h1⟩
  have H := Lib.hid (Retire_e1 h1 (by decide) 5 i5)
  rw [show retX eA 5 = eA by decide, show isRet eA 5 = true by decide] at H
  clear h1
  go_wp2_with fail
  refine H.out.mono ?_
  rintro e w3 ⟨rfl, h1⟩
  have H := Lib.hid (Free_e1 h1 (by decide) (L := []) (l := 0) (by decide) rfl)
  rw [show freeE eA = eA by decide] at H
  clear h1
  go_wp2_with fail
  refine H.out.mono ?_
  rintro e w4 ⟨A4, c4, rfl, h1⟩
  have H := Lib.hid (Look_e1 h1 (by decide))
  rw [show lookE eA = eB by decide, show lookB eA = true by decide] at H
  clear h1
  go_wp2_with fail
  refine H.out.mono ?_
  rintro e w5 ⟨rfl, h1⟩
  have H := Lib.hid (ELoad_e1 h1 0)
  rw [show loadX eB 0 = eC by decide, show loadV eB 0 = 1 by decide] at H
  clear h1
  go_wp2_with fail
  refine H.out.mono ?_
  rintro e w6 ⟨rfl, h1⟩
  have H := Lib.hid (Pin_e1 h1 (by decide) 0)
  rw [show pinX eC 0 = eD by decide, show pinB eC 0 = true by decide] at H
  clear h1
  go_wp2_with fail
  refine H.out.mono ?_
  rintro e w7 ⟨rfl, h1⟩
  have H := Lib.hid (Pin_e1 h1 (by decide) 0)
  rw [show pinX eD 0 = eD by decide, show pinB eD 0 = false by decide] at H
  clear h1
  go_wp2_with fail
  refine H.out.mono ?_
  rintro e w8 ⟨rfl, h1⟩
  have H8 := Lib.hid h1
  have H := Lib.hid (Rec_e1 h1 0)
  rw [show recV eD 0 = 2 by decide] at H
  clear h1
  go_wp2_with fail
  refine H.out.mono ?_
  rintro e w9 ⟨rfl, rfl⟩
  have H := Lib.hid (Look_e1 H8.out (by decide))
  rw [show lookE eD = eE by decide, show lookB eD = true by decide] at H
  clear H8
  go_wp2_with fail
  refine H.out.mono ?_
  rintro e w9 ⟨rfl, h1⟩
  have H := Lib.hid (Look_e1 h1 (by decide))
  rw [show lookE eE = eE by decide, show lookB eE = false by decide] at H
  clear h1
  go_wp2_with fail
  refine H.out.mono ?_
  rintro e w10 ⟨rfl, h1⟩
  have H := Lib.hid (Free_e1 h1 (by decide) (L := [5]) (l := 1) (by decide) rfl)
  rw [show freeE eE = eF by decide] at H
  clear h1
  go_wp2_with fail
  refine H.out.mono ?_
  rintro e w11 ⟨A11, c11, rfl, h1⟩
  have H := Lib.hid (Unpin_e1 h1 0)
  rw [show unpinX eF 0 = eG by decide, show unpinB eF 0 = true by decide] at H
  clear h1
  go_wp2_with fail
  refine H.out.mono ?_
  rintro e w12 ⟨rfl, h1⟩
  have HB := Lib.hid (h1.later (below_new w12 (.cells #[.int .i64 5] 3)))
  clear h1 H
  go_wp2_with fail
  refine Calls.mono (SameI_is (zs := [5]) rfl (HB.out.told List.mem_cons_self) (Rd.lit1 (by go_size) (by go_cell)) (by decide)) ?_
  rintro e w13 ⟨rfl, hb⟩
  have H := Lib.hid (Unpin_e1 (HB.out.later hb) 0)
  rw [show unpinX eG 0 = eG by decide, show unpinB eG 0 = false by decide] at H
  clear hb HB
  go_wp2_with fail
  refine H.out.mono ?_
  rintro e w14 ⟨rfl, h1⟩
  have H14 := Lib.hid h1
  have H := Lib.hid (Epoch_e1 h1)
  rw [show eG.e = 2 from rfl] at H
  clear h1
  go_wp2_with fail
  refine H.out.mono ?_
  rintro e w15 ⟨rfl, rfl⟩
  have H := Lib.hid (Limbo_e1 H14.out (by decide) (l := 0) rfl)
  have HBL := Lib.hid H14.out.below
  clear H14
  go_wp2_with fail
  refine H.out.mono ?_
  rintro e w16 ⟨A16, c16, rfl, _, hb⟩
  have HB2 := Lib.hid (Below.next HBL.out hb)
  clear hb H HBL
  go_wp2_with fail
  refine (ELoad_nil _ _).mono ?_
  rintro e w17 ⟨rfl, rfl⟩
  go_wp2_with fail
  refine (Pin_nil _ _).mono ?_
  rintro e w17 ⟨rfl, rfl⟩
  go_wp2_with fail
  refine (Look_nil _).mono ?_
  rintro e w17 ⟨rfl, rfl⟩
  go_wp2_with fail
  refine (Retire_nil _ _).mono ?_
  rintro e w17 ⟨rfl, rfl⟩
  go_wp2_with fail
  refine (Free_nil _).mono ?_
  rintro e w17 ⟨rfl, hb⟩
  have HB3 := Lib.hid (Below.next HB2.out hb)
  clear hb HB2
  go_wp2_with fail
  refine (Limbo_nil _).mono ?_
  rintro e w18 ⟨rfl, rfl⟩
  go_wp2_with fail
  refine (Epoch_nil _).mono ?_
  rintro e w18 ⟨rfl, rfl⟩
  go_wp2_with fail
  refine (Rec_nil _ _).mono ?_
  rintro e w18 ⟨rfl, rfl⟩
  go_wp2
  go_ret
  exact ⟨rfl, HB3.out⟩

end Go.Proofs.Ytdgmcaehadigaaa
