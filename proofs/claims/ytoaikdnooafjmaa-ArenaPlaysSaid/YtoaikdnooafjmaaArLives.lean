/- The law's own question of the answers that the document gives (lives), for package arena: the answer is 'true'. -/
import Derived.Test.YtoaikdnooafjmaaArJ
namespace Go.Proofs.Ytoaikdnooafjmaa
open Go.RowKit

def aA : AR := ⟨[1, 0], [0, 0], [2]⟩
def aB : AR := ⟨[0, 0], [1, 0], [2, 1]⟩
def aC : AR := ⟨[1, 0], [1, 0], [2]⟩
def aD : AR := ⟨[1, 1], [1, 0], []⟩
def aE : AR := ⟨[2, 1], [1, 0], []⟩
deriving instance DecidableEq for AR

set_option maxRecDepth 100000 in
set_option maxHeartbeats 8000000 in
theorem ar_lives_any (w : World) : Calls Try.prog 59 #[] w fun e w' => e = .returned (.bool true) ∧ Below w.heap.size w w' := by
  go_enter Try.func59, Try.ntmps59
  go_wp2_with fail
  refine (arNew_aj 2 (by decide) (by decide) w).mono ?_
  rintro e w1 ⟨B, rfl, h1⟩
  have H1 : Hid (AB w 0 B (arNew 2) [] w1) := Lib.hid ⟨h1.sub (fun b ⟨p, hp, _⟩ => by cases hp), fun p hp => by cases hp⟩
  clear h1
  go_wp2_with fail
  refine (arNew_not 4097 (.inr (by decide)) w1).mono ?_
  rintro e w2 ⟨rfl, rfl⟩
  have H := Lib.hid (arAlloc_aj H1.out.1)
  rw [show alX (arNew 2) = aA by decide, show alS (arNew 2) = 1 by decide, show alG (arNew 2) = 0 by decide, show alB (arNew 2) = true by decide] at H
  go_wp2_with fail
  refine H.out.mono ?_
  rintro e w2 ⟨rfl, h1, hk⟩
  have H2 := Lib.hid ((H1.out.keep h1 hk).box 1 0 99)
  clear h1 hk H H1
  have H := Lib.hid (arFree_aj H2.out.1 (by decide) 1)
  rw [show arFrX aA 1 = aB by decide, show arFrB aA 1 = true by decide] at H
  go_wp2_with fail
  refine H.out.mono ?_
  rintro e w3 ⟨rfl, h1, hk⟩
  have H3 := Lib.hid (H2.out.keep h1 hk)
  clear h1 hk H H2
  have H := Lib.hid (arAlloc_aj H3.out.1)
  rw [show alX aB = aC by decide, show alS aB = 1 by decide, show alG aB = 1 by decide, show alB aB = true by decide] at H
  go_wp2_with fail
  refine H.out.mono ?_
  rintro e w4 ⟨rfl, h1, hk⟩
  have H4 := Lib.hid ((H3.out.keep h1 hk).box 1 1 99)
  clear h1 hk H H3
  have H := Lib.hid (arAlloc_aj H4.out.1)
  rw [show alX aC = aD by decide, show alS aC = 2 by decide, show alG aC = 0 by decide, show alB aC = true by decide] at H
  go_wp2_with fail
  refine H.out.mono ?_
  rintro e w5 ⟨rfl, h1, hk⟩
  have H5 := Lib.hid ((H4.out.keep h1 hk).box 2 0 99)
  clear h1 hk H H4
  have H := Lib.hid (arAlloc_aj H5.out.1)
  rw [show alX aD = aD by decide, show alS aD = 0 by decide, show alG aD = 0 by decide, show alB aD = false by decide] at H
  go_wp2_with fail
  refine H.out.mono ?_
  rintro e w6 ⟨rfl, h1, hk⟩
  have H6 := Lib.hid ((H5.out.keep h1 hk).box 0 0 99)
  clear h1 hk H H5
  have H := Lib.hid (arMove_aj H6.out.1 1 2)
  rw [show arMvX aD 1 2 = aE by decide, show arMvB aD 1 2 = true by decide] at H
  go_wp2_with fail
  refine H.out.mono ?_
  rintro e w7 ⟨rfl, h1, hk⟩
  have H7 := Lib.hid (H6.out.keep h1 hk)
  clear h1 hk H H6
  have H := Lib.hid (arMove_aj H7.out.1 1 4)
  rw [show arMvX aE 1 4 = aE by decide, show arMvB aE 1 4 = false by decide] at H
  go_wp2_with fail
  refine H.out.mono ?_
  rintro e w8 ⟨rfl, h1, hk⟩
  have H8 := Lib.hid (H7.out.keep h1 hk)
  clear h1 hk H H7
  have H := Lib.hid (arFree_aj H8.out.1 (by decide) 1)
  rw [show arFrX aE 1 = aE by decide, show arFrB aE 1 = false by decide] at H
  go_wp2_with fail
  refine H.out.mono ?_
  rintro e w9 ⟨rfl, h1, hk⟩
  have H9 := Lib.hid (H8.out.keep h1 hk)
  clear h1 hk H H8
  go_wp2_with fail
  refine (arAlloc_nil _).mono ?_
  rintro e w10 ⟨rfl, hb⟩
  have HL := Lib.hid ((H9.out.later hb).box 0 0 99)
  clear hb H9
  obtain ⟨x0, x1⟩ := HL.out.2 (w2.heap.size, 1, 0) (by simp)
  obtain ⟨y0, y1⟩ := HL.out.2 (w4.heap.size, 1, 1) (by simp)
  obtain ⟨z0, z1⟩ := HL.out.2 (w5.heap.size, 2, 0) (by simp)
  simp only [] at x0 x1 y0 y1 z0 z1
  have H := Lib.hid (arState_aj HL.out.1 1)
  rw [show arSt aE 1 = 2 by decide] at H
  go_wp2_with fail
  refine H.out.mono ?_
  rintro e w11 ⟨rfl, rfl⟩
  clear H
  have H := Lib.hid (arState_aj HL.out.1 3)
  rw [show arSt aE 3 = -1 by decide] at H
  go_wp2_with fail
  refine H.out.mono ?_
  rintro e w11 ⟨rfl, rfl⟩
  clear H
  have H := Lib.hid (arGen_aj HL.out.1 1)
  rw [show arGn aE 1 = 1 by decide] at H
  go_wp2_with fail
  refine H.out.mono ?_
  rintro e w11 ⟨rfl, rfl⟩
  clear H
  have H := Lib.hid (arGen_aj HL.out.1 0)
  rw [show arGn aE 0 = -1 by decide] at H
  go_wp2_with fail
  refine H.out.mono ?_
  rintro e w11 ⟨rfl, rfl⟩
  clear H
  have H := Lib.hid (arCount_aj HL.out.1 1)
  rw [show arCnt aE 1 = 1 by decide] at H
  go_wp2_with fail
  refine H.out.mono ?_
  rintro e w11 ⟨rfl, rfl⟩
  clear H
  have H := Lib.hid (arCount_aj HL.out.1 0)
  rw [show arCnt aE 0 = 0 by decide] at H
  go_wp2_with fail
  refine H.out.mono ?_
  rintro e w11 ⟨rfl, rfl⟩
  clear H
  go_wp2_with fail
  refine (arSt_nil _ _).mono ?_
  rintro e w11 ⟨rfl, rfl⟩
  go_wp2_with fail
  refine (arGn_nil _ _).mono ?_
  rintro e w11 ⟨rfl, rfl⟩
  go_wp2_with fail
  refine (arCnt_nil _ _).mono ?_
  rintro e w11 ⟨rfl, rfl⟩
  go_wp2_with fail
  refine (arFree_nil _ _).mono ?_
  rintro e w11 ⟨rfl, rfl⟩
  go_wp2_with fail
  refine (arMove_nil _ _ _).mono ?_
  rintro e w11 ⟨rfl, rfl⟩
  have HB := Lib.hid HL.out.1.below
  clear HL
  go_wp2
  go_ret
  exact ⟨rfl, HB.out⟩

end Go.Proofs.Ytoaikdnooafjmaa
