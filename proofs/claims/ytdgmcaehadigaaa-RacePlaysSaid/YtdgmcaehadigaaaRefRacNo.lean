/- The document's watch (ganglionref18), by contract: what others than workers read and write. -/
import Derived.Test.YtdgmcaehadigaaaRefRac5
namespace Go.Proofs.Ytdgmcaehadigaaa
open Go.RowKit

set_option maxRecDepth 100000 in
set_option maxHeartbeats 2000000 in
theorem RRead_not {w : World} {A1 A2 A3 A4 A5 : Option Addr} {c1 c2 c3 c4 c5 l1 l2 l3 l4 l5 : Nat} (x p : Int) (hx : isW x = false) :
    Calls Try.prog 13 #[.agg #[.slice A1 l1 c1, .slice A2 l2 c2, .slice A3 l3 c3, .slice A4 l4 c4, .slice A5 l5 c5], .int .i64 x, .int .i64 p] w fun e w' => e = .returned (.tuple #[.agg #[.slice A1 l1 c1, .slice A2 l2 c2, .slice A3 l3 c3, .slice A4 l4 c4, .slice A5 l5 c5], .bool true]) ∧ Below w.heap.size w w' := by
  have HT := Lib.hid (two_five w (.slice A1 l1 c1) (.slice A2 l2 c2) (.slice A3 l3 c3) (.slice A4 l4 c4) (.slice A5 l5 c5) (.slice none 0 0) (.slice none 0 0) (.slice none 0 0) (.slice none 0 0) (.slice none 0 0) 30)
  have HX := Lib.hid hx
  clear hx
  go_enter Try.func13, Try.ntmps13
  go_upto_region 1 with (fail)
  obtain ⟨X, hX⟩ : ∃ X, X = (w.alloc (.cells #[.slice A1 l1 c1, .slice A2 l2 c2, .slice A3 l3 c3, .slice A4 l4 c4, .slice A5 l5 c5] 30)).alloc (.cells #[.slice none 0 0, .slice none 0 0, .slice none 0 0, .slice none 0 0, .slice none 0 0] 30) := ⟨_, rfl⟩
  rw [← hX] at HT ⊢
  clear hX
  go_wp2_with fail
  refine (RNone_any _ _).mono ?_
  rintro e w1 ⟨rfl, rfl⟩
  rw [HX.out]
  have x0 := HT.out.1.c 0 _ rfl
  have x1 := HT.out.1.c 1 _ rfl
  have x2 := HT.out.1.c 2 _ rfl
  have x3 := HT.out.1.c 3 _ rfl
  have x4 := HT.out.1.c 4 _ rfl
  have y0 := HT.out.2.1.c 0 _ rfl
  have y1 := HT.out.2.1.c 1 _ rfl
  have y2 := HT.out.2.1.c 2 _ rfl
  have y3 := HT.out.2.1.c 3 _ rfl
  have y4 := HT.out.2.1.c 4 _ rfl
  have k0 := HT.out.2.1.f 0
  have k1 := HT.out.2.1.f 1
  have k2 := HT.out.2.1.f 2
  have k3 := HT.out.2.1.f 3
  have k4 := HT.out.2.1.f 4
  have HPP := Lib.hid (HT.out.2.1.put5 (.slice A1 l1 c1) (.slice A2 l2 c2) (.slice A3 l3 c3) (.slice A4 l4 c4) (.slice A5 l5 c5))
  have HBF := Lib.hid (below_put5 (b := w.heap.size + 1) HT.out.2.2.1 (by omega) (.slice A1 l1 c1) (.slice A2 l2 c2) (.slice A3 l3 c3) (.slice A4 l4 c4) (.slice A5 l5 c5))
  clear HT
  go_wp2
  have q0 := HPP.out.c 0 _ rfl
  have q1 := HPP.out.c 1 _ rfl
  have q2 := HPP.out.c 2 _ rfl
  have q3 := HPP.out.c 3 _ rfl
  have q4 := HPP.out.c 4 _ rfl
  exact bodyPost_ret (v := .tuple #[.agg #[.slice A1 l1 c1, .slice A2 l2 c2, .slice A3 l3 c3, .slice A4 l4 c4, .slice A5 l5 c5], .bool true]) (by simp [results, Try.results13, go_sem, q0, q1, q2, q3, q4]) rfl ⟨rfl, HBF.out⟩
set_option maxRecDepth 100000 in
set_option maxHeartbeats 2000000 in
theorem RWrite_not {w : World} {A1 A2 A3 A4 A5 : Option Addr} {c1 c2 c3 c4 c5 l1 l2 l3 l4 l5 : Nat} (x p : Int) (hx : isW x = false) :
    Calls Try.prog 14 #[.agg #[.slice A1 l1 c1, .slice A2 l2 c2, .slice A3 l3 c3, .slice A4 l4 c4, .slice A5 l5 c5], .int .i64 x, .int .i64 p] w fun e w' => e = .returned (.tuple #[.agg #[.slice A1 l1 c1, .slice A2 l2 c2, .slice A3 l3 c3, .slice A4 l4 c4, .slice A5 l5 c5], .bool true]) ∧ Below w.heap.size w w' := by
  have HT := Lib.hid (two_five w (.slice A1 l1 c1) (.slice A2 l2 c2) (.slice A3 l3 c3) (.slice A4 l4 c4) (.slice A5 l5 c5) (.slice none 0 0) (.slice none 0 0) (.slice none 0 0) (.slice none 0 0) (.slice none 0 0) 30)
  have HX := Lib.hid hx
  clear hx
  go_enter Try.func14, Try.ntmps14
  go_upto_region 1 with (fail)
  obtain ⟨X, hX⟩ : ∃ X, X = (w.alloc (.cells #[.slice A1 l1 c1, .slice A2 l2 c2, .slice A3 l3 c3, .slice A4 l4 c4, .slice A5 l5 c5] 30)).alloc (.cells #[.slice none 0 0, .slice none 0 0, .slice none 0 0, .slice none 0 0, .slice none 0 0] 30) := ⟨_, rfl⟩
  rw [← hX] at HT ⊢
  clear hX
  go_wp2_with fail
  refine (RNone_any _ _).mono ?_
  rintro e w1 ⟨rfl, rfl⟩
  rw [HX.out]
  have x0 := HT.out.1.c 0 _ rfl
  have x1 := HT.out.1.c 1 _ rfl
  have x2 := HT.out.1.c 2 _ rfl
  have x3 := HT.out.1.c 3 _ rfl
  have x4 := HT.out.1.c 4 _ rfl
  have y0 := HT.out.2.1.c 0 _ rfl
  have y1 := HT.out.2.1.c 1 _ rfl
  have y2 := HT.out.2.1.c 2 _ rfl
  have y3 := HT.out.2.1.c 3 _ rfl
  have y4 := HT.out.2.1.c 4 _ rfl
  have k0 := HT.out.2.1.f 0
  have k1 := HT.out.2.1.f 1
  have k2 := HT.out.2.1.f 2
  have k3 := HT.out.2.1.f 3
  have k4 := HT.out.2.1.f 4
  have HPP := Lib.hid (HT.out.2.1.put5 (.slice A1 l1 c1) (.slice A2 l2 c2) (.slice A3 l3 c3) (.slice A4 l4 c4) (.slice A5 l5 c5))
  have HBF := Lib.hid (below_put5 (b := w.heap.size + 1) HT.out.2.2.1 (by omega) (.slice A1 l1 c1) (.slice A2 l2 c2) (.slice A3 l3 c3) (.slice A4 l4 c4) (.slice A5 l5 c5))
  clear HT
  go_wp2
  have q0 := HPP.out.c 0 _ rfl
  have q1 := HPP.out.c 1 _ rfl
  have q2 := HPP.out.c 2 _ rfl
  have q3 := HPP.out.c 3 _ rfl
  have q4 := HPP.out.c 4 _ rfl
  exact bodyPost_ret (v := .tuple #[.agg #[.slice A1 l1 c1, .slice A2 l2 c2, .slice A3 l3 c3, .slice A4 l4 c4, .slice A5 l5 c5], .bool true]) (by simp [results, Try.results14, go_sem, q0, q1, q2, q3, q4]) rfl ⟨rfl, HBF.out⟩
end Go.Proofs.Ytdgmcaehadigaaa
