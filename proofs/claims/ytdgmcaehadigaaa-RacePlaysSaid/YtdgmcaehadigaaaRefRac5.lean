/- The document's watch (ganglionref18), by contract: Swap, Clock, and what others than workers do. -/
import Derived.Test.YtdgmcaehadigaaaRefRac4
namespace Go.Proofs.Ytdgmcaehadigaaa
open Go.RowKit

theorem RdG.within {S : Nat → Prop} {W : World} {A : Option Addr} {L : List Value} (h : RdG S W A L) : RdG (fun b => S b ∧ b < W.heap.size) W A L := fun k u hk => by
  obtain ⟨b, off, e, h1, h2, h3⟩ := h k u hk
  exact ⟨b, off, e, h1, ⟨h2, h1⟩, h3⟩
theorem RYs.within {W : World} {S : Nat → Prop} {A1 A2 A3 A4 A5 : Option Addr} {y : YX} (h : RYs W S A1 A2 A3 A4 A5 y) : RYs W (fun b => S b ∧ b < W.heap.size) A1 A2 A3 A4 A5 y :=
  ⟨h.ck.within, h.sy.within, h.wr.within, h.rd.within, h.cl.within, fun p hp => by
    obtain ⟨A, c, e, h1, h2⟩ := h.cks p hp
    exact ⟨A, c, e, h1.within, h2⟩, fun p hp => by
    obtain ⟨A, c, e, h1, h2⟩ := h.sys p hp
    exact ⟨A, c, e, h1.within, h2⟩, h.few⟩
theorem RY.within {W : World} {S : Nat → Prop} {V : Value} {y : YX} (h : RY W S V y) : RY W (fun b => S b ∧ b < W.heap.size) V y := by
  obtain ⟨A1, c1, A2, c2, A3, c3, A4, c4, A5, c5, e, h⟩ := h
  exact ⟨A1, c1, A2, c2, A3, c3, A4, c4, A5, c5, e, h.within⟩
theorem RY.mono {W : World} {S S' : Nat → Prop} {V : Value} {y : YX} (h : RY W S V y) (hs : ∀ b, S b → S' b) : RY W S' V y := by
  obtain ⟨A1, c1, A2, c2, A3, c3, A4, c4, A5, c5, e, h⟩ := h
  exact ⟨A1, c1, A2, c2, A3, c3, A4, c4, A5, c5, e, h.mono hs⟩
theorem RY.below {w W : World} {S : Nat → Prop} {V : Value} {y : YX} (h : RY w S V y) (hb : Below w.heap.size w W) : RY W S V y := by
  obtain ⟨A1, c1, A2, c2, A3, c3, A4, c4, A5, c5, e, h⟩ := h
  exact ⟨A1, c1, A2, c2, A3, c3, A4, c4, A5, c5, e, h.below hb⟩
theorem RY.form {w : World} {S : Nat → Prop} {V : Value} {y : YX} (h : RY w S V y) : ∃ A1 l1 c1 A2 l2 c2 A3 l3 c3 A4 l4 c4 A5 l5 c5, V = .agg #[.slice A1 l1 c1, .slice A2 l2 c2, .slice A3 l3 c3, .slice A4 l4 c4, .slice A5 l5 c5] := by
  obtain ⟨A1, c1, A2, c2, A3, c3, A4, c4, A5, c5, e, _⟩ := h
  exact ⟨A1, _, c1, A2, _, c2, A3, _, c3, A4, _, c4, A5, _, c5, e⟩
theorem YFew.more {m n : Nat} {y : YX} (h : YFew m y) (hn : m ≤ n) : YFew n y := by
  unfold YFew at *
  omega
set_option maxRecDepth 100000 in
set_option maxHeartbeats 2000000 in
theorem RLoad_not {w : World} {A1 A2 A3 A4 A5 : Option Addr} {c1 c2 c3 c4 c5 l1 l2 l3 l4 l5 : Nat} (x p : Int) (hx : isW x = false) :
    Calls Try.prog 10 #[.agg #[.slice A1 l1 c1, .slice A2 l2 c2, .slice A3 l3 c3, .slice A4 l4 c4, .slice A5 l5 c5], .int .i64 x, .int .i64 p] w fun e w' => e = .returned (.agg #[.slice A1 l1 c1, .slice A2 l2 c2, .slice A3 l3 c3, .slice A4 l4 c4, .slice A5 l5 c5]) ∧ Below w.heap.size w w' := by
  have HT := Lib.hid (two_five w (.slice A1 l1 c1) (.slice A2 l2 c2) (.slice A3 l3 c3) (.slice A4 l4 c4) (.slice A5 l5 c5) (.slice none 0 0) (.slice none 0 0) (.slice none 0 0) (.slice none 0 0) (.slice none 0 0) 30)
  have HX := Lib.hid hx
  clear hx
  go_enter Try.func10, Try.ntmps10
  go_upto_region 1 with (fail)
  obtain ⟨X, hX⟩ : ∃ X, X = (w.alloc (.cells #[.slice A1 l1 c1, .slice A2 l2 c2, .slice A3 l3 c3, .slice A4 l4 c4, .slice A5 l5 c5] 30)).alloc (.cells #[.slice none 0 0, .slice none 0 0, .slice none 0 0, .slice none 0 0, .slice none 0 0] 30) := ⟨_, rfl⟩
  rw [← hX] at HT ⊢
  clear hX
  go_wp2_with fail
  refine (RNone_any _ _).mono ?_
  rintro e w1 ⟨rfl, rfl⟩
  rw [HX.out]
  have x0 := HT.out.1.c 0 _ rfl
  have x1 := HT.out.1.c 1 _ rfl
  have x2 := HT.out.1.c 2 _ rfl
  have x3 := HT.out.1.c 3 _ rfl
  have x4 := HT.out.1.c 4 _ rfl
  have y0 := HT.out.2.1.c 0 _ rfl
  have y1 := HT.out.2.1.c 1 _ rfl
  have y2 := HT.out.2.1.c 2 _ rfl
  have y3 := HT.out.2.1.c 3 _ rfl
  have y4 := HT.out.2.1.c 4 _ rfl
  have k0 := HT.out.2.1.f 0
  have k1 := HT.out.2.1.f 1
  have k2 := HT.out.2.1.f 2
  have k3 := HT.out.2.1.f 3
  have k4 := HT.out.2.1.f 4
  have HPP := Lib.hid (HT.out.2.1.put5 (.slice A1 l1 c1) (.slice A2 l2 c2) (.slice A3 l3 c3) (.slice A4 l4 c4) (.slice A5 l5 c5))
  have HBF := Lib.hid (below_put5 (b := w.heap.size + 1) HT.out.2.2.1 (by omega) (.slice A1 l1 c1) (.slice A2 l2 c2) (.slice A3 l3 c3) (.slice A4 l4 c4) (.slice A5 l5 c5))
  clear HT
  go_wp2
  have q0 := HPP.out.c 0 _ rfl
  have q1 := HPP.out.c 1 _ rfl
  have q2 := HPP.out.c 2 _ rfl
  have q3 := HPP.out.c 3 _ rfl
  have q4 := HPP.out.c 4 _ rfl
  exact bodyPost_ret (v := .agg #[.slice A1 l1 c1, .slice A2 l2 c2, .slice A3 l3 c3, .slice A4 l4 c4, .slice A5 l5 c5]) (by simp [results, Try.results10, go_sem, q0, q1, q2, q3, q4]) rfl ⟨rfl, HBF.out⟩
set_option maxRecDepth 100000 in
set_option maxHeartbeats 2000000 in
theorem RStore_not {w : World} {A1 A2 A3 A4 A5 : Option Addr} {c1 c2 c3 c4 c5 l1 l2 l3 l4 l5 : Nat} (x p : Int) (hx : isW x = false) :
    Calls Try.prog 11 #[.agg #[.slice A1 l1 c1, .slice A2 l2 c2, .slice A3 l3 c3, .slice A4 l4 c4, .slice A5 l5 c5], .int .i64 x, .int .i64 p] w fun e w' => e = .returned (.agg #[.slice A1 l1 c1, .slice A2 l2 c2, .slice A3 l3 c3, .slice A4 l4 c4, .slice A5 l5 c5]) ∧ Below w.heap.size w w' := by
  have HT := Lib.hid (two_five w (.slice A1 l1 c1) (.slice A2 l2 c2) (.slice A3 l3 c3) (.slice A4 l4 c4) (.slice A5 l5 c5) (.slice none 0 0) (.slice none 0 0) (.slice none 0 0) (.slice none 0 0) (.slice none 0 0) 30)
  have HX := Lib.hid hx
  clear hx
  go_enter Try.func11, Try.ntmps11
  go_upto_region 1 with (fail)
  obtain ⟨X, hX⟩ : ∃ X, X = (w.alloc (.cells #[.slice A1 l1 c1, .slice A2 l2 c2, .slice A3 l3 c3, .slice A4 l4 c4, .slice A5 l5 c5] 30)).alloc (.cells #[.slice none 0 0, .slice none 0 0, .slice none 0 0, .slice none 0 0, .slice none 0 0] 30) := ⟨_, rfl⟩
  rw [← hX] at HT ⊢
  clear hX
  go_wp2_with fail
  refine (RNone_any _ _).mono ?_
  rintro e w1 ⟨rfl, rfl⟩
  rw [HX.out]
  have x0 := HT.out.1.c 0 _ rfl
  have x1 := HT.out.1.c 1 _ rfl
  have x2 := HT.out.1.c 2 _ rfl
  have x3 := HT.out.1.c 3 _ rfl
  have x4 := HT.out.1.c 4 _ rfl
  have y0 := HT.out.2.1.c 0 _ rfl
  have y1 := HT.out.2.1.c 1 _ rfl
  have y2 := HT.out.2.1.c 2 _ rfl
  have y3 := HT.out.2.1.c 3 _ rfl
  have y4 := HT.out.2.1.c 4 _ rfl
  have k0 := HT.out.2.1.f 0
  have k1 := HT.out.2.1.f 1
  have k2 := HT.out.2.1.f 2
  have k3 := HT.out.2.1.f 3
  have k4 := HT.out.2.1.f 4
  have HPP := Lib.hid (HT.out.2.1.put5 (.slice A1 l1 c1) (.slice A2 l2 c2) (.slice A3 l3 c3) (.slice A4 l4 c4) (.slice A5 l5 c5))
  have HBF := Lib.hid (below_put5 (b := w.heap.size + 1) HT.out.2.2.1 (by omega) (.slice A1 l1 c1) (.slice A2 l2 c2) (.slice A3 l3 c3) (.slice A4 l4 c4) (.slice A5 l5 c5))
  clear HT
  go_wp2
  have q0 := HPP.out.c 0 _ rfl
  have q1 := HPP.out.c 1 _ rfl
  have q2 := HPP.out.c 2 _ rfl
  have q3 := HPP.out.c 3 _ rfl
  have q4 := HPP.out.c 4 _ rfl
  exact bodyPost_ret (v := .agg #[.slice A1 l1 c1, .slice A2 l2 c2, .slice A3 l3 c3, .slice A4 l4 c4, .slice A5 l5 c5]) (by simp [results, Try.results11, go_sem, q0, q1, q2, q3, q4]) rfl ⟨rfl, HBF.out⟩
set_option maxRecDepth 100000 in
set_option maxHeartbeats 2000000 in
theorem RSwap_not {w : World} {A1 A2 A3 A4 A5 : Option Addr} {c1 c2 c3 c4 c5 l1 l2 l3 l4 l5 : Nat} (x p : Int) (hx : isW x = false) :
    Calls Try.prog 12 #[.agg #[.slice A1 l1 c1, .slice A2 l2 c2, .slice A3 l3 c3, .slice A4 l4 c4, .slice A5 l5 c5], .int .i64 x, .int .i64 p] w fun e w' => e = .returned (.agg #[.slice A1 l1 c1, .slice A2 l2 c2, .slice A3 l3 c3, .slice A4 l4 c4, .slice A5 l5 c5]) ∧ Below w.heap.size w w' := by
  have HT := Lib.hid (two_five w (.slice A1 l1 c1) (.slice A2 l2 c2) (.slice A3 l3 c3) (.slice A4 l4 c4) (.slice A5 l5 c5) (.slice none 0 0) (.slice none 0 0) (.slice none 0 0) (.slice none 0 0) (.slice none 0 0) 30)
  have HX := Lib.hid hx
  clear hx
  go_enter Try.func12, Try.ntmps12
  go_upto_region 1 with (fail)
  obtain ⟨X, hX⟩ : ∃ X, X = (w.alloc (.cells #[.slice A1 l1 c1, .slice A2 l2 c2, .slice A3 l3 c3, .slice A4 l4 c4, .slice A5 l5 c5] 30)).alloc (.cells #[.slice none 0 0, .slice none 0 0, .slice none 0 0, .slice none 0 0, .slice none 0 0] 30) := ⟨_, rfl⟩
  rw [← hX] at HT ⊢
  clear hX
  have x0 := HT.out.1.c 0 _ rfl
  have x1 := HT.out.1.c 1 _ rfl
  have x2 := HT.out.1.c 2 _ rfl
  have x3 := HT.out.1.c 3 _ rfl
  have x4 := HT.out.1.c 4 _ rfl
  go_wp2_with fail
  refine (RLoad_not x p HX.out).mono ?_
  rintro e w1 ⟨rfl, hb1⟩
  have HB1 := Lib.hid hb1
  clear hb1
  go_wp2_with fail
  refine (RStore_not x p HX.out).mono ?_
  rintro e w2 ⟨rfl, hb2⟩
  have HR := Lib.hid ((HT.out.2.1.below HB1.out).below hb2)
  have HB := Lib.hid (Below.next (Below.next HT.out.2.2.1 HB1.out) hb2)
  clear HT HB1 hb2 x0 x1 x2 x3 x4
  have y0 := HR.out.c 0 _ rfl
  have y1 := HR.out.c 1 _ rfl
  have y2 := HR.out.c 2 _ rfl
  have y3 := HR.out.c 3 _ rfl
  have y4 := HR.out.c 4 _ rfl
  have k0 := HR.out.f 0
  have k1 := HR.out.f 1
  have k2 := HR.out.f 2
  have k3 := HR.out.f 3
  have k4 := HR.out.f 4
  have HPP := Lib.hid (HR.out.put5 (.slice A1 l1 c1) (.slice A2 l2 c2) (.slice A3 l3 c3) (.slice A4 l4 c4) (.slice A5 l5 c5))
  have HBF := Lib.hid (below_put5 (b := w.heap.size + 1) HB.out (by omega) (.slice A1 l1 c1) (.slice A2 l2 c2) (.slice A3 l3 c3) (.slice A4 l4 c4) (.slice A5 l5 c5))
  clear HR HB
  go_wp2
  have q0 := HPP.out.c 0 _ rfl
  have q1 := HPP.out.c 1 _ rfl
  have q2 := HPP.out.c 2 _ rfl
  have q3 := HPP.out.c 3 _ rfl
  have q4 := HPP.out.c 4 _ rfl
  exact bodyPost_ret (v := .agg #[.slice A1 l1 c1, .slice A2 l2 c2, .slice A3 l3 c3, .slice A4 l4 c4, .slice A5 l5 c5]) (by simp [results, Try.results12, go_sem, q0, q1, q2, q3, q4]) rfl ⟨rfl, HBF.out⟩
set_option maxRecDepth 100000 in
set_option maxHeartbeats 4000000 in
theorem RSwap_yes {w : World} {S : Nat → Prop} {V : Value} {y : YX} {a : AX} {m : Nat} (h : RY w S V y) (hS : ∀ b, S b → b < w.heap.size) (hr : RelY a y) (hf : YFew m y) (hm : m < 800) (k : Nat) (hk : k < 65) (p : Int) :
    Calls Try.prog 12 #[V, .int .i64 (k : Int), .int .i64 p] w (YOut w S (m + 2) (swapA a k p)) := by
  obtain ⟨A1, l1, c1, A2, l2, c2, A3, l3, c3, A4, l4, c4, A5, l5, c5, rfl⟩ := h.form
  have HT := Lib.hid (two_five w (.slice A1 l1 c1) (.slice A2 l2 c2) (.slice A3 l3 c3) (.slice A4 l4 c4) (.slice A5 l5 c5) (.slice none 0 0) (.slice none 0 0) (.slice none 0 0) (.slice none 0 0) (.slice none 0 0) 30)
  have HC1 := Lib.hid (fun W hb => RLoad_yes (w := W) (h.below hb) (fun b e => Nat.lt_of_lt_of_le (hS b e) hb.size) hr hf (by omega) k hk p)
  have HC2 := Lib.hid (fun W V' y' (T : Nat → Prop) (h1 : RY W T V' y') (h2 : RelY (loadA a k p) y') (h3 : YFew (m + 1) y') => RStore_yes h1.within (fun b e => e.2) h2 h3 (by omega) k hk p)
  have HSS := Lib.hid hS
  clear h hS hr hf hm hk
  go_enter Try.func12, Try.ntmps12
  go_upto_region 1 with (fail)
  obtain ⟨X, hX⟩ : ∃ X, X = (w.alloc (.cells #[.slice A1 l1 c1, .slice A2 l2 c2, .slice A3 l3 c3, .slice A4 l4 c4, .slice A5 l5 c5] 30)).alloc (.cells #[.slice none 0 0, .slice none 0 0, .slice none 0 0, .slice none 0 0, .slice none 0 0] 30) := ⟨_, rfl⟩
  rw [← hX] at HT ⊢
  clear hX
  have x0 := HT.out.1.c 0 _ rfl
  have x1 := HT.out.1.c 1 _ rfl
  have x2 := HT.out.1.c 2 _ rfl
  have x3 := HT.out.1.c 3 _ rfl
  have x4 := HT.out.1.c 4 _ rfl
  have HC := Lib.hid (HC1.out X HT.out.2.2.1)
  go_wp2_with fail
  refine HC.out.mono ?_
  rintro e w1 ⟨V1, y1, rfl, h1, h2, h3, hb1⟩
  have HD := Lib.hid (HC2.out w1 V1 y1 _ h1 h2 h3)
  have HB1 := Lib.hid hb1
  clear hb1 HC HC1 HC2 x0 x1 x2 x3 x4 h1 h2 h3
  go_wp2_with fail
  refine HD.out.mono ?_
  rintro e w2 ⟨V2, y2, rfl, h4, h5, h6, hb2⟩
  obtain ⟨B1, m1, d1, B2, m2, d2, B3, m3, d3, B4, m4, d4, B5, m5, d5, rfl⟩ := h4.form
  have HR := Lib.hid ((HT.out.2.1.below HB1.out).below hb2)
  have HB := Lib.hid (Below.next (Below.next HT.out.2.2.1 HB1.out) hb2)
  have HPP := Lib.hid (HR.out.put5 (.slice B1 m1 d1) (.slice B2 m2 d2) (.slice B3 m3 d3) (.slice B4 m4 d4) (.slice B5 m5 d5))
  have HBF := Lib.hid (below_put5 (b := w.heap.size + 1) HB.out (by omega) (.slice B1 m1 d1) (.slice B2 m2 d2) (.slice B3 m3 d3) (.slice B4 m4 d4) (.slice B5 m5 d5))
  have HRES : Hid (YOut w S (m + 2) (swapA a k p) (.returned (.agg #[.slice B1 m1 d1, .slice B2 m2 d2, .slice B3 m3 d3, .slice B4 m4 d4, .slice B5 m5 d5])) (((((w2.setCell ⟨w.heap.size + 1, 0, none⟩ (.slice B1 m1 d1)).setCell ⟨w.heap.size + 1, 1, none⟩ (.slice B2 m2 d2)).setCell ⟨w.heap.size + 1, 2, none⟩ (.slice B3 m3 d3)).setCell ⟨w.heap.size + 1, 3, none⟩ (.slice B4 m4 d4)).setCell ⟨w.heap.size + 1, 4, none⟩ (.slice B5 m5 d5))) := Lib.hid (by
    have hsx := HT.out.2.2.2
    have hs1 := HB1.out.size
    have h7 := h4.mono (S' := SN S X) (fun b hb => by
      rcases hb with hb | hb
      · exact hb.1
      · exact .inr (Nat.le_trans hs1 hb))
    obtain ⟨C1, e1, C2, e2, C3, e3, C4, e4, C5, e5, he, h8⟩ := h7
    refine ⟨_, y2, rfl, ⟨C1, e1, C2, e2, C3, e3, C4, e4, C5, e5, he, (h8.keep (fun q hq hlt => ?_)).mono (SN_sub (by omega))⟩, h5, h6.more (by omega), HBF.out⟩
    have n1 : q ≠ w.heap.size + 1 := by
      rcases hq with hq | hq
      · have := HSS.out q hq
        omega
      · omega
    exact (Below.heap_setCell _ _ _ _ n1).trans ((Below.heap_setCell _ _ _ _ n1).trans ((Below.heap_setCell _ _ _ _ n1).trans ((Below.heap_setCell _ _ _ _ n1).trans (Below.heap_setCell _ _ _ _ n1)))))
  have y0 := HR.out.c 0 _ rfl
  have y1' := HR.out.c 1 _ rfl
  have y2' := HR.out.c 2 _ rfl
  have y3 := HR.out.c 3 _ rfl
  have y4 := HR.out.c 4 _ rfl
  have k0 := HR.out.f 0
  have k1 := HR.out.f 1
  have k2 := HR.out.f 2
  have k3 := HR.out.f 3
  have k4 := HR.out.f 4
  clear HT HB1 hb2 HD h4 h5 h6 HR HB HBF
  go_wp2
  have q0 := HPP.out.c 0 _ rfl
  have q1 := HPP.out.c 1 _ rfl
  have q2 := HPP.out.c 2 _ rfl
  have q3 := HPP.out.c 3 _ rfl
  have q4 := HPP.out.c 4 _ rfl
  exact bodyPost_ret (v := .agg #[.slice B1 m1 d1, .slice B2 m2 d2, .slice B3 m3 d3, .slice B4 m4 d4, .slice B5 m5 d5]) (by simp [results, Try.results12, go_sem, q0, q1, q2, q3, q4]) rfl HRES.out
set_option maxRecDepth 100000 in
set_option maxHeartbeats 2000000 in
theorem RClock_not {w : World} {A1 A2 A3 A4 A5 : Option Addr} {c1 c2 c3 c4 c5 l1 l2 l3 l4 l5 : Nat} (x : Int) (hx : isW x = false) :
    Calls Try.prog 18 #[.agg #[.slice A1 l1 c1, .slice A2 l2 c2, .slice A3 l3 c3, .slice A4 l4 c4, .slice A5 l5 c5], .int .i64 x] w fun e w' => e = .returned (.slice none 0 0) ∧ Below w.heap.size w w' := by
  have HB := Lib.hid (below_new w (.cells #[.slice A1 l1 c1, .slice A2 l2 c2, .slice A3 l3 c3, .slice A4 l4 c4, .slice A5 l5 c5] 30))
  have HX := Lib.hid hx
  clear hx
  go_enter Try.func18, Try.ntmps18
  go_wp2_with fail
  refine (RNone_any _ _).mono ?_
  rintro e w1 ⟨rfl, rfl⟩
  rw [HX.out]
  go_wp2
  go_ret
  exact ⟨rfl, HB.out⟩
set_option maxRecDepth 100000 in
set_option maxHeartbeats 2000000 in
theorem RClock_yes {S : Nat → Prop} {w : World} {A1 A2 A3 A4 A5 : Option Addr} {c1 c2 c3 c4 c5 l1 l2 l3 l4 l5 : Nat} {y : YX} (h : RYs w S A1 A2 A3 A4 A5 y) (hl : y.ck.length = l1) (k : Nat) (hk : k < 65) :
    Calls Try.prog 18 #[.agg #[.slice A1 l1 c1, .slice A2 l2 c2, .slice A3 l3 c3, .slice A4 l4 c4, .slice A5 l5 c5], .int .i64 (k : Int)] w (CkOut w S (ckN y k)) := by
  have HX : Hid (isW (k : Int) = true) := Lib.hid (by unfold isW; simp; omega)
  have HB := Lib.hid (below_new w (.cells #[.slice A1 l1 c1, .slice A2 l2 c2, .slice A3 l3 c3, .slice A4 l4 c4, .slice A5 l5 c5] 30))
  have hb := Bx.new w [.slice A1 l1 c1, .slice A2 l2 c2, .slice A3 l3 c3, .slice A4 l4 c4, .slice A5 l5 c5] 30
  have HC := Lib.hid (RClockOf_any (c1 := c1) (c2 := c2) (c3 := c3) (c4 := c4) (c5 := c5) (l1 := l1) (l2 := l2) (l3 := l3) (l4 := l4) (l5 := l5) (h.below HB.out) hl k)
  have HBX := Lib.hid (show Bx (w.alloc (.cells #[.slice A1 l1 c1, .slice A2 l2 c2, .slice A3 l3 c3, .slice A4 l4 c4, .slice A5 l5 c5] 30)) w.heap.size _ from hb)
  clear h hl hk hb
  go_enter Try.func18, Try.ntmps18
  go_upto_region 1 with (fail)
  obtain ⟨X, hX⟩ : ∃ X, X = w.alloc (.cells #[.slice A1 l1 c1, .slice A2 l2 c2, .slice A3 l3 c3, .slice A4 l4 c4, .slice A5 l5 c5] 30) := ⟨_, rfl⟩
  rw [← hX] at HB HC HBX ⊢
  clear hX
  go_wp2_with fail
  refine (RNone_any _ _).mono ?_
  rintro e w1 ⟨rfl, rfl⟩
  rw [HX.out]
  have x0 := HBX.out.c 0 _ rfl
  have x1 := HBX.out.c 1 _ rfl
  have x2 := HBX.out.c 2 _ rfl
  have x3 := HBX.out.c 3 _ rfl
  have x4 := HBX.out.c 4 _ rfl
  go_wp2_with fail
  refine HC.out.mono ?_
  rintro e w2 ⟨v, zs, rfl, hs, hn, hb2⟩
  have HO : Hid (CkOut w S (ckN y k) (.returned v) w2) := Lib.hid ⟨v, zs, rfl, hs.mono (SN_sub HB.out.size), hn, Below.next HB.out hb2⟩
  clear hs hn hb2 HC
  go_wp2
  go_ret
  exact HO.out
end Go.Proofs.Ytdgmcaehadigaaa
