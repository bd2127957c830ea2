/- The document's watch (ganglionref18), by contract: written. -/
import Derived.Test.YtdgmcaehadigaaaRefRacCl
import Derived.Test.YtdgmcaehadigaaaRefRac2
namespace Go.Proofs.Ytdgmcaehadigaaa
open Go.RowKit

/-- The write that clashes, by a clock's numbers. -/
def badN (N : List Int) (L : List NT) (k : Nat) (d : Int) : Option NT := L.find? fun n => decide (n.1.1 = d) && !knownN N k n
/-- What a look at the writes leaves: the clash, if there is one. -/
def WrOut (w : World) (S : Nat → Prop) (v1 v2 v3 v4 v5 : Value) (o : Option NT) (L : List ClT) (k : Nat) (write : Bool) (e : Ending) (w' : World) : Prop := match o with
  | none => e = .returned (.tuple #[.agg #[v1, v2, v3, v4, v5], .bool true]) ∧ Below w.heap.size w w'
  | some n => ∃ A c, e = .returned (.tuple #[.agg #[v1, v2, v3, v4, .slice A (L.length + 1) c], .bool false]) ∧ RdG (SN S w) w' A (cellsCl (L ++ [(((n.1.2, n.1.1), true), (((k : Int), n.1.1), write))])) ∧ Below w.heap.size w w'
set_option maxRecDepth 100000 in
set_option maxHeartbeats 4000000 in
theorem RWritten_any {w : World} {S : Nat → Prop} {A1 A2 A3 A4 A5 : Option Addr} {c1 c2 c3 c4 c5 l1 l2 l3 l4 l5 : Nat} {y : YX} (h : RYs w S A1 A2 A3 A4 A5 y) (hS : ∀ b, S b → b < w.heap.size) (hl1 : y.ck.length = l1) (hl3 : y.wr.length = l3) (hl5 : y.cl.length = l5) (k : Nat) (d : Int) (write : Bool) :
    Calls Try.prog 77 #[.agg #[.slice A1 l1 c1, .slice A2 l2 c2, .slice A3 l3 c3, .slice A4 l4 c4, .slice A5 l5 c5], .int .i64 (k : Int), .int .i64 d, .bool write] w (WrOut w S (.slice A1 l1 c1) (.slice A2 l2 c2) (.slice A3 l3 c3) (.slice A4 l4 c4) (.slice A5 l5 c5) (badN (ckN y k) y.wr k d) y.cl k write) := by
  have HT := Lib.hid (two_five w (.slice A1 l1 c1) (.slice A2 l2 c2) (.slice A3 l3 c3) (.slice A4 l4 c4) (.slice A5 l5 c5) (.slice none 0 0) (.slice none 0 0) (.slice none 0 0) (.slice none 0 0) (.slice none 0 0) 30)
  have HC := Lib.hid h.wr
  have HSS := Lib.hid hS
  have few := h.few.2.2.1
  have few5 := h.few.2.2.2.2
  have HK := Lib.hid (fun W (hb : Below w.heap.size w W) (pl wk tm : Int) => RKnown_any (c1 := c1) (c2 := c2) (c3 := c3) (c4 := c4) (c5 := c5) (l2 := l2) (l3 := l3) (l4 := l4) (l5 := l5) (h.below hb) hl1 k pl wk tm)
  have HCL := Lib.hid (fun W (hb : Below w.heap.size w W) (pl wk tm : Int) => RClash_any (A1 := A1) (A2 := A2) (A3 := A3) (A4 := A4) (c1 := c1) (c2 := c2) (c3 := c3) (c4 := c4) (c5 := c5) (l1 := l1) (l2 := l2) (l3 := l3) (l4 := l4) (w := W) (h.cl.below hb) hl5 (by omega) pl wk tm true (k : Int) write)
  clear h hS
  generalize hN : ckN y k = N at *
  generalize hL : y.wr = L at *
  have HG : Hid (∀ o, L.find? (fun n => decide (n.1.1 = d) && !knownN N k n) = o → badN N L k d = o) := Lib.hid fun o ho => ho
  generalize badN N L k d = bo at *
  go_enter Try.func77, Try.ntmps77
  go_upto_region 1 with (fail)
  obtain ⟨X, hX⟩ : ∃ X, X = (w.alloc (.cells #[.slice A1 l1 c1, .slice A2 l2 c2, .slice A3 l3 c3, .slice A4 l4 c4, .slice A5 l5 c5] 30)).alloc (.cells #[.slice none 0 0, .slice none 0 0, .slice none 0 0, .slice none 0 0, .slice none 0 0] 30) := ⟨_, rfl⟩
  rw [← hX] at HT ⊢
  clear hX
  have x2 := HT.out.1.c 2 _ rfl
  go_wp2
  clear x2
  go_loopw [15] (fun i wr => ∃ j : Nat, j ≤ l3 ∧ i = .int .i64 (j : Int) ∧ Below w.heap.size w wr ∧ Below X.heap.size X wr ∧ Hid ((L.take j).find? (fun n => decide (n.1.1 = d) && !knownN N k n) = none)) (fun i _ => l3 - (intOf i).toNat)
  case atStart => exact ⟨0, Nat.zero_le _, rfl, HT.out.2.2.1, Below.refl _ _, Lib.hid rfl⟩
  case round =>
    obtain ⟨j, hj, rfl, hbel, hbel0, HNO⟩ := hrel
    have HB := Lib.hid hbel
    have HB0 := Lib.hid hbel0
    by_cases hlt : j < l3
    · obtain ⟨⟨⟨pl, wk⟩, tm⟩, hp⟩ : ∃ p, L[j]? = some p := ⟨_, List.getElem?_eq_getElem (by omega)⟩
      obtain ⟨bb, off, rfl, hbb, q0, q1, q2⟩ := (HC.out.below hbel).nt hp
      have HP := Lib.hid hp
      simp only at q0 q1 q2
      have hkl : (j : Int) < (l3 : Int) := by omega
      have hk0 : (0 : Int) ≤ (j : Int) := by omega
      clear hbel hbel0 hp
      have hbn := below_new wr (.cells #[.int .i64 pl, .int .i64 wk, .int .i64 tm] 131)
      have HBN := Lib.hid hbn
      have HE := Lib.hid (show Bx (wr.alloc (.cells #[.int .i64 pl, .int .i64 wk, .int .i64 tm] 131)) wr.heap.size [.int .i64 pl, .int .i64 wk, .int .i64 tm] from Bx.new wr [.int .i64 pl, .int .i64 wk, .int .i64 tm] 131)
      have HD := Lib.hid (HT.out.1.below (Below.next HB0.out hbn))
      have HR := Lib.hid (HT.out.2.1.below (Below.next HB0.out hbn))
      have HBW := Lib.hid (Below.next HB.out hbn)
      have HBX := Lib.hid (Below.next HB0.out hbn)
      clear hbn
      go_upto_region 4 with (fail)
      generalize wr.alloc (.cells #[.int .i64 pl, .int .i64 wk, .int .i64 tm] 131) = U at *
      generalize wr.heap.size = E at *
      clear q0 q1 q2 HB HB0 HBN
      have n0 := HE.out.c 0 _ rfl
      have n1 := HE.out.c 1 _ rfl
      have n2 := HE.out.c 2 _ rfl
      have x0 := HD.out.c 0 _ rfl
      have x1 := HD.out.c 1 _ rfl
      have x2 := HD.out.c 2 _ rfl
      have x3 := HD.out.c 3 _ rfl
      have x4 := HD.out.c 4 _ rfl
      by_cases e : pl = d
      · have HKK := Lib.hid (HK.out U HBW.out pl wk tm)
        cases hkn : knownN N k ((pl, wk), tm) with
        | true =>
          have HN2 : Hid ((L.take (j + 1)).find? (fun n => decide (n.1.1 = d) && !knownN N k n) = none) := Lib.hid (findT_none HNO.out HP.out (by show (decide (pl = d) && !knownN N k ((pl, wk), tm)) = false; rw [hkn]; simp))
          rw [hkn] at HKK
          clear hkn
          subst e
          go_wp2_with fail
          refine HKK.out.mono ?_
          rintro e w5 ⟨rfl, hb5⟩
          have HB6 := Lib.hid (Below.next HBW.out hb5)
          have HB7 := Lib.hid (Below.next HBX.out hb5)
          clear hb5 HKK
          go_wp2
          go_roundw
          case rel => exact ⟨j + 1, by omega, by go_num, HB6.out, HB7.out, HN2⟩
          case measure => simp [intOf]; omega
        | false =>
          have hf : L.find? (fun n => decide (n.1.1 = d) && !knownN N k n) = some ((pl, wk), tm) := findT_some HNO.out HP.out (by show (decide (pl = d) && !knownN N k ((pl, wk), tm)) = true; rw [hkn, decide_eq_true e]; rfl)
          have HBO := Lib.hid (HG.out _ hf)
          rw [hkn] at HKK
          clear hkn hf
          subst e
          go_wp2_with fail
          refine HKK.out.mono ?_
          rintro e w5 ⟨rfl, hb5⟩
          have HD5 := Lib.hid (HD.out.below hb5)
          have HE5 := Lib.hid (HE.out.below hb5)
          have HR5 := Lib.hid (HR.out.below hb5)
          have HB6 := Lib.hid (Below.next HBW.out hb5)
          have HX5 : Hid (X.heap.size ≤ w5.heap.size) := Lib.hid (Below.next HBX.out hb5).size
          clear hb5 HKK n0 n1 n2 x0 x1 x2 x3 x4
          have n0 := HE5.out.c 0 _ rfl
          have n1 := HE5.out.c 1 _ rfl
          have n2 := HE5.out.c 2 _ rfl
          have x0 := HD5.out.c 0 _ rfl
          have x1 := HD5.out.c 1 _ rfl
          have x2 := HD5.out.c 2 _ rfl
          have x3 := HD5.out.c 3 _ rfl
          have x4 := HD5.out.c 4 _ rfl
          have HCC := Lib.hid (HCL.out w5 HB6.out pl wk tm)
          go_wp2_with fail
          refine HCC.out.mono ?_
          rintro e w7 ⟨A9, c9, rfl, hr9, hb7⟩
          have HR7 := Lib.hid (HR5.out.below hb7)
          have HB7 := Lib.hid (Below.next HB6.out hb7)
          have HPP := Lib.hid (HR7.out.put5 (.slice A1 l1 c1) (.slice A2 l2 c2) (.slice (some ⟨bb, off, none⟩) l3 c3) (.slice A4 l4 c4) (.slice A9 (l5 + 1) c9))
          have HBF := Lib.hid (below_put5 (b := w.heap.size + 1) HB7.out (by omega) (.slice A1 l1 c1) (.slice A2 l2 c2) (.slice (some ⟨bb, off, none⟩) l3 c3) (.slice A4 l4 c4) (.slice A9 (l5 + 1) c9))
          have HRES : Hid (WrOut w S (.slice A1 l1 c1) (.slice A2 l2 c2) (.slice (some ⟨bb, off, none⟩) l3 c3) (.slice A4 l4 c4) (.slice A5 l5 c5) bo y.cl k write (.returned (.tuple #[.agg #[.slice A1 l1 c1, .slice A2 l2 c2, .slice (some ⟨bb, off, none⟩) l3 c3, .slice A4 l4 c4, .slice A9 (l5 + 1) c9], .bool false])) (((((w7.setCell ⟨w.heap.size + 1, 0, none⟩ (.slice A1 l1 c1)).setCell ⟨w.heap.size + 1, 1, none⟩ (.slice A2 l2 c2)).setCell ⟨w.heap.size + 1, 2, none⟩ (.slice (some ⟨bb, off, none⟩) l3 c3)).setCell ⟨w.heap.size + 1, 3, none⟩ (.slice A4 l4 c4)).setCell ⟨w.heap.size + 1, 4, none⟩ (.slice A9 (l5 + 1) c9))) := Lib.hid (by
            rw [HBO.out]
            refine ⟨A9, c9, by rw [hl5], ((hr9.mono (SN_sub (w := X) HX5.out)).keep (fun q hq _ => ?_)).mono (SN_sub (by have := HT.out.2.2.2; omega)), HBF.out⟩
            have n1 : q ≠ w.heap.size + 1 := by
              rcases hq with hq | hq
              · have := HSS.out q hq
                omega
              · have := HT.out.2.2.2
                omega
            exact (Below.heap_setCell _ _ _ _ n1).trans ((Below.heap_setCell _ _ _ _ n1).trans ((Below.heap_setCell _ _ _ _ n1).trans ((Below.heap_setCell _ _ _ _ n1).trans (Below.heap_setCell _ _ _ _ n1)))))
          have y0 := HR7.out.c 0 _ rfl
          have y1 := HR7.out.c 1 _ rfl
          have y2 := HR7.out.c 2 _ rfl
          have y3 := HR7.out.c 3 _ rfl
          have y4 := HR7.out.c 4 _ rfl
          have k0 := HR7.out.f 0
          have k1 := HR7.out.f 1
          have k2 := HR7.out.f 2
          have k3 := HR7.out.f 3
          have k4 := HR7.out.f 4
          clear n0 n1 n2 x0 x1 x2 x3 x4 HR7 HB7 HBF HR5 HB6 HX5 HD5 HE5 HCC hr9 hb7 HK HCL HG HC HD HE HR HBW HBX HT HNO HP HBO
          go_wp2
          have q0 := HPP.out.c 0 _ rfl
          have q1 := HPP.out.c 1 _ rfl
          have q2 := HPP.out.c 2 _ rfl
          have q3 := HPP.out.c 3 _ rfl
          have q4 := HPP.out.c 4 _ rfl
          exact bodyPost_ret (v := .tuple #[.agg #[.slice A1 l1 c1, .slice A2 l2 c2, .slice (some ⟨bb, off, none⟩) l3 c3, .slice A4 l4 c4, .slice A9 (l5 + 1) c9], .bool false]) (by simp [results, Try.results77, go_sem, q0, q1, q2, q3, q4]) rfl HRES.out
      · have HN2 : Hid ((L.take (j + 1)).find? (fun n => decide (n.1.1 = d) && !knownN N k n) = none) := Lib.hid (findT_none HNO.out HP.out (by show (decide (pl = d) && !knownN N k ((pl, wk), tm)) = false; rw [decide_eq_false e]; rfl))
        clear x0 x1 x2 x3 x4 n1 n2
        go_wp2
        go_roundw
        case rel => exact ⟨j + 1, by omega, by go_num, HBW.out, HBX.out, HN2⟩
        case measure => simp [intOf]; omega
    · obtain rfl : l3 = j := by omega
      have HBO : Hid (bo = none) := Lib.hid (HG.out _ (by
        have := HNO.out
        rw [List.take_of_length_le (by omega)] at this
        exact this))
      have HD := Lib.hid (HT.out.1.below HB0.out)
      have HR := Lib.hid (HT.out.2.1.below HB0.out)
      have HPP := Lib.hid (HR.out.put5 (.slice A1 l1 c1) (.slice A2 l2 c2) (.slice A3 l3 c3) (.slice A4 l4 c4) (.slice A5 l5 c5))
      have HBF := Lib.hid (below_put5 (b := w.heap.size + 1) HB.out (by omega) (.slice A1 l1 c1) (.slice A2 l2 c2) (.slice A3 l3 c3) (.slice A4 l4 c4) (.slice A5 l5 c5))
      have x0 := HD.out.c 0 _ rfl
      have x1 := HD.out.c 1 _ rfl
      have x2 := HD.out.c 2 _ rfl
      have x3 := HD.out.c 3 _ rfl
      have x4 := HD.out.c 4 _ rfl
      have y0 := HR.out.c 0 _ rfl
      have y1 := HR.out.c 1 _ rfl
      have y2 := HR.out.c 2 _ rfl
      have y3 := HR.out.c 3 _ rfl
      have y4 := HR.out.c 4 _ rfl
      have k0 := HR.out.f 0
      have k1 := HR.out.f 1
      have k2 := HR.out.f 2
      have k3 := HR.out.f 3
      have k4 := HR.out.f 4
      clear hbel hbel0 HT HNO HK HCL HG HC HD HR HB HB0
      go_wp2
      have q0 := HPP.out.c 0 _ rfl
      have q1 := HPP.out.c 1 _ rfl
      have q2 := HPP.out.c 2 _ rfl
      have q3 := HPP.out.c 3 _ rfl
      have q4 := HPP.out.c 4 _ rfl
      exact bodyPost_ret (v := .tuple #[.agg #[.slice A1 l1 c1, .slice A2 l2 c2, .slice A3 l3 c3, .slice A4 l4 c4, .slice A5 l5 c5], .bool true]) (by simp [results, Try.results77, go_sem, q0, q1, q2, q3, q4]) rfl (by rw [HBO.out]; exact ⟨rfl, HBF.out⟩)
end Go.Proofs.Ytdgmcaehadigaaa
