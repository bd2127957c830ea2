/- The document's watch (ganglionref18), by contract: Write. -/
import Derived.Test.YtdgmcaehadigaaaRefRacLs
namespace Go.Proofs.Ytdgmcaehadigaaa
open Go.RowKit

/-- The clashes behind a write. -/
def clF (a : AX) (L : List ClT) (k : Nat) (d : Int) : List ClT := match clashW a k d with
  | some x => L ++ [(x, (((k : Int), d), true))]
  | none => L
theorem clF_len (a : AX) (L : List ClT) (k : Nat) (d : Int) : (clF a L k d).length ≤ L.length + 1 := by
  unfold clF
  split
  · rw [List.length_append]; exact Nat.le_refl _
  · omega
theorem clF_hid {a : AX} {L : List ClT} {k : Nat} {d : Int} (h : hidW a k d = true) : clW a L k d true = clF a L k d ∧ (clashW a k d).isNone = false := by
  unfold clF clW clashW
  rw [if_pos h, if_pos h]
  exact ⟨rfl, rfl⟩
theorem clF_no {a : AX} {L : List ClT} {k : Nat} {d : Int} (h : hidW a k d = false) (h2 : (hidR (a.N k) (a.rd d)).2 = false) : clW a L k d true = clF a L k d ∧ (clashW a k d).isNone = true := by
  unfold clF clW clashW
  rw [if_neg (by rw [h]; decide), if_neg (by rw [h]; decide), if_neg (by rw [h2]; decide)]
  exact ⟨rfl, rfl⟩
theorem clF_yes {a : AX} {L : List ClT} {k : Nat} {d : Int} (h : hidW a k d = false) (h2 : (hidR (a.N k) (a.rd d)).2 = true) : clW a L k d true ++ [((((hidR (a.N k) (a.rd d)).1, d), false), (((k : Int), d), true))] = clF a L k d ∧ (clashW a k d).isNone = false := by
  unfold clF clW clashW
  rw [if_neg (by rw [h]; decide), if_neg (by rw [h]; decide), if_pos h2]
  exact ⟨rfl, rfl⟩
/-- Between the clashes and the notes. -/
def WMid (w X : World) (S : Nat → Prop) (v1 v2 v3 v4 : Value) (L : List ClT) (W : World) : Prop :=
  ∃ A c, Bx W w.heap.size [v1, v2, v3, v4, .slice A L.length c] ∧ Bx W (w.heap.size + 1) [.slice none 0 0, .slice none 0 0, .slice none 0 0, .slice none 0 0, .slice none 0 0] ∧ RdG (SN S X) W A (cellsCl L) ∧ Below w.heap.size w W ∧ X.heap.size ≤ W.heap.size
set_option maxRecDepth 100000 in
set_option maxHeartbeats 8000000 in
theorem RWrite_yes {w : World} {S : Nat → Prop} {V : Value} {y : YX} {a : AX} {m : Nat} (h : RY w S V y) (hS : ∀ b, S b → b < w.heap.size) (hr : RelY a y) (hf : YFew m y) (hm : m < 900) (k : Nat) (hk : k < 65) (d : Int) :
    Calls Try.prog 14 #[V, .int .i64 (k : Int), .int .i64 d] w (YOutB w S (m + 1) (writeA a k d) (clashW a k d).isNone) := by
  obtain ⟨i1, hj0, hj1, hj2, hj3⟩ := info_parts info_note
  obtain ⟨A1, c1, A2, c2, A3, c3, A4, c4, A5, c5, rfl, hy⟩ := h
  have HT := Lib.hid (two_five w (.slice A1 y.ck.length c1) (.slice A2 y.sy.length c2) (.slice A3 y.wr.length c3) (.slice A4 y.rd.length c4) (.slice A5 y.cl.length c5) (.slice none 0 0) (.slice none 0 0) (.slice none 0 0) (.slice none 0 0) (.slice none 0 0) 30)
  have HY := Lib.hid hy
  have HSS := Lib.hid hS
  have HREL := Lib.hid hr
  have HFEW := Lib.hid hf
  have hk65 := Lib.hid hk
  have HW := Lib.hid (fun W (hb : Below w.heap.size w W) => RWritten_rel (w := W) (c1 := c1) (c2 := c2) (c3 := c3) (c4 := c4) (c5 := c5) (l2 := y.sy.length) (l4 := y.rd.length) (hy.below hb) hr (fun b e => Nat.lt_of_lt_of_le (hS b e) hb.size) rfl rfl rfl k hk d true)
  have HLST := Lib.hid (hr.least hk d)
  have few := hy.few.2.2
  have hw : isW (k : Int) = true := by unfold isW; simp; omega
  clear hy hr hS hf
  generalize hl1 : y.ck.length = l1 at *
  generalize hl2 : y.sy.length = l2 at *
  generalize hl3 : y.wr.length = l3 at *
  generalize hl4 : y.rd.length = l4 at *
  generalize hl5 : y.cl.length = l5 at *
  have HL1 := Lib.hid hl1
  have HL2 := Lib.hid hl2
  have HL3 := Lib.hid hl3
  have HL4 := Lib.hid hl4
  have HL5 := Lib.hid hl5
  clear hl1 hl2 hl3 hl4 hl5
  obtain ⟨bF, hbF⟩ : ∃ bF, (clashW a k d).isNone = bF := ⟨_, rfl⟩
  have HBF0 := Lib.hid hbF
  rw [hbF]
  clear hbF
  go_enter Try.func14, Try.ntmps14
  go_upto_region 1 with (fail)
  obtain ⟨X, hX⟩ : ∃ X, X = (w.alloc (.cells #[.slice A1 l1 c1, .slice A2 l2 c2, .slice A3 l3 c3, .slice A4 l4 c4, .slice A5 l5 c5] 30)).alloc (.cells #[.slice none 0 0, .slice none 0 0, .slice none 0 0, .slice none 0 0, .slice none 0 0] 30) := ⟨_, rfl⟩
  rw [← hX] at HT ⊢
  clear hX
  go_wp2_with fail
  refine (RNone_any _ _).mono ?_
  rintro e w1 ⟨rfl, rfl⟩
  rw [hw]
  clear hw
  have x0 := HT.out.1.c 0 _ rfl
  have x1 := HT.out.1.c 1 _ rfl
  have x2 := HT.out.1.c 2 _ rfl
  have x3 := HT.out.1.c 3 _ rfl
  have x4 := HT.out.1.c 4 _ rfl
  have HC := Lib.hid (HW.out X HT.out.2.2.1)
  go_wp2_with fail
  refine HC.out.mono ?_
  rintro e w3 ⟨A6, c6, rfl, hr6, hb3⟩
  obtain ⟨l6, hl6⟩ : ∃ l6, (clW a y.cl k d true).length = l6 := ⟨_, rfl⟩
  have HL6 := Lib.hid hl6
  rw [hl6]
  clear hl6
  have HD0 := Lib.hid (HT.out.1.below hb3)
  have HX3 := Lib.hid hb3.size
  have HXS := Lib.hid HT.out.2.2.2
  have HD3 := Lib.hid (HD0.out.put5 (.slice A1 l1 c1) (.slice A2 l2 c2) (.slice A3 l3 c3) (.slice A4 l4 c4) (.slice A6 l6 c6))
  have p1 := fun (U : World) (hU : Bx U (w.heap.size + 1) [.slice none 0 0, .slice none 0 0, .slice none 0 0, .slice none 0 0, .slice none 0 0]) (j : Nat) (v : Value) => hU.other (a := ⟨w.heap.size, j, none⟩) (by simp) v
  have HR3 := Lib.hid (p1 _ (p1 _ (p1 _ (p1 _ (p1 _ (HT.out.2.1.below hb3) 0 (.slice A1 l1 c1)) 1 (.slice A2 l2 c2)) 2 (.slice A3 l3 c3)) 3 (.slice A4 l4 c4)) 4 (.slice A6 l6 c6))
  have HB3 := Lib.hid (below_put5 (b := w.heap.size) (Below.next HT.out.2.2.1 hb3) (Nat.le_refl _) (.slice A1 l1 c1) (.slice A2 l2 c2) (.slice A3 l3 c3) (.slice A4 l4 c4) (.slice A6 l6 c6))
  have hnD : ∀ q, SN S X q → q ≠ w.heap.size ∧ q ≠ w.heap.size + 1 := fun q hq => by
    have hx := HXS.out
    rcases hq with hq | hq
    · have := HSS.out q hq
      omega
    · omega
  have HND := Lib.hid hnD
  have hk5 : ∀ (W : World) (v0 v1 v2 v3 v4 : Value), ∀ q, SN S X q → q < W.heap.size → (((((W.setCell ⟨w.heap.size, 0, none⟩ v0).setCell ⟨w.heap.size, 1, none⟩ v1).setCell ⟨w.heap.size, 2, none⟩ v2).setCell ⟨w.heap.size, 3, none⟩ v3).setCell ⟨w.heap.size, 4, none⟩ v4).heap[q]? = W.heap[q]? := fun W v0 v1 v2 v3 v4 q hq _ => by
    have n0 := (hnD q hq).1
    exact (Below.heap_setCell _ _ _ _ n0).trans ((Below.heap_setCell _ _ _ _ n0).trans ((Below.heap_setCell _ _ _ _ n0).trans ((Below.heap_setCell _ _ _ _ n0).trans (Below.heap_setCell _ _ _ _ n0))))
  have HK5 := Lib.hid hk5
  have HP1 := Lib.hid p1
  have HR6 := Lib.hid (hr6.keep (hk5 w3 (.slice A1 l1 c1) (.slice A2 l2 c2) (.slice A3 l3 c3) (.slice A4 l4 c4) (.slice A6 l6 c6)))
  have e0 := HD0.out.c 0 _ rfl
  have e1 := HD0.out.c 1 _ rfl
  have e2 := HD0.out.c 2 _ rfl
  have e3 := HD0.out.c 3 _ rfl
  have e4 := HD0.out.c 4 _ rfl
  have f0 := HD0.out.f 0
  have f1 := HD0.out.f 1
  have f2 := HD0.out.f 2
  have f3 := HD0.out.f 3
  have f4 := HD0.out.f 4
  have hXU : X.heap.size ≤ (((((w3.setCell ⟨w.heap.size, 0, none⟩ (.slice A1 l1 c1)).setCell ⟨w.heap.size, 1, none⟩ (.slice A2 l2 c2)).setCell ⟨w.heap.size, 2, none⟩ (.slice A3 l3 c3)).setCell ⟨w.heap.size, 3, none⟩ (.slice A4 l4 c4)).setCell ⟨w.heap.size, 4, none⟩ (.slice A6 l6 c6)).heap.size := by
    simp only [World.size_setCell]
    exact HX3.out
  have HXU := Lib.hid hXU
  clear HC HW p1 hnD hk5 hr6 hb3 HD0 HX3 hXU x0 x1 x2 x3 x4 HT
  go_upto_if 22 with (fail)
  generalize (((((w3.setCell ⟨w.heap.size, 0, none⟩ (.slice A1 l1 c1)).setCell ⟨w.heap.size, 1, none⟩ (.slice A2 l2 c2)).setCell ⟨w.heap.size, 2, none⟩ (.slice A3 l3 c3)).setCell ⟨w.heap.size, 3, none⟩ (.slice A4 l4 c4)).setCell ⟨w.heap.size, 4, none⟩ (.slice A6 l6 c6)) = U at *
  clear e0 e1 e2 e3 e4 f0 f1 f2 f3 f4
  go_cut [8] (fun bv wc => bv = .bool bF ∧ WMid w X S (.slice A1 l1 c1) (.slice A2 l2 c2) (.slice A3 l3 c3) (.slice A4 l4 c4) (clF a y.cl k d) wc)
  case first =>
    cases hhid : hidW a k d with
    | true =>
      obtain ⟨q1, q2⟩ := clF_hid (L := y.cl) hhid
      have HM : Hid (WMid w X S (.slice A1 l1 c1) (.slice A2 l2 c2) (.slice A3 l3 c3) (.slice A4 l4 c4) (clF a y.cl k d) U) := Lib.hid ⟨A6, c6, by rw [← q1, HL6.out]; exact HD3.out, HR3.out, by rw [← q1]; exact HR6.out, HB3.out, HXU.out⟩
      have HQ2 : Hid (bF = false) := Lib.hid (by rw [← HBF0.out, q2])
      clear hhid q1 q2
      go_wp2
      go_meet
      exact ⟨by rw [HQ2.out]; rfl, HM.out⟩
    | false =>
      have HHID := Lib.hid hhid
      have HLE := Lib.hid (RLeast_any (w := U) (c1 := c1) (c2 := c2) (c3 := c3) (c4 := c4) (c5 := c6) (l2 := l2) (l3 := l3) (l5 := l6) (a := a) (k := k) (y := ⟨y.ck, y.sy, y.wr, y.rd, []⟩) (S := SN S X) (A5 := A6) (show RYs U (SN S X) A1 A2 A3 A4 A6 ⟨y.ck, y.sy, y.wr, y.rd, []⟩ from by
        have hm := (HY.out.below HB3.out).mono (S' := SN S X) (fun _ hz => .inl hz)
        exact ⟨hm.ck, hm.sy, hm.wr, hm.rd, RdG.nil, hm.cks, hm.sys, hm.few.1, hm.few.2.1, hm.few.2.2.1, hm.few.2.2.2.1, Nat.zero_le _⟩) (HREL.out.ck k hk65.out) HL1.out HL4.out d)
      have x0 := HD3.out.c 0 _ rfl
      have x1 := HD3.out.c 1 _ rfl
      have x2 := HD3.out.c 2 _ rfl
      have x3 := HD3.out.c 3 _ rfl
      have x4 := HD3.out.c 4 _ rfl
      clear hhid
      go_wp2_with fail
      refine HLE.out.mono ?_
      rintro e w5 ⟨rfl, hb5⟩
      rcases HLST.out with ⟨q1, q2⟩ | ⟨n, q1, q2, q3⟩
      · have q1' : lst a k d (⟨y.ck, y.sy, y.wr, y.rd, []⟩ : YX).rd none = none := q1
        rw [q1']
        obtain ⟨q4, q5⟩ := clF_no (L := y.cl) HHID.out q2
        have hbn := below_new w5 (.cells #[.int .i64 0, .int .i64 0, .int .i64 0] 131)
        have hbW := Below.next hb5 hbn
        have HM : Hid (WMid w X S (.slice A1 l1 c1) (.slice A2 l2 c2) (.slice A3 l3 c3) (.slice A4 l4 c4) (clF a y.cl k d) (w5.alloc (.cells #[.int .i64 0, .int .i64 0, .int .i64 0] 131))) := Lib.hid ⟨A6, c6, by rw [← q4, HL6.out]; exact HD3.out.below hbW, HR3.out.below hbW, by rw [← q4]; exact HR6.out.below hbW, Below.next HB3.out hbW, Nat.le_trans HXU.out hbW.size⟩
        have HQ2 : Hid (bF = true) := Lib.hid (by rw [← HBF0.out, q5])
        have HBN := Lib.hid hbn
        rw [show (ntC none).toArray = #[.int .i64 0, .int .i64 0, .int .i64 0] from rfl, show (none : Option NT).isSome = false from rfl]
        clear HLE hb5 q1 q1' q2 q4 q5 hbn hbW x0 x1 x2 x3 x4
        go_wp2
        go_meet
        exact ⟨by rw [HQ2.out], HM.out⟩
      · obtain ⟨⟨np, nw⟩, nt⟩ := n
        have q1' : lst a k d (⟨y.ck, y.sy, y.wr, y.rd, []⟩ : YX).rd none = some ((np, nw), nt) := q1
        rw [q1', show (ntC (some ((np, nw), nt))).toArray = #[.int .i64 np, .int .i64 nw, .int .i64 nt] from rfl, show (some ((np, nw), nt) : Option NT).isSome = true from rfl]
        obtain ⟨q4, q5⟩ := clF_yes (L := y.cl) HHID.out q3
        have hpw : np = d ∧ nw = (hidR (a.N k) (a.rd d)).1 := by
          injection q2 with e1 e2
          exact ⟨e1, e2⟩
        have HQ4 : Hid (clW a y.cl k d true ++ [(((nw, np), false), (((k : Int), np), true))] = clF a y.cl k d) := Lib.hid (by rw [hpw.1, hpw.2]; exact q4)
        have HQ2 : Hid (bF = false) := Lib.hid (by rw [← HBF0.out, q5])
        have hbn := below_new w5 (.cells #[.int .i64 np, .int .i64 nw, .int .i64 nt] 131)
        have hbW := Below.next hb5 hbn
        have HE := Lib.hid (show Bx (w5.alloc (.cells #[.int .i64 np, .int .i64 nw, .int .i64 nt] 131)) w5.heap.size [.int .i64 np, .int .i64 nw, .int .i64 nt] from Bx.new w5 [.int .i64 np, .int .i64 nw, .int .i64 nt] 131)
        have HD5 := Lib.hid (HD3.out.below hbW)
        have HR5 := Lib.hid (HR3.out.below hbW)
        have HB5 := Lib.hid (Below.next HB3.out hbW)
        have HC5 := Lib.hid (HR6.out.below hbW)
        have HX5 := Lib.hid (Nat.le_trans HXU.out hbW.size)
        clear HLE hb5 q1 q1' q2 q3 q4 q5 hpw hbn hbW x0 x1 x2 x3 x4
        go_upto_region 7 with (fail)
        generalize w5.alloc (.cells #[.int .i64 np, .int .i64 nw, .int .i64 nt] 131) = U5 at *
        generalize w5.heap.size = E at *
        have n0 := HE.out.c 0 _ rfl
        have n1 := HE.out.c 1 _ rfl
        have n2 := HE.out.c 2 _ rfl
        have x0 := HD5.out.c 0 _ rfl
        have x1 := HD5.out.c 1 _ rfl
        have x2 := HD5.out.c 2 _ rfl
        have x3 := HD5.out.c 3 _ rfl
        have x4 := HD5.out.c 4 _ rfl
        have few6 : l6 ≤ 1000 := by
          have h1 := clW_len a y.cl k d true
          have h2 := HFEW.out
          unfold YFew at h2
          have h3 := HL6.out
          omega
        have HCL := Lib.hid (RClash_any (A1 := A1) (A2 := A2) (A3 := A3) (A4 := A4) (c1 := c1) (c2 := c2) (c3 := c3) (c4 := c4) (c5 := c6) (l1 := l1) (l2 := l2) (l3 := l3) (l4 := l4) HC5.out HL6.out few6 np nw nt false (k : Int) true)
        go_wp2_with fail
        refine HCL.out.mono ?_
        rintro e w7 ⟨A9, c9, rfl, hr9, hb7⟩
        have HD7 := Lib.hid (HD5.out.below hb7)
        have HR7 := Lib.hid (HR5.out.below hb7)
        have HB7 := Lib.hid (Below.next HB5.out hb7)
        have HX7 := Lib.hid (Nat.le_trans HX5.out hb7.size)
        have HR8 := Lib.hid (hr9.mono (SN_twice HX5.out))
        have HM : Hid (WMid w X S (.slice A1 l1 c1) (.slice A2 l2 c2) (.slice A3 l3 c3) (.slice A4 l4 c4) (clF a y.cl k d) (((((w7.setCell ⟨w.heap.size, 0, none⟩ (.slice A1 l1 c1)).setCell ⟨w.heap.size, 1, none⟩ (.slice A2 l2 c2)).setCell ⟨w.heap.size, 2, none⟩ (.slice A3 l3 c3)).setCell ⟨w.heap.size, 3, none⟩ (.slice A4 l4 c4)).setCell ⟨w.heap.size, 4, none⟩ (.slice A9 (l6 + 1) c9))) := Lib.hid (by
          have hlen : (clF a y.cl k d).length = l6 + 1 := by rw [← HQ4.out, List.length_append, HL6.out]; rfl
          refine ⟨A9, c9, ?_, HP1.out _ (HP1.out _ (HP1.out _ (HP1.out _ (HP1.out _ HR7.out 0 _) 1 _) 2 _) 3 _) 4 _, ?_, below_put5 HB7.out (Nat.le_refl _) _ _ _ _ _, ?_⟩
          · rw [hlen]
            exact HD7.out.put5 _ _ _ _ _
          · rw [← HQ4.out]
            exact HR8.out.keep (HK5.out w7 _ _ _ _ _)
          · simp only [World.size_setCell]
            exact HX7.out)
        have f0 := HD7.out.f 0
        have f1 := HD7.out.f 1
        have f2 := HD7.out.f 2
        have f3 := HD7.out.f 3
        have f4 := HD7.out.f 4
        clear n0 n1 n2 x0 x1 x2 x3 x4 HCL hr9 hb7
        have x0 := HD7.out.c 0 _ rfl
        have x1 := HD7.out.c 1 _ rfl
        have x2 := HD7.out.c 2 _ rfl
        have x3 := HD7.out.c 3 _ rfl
        have x4 := HD7.out.c 4 _ rfl
        go_wp2
        go_meet
        exact ⟨by rw [HQ2.out], HM.out⟩
  case rest =>
    obtain ⟨rfl, A8, c8, hD, hR, hC, hB, hX⟩ := hcut
    obtain ⟨l8, hl8⟩ : ∃ l8, (clF a y.cl k d).length = l8 := ⟨_, rfl⟩
    rw [hl8] at hD
    have HL8 := Lib.hid hl8
    have HD8 := Lib.hid hD
    have HR8 := Lib.hid hR
    have HC8 := Lib.hid hC
    have HB8 := Lib.hid hB
    have HX8 := Lib.hid hX
    clear hl8 hD hR hC hB hX HD3 HR3 HB3 HR6 HXU HLST HL6 HP1 HK5
    have x3 := HD8.out.c 3 _ rfl
    have HW1 := Lib.hid (RWithout_any (c := c4) (HY.out.below HB8.out).rd HL4.out few.2.1 d)
    go_wp2_with fail
    refine HW1.out.mono ?_
    rintro e w5 ⟨A9, c9, rfl, ho9, hb5⟩
    obtain ⟨l9, hl9⟩ : ∃ l9, (butD y.rd d).length = l9 := ⟨_, rfl⟩
    rw [hl9] at ho9 ⊢
    have HL9 := Lib.hid hl9
    have HN9 := Lib.hid (RdG.of_own (S := fun b => wc.heap.size ≤ b) ho9 (fun e => by
      have h0 : butD y.rd d = [] := List.length_eq_zero_iff.1 (by omega)
      rw [h0]; rfl) (fun b hb => hb))
    have HDb := HD8.out.below hb5
    have z3 := HDb.c 3 _ rfl
    have d3 := HDb.f 3
    have HD9 := Lib.hid (HDb.set 3 (.slice A9 l9 c9))
    have HR9 := Lib.hid ((HR8.out.below hb5).other (a := ⟨w.heap.size, 3, none⟩) (by simp) (.slice A9 l9 c9))
    have HB9 := Lib.hid (bl1 (k := 3) (Below.next HB8.out hb5) (Nat.le_refl w.heap.size) (.slice A9 l9 c9))
    have hne3 : ∀ q, q ≠ w.heap.size → (w5.setCell ⟨w.heap.size, 3, none⟩ (.slice A9 l9 c9)).heap[q]? = w5.heap[q]? := fun q hq => Below.heap_setCell _ _ _ _ hq
    have HC9 := Lib.hid ((HC8.out.below hb5).keep (fun q hq _ => hne3 q (HND.out q hq).1)).within
    have hwc : w.heap.size + 2 ≤ wc.heap.size := by have := HXS.out; have := HX8.out; omega
    have HM9 := Lib.hid (HN9.out.keep (fun q hq _ => hne3 q (by have : wc.heap.size ≤ q := hq; omega))).within
    have HX9 : Hid (wc.heap.size ≤ (w5.setCell ⟨w.heap.size, 3, none⟩ (.slice A9 l9 c9)).heap.size) := Lib.hid (by rw [World.size_setCell]; exact hb5.size)
    have HWC := Lib.hid hwc
    clear HW1 ho9 hb5 hl9 HDb hne3 x3 HD8 HR8 HC8 HN9 hwc
    go_upto_region 10 with (fail)
    clear z3 d3
    generalize w5.setCell ⟨w.heap.size, 3, none⟩ (.slice A9 l9 c9) = U1 at *
    have x2 := HD9.out.c 2 _ rfl
    have HW2 := Lib.hid (RWithout_any (c := c3) (HY.out.below HB9.out).wr HL3.out few.1 d)
    go_wp2_with fail
    refine HW2.out.mono ?_
    rintro e w6 ⟨A10, c10, rfl, ho10, hb6⟩
    obtain ⟨R, hRR⟩ : ∃ R, butD y.wr d = R := ⟨_, rfl⟩
    have HRR := Lib.hid hRR
    rw [hRR] at ho10 ⊢
    clear hRR
    have HD6 := Lib.hid (HD9.out.below hb6)
    have HR6 := Lib.hid (HR9.out.below hb6)
    have HB6 := Lib.hid (Below.next HB9.out hb6)
    have HC6 := Lib.hid (HC9.out.below hb6)
    have HM6 := Lib.hid (HM9.out.below hb6)
    have HO6 := Lib.hid ho10
    have hs6 := hb6.size
    clear HW2 ho10 hb6 x2 HD9 HR9 HB9 HC9 HM9
    have x0 := HD6.out.c 0 _ rfl
    have x1 := HD6.out.c 1 _ rfl
    have x2 := HD6.out.c 2 _ rfl
    have x3 := HD6.out.c 3 _ rfl
    have x4 := HD6.out.c 4 _ rfl
    have HC := Lib.hid (RClockOf_any (c1 := c1) (c2 := c2) (c3 := c3) (c4 := c9) (c5 := c8) (l1 := l1) (l2 := l2) (l3 := l3) (l4 := l9) (l5 := l8) (y := ⟨y.ck, y.sy, y.wr, [], []⟩) (w := w6) (S := S) (A4 := A9) (A5 := A8) (show RYs w6 S A1 A2 A3 A9 A8 ⟨y.ck, y.sy, y.wr, [], []⟩ from by
      have hm := HY.out.below HB6.out
      exact ⟨hm.ck, hm.sy, hm.wr, RdG.nil, RdG.nil, hm.cks, hm.sys, hm.few.1, hm.few.2.1, hm.few.2.2.1, Nat.zero_le _, Nat.zero_le _⟩) HL1.out k)
    go_wp2_with fail
    refine HC.out.mono ?_
    rintro e w7 ⟨vc, zc, rfl, ⟨Ac, cc, rfl, hrc, hlc⟩, hnc, hb7⟩
    have hcn : numL zc = a.N k := by rw [hnc]; exact HREL.out.ck k hk65.out
    have HAT := Lib.hid (refAt_any Ac zc cc (k : Int) w7 hrc.rd)
    have HTV : Hid (atZ zc (k : Int) = (a.N k).getD k 0) := Lib.hid (by rw [atZ_atM, hcn, atM_nat _ hk65.out])
    have HO7 := Lib.hid (ownsRow_same (w' := w7) HO6.out (fun q hq => hb7.block q (HO6.out.lt q hq).2))
    have HD7 := Lib.hid (HD6.out.below hb7)
    have HR7 := Lib.hid (HR6.out.below hb7)
    have HB7 := Lib.hid (Below.next HB6.out hb7)
    have HC7 := Lib.hid (HC6.out.below hb7)
    have HM7 := Lib.hid (HM6.out.below hb7)
    have hs7 := hb7.size
    rw [HTV.out] at HAT
    generalize htm : (a.N k).getD k 0 = tm at *
    have HTM := Lib.hid htm
    clear htm
    clear HC hrc hlc hnc hb7 hcn x0 x1 x2 x3 x4 HD6 HR6 HB6 HC6 HM6 HO6 HTV
    have hRl : R.length ≤ y.wr.length := by
      rw [← HRR.out]
      exact List.length_filter_le _ _
    have hwl := HL3.out
    have hRR9 : R.length ≤ 1000 := by omega
    have HRL := Lib.hid hRl
    clear hRl hwl
    go_wp2_with fail
    refine HAT.out.mono ?_
    rintro e w8 ⟨rfl, rfl⟩
    clear HAT
    go_upto_region 12 with (at_builtin; refine wpList_append_lies _ rfl _ _ 27 rfl U1.heap.size 131 i1 _ 3 24 Try.underlying27 hj0 hj1 hj2 hj3 rfl (by decide) _ R.length (cellsN R) rfl (HO7.out.alloc _) ⟨w7.heap.size, 0, none⟩ 1 1 [.int .i64 d, .int .i64 (k : Int), .int .i64 tm] rfl rfl (World.news_of_block (cs := #[.int .i64 d, .int .i64 (k : Int), .int .i64 tm]) (t := 131) (fr := (0, 0)) (heap_alloc_last w7 _)) (by simp [Value.oneCell']) (by decide) (by unfold maxLen; omega) (by omega) (by rw [World.size_alloc]; omega) (w7.heap.size + 1) (by simp) ?_)
    intro g cp w9 hown hgr _ hglt
    have hUw : U1.heap.size ≤ w7.heap.size := Nat.le_trans hs6 hs7
    have hwU := HX9.out
    have hwC := HWC.out
    have HL12 := Lib.hid (show w9.ownsRow U1.heap.size 131 3 (.slice (some ⟨g, 0, none⟩) (R.length + 1) cp) (R.length + 1) (cellsN (R ++ [((d, (k : Int)), tm)])) from by rw [cellsN_snoc]; exact hown)
    have hsm : ∀ q, q < U1.heap.size → w9.heap[q]? = w7.heap[q]? := fun q hq => (hgr.block q (by rw [World.size_alloc]; omega) (fun e => by have := (HO7.out.lt q e.symm).1; omega)).trans (Below.heap_alloc _ _ _ (by omega))
    have HB12 : Hid (Below w.heap.size w w9) := Lib.hid ((HB7.out.alloc HB7.out.size (.cells #[.int .i64 d, .int .i64 (k : Int), .int .i64 tm] 131)).grown hgr (by rw [World.size_alloc]; have := HB7.out.size; omega) (fun q hq => by have := (HO7.out.lt q hq).1; omega))
    have HD12 := Lib.hid (HD7.out.sameB (hsm w.heap.size (by omega)))
    have HR12 := Lib.hid (HR7.out.sameB (hsm (w.heap.size + 1) (by omega)))
    have HC12 := Lib.hid (HC7.out.keep (W' := w9) (fun q hq _ => hsm q hq.2))
    have HM12 := Lib.hid (HM7.out.keep (W' := w9) (fun q hq _ => hsm q hq.2))
    have HY12 := Lib.hid ((HY.out.below HB7.out).keep (W' := w9) (fun q hq _ => hsm q (by have := HSS.out q hq; omega)))
    have hXw := HX8.out
    have HN12 := Lib.hid (RdG.of_own (S := SN S X) HL12.out (fun e => by omega) (fun b hb => .inr (by omega)))
    clear hown hgr HL12 hsm HD7 HR7 HC7 HM7 HB7 HO7 hUw
    have d2 := HD12.out.f 2
    have z2 := HD12.out.c 2 _ rfl
    have HDF := Lib.hid (HD12.out.set 2 (.slice (some ⟨g, 0, none⟩) (R.length + 1) cp))
    have HRF := Lib.hid (HR12.out.other (a := ⟨w.heap.size, 2, none⟩) (by simp) (.slice (some ⟨g, 0, none⟩) (R.length + 1) cp))
    have HBF := Lib.hid (bl1 (k := 2) HB12.out (Nat.le_refl w.heap.size) (.slice (some ⟨g, 0, none⟩) (R.length + 1) cp))
    have hne : ∀ q, SN S X q → q < w9.heap.size → (((((((w9.setCell ⟨w.heap.size, 2, none⟩ (.slice (some ⟨g, 0, none⟩) (R.length + 1) cp)).setCell ⟨w.heap.size + 1, 0, none⟩ (.slice A1 l1 c1)).setCell ⟨w.heap.size + 1, 1, none⟩ (.slice A2 l2 c2)).setCell ⟨w.heap.size + 1, 2, none⟩ (.slice (some ⟨g, 0, none⟩) (R.length + 1) cp)).setCell ⟨w.heap.size + 1, 3, none⟩ (.slice A9 l9 c9)).setCell ⟨w.heap.size + 1, 4, none⟩ (.slice A8 l8 c8))).heap[q]? = w9.heap[q]? := fun q hq _ => by
      obtain ⟨n0, n1⟩ := HND.out q hq
      exact (Below.heap_setCell _ _ _ _ n1).trans ((Below.heap_setCell _ _ _ _ n1).trans ((Below.heap_setCell _ _ _ _ n1).trans ((Below.heap_setCell _ _ _ _ n1).trans ((Below.heap_setCell _ _ _ _ n1).trans (Below.heap_setCell _ _ _ _ n0)))))
    have hf := HFEW.out
    unfold YFew at hf
    have hcl := clF_len a y.cl k d
    have hrl := HRL.out
    have hbd : (butD y.rd d).length ≤ y.rd.length := List.length_filter_le _ _
    have HRES : Hid (YOutB w S (m + 1) (writeA a k d) bF (.returned (.tuple #[.agg #[.slice A1 l1 c1, .slice A2 l2 c2, .slice (some ⟨g, 0, none⟩) (R.length + 1) cp, .slice A9 l9 c9, .slice A8 l8 c8], .bool bF])) ((((((w9.setCell ⟨w.heap.size, 2, none⟩ (.slice (some ⟨g, 0, none⟩) (R.length + 1) cp)).setCell ⟨w.heap.size + 1, 0, none⟩ (.slice A1 l1 c1)).setCell ⟨w.heap.size + 1, 1, none⟩ (.slice A2 l2 c2)).setCell ⟨w.heap.size + 1, 2, none⟩ (.slice (some ⟨g, 0, none⟩) (R.length + 1) cp)).setCell ⟨w.heap.size + 1, 3, none⟩ (.slice A9 l9 c9)).setCell ⟨w.heap.size + 1, 4, none⟩ (.slice A8 l8 c8))) := Lib.hid (by
      have hm := HY12.out.mono (S' := SN S X) (fun _ hz => .inl hz)
      have hY2 : RYs w9 (SN S X) A1 A2 (some ⟨g, 0, none⟩) A9 A8 ⟨y.ck, y.sy, R ++ [((d, (k : Int)), tm)], butD y.rd d, clF a y.cl k d⟩ := ⟨hm.ck, hm.sy, HN12.out, HM12.out.mono (fun b hz => .inr (by have : wc.heap.size ≤ b := hz.1; omega)), HC12.out.mono (fun _ hz => hz.1), hm.cks, hm.sys, hm.few.1, hm.few.2.1, by show (R ++ [_]).length ≤ 1000; rw [List.length_append, List.length_singleton]; omega, by show (butD y.rd d).length ≤ 1000; omega, by show (clF a y.cl k d).length ≤ 1000; omega⟩
      refine ⟨_, ⟨y.ck, y.sy, R ++ [((d, (k : Int)), tm)], butD y.rd d, clF a y.cl k d⟩, rfl, ⟨A1, c1, A2, c2, some ⟨g, 0, none⟩, cp, A9, c9, A8, c8, ?_, (hY2.keep hne).mono (SN_sub (by have := HXS.out; omega))⟩, ?_, ⟨?_, ?_, ?_, ?_, ?_⟩, below_put5 HBF.out (by omega) _ _ _ _ _⟩
      · show _ = Value.agg #[.slice A1 y.ck.length c1, .slice A2 y.sy.length c2, .slice (some ⟨g, 0, none⟩) (R ++ [((d, (k : Int)), tm)]).length cp, .slice A9 (butD y.rd d).length c9, .slice A8 (clF a y.cl k d).length c8]
        rw [HL1.out, HL2.out, HL9.out, HL8.out, List.length_append]
        rfl
      · have hq := (HREL.out.clash (clF a y.cl k d)).writeR hk65.out d
        have e1 : butD ({ y with cl := clF a y.cl k d } : YX).wr d = R := HRR.out
        rw [e1] at hq
        have e2 : (({ a with cl := clF a y.cl k d } : AX).N k).getD k 0 = tm := HTM.out
        rw [e2] at hq
        have e3 : writeA a k d = { ({ a with cl := clF a y.cl k d } : AX) with wr := updI a.wr d k, wt := updI a.wt d tm, rd := updI a.rd d (fun _ => 0) } := by
          unfold writeA clF
          rw [HREL.out.cl, ← HTM.out]
          rfl
        rw [e3]
        exact hq
      · show y.ck.length ≤ m + 1
        omega
      · show y.sy.length ≤ m + 1
        omega
      · show (R ++ [_]).length ≤ m + 1
        rw [List.length_append, List.length_singleton]
        omega
      · show (butD y.rd d).length ≤ m + 1
        omega
      · show (clF a y.cl k d).length ≤ m + 1
        omega)
    clear HD12 HR12 HC12 HM12 HY12 HN12 HB12 hne hf hcl hrl hbd HBF hXw hwU hwC
    go_upto_region 13 with (fail)
    clear d2 z2
    have x0 := HDF.out.c 0 _ rfl
    have x1 := HDF.out.c 1 _ rfl
    have x2 := HDF.out.c 2 _ rfl
    have x3 := HDF.out.c 3 _ rfl
    have x4 := HDF.out.c 4 _ rfl
    have HPP := Lib.hid (HRF.out.put5 (.slice A1 l1 c1) (.slice A2 l2 c2) (.slice (some ⟨g, 0, none⟩) (R.length + 1) cp) (.slice A9 l9 c9) (.slice A8 l8 c8))
    have y0 := HRF.out.c 0 _ rfl
    have y1 := HRF.out.c 1 _ rfl
    have y2 := HRF.out.c 2 _ rfl
    have y3 := HRF.out.c 3 _ rfl
    have y4 := HRF.out.c 4 _ rfl
    have k0 := HRF.out.f 0
    have k1 := HRF.out.f 1
    have k2 := HRF.out.f 2
    have k3 := HRF.out.f 3
    have k4 := HRF.out.f 4
    generalize w9.setCell ⟨w.heap.size, 2, none⟩ (.slice (some ⟨g, 0, none⟩) (R.length + 1) cp) = F at *
    clear HDF HRF HTM HL8 HFEW HREL HY HSS HND HRL
    go_wp2
    have q0 := HPP.out.c 0 _ rfl
    have q1 := HPP.out.c 1 _ rfl
    have q2 := HPP.out.c 2 _ rfl
    have q3 := HPP.out.c 3 _ rfl
    have q4 := HPP.out.c 4 _ rfl
    exact bodyPost_ret (v := .tuple #[.agg #[.slice A1 l1 c1, .slice A2 l2 c2, .slice (some ⟨g, 0, none⟩) (R.length + 1) cp, .slice A9 l9 c9, .slice A8 l8 c8], .bool bF]) (by simp [results, Try.results14, go_sem, q0, q1, q2, q3, q4]) rfl HRES.out
end Go.Proofs.Ytdgmcaehadigaaa
