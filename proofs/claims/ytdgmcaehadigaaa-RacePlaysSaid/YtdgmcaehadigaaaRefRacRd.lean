/- The document's watch (ganglionref18), by contract: Read. -/
import Derived.Test.YtdgmcaehadigaaaRefRacWr
import Derived.Test.YtdgmcaehadigaaaRefRacN
import Derived.Test.YtdgmcaehadigaaaRefRac5
namespace Go.Proofs.Ytdgmcaehadigaaa
open Go.RowKit

theorem Bx.sameB {W W' : World} {b : Nat} {vs : List Value} (h : Bx W b vs) (hk : W'.heap[b]? = W.heap[b]?) : Bx W' b vs := by
  refine ⟨?_, fun j v hj => (World.cell?_of_block (w := W) (a := ⟨b, j, none⟩) hk).trans (h.c j v hj), fun j => (World.frozen?_of_block (w := W) (a := ⟨b, j, none⟩) hk).trans (h.f j)⟩
  have hl := h.lt
  rw [Array.getElem?_eq_getElem hl] at hk
  exact (Array.getElem?_eq_some_iff.1 hk).1
/-- The clashes behind a look at the writes. -/
def clW (a : AX) (L : List ClT) (k : Nat) (d : Int) (write : Bool) : List ClT := if hidW a k d = true then L ++ [(((a.wr d, d), true), (((k : Int), d), write))] else L
def WrU (w : World) (S : Nat → Prop) (v1 v2 v3 v4 : Value) (L : List ClT) (b : Bool) (e : Ending) (w' : World) : Prop := ∃ A c, e = .returned (.tuple #[.agg #[v1, v2, v3, v4, .slice A L.length c], .bool b]) ∧ RdG (SN S w) w' A (cellsCl L) ∧ Below w.heap.size w w'
theorem RWritten_rel {w : World} {S : Nat → Prop} {A1 A2 A3 A4 A5 : Option Addr} {c1 c2 c3 c4 c5 l1 l2 l3 l4 l5 : Nat} {y : YX} {a : AX} (h : RYs w S A1 A2 A3 A4 A5 y) (hr : RelY a y) (hS : ∀ b, S b → b < w.heap.size) (hl1 : y.ck.length = l1) (hl3 : y.wr.length = l3) (hl5 : y.cl.length = l5) (k : Nat) (hk : k < 65) (d : Int) (write : Bool) :
    Calls Try.prog 77 #[.agg #[.slice A1 l1 c1, .slice A2 l2 c2, .slice A3 l3 c3, .slice A4 l4 c4, .slice A5 l5 c5], .int .i64 (k : Int), .int .i64 d, .bool write] w (WrU w S (.slice A1 l1 c1) (.slice A2 l2 c2) (.slice A3 l3 c3) (.slice A4 l4 c4) (clW a y.cl k d write) (!hidW a k d)) := by
  refine (RWritten_any h hS hl1 hl3 hl5 k d write).mono fun e w' ho => ?_
  have hb : badN (ckN y k) y.wr k d = badW a y k d := by rw [hr.ck k hk]; rfl
  rw [hb] at ho
  unfold clW
  rcases hr.badW hk d with ⟨h1, h2⟩ | ⟨n, h1, h2, h3⟩
  · rw [h1] at ho
    obtain ⟨he, hbl⟩ := ho
    rw [h2]
    exact ⟨A5, c5, by rw [he, hl5.symm]; rfl, (h.cl.below hbl).mono (fun _ hz => .inl hz), hbl⟩
  · rw [h1] at ho
    obtain ⟨A, c, he, hg, hbl⟩ := ho
    obtain ⟨⟨np, nw⟩, nt⟩ := n
    simp only at h2
    injection h2 with h2 h4
    subst h2 h4
    rw [h3]
    refine ⟨A, c, ?_, hg, hbl⟩
    rw [he]
    show _ = Ending.returned (.tuple #[.agg #[_, _, _, _, .slice A (y.cl ++ [_]).length c], .bool false])
    rw [List.length_append]
    rfl
def YOutB (w : World) (S : Nat → Prop) (n : Nat) (a : AX) (b : Bool) (e : Ending) (w' : World) : Prop := ∃ V' y', e = .returned (.tuple #[V', .bool b]) ∧ RY w' (SN S w) V' y' ∧ RelY a y' ∧ YFew n y' ∧ Below w.heap.size w w'
theorem clW_len (a : AX) (L : List ClT) (k : Nat) (d : Int) (b : Bool) : (clW a L k d b).length ≤ L.length + 1 := by
  unfold clW
  split
  · rw [List.length_append]; exact Nat.le_refl _
  · omega
set_option maxRecDepth 100000 in
set_option maxHeartbeats 8000000 in
theorem RRead_yes {w : World} {S : Nat → Prop} {V : Value} {y : YX} {a : AX} {m : Nat} (h : RY w S V y) (hS : ∀ b, S b → b < w.heap.size) (hr : RelY a y) (hf : YFew m y) (hm : m < 900) (k : Nat) (hk : k < 65) (d : Int) :
    Calls Try.prog 13 #[V, .int .i64 (k : Int), .int .i64 d] w (YOutB w S (m + 1) (readA a k d) (!hidW a k d)) := by
  obtain ⟨i1, hj0, hj1, hj2, hj3⟩ := info_parts info_note
  obtain ⟨A1, c1, A2, c2, A3, c3, A4, c4, A5, c5, rfl, hy⟩ := h
  have HT := Lib.hid (two_five w (.slice A1 y.ck.length c1) (.slice A2 y.sy.length c2) (.slice A3 y.wr.length c3) (.slice A4 y.rd.length c4) (.slice A5 y.cl.length c5) (.slice none 0 0) (.slice none 0 0) (.slice none 0 0) (.slice none 0 0) (.slice none 0 0) 30)
  have HY := Lib.hid hy
  have HSS := Lib.hid hS
  have HREL := Lib.hid hr
  have HFEW := Lib.hid hf
  have hk65 := Lib.hid hk
  have HW := Lib.hid (fun W (hb : Below w.heap.size w W) => RWritten_rel (w := W) (c1 := c1) (c2 := c2) (c3 := c3) (c4 := c4) (c5 := c5) (l2 := y.sy.length) (l4 := y.rd.length) (hy.below hb) hr (fun b e => Nat.lt_of_lt_of_le (hS b e) hb.size) rfl rfl rfl k hk d false)
  have few := hy.few.2.2.2.1
  have hw : isW (k : Int) = true := by unfold isW; simp; omega
  clear hy hr hS hf
  generalize hl1 : y.ck.length = l1 at *
  generalize hl2 : y.sy.length = l2 at *
  generalize hl3 : y.wr.length = l3 at *
  generalize hl4 : y.rd.length = l4 at *
  generalize hl5 : y.cl.length = l5 at *
  have HL1 := Lib.hid hl1
  have HL2 := Lib.hid hl2
  have HL3 := Lib.hid hl3
  have HL4 := Lib.hid hl4
  have HL5 := Lib.hid hl5
  clear hl1 hl2 hl3 hl4 hl5
  generalize hhid : (!hidW a k d) = hb0 at *
  go_enter Try.func13, Try.ntmps13
  go_upto_region 1 with (fail)
  obtain ⟨X, hX⟩ : ∃ X, X = (w.alloc (.cells #[.slice A1 l1 c1, .slice A2 l2 c2, .slice A3 l3 c3, .slice A4 l4 c4, .slice A5 l5 c5] 30)).alloc (.cells #[.slice none 0 0, .slice none 0 0, .slice none 0 0, .slice none 0 0, .slice none 0 0] 30) := ⟨_, rfl⟩
  rw [← hX] at HT ⊢
  clear hX
  go_wp2_with fail
  refine (RNone_any _ _).mono ?_
  rintro e w1 ⟨rfl, rfl⟩
  rw [hw]
  clear hw
  have x0 := HT.out.1.c 0 _ rfl
  have x1 := HT.out.1.c 1 _ rfl
  have x2 := HT.out.1.c 2 _ rfl
  have x3 := HT.out.1.c 3 _ rfl
  have x4 := HT.out.1.c 4 _ rfl
  have HC := Lib.hid (HW.out X HT.out.2.2.1)
  go_wp2_with fail
  refine HC.out.mono ?_
  rintro e w3 ⟨A6, c6, rfl, hr6, hb3⟩
  obtain ⟨l6, hl6⟩ : ∃ l6, (clW a y.cl k d false).length = l6 := ⟨_, rfl⟩
  have HL6 := Lib.hid hl6
  rw [hl6]
  clear hl6
  have HD0 := Lib.hid (HT.out.1.below hb3)
  have HX3 := Lib.hid hb3.size
  have HXS := Lib.hid HT.out.2.2.2
  have HD3 := Lib.hid (HD0.out.put5 (.slice A1 l1 c1) (.slice A2 l2 c2) (.slice A3 l3 c3) (.slice A4 l4 c4) (.slice A6 l6 c6))
  have p1 := fun (U : World) (hU : Bx U (w.heap.size + 1) [.slice none 0 0, .slice none 0 0, .slice none 0 0, .slice none 0 0, .slice none 0 0]) (j : Nat) (v : Value) => hU.other (a := ⟨w.heap.size, j, none⟩) (by simp) v
  have HR3 := Lib.hid (p1 _ (p1 _ (p1 _ (p1 _ (p1 _ (HT.out.2.1.below hb3) 0 (.slice A1 l1 c1)) 1 (.slice A2 l2 c2)) 2 (.slice A3 l3 c3)) 3 (.slice A4 l4 c4)) 4 (.slice A6 l6 c6))
  have HB3 := Lib.hid (below_put5 (b := w.heap.size) (Below.next HT.out.2.2.1 hb3) (Nat.le_refl _) (.slice A1 l1 c1) (.slice A2 l2 c2) (.slice A3 l3 c3) (.slice A4 l4 c4) (.slice A6 l6 c6))
  have hnD : ∀ q, SN S X q → q ≠ w.heap.size ∧ q ≠ w.heap.size + 1 := fun q hq => by
    have hx := HXS.out
    rcases hq with hq | hq
    · have := HSS.out q hq
      omega
    · omega
  have HND := Lib.hid hnD
  have hk5 : ∀ q, SN S X q → q < w3.heap.size → (((((w3.setCell ⟨w.heap.size, 0, none⟩ (.slice A1 l1 c1)).setCell ⟨w.heap.size, 1, none⟩ (.slice A2 l2 c2)).setCell ⟨w.heap.size, 2, none⟩ (.slice A3 l3 c3)).setCell ⟨w.heap.size, 3, none⟩ (.slice A4 l4 c4)).setCell ⟨w.heap.size, 4, none⟩ (.slice A6 l6 c6)).heap[q]? = w3.heap[q]? := fun q hq _ => by
    have n0 := (hnD q hq).1
    exact (Below.heap_setCell _ _ _ _ n0).trans ((Below.heap_setCell _ _ _ _ n0).trans ((Below.heap_setCell _ _ _ _ n0).trans ((Below.heap_setCell _ _ _ _ n0).trans (Below.heap_setCell _ _ _ _ n0))))
  have HR6 := Lib.hid (hr6.keep hk5).within
  have e0 := HD0.out.c 0 _ rfl
  have e1 := HD0.out.c 1 _ rfl
  have e2 := HD0.out.c 2 _ rfl
  have e3 := HD0.out.c 3 _ rfl
  have e4 := HD0.out.c 4 _ rfl
  have f0 := HD0.out.f 0
  have f1 := HD0.out.f 1
  have f2 := HD0.out.f 2
  have f3 := HD0.out.f 3
  have f4 := HD0.out.f 4
  have hXU : X.heap.size ≤ (((((w3.setCell ⟨w.heap.size, 0, none⟩ (.slice A1 l1 c1)).setCell ⟨w.heap.size, 1, none⟩ (.slice A2 l2 c2)).setCell ⟨w.heap.size, 2, none⟩ (.slice A3 l3 c3)).setCell ⟨w.heap.size, 3, none⟩ (.slice A4 l4 c4)).setCell ⟨w.heap.size, 4, none⟩ (.slice A6 l6 c6)).heap.size := by
    simp only [World.size_setCell]
    exact HX3.out
  have HXU := Lib.hid hXU
  have HDU := Lib.hid (show w.heap.size + 2 ≤ (((((w3.setCell ⟨w.heap.size, 0, none⟩ (.slice A1 l1 c1)).setCell ⟨w.heap.size, 1, none⟩ (.slice A2 l2 c2)).setCell ⟨w.heap.size, 2, none⟩ (.slice A3 l3 c3)).setCell ⟨w.heap.size, 3, none⟩ (.slice A4 l4 c4)).setCell ⟨w.heap.size, 4, none⟩ (.slice A6 l6 c6)).heap.size from by have := HXS.out; omega)
  clear HC HW p1 hnD hk5 hr6 hb3 HD0 HX3 hXU x0 x1 x2 x3 x4 HT
  go_upto_region 4 with (fail)
  generalize (((((w3.setCell ⟨w.heap.size, 0, none⟩ (.slice A1 l1 c1)).setCell ⟨w.heap.size, 1, none⟩ (.slice A2 l2 c2)).setCell ⟨w.heap.size, 2, none⟩ (.slice A3 l3 c3)).setCell ⟨w.heap.size, 3, none⟩ (.slice A4 l4 c4)).setCell ⟨w.heap.size, 4, none⟩ (.slice A6 l6 c6)) = U at *
  clear e0 e1 e2 e3 e4 f0 f1 f2 f3 f4
  have x3 := HD3.out.c 3 _ rfl
  have HRD := Lib.hid (HY.out.rd.below HB3.out)
  have HS := Lib.hid (fun j z h => butR_take (L := y.rd) (d := d) (q := k) (k := j) (z := z) h)
  have HLN := Lib.hid (fun j => butR_len y.rd d k j)
  have H0 : Hid (butR (y.rd.take 0) d k = []) := Lib.hid rfl
  have HA : Hid (butR (y.rd.take y.rd.length) d k = butR y.rd d k) := Lib.hid (by rw [List.take_length])
  have hl4 := HL4.out
  generalize hLL : y.rd = L at *
  go_wp2
  clear x3
  go_loopw [9, 25] (fun s i wr => ∃ (j : Nat) (R : List NT), j ≤ l4 ∧ i = .int .i64 (j : Int) ∧ Below U.heap.size U wr ∧ wr.ownsRow U.heap.size 131 3 s R.length (cellsN R) ∧ Hid (butR (L.take j) d k = R)) (fun _ i _ => l4 - (intOf i).toNat)
  case atStart => exact ⟨0, [], Nat.zero_le _, rfl, Below.refl _ _, World.ownsRow_nil _ _ _ _, H0⟩
  case round =>
    obtain ⟨j, R, hj, rfl, hbel, ho, HRR⟩ := hrel
    have hln : R.length ≤ j := by have := HLN.out j; rw [HRR.out] at this; exact this
    obtain ⟨A7, c7, rfl, _, _⟩ := ownSlice ho
    by_cases hlt : j < l4
    · obtain ⟨⟨⟨zp, zw⟩, zt⟩, hz⟩ : ∃ p, L[j]? = some p := ⟨_, List.getElem?_eq_getElem (by omega)⟩
      obtain ⟨bb, off, rfl, hbb, q0, q1, q2⟩ := (HRD.out.below hbel).nt hz
      have hst := HS.out j _ hz
      rw [HRR.out] at hst
      simp only at q0 q1 q2 hst
      have hkl : (j : Int) < (l4 : Int) := by omega
      have hk0 : (0 : Int) ≤ (j : Int) := by omega
      have HQ := Lib.hid (Bx.new wr [.int .i64 zp, .int .i64 zw, .int .i64 zt] 131)
      have HBX := Lib.hid (hbel.alloc hbel.size (.cells #[.int .i64 zp, .int .i64 zw, .int .i64 zt] 131))
      have HO := Lib.hid (ho.alloc (.cells #[.int .i64 zp, .int .i64 zw, .int .i64 zt] 131))
      have hsz := hbel.size
      clear hbel ho HRR hz
      go_upto_region 8 with (fail)
      obtain ⟨X9, hX9⟩ : ∃ X9, X9 = wr.alloc (.cells #[.int .i64 zp, .int .i64 zw, .int .i64 zt] 131) := ⟨_, rfl⟩
      have hq0 : X9.cell? ⟨wr.heap.size, 0, none⟩ = some (.int .i64 zp) := by rw [hX9]; exact HQ.out.c 0 _ rfl
      have hq1 : X9.cell? ⟨wr.heap.size, 1, none⟩ = some (.int .i64 zw) := by rw [hX9]; exact HQ.out.c 1 _ rfl
      have hq2 : X9.cell? ⟨wr.heap.size, 2, none⟩ = some (.int .i64 zt) := by rw [hX9]; exact HQ.out.c 2 _ rfl
      rw [← hX9] at HBX HO ⊢
      clear hX9 HQ q0 q1 q2
      generalize wr.heap.size = D9 at *
      have hxs := HBX.out.size
      by_cases e : zp = d ∧ zw = (k : Int)
      · rw [if_pos e, List.append_nil] at hst
        have HN := Lib.hid hst
        clear hst
        obtain ⟨ea, eb⟩ := e
        subst ea eb
        go_wp2
        go_roundw
        case rel => exact ⟨j + 1, R, by omega, by go_num, HBX.out, HO.out, HN⟩
        case measure => simp [intOf]; omega
      · rw [if_neg e] at hst
        have HN := Lib.hid hst
        have hor : zp ≠ d ∨ (zp = d ∧ zw ≠ (k : Int)) := by
          by_cases h1 : zp = d
          · exact .inr ⟨h1, fun h2 => e ⟨h1, h2⟩⟩
          · exact .inl h1
        clear hst e
        rcases hor with e | ⟨ee, e2⟩
        all_goals
          try subst ee
          go_wp2_with (at_builtin; refine wpList_append_lies _ rfl _ _ 27 rfl U.heap.size 131 i1 _ 3 24 Try.underlying27 hj0 hj1 hj2 hj3 rfl (by decide) _ R.length (cellsN R) rfl (HO.out.alloc _) ⟨X9.heap.size, 0, none⟩ 1 1 [.int .i64 zp, .int .i64 zw, .int .i64 zt] rfl rfl (World.news_of_block (cs := #[.int .i64 zp, .int .i64 zw, .int .i64 zt]) (t := 131) (fr := (0, 0)) (heap_alloc_last X9 _)) (by simp [Value.oneCell']) (by decide) (by unfold maxLen; omega) (by omega) (by rw [World.size_alloc]; omega) (X9.heap.size + 1) (by simp) ?_)
          intro g cp w4 hown hgr _ hglt
          have hb4 := Lib.hid ((HBX.out.alloc hxs (.cells #[.int .i64 zp, .int .i64 zw, .int .i64 zt] 131)).grown hgr (by rw [World.size_alloc]; omega) (fun q hq => (HO.out.lt q hq).1))
          have HO' := Lib.hid (show w4.ownsRow U.heap.size 131 3 (.slice (some ⟨g, 0, none⟩) (R.length + 1) cp) (R ++ [((zp, zw), zt)]).length (cellsN (R ++ [((zp, zw), zt)])) from by rw [cellsN_snoc, List.length_append]; exact hown)
          clear hown hgr
          go_wp2
          go_roundw
          case rel => exact ⟨j + 1, R ++ [((zp, zw), zt)], by omega, by go_num, hb4.out, HO'.out, HN⟩
          case measure => simp [intOf]; omega
    · obtain rfl : l4 = j := by omega
      have HBR : Hid (butR L d k = R) := Lib.hid (by rw [← HRR.out, ← HA.out, hl4])
      have HD5 := Lib.hid (HD3.out.below hbel)
      have HR5 := Lib.hid (HR3.out.below hbel)
      have HB5 := Lib.hid (Below.next HB3.out hbel)
      have HO5 := Lib.hid ho
      have HC6 := Lib.hid (HR6.out.below hbel)
      have HX5 := Lib.hid (Nat.le_trans HXU.out hbel.size)
      have hUs := hbel.size
      have HUX : Hid (∀ b, U.heap.size ≤ b → X.heap.size ≤ b) := Lib.hid fun b hb => Nat.le_trans HXU.out hb
      clear hbel ho HRR HLN HS HA H0 HD3 HR3 HB3 HR6 HRD
      have x0 := HD5.out.c 0 _ rfl
      have x1 := HD5.out.c 1 _ rfl
      have x2 := HD5.out.c 2 _ rfl
      have x3 := HD5.out.c 3 _ rfl
      have x4 := HD5.out.c 4 _ rfl
      have HC := Lib.hid (RClockOf_any (c1 := c1) (c2 := c2) (c3 := c3) (c4 := c4) (c5 := c6) (l1 := l1) (l2 := l2) (l3 := l3) (l4 := l4) (l5 := l6) (y := ⟨y.ck, y.sy, y.wr, y.rd, []⟩) (w := wr) (S := SN S X) (A5 := A6) (show RYs wr (SN S X) A1 A2 A3 A4 A6 ⟨y.ck, y.sy, y.wr, y.rd, []⟩ from by
        have hm := (HY.out.below HB5.out).mono (S' := SN S X) (fun _ hz => .inl hz)
        exact ⟨hm.ck, hm.sy, hm.wr, hm.rd, RdG.nil, hm.cks, hm.sys, hm.few.1, hm.few.2.1, hm.few.2.2.1, hm.few.2.2.2.1, Nat.zero_le _⟩) HL1.out k)
      go_wp2_with fail
      refine HC.out.mono ?_
      rintro e w7 ⟨vc, zc, rfl, ⟨Ac, cc, rfl, hrc, hlc⟩, hnc, hb7⟩
      have hcn : numL zc = a.N k := by rw [hnc]; exact HREL.out.ck k hk65.out
      have HAT := Lib.hid (refAt_any Ac zc cc (k : Int) w7 hrc.rd)
      have HTV : Hid (atZ zc (k : Int) = (a.N k).getD k 0) := Lib.hid (by rw [atZ_atM, hcn, atM_nat _ hk65.out])
      have HO7 := Lib.hid (ownsRow_same (w' := w7) HO5.out (fun q hq => hb7.block q (HO5.out.lt q hq).2))
      have HD7 := Lib.hid (HD5.out.below hb7)
      have HR7 := Lib.hid (HR5.out.below hb7)
      have HB7 := Lib.hid (Below.next HB5.out hb7)
      have HC7 := Lib.hid (HC6.out.below hb7)
      have hs7 := hb7.size
      have HX7 := Lib.hid (Nat.le_trans HX5.out hb7.size)
      rw [HTV.out] at HAT
      generalize htm : (a.N k).getD k 0 = tm at *
      have HTM := Lib.hid htm
      clear htm
      clear HC hrc hlc hnc hb7 hcn x0 x1 x2 x3 x4 HD5 HR5 HB5 HC6 HX5 HO5 HTV
      have HR8 := Lib.hid (show R.length ≤ 1000 from by omega)
      go_wp2_with fail
      refine HAT.out.mono ?_
      rintro e w8 ⟨rfl, rfl⟩
      clear HAT
      go_upto_region 12 with (at_builtin; refine wpList_append_lies _ rfl _ _ 27 rfl U.heap.size 131 i1 _ 3 24 Try.underlying27 hj0 hj1 hj2 hj3 rfl (by decide) _ R.length (cellsN R) rfl (HO7.out.alloc _) ⟨w7.heap.size, 0, none⟩ 1 1 [.int .i64 d, .int .i64 (k : Int), .int .i64 tm] rfl rfl (World.news_of_block (cs := #[.int .i64 d, .int .i64 (k : Int), .int .i64 tm]) (t := 131) (fr := (0, 0)) (heap_alloc_last w7 _)) (by simp [Value.oneCell']) (by decide) (by unfold maxLen; omega) (by omega) (by rw [World.size_alloc]; omega) (w7.heap.size + 1) (by simp) ?_)
      intro g cp w9 hown hgr _ hglt
      have hUw : U.heap.size ≤ w7.heap.size := Nat.le_trans hUs hs7
      have hDU := HDU.out
      have HL9 := Lib.hid (show w9.ownsRow U.heap.size 131 3 (.slice (some ⟨g, 0, none⟩) (R.length + 1) cp) (R.length + 1) (cellsN (R ++ [((d, (k : Int)), tm)])) from by rw [cellsN_snoc]; exact hown)
      have hsm : ∀ q, q < U.heap.size → w9.heap[q]? = w7.heap[q]? := fun q hq => (hgr.block q (by rw [World.size_alloc]; omega) (fun e => by have := (HO7.out.lt q e.symm).1; omega)).trans (Below.heap_alloc _ _ _ (by omega))
      have HB9 : Hid (Below w.heap.size w w9) := Lib.hid ((HB7.out.alloc HB7.out.size (.cells #[.int .i64 d, .int .i64 (k : Int), .int .i64 tm] 131)).grown hgr (by rw [World.size_alloc]; have := HB7.out.size; omega) (fun q hq => by have := (HO7.out.lt q hq).1; omega))
      have HD9 := Lib.hid (HD7.out.sameB (hsm w.heap.size (by omega)))
      have HR9 := Lib.hid (HR7.out.sameB (hsm (w.heap.size + 1) (by omega)))
      have HC9 := Lib.hid (HC7.out.keep (W' := w9) (fun q hq _ => hsm q hq.2))
      have HY9 := Lib.hid ((HY.out.below HB7.out).keep (W' := w9) (fun q hq _ => hsm q (by have := HSS.out q hq; omega)))
      have HN9 := Lib.hid (RdG.of_own (S := SN S X) HL9.out (fun e => by omega) (fun b hb => .inr (HUX.out b hb)))
      clear hown hgr HL9 hsm HD7 HR7 HC7 HB7 HO7 HX7 hUw
      have d3 := HD9.out.f 3
      have z3 := HD9.out.c 3 _ rfl
      have HDF := Lib.hid (HD9.out.set 3 (.slice (some ⟨g, 0, none⟩) (R.length + 1) cp))
      have HRF := Lib.hid (HR9.out.other (a := ⟨w.heap.size, 3, none⟩) (by simp) (.slice (some ⟨g, 0, none⟩) (R.length + 1) cp))
      have HBF := Lib.hid (bl1 (k := 3) HB9.out (Nat.le_refl w.heap.size) (.slice (some ⟨g, 0, none⟩) (R.length + 1) cp))
      have hne : ∀ q, SN S X q → q < w9.heap.size → (((((((w9.setCell ⟨w.heap.size, 3, none⟩ (.slice (some ⟨g, 0, none⟩) (R.length + 1) cp)).setCell ⟨w.heap.size + 1, 0, none⟩ (.slice A1 l1 c1)).setCell ⟨w.heap.size + 1, 1, none⟩ (.slice A2 l2 c2)).setCell ⟨w.heap.size + 1, 2, none⟩ (.slice A3 l3 c3)).setCell ⟨w.heap.size + 1, 3, none⟩ (.slice (some ⟨g, 0, none⟩) (R.length + 1) cp)).setCell ⟨w.heap.size + 1, 4, none⟩ (.slice A6 l6 c6))).heap[q]? = w9.heap[q]? := fun q hq _ => by
        obtain ⟨n0, n1⟩ := HND.out q hq
        exact (Below.heap_setCell _ _ _ _ n1).trans ((Below.heap_setCell _ _ _ _ n1).trans ((Below.heap_setCell _ _ _ _ n1).trans ((Below.heap_setCell _ _ _ _ n1).trans ((Below.heap_setCell _ _ _ _ n1).trans (Below.heap_setCell _ _ _ _ n0)))))
      have hf := HFEW.out
      unfold YFew at hf
      have hcl := clW_len a y.cl k d false
      have hrl : R.length ≤ y.rd.length := by
        rw [hLL, ← HBR.out]
        exact List.length_filter_le _ _
      have HRES : Hid (YOutB w S (m + 1) (readA a k d) hb0 (.returned (.tuple #[.agg #[.slice A1 l1 c1, .slice A2 l2 c2, .slice A3 l3 c3, .slice (some ⟨g, 0, none⟩) (R.length + 1) cp, .slice A6 l6 c6], .bool hb0])) ((((((w9.setCell ⟨w.heap.size, 3, none⟩ (.slice (some ⟨g, 0, none⟩) (R.length + 1) cp)).setCell ⟨w.heap.size + 1, 0, none⟩ (.slice A1 l1 c1)).setCell ⟨w.heap.size + 1, 1, none⟩ (.slice A2 l2 c2)).setCell ⟨w.heap.size + 1, 2, none⟩ (.slice A3 l3 c3)).setCell ⟨w.heap.size + 1, 3, none⟩ (.slice (some ⟨g, 0, none⟩) (R.length + 1) cp)).setCell ⟨w.heap.size + 1, 4, none⟩ (.slice A6 l6 c6))) := Lib.hid (by
        have hm := HY9.out.mono (S' := SN S X) (fun _ hz => .inl hz)
        have hY2 : RYs w9 (SN S X) A1 A2 A3 (some ⟨g, 0, none⟩) A6 ⟨y.ck, y.sy, y.wr, R ++ [((d, (k : Int)), tm)], clW a y.cl k d false⟩ := ⟨hm.ck, hm.sy, hm.wr, HN9.out, HC9.out.mono (fun _ hz => hz.1), hm.cks, hm.sys, hm.few.1, hm.few.2.1, hm.few.2.2.1, by show (R ++ [_]).length ≤ 1000; rw [List.length_append, List.length_singleton]; omega, by show (clW a y.cl k d false).length ≤ 1000; omega⟩
        refine ⟨_, ⟨y.ck, y.sy, y.wr, R ++ [((d, (k : Int)), tm)], clW a y.cl k d false⟩, rfl, ⟨A1, c1, A2, c2, A3, c3, some ⟨g, 0, none⟩, cp, A6, c6, ?_, (hY2.keep hne).mono (SN_sub (by have := HXS.out; omega))⟩, ?_, ⟨?_, ?_, ?_, ?_, ?_⟩, below_put5 HBF.out (by omega) _ _ _ _ _⟩
        · show _ = Value.agg #[.slice A1 y.ck.length c1, .slice A2 y.sy.length c2, .slice A3 y.wr.length c3, .slice (some ⟨g, 0, none⟩) (R ++ [((d, (k : Int)), tm)]).length cp, .slice A6 (clW a y.cl k d false).length c6]
          rw [HL1.out, HL2.out, HL3.out, HL6.out, List.length_append]
          rfl
        · have hq := (HREL.out.clash (clW a y.cl k d false)).readR hk65.out d
          have e1 : butR ({ y with cl := clW a y.cl k d false } : YX).rd d k = R := by
            show butR y.rd d k = R
            rw [hLL]
            exact HBR.out
          rw [e1] at hq
          have e2 : (({ a with cl := clW a y.cl k d false } : AX).N k).getD k 0 = tm := HTM.out
          rw [e2] at hq
          have e3 : readA a k d = { ({ a with cl := clW a y.cl k d false } : AX) with rd := updI a.rd d (updI (a.rd d) k tm) } := by
            unfold readA clW
            rw [HREL.out.cl, ← HTM.out]
          rw [e3]
          exact hq
        · show y.ck.length ≤ m + 1
          omega
        · show y.sy.length ≤ m + 1
          omega
        · show y.wr.length ≤ m + 1
          omega
        · show (R ++ [_]).length ≤ m + 1
          rw [List.length_append, List.length_singleton]
          omega
        · show (clW a y.cl k d false).length ≤ m + 1
          omega)
      clear HD9 HR9 HC9 HY9 HN9 HB9 hne hf hcl hrl HBF
      go_upto_region 13 with (fail)
      clear d3 z3
      have x0 := HDF.out.c 0 _ rfl
      have x1 := HDF.out.c 1 _ rfl
      have x2 := HDF.out.c 2 _ rfl
      have x3 := HDF.out.c 3 _ rfl
      have x4 := HDF.out.c 4 _ rfl
      have HPP := Lib.hid (HRF.out.put5 (.slice A1 l1 c1) (.slice A2 l2 c2) (.slice A3 l3 c3) (.slice (some ⟨g, 0, none⟩) (R.length + 1) cp) (.slice A6 l6 c6))
      have y0 := HRF.out.c 0 _ rfl
      have y1 := HRF.out.c 1 _ rfl
      have y2 := HRF.out.c 2 _ rfl
      have y3 := HRF.out.c 3 _ rfl
      have y4 := HRF.out.c 4 _ rfl
      have k0 := HRF.out.f 0
      have k1 := HRF.out.f 1
      have k2 := HRF.out.f 2
      have k3 := HRF.out.f 3
      have k4 := HRF.out.f 4
      generalize w9.setCell ⟨w.heap.size, 3, none⟩ (.slice (some ⟨g, 0, none⟩) (R.length + 1) cp) = F at *
      clear HDF HRF HBR HTM HUX HL6 HFEW HREL HY HSS HND
      go_wp2
      have q0 := HPP.out.c 0 _ rfl
      have q1 := HPP.out.c 1 _ rfl
      have q2 := HPP.out.c 2 _ rfl
      have q3 := HPP.out.c 3 _ rfl
      have q4 := HPP.out.c 4 _ rfl
      exact bodyPost_ret (v := .tuple #[.agg #[.slice A1 l1 c1, .slice A2 l2 c2, .slice A3 l3 c3, .slice (some ⟨g, 0, none⟩) (R.length + 1) cp, .slice A6 l6 c6], .bool hb0]) (by simp [results, Try.results13, go_sem, q0, q1, q2, q3, q4]) rfl HRES.out
end Go.Proofs.Ytdgmcaehadigaaa
