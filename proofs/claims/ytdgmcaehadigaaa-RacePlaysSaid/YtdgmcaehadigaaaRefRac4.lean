/- The document's watch (ganglionref18), by contract: Store. -/
import Derived.Test.YtdgmcaehadigaaaRefRac3
namespace Go.Proofs.Ytdgmcaehadigaaa
open Go.RowKit

def stDs (D : Nat) (A1 : Option Addr) (l1 c1 : Nat) (Ac : Option Addr) (lc cc : Nat) (S1 : Nat → Prop) (y : YX) (k : Nat) : List DI := [.c (.pointer (some ⟨D, 0, none⟩)), .c (.slice A1 l1 c1), .c (.int .i64 (k : Int)), .c (.slice Ac lc cc), .c (.int .i64 (k : Int)), .p (PV.clz S1 (tickN (ckN y k) k)), .p (PV.put S1 y.ck k (tickN (ckN y k) k)), .c (.pointer (some ⟨D, 0, none⟩))]
set_option maxRecDepth 100000 in
set_option maxHeartbeats 8000000 in
theorem RStore_yes {w : World} {S : Nat → Prop} {V : Value} {y : YX} {a : AX} {m : Nat} (h : RY w S V y) (hS : ∀ b, S b → b < w.heap.size) (hr : RelY a y) (hf : YFew m y) (hm : m < 900) (k : Nat) (hk : k < 65) (p : Int) :
    Calls Try.prog 11 #[V, .int .i64 (k : Int), .int .i64 p] w (YOut w S (m + 1) (storeA a k p)) := by
  have hmix : Try.prog.follows .mixedOrders = true := by kernel_rfl
  obtain ⟨A1, c1, A2, c2, A3, c3, A4, c4, A5, c5, rfl, hy⟩ := h
  have HT := Lib.hid (two_five w (.slice A1 y.ck.length c1) (.slice A2 y.sy.length c2) (.slice A3 y.wr.length c3) (.slice A4 y.rd.length c4) (.slice A5 y.cl.length c5) (.slice none 0 0) (.slice none 0 0) (.slice none 0 0) (.slice none 0 0) (.slice none 0 0) 30)
  have HY := Lib.hid hy
  have HS := Lib.hid hS
  have HREL := Lib.hid hr
  have HFEW := Lib.hid hf
  have hsl : ∀ {L : List SyT} {W : World} {T : Nat → Prop}, (∀ p ∈ L, SG T W p.2.1 p.2.2) → Sls L := fun h q hq => by
    obtain ⟨A, c, e, _⟩ := h q hq
    exact ⟨A, _, c, e⟩
  have HVS : Hid (Sls y.ck) := Lib.hid (hsl hy.cks)
  have HVY : Hid (Sls y.sy) := Lib.hid (hsl hy.sys)
  have HFW : Hid (y.ck.length ≤ 1000) := Lib.hid hy.few.1
  have HFY : Hid (y.sy.length ≤ 1000) := Lib.hid hy.few.2.1
  have HNU : Hid (IsNum (ckN y k)) := Lib.hid (by rw [hr.ck k hk]; exact hr.num k hk)
  have hk65 := Lib.hid hk
  have hw : isW (k : Int) = true := by unfold isW; simp; omega
  clear hy hr hS hf hsl
  generalize hl1 : y.ck.length = l1 at *
  generalize hl2 : y.sy.length = l2 at *
  generalize hl3 : y.wr.length = l3 at *
  generalize hl4 : y.rd.length = l4 at *
  generalize hl5 : y.cl.length = l5 at *
  have HL1 := Lib.hid hl1
  have HL2 := Lib.hid hl2
  have HL3 := Lib.hid hl3
  have HL4 := Lib.hid hl4
  have HL5 := Lib.hid hl5
  clear hl1 hl2 hl3 hl4 hl5
  go_enter Try.func11, Try.ntmps11
  go_upto_region 1 with (fail)
  obtain ⟨X, hX⟩ : ∃ X, X = (w.alloc (.cells #[.slice A1 l1 c1, .slice A2 l2 c2, .slice A3 l3 c3, .slice A4 l4 c4, .slice A5 l5 c5] 30)).alloc (.cells #[.slice none 0 0, .slice none 0 0, .slice none 0 0, .slice none 0 0, .slice none 0 0] 30) := ⟨_, rfl⟩
  rw [← hX] at HT ⊢
  clear hX
  go_wp2_with fail
  refine (RNone_any _ _).mono ?_
  rintro e w1 ⟨rfl, rfl⟩
  rw [hw]
  clear hw
  have x0 := HT.out.1.c 0 _ rfl
  have x1 := HT.out.1.c 1 _ rfl
  have x2 := HT.out.1.c 2 _ rfl
  have x3 := HT.out.1.c 3 _ rfl
  have x4 := HT.out.1.c 4 _ rfl
  have HC := Lib.hid (RClockOf_any (c1 := c1) (c2 := c2) (c3 := c3) (c4 := c4) (c5 := c5) (l1 := l1) (l2 := l2) (l3 := l3) (l4 := l4) (l5 := l5) (HY.out.below HT.out.2.2.1) HL1.out k)
  go_wp2_with fail
  refine HC.out.mono ?_
  rintro e w3 ⟨vc, zc, rfl, ⟨Ac, cc, rfl, hrc, hlc⟩, hnc, hb3⟩
  have HNC := Lib.hid hnc
  have HRC := Lib.hid hrc
  have HLC := Lib.hid hlc
  have HXS : Hid (X.heap.size = w.heap.size + 2) := Lib.hid HT.out.2.2.2
  have HD3 := Lib.hid (HT.out.1.below hb3)
  have HR3 := Lib.hid (HT.out.2.1.below hb3)
  have HB3 := Lib.hid (Below.next HT.out.2.2.1 hb3)
  have HX3 := Lib.hid hb3.size
  clear HC HT x0 x1 x2 x3 x4 hnc hrc hlc hb3
  have x1 := HD3.out.c 1 _ rfl
  have HC := Lib.hid (RPut_any (c := c2) (HY.out.below HB3.out).sy HVY.out HL2.out HFY.out p Ac cc zc)
  go_wp2_with fail
  refine HC.out.mono ?_
  rintro e w5 ⟨A8, c8, rfl, hr8, hb5⟩
  generalize hl8 : (putS y.sy p (.slice Ac zc.length cc, zc)).length = l8 at *
  have HL8 := Lib.hid hl8
  have HDb := HD3.out.below hb5
  have z1 := HDb.c 1 _ rfl
  have d1 := HDb.f 1
  have HD5 := Lib.hid (HDb.set 1 (.slice A8 l8 c8))
  have HR5 := Lib.hid ((HR3.out.below hb5).other (a := ⟨w.heap.size, 1, none⟩) (by simp) (.slice A8 l8 c8))
  have HB5 := Lib.hid (bl1 (k := 1) (Below.next HB3.out hb5) (Nat.le_refl w.heap.size) (.slice A8 l8 c8))
  have hne : ∀ q, SN S X q → q < w5.heap.size → (w5.setCell ⟨w.heap.size, 1, none⟩ (.slice A8 l8 c8)).heap[q]? = w5.heap[q]? := fun q hq _ => Below.heap_setCell _ _ _ _ (by
    rcases hq with hq | hq
    · have := HS.out q hq
      show q ≠ w.heap.size
      omega
    · have := HXS.out
      show q ≠ w.heap.size
      omega)
  have HR8 := Lib.hid ((hr8.mono (SN_sub (w := X) (W := w3) HX3.out)).keep hne)
  have HRC5 := Lib.hid ((HRC.out.below hb5).keep hne)
  have HX5 : Hid (X.heap.size ≤ (w5.setCell ⟨w.heap.size, 1, none⟩ (.slice A8 l8 c8)).heap.size) := Lib.hid (by rw [World.size_setCell]; exact Nat.le_trans HX3.out hb5.size)
  clear HC HD3 HR3 HB3 HX3 x1 HRC hr8 hb5 hl8 HDb hne
  go_upto_region 5 with (fail)
  clear z1 d1
  generalize w5.setCell ⟨w.heap.size, 1, none⟩ (.slice A8 l8 c8) = U at *
  obtain ⟨D, hD⟩ : ∃ D, w.heap.size = D := ⟨_, rfl⟩
  have hU : ∀ W, Below U.drew.heap.size U.drew W → Below U.heap.size U W := fun W hb => ((Drawn.refl.step 1).below _).trans hb
  have HXD : Hid (∀ W, Below U.drew.heap.size U.drew W → Bx W D [.slice A1 l1 c1, .slice A8 l8 c8, .slice A3 l3 c3, .slice A4 l4 c4, .slice A5 l5 c5]) := Lib.hid fun W hb => by
    rw [← hD]
    exact HD5.out.below (hU W hb)
  have HXR : Hid (∀ W, Below U.drew.heap.size U.drew W → Bx W (D + 1) [.slice none 0 0, .slice none 0 0, .slice none 0 0, .slice none 0 0, .slice none 0 0]) := Lib.hid fun W hb => by
    rw [← hD]
    exact HR5.out.below (hU W hb)
  have HBW : Hid (∀ W, Below U.drew.heap.size U.drew W → Below w.heap.size w W) := Lib.hid fun W hb => Below.next HB5.out (hU W hb)
  have HYS : Hid (∀ W, Below U.drew.heap.size U.drew W → RYs W S A1 A2 A3 A4 A5 y) := Lib.hid fun W hb => HY.out.below (HBW.out W hb)
  have HSN : Hid (∀ W, Below U.drew.heap.size U.drew W → X.heap.size ≤ W.heap.size) := Lib.hid fun W hb => Nat.le_trans HX5.out (hU W hb).size
  have HCW : Hid (∀ W, Below U.drew.heap.size U.drew W → RdG (SN S X) W Ac (zc.map (Value.int .i64))) := Lib.hid fun W hb => HRC5.out.below (hU W hb)
  have HPW : Hid (∀ W, Below U.drew.heap.size U.drew W → RdG (SN S X) W A8 (cellsS (putS y.sy p (.slice Ac zc.length cc, zc)))) := Lib.hid fun W hb => HR8.out.below (hU W hb)
  rw [hD]
  rw [hD] at HXS
  clear HD5 HR5 HB5 HR8 HRC5 HX5 hU
  refine region_heldT 29 hmix rfl (VI (stDs D A1 l1 c1 Ac zc.length cc (SN S X) y k)) (VI_later _) (by kernel_rfl) (by kernel_rfl) rfl rfl ?_ ?_
  rotate_left 1
  · intro listed a' W hall h
    have e27 : a'.eval (.tmp 27) = .pointer (some ⟨D, 0, none⟩) := h.but hall 7 27 (by decide) rfl
    obtain ⟨u, zs, A9, c9, e26, hp9, hsg, hnm⟩ := (show ∃ u zs A c, a'.eval (.tmp 26) = .slice A (putS y.ck k (u, (zs : List Int))).length c ∧ RdG (SN S X) W A (cellsS (putS y.ck k (u, zs))) ∧ SG (SN S X) W u zs ∧ numL zs = tickN (ckN y k) k from h.but hall 6 26 (by decide) rfl)
    have hbW : Below U.drew.heap.size U.drew W := h.hb
    obtain ⟨g', hg', hge⟩ := h.frame [20, 21, 22, 23, 24, 25, 26, 27] rfl
    have hx := HXD.out W hbW
    refine n_store rfl rfl e27 e26 (hx.c 0 _ rfl) (hx.f 0) ?_
    clear hge h hall e27 e26
    subst hg'
    simp only [List.foldl_cons, List.foldl_nil, List.setIfInBounds_toArray, List.set_cons_zero, List.set_cons_succ]
    obtain ⟨l9, hl9⟩ : ∃ l9, (putS y.ck k (u, zs)).length = l9 := ⟨_, rfl⟩
    rw [hl9]
    have HD2 := Lib.hid (hx.set 0 (.slice A9 l9 c9))
    have HR2 := Lib.hid ((HXR.out W hbW).other (a := ⟨D, 0, none⟩) (by simp) (.slice A9 l9 c9))
    have HB2 := Lib.hid (bl1 (k := 0) (HBW.out W hbW) (by omega : w.heap.size ≤ D) (.slice A9 l9 c9))
    have hSD : ∀ q, SN S X q → q < W.heap.size → q ≠ D ∧ q ≠ D + 1 := fun q hq _ => by
      rcases hq with hq | hq
      · have := HS.out q hq
        omega
      · have := HXS.out
        omega
    have hyW := HYS.out W hbW
    have hbl : (putS y.ck k (u, zs)).length ≤ y.ck.length + 1 := putS_len _ _ _
    have hbs : (putS y.sy p (.slice Ac zc.length cc, zc)).length ≤ y.sy.length + 1 := putS_len _ _ _
    have hf := HFEW.out
    unfold YFew at hf
    have hY2 : RYs W (SN S X) A9 A8 A3 A4 A5 ⟨putS y.ck k (u, zs), putS y.sy p (.slice Ac zc.length cc, zc), y.wr, y.rd, y.cl⟩ := by
      have hm := hyW.mono (S' := SN S X) (fun _ hz => .inl hz)
      refine ⟨hp9, HPW.out W hbW, hm.wr, hm.rd, hm.cl, fun q hq => ?_, fun q hq => ?_, ?_⟩
      · rcases putS_mem hq with hq | rfl
        · exact hm.cks q hq
        · exact hsg
      · rcases putS_mem hq with hq | rfl
        · exact hm.sys q hq
        · exact ⟨Ac, cc, rfl, HCW.out W hbW, HLC.out⟩
      · show (putS y.ck k (u, zs)).length ≤ 1000 ∧ (putS y.sy p (.slice Ac zc.length cc, zc)).length ≤ 1000 ∧ _
        refine ⟨by omega, by omega, hm.few.2.2⟩
    have hk : ∀ q, SN S X q → q < W.heap.size → ((((((W.setCell ⟨D, 0, none⟩ (.slice A9 l9 c9)).setCell ⟨D + 1, 0, none⟩ (.slice A9 l9 c9)).setCell ⟨D + 1, 1, none⟩ (.slice A8 l8 c8)).setCell ⟨D + 1, 2, none⟩ (.slice A3 l3 c3)).setCell ⟨D + 1, 3, none⟩ (.slice A4 l4 c4)).setCell ⟨D + 1, 4, none⟩ (.slice A5 l5 c5)).heap[q]? = W.heap[q]? := fun q hq hlt => by
      obtain ⟨n0, n1⟩ := hSD q hq hlt
      exact (Below.heap_setCell _ _ _ _ n1).trans ((Below.heap_setCell _ _ _ _ n1).trans ((Below.heap_setCell _ _ _ _ n1).trans ((Below.heap_setCell _ _ _ _ n1).trans ((Below.heap_setCell _ _ _ _ n1).trans (Below.heap_setCell _ _ _ _ n0)))))
    have HRES : Hid (YOut w S (m + 1) (storeA a k p) (.returned (.agg #[.slice A9 l9 c9, .slice A8 l8 c8, .slice A3 l3 c3, .slice A4 l4 c4, .slice A5 l5 c5])) ((((((W.setCell ⟨D, 0, none⟩ (.slice A9 l9 c9)).setCell ⟨D + 1, 0, none⟩ (.slice A9 l9 c9)).setCell ⟨D + 1, 1, none⟩ (.slice A8 l8 c8)).setCell ⟨D + 1, 2, none⟩ (.slice A3 l3 c3)).setCell ⟨D + 1, 3, none⟩ (.slice A4 l4 c4)).setCell ⟨D + 1, 4, none⟩ (.slice A5 l5 c5))) := Lib.hid (by
      refine ⟨_, ⟨putS y.ck k (u, zs), putS y.sy p (.slice Ac zc.length cc, zc), y.wr, y.rd, y.cl⟩, rfl, ⟨A9, c9, A8, c8, A3, c3, A4, c4, A5, c5, ?_, (hY2.keep hk).mono (SN_sub (by have := HXS.out; omega))⟩, HREL.out.store hk65.out p (v := (u, zs)) (u := (.slice Ac zc.length cc, zc)) ?_ ?_, ⟨?_, ?_, ?_, ?_, ?_⟩, below_put5 HB2.out (by omega) _ _ _ _ _⟩
      · show _ = Value.agg #[.slice A9 (putS y.ck k (u, zs)).length c9, .slice A8 (putS y.sy p (.slice Ac zc.length cc, zc)).length c8, .slice A3 y.wr.length c3, .slice A4 y.rd.length c4, .slice A5 y.cl.length c5]
        rw [hl9, HL8.out, HL3.out, HL4.out, HL5.out]
      · show numL zc = _
        rw [HNC.out, HREL.out.ck k hk65.out]
      · show numL zs = _
        rw [hnm, HREL.out.ck k hk65.out]
      · show (putS y.ck k (u, zs)).length ≤ m + 1
        omega
      · show (putS y.sy p (.slice Ac zc.length cc, zc)).length ≤ m + 1
        omega
      all_goals
        first
        | (show y.wr.length ≤ m + 1; omega)
        | (show y.rd.length ≤ m + 1; omega)
        | (show y.cl.length ≤ m + 1; omega))
    have x0 := HD2.out.c 0 _ rfl
    have x1 := HD2.out.c 1 _ rfl
    have x2 := HD2.out.c 2 _ rfl
    have x3 := HD2.out.c 3 _ rfl
    have x4 := HD2.out.c 4 _ rfl
    have y0 := HR2.out.c 0 _ rfl
    have y1 := HR2.out.c 1 _ rfl
    have y2 := HR2.out.c 2 _ rfl
    have y3 := HR2.out.c 3 _ rfl
    have y4 := HR2.out.c 4 _ rfl
    have k0 := HR2.out.f 0
    have k1 := HR2.out.f 1
    have k2 := HR2.out.f 2
    have k3 := HR2.out.f 3
    have k4 := HR2.out.f 4
    have HPP := Lib.hid (HR2.out.put5 (.slice A9 l9 c9) (.slice A8 l8 c8) (.slice A3 l3 c3) (.slice A4 l4 c4) (.slice A5 l5 c5))
    clear HD2 HR2 HB2 hk hY2 hyW hbl hbs hf hSD hp9 hsg hnm hl9 hx hbW HXD HXR HBW HYS HSN HXS HY HS HREL HFEW HCW HPW HL8
    generalize W.setCell ⟨D, 0, none⟩ (.slice A9 l9 c9) = W2 at *
    go_wp2
    have q0 := HPP.out.c 0 _ rfl
    have q1 := HPP.out.c 1 _ rfl
    have q2 := HPP.out.c 2 _ rfl
    have q3 := HPP.out.c 3 _ rfl
    have q4 := HPP.out.c 4 _ rfl
    exact bodyPost_ret (v := .agg #[.slice A9 l9 c9, .slice A8 l8 c8, .slice A3 l3 c3, .slice A4 l4 c4, .slice A5 l5 c5]) (by simp [results, Try.results11, go_sem, q0, q1, q2, q3, q4]) rfl HRES.out
  refine ⟨?_, ?_, ?_, ?_, ?_, ?_, ?_, ?_, trivial⟩
  · intro a W hb ho hg
    rw [if_pos (nw_none rfl)]
    have e : a.eval (.tmp 3) = .pointer (some ⟨D, 0, none⟩) := ho 3 rfl
    exact n_run (v := .pointer (some ⟨D, 0, none⟩)) (by simp only [execOp, e]; go_simp) rfl
  · intro a W hb ho hg
    rw [if_pos (nw_none rfl)]
    have e : a.eval (.tmp 20) = .pointer (some ⟨D, 0, none⟩) := hg 0 20 rfl rfl
    exact n_run (np_loadSy rfl e ((HXD.out W hb).c 0 _ rfl)) rfl
  · intro a W hb ho hg
    rw [if_pos (nw_none rfl)]
    have e : a.eval (.tmp 1) = .int .i64 (k : Int) := ho 1 rfl
    exact n_move rfl e rfl
  · intro a W hb ho hg
    rw [if_pos (nw_none rfl)]
    have e : a.eval (.tmp 7) = .slice Ac zc.length cc := ho 7 rfl
    exact n_move rfl e rfl
  · intro a W hb ho hg
    rw [if_pos (nw_none rfl)]
    have e : a.eval (.tmp 1) = .int .i64 (k : Int) := ho 1 rfl
    exact n_move rfl e rfl
  · intro a W hb ho hg
    rw [if_pos (nw_none rfl)]
    have e0 : a.eval (.tmp 23) = .slice Ac zc.length cc := hg 3 23 rfl rfl
    have e1 : a.eval (.tmp 24) = .int .i64 (k : Int) := hg 4 24 rfl rfl
    exact n_call (f := 76) rfl (by simp only [List.map_toArray, List.map_cons, List.map_nil, e0, e1] <;> rfl) (by go_simp) (refTick_any Ac zc cc (k : Int) W (HCW.out W hb).rd) (fun e W' h => h.clz (HSN.out W hb) (okz_short (tickN_num (numL_num _) _)) (by rw [HNC.out, numL_short (tickN_num HNU.out _)]))
  · intro a W hb ho hg
    rw [if_pos (nw_none rfl)]
    have e0 : a.eval (.tmp 21) = .slice A1 l1 c1 := hg 1 21 rfl rfl
    have e1 : a.eval (.tmp 22) = .int .i64 (k : Int) := hg 2 22 rfl rfl
    obtain ⟨Ae2, ze2, ce2, e2, re2, le2, ne2⟩ := (show ∃ A zs c, a.eval (.tmp 25) = .slice A (zs : List Int).length c ∧ RdG (SN S X) W A (zs.map (Value.int .i64)) ∧ Okz zs ∧ numL zs = tickN (ckN y k) k from hg 5 25 rfl rfl)
    exact n_call (f := 72) rfl (by simp only [List.map_toArray, List.map_cons, List.map_nil, e0, e1, e2] <;> rfl) (by go_simp) (RPut_any (HYS.out W hb).ck HVS.out HL1.out HFW.out k Ae2 ce2 ze2) (fun e W' h => h.put (HSN.out W hb) ⟨Ae2, ce2, rfl, re2, le2⟩ ne2)
  · intro a W hb ho hg
    rw [if_pos (nw_none rfl)]
    have e : a.eval (.tmp 3) = .pointer (some ⟨D, 0, none⟩) := ho 3 rfl
    exact n_run (v := .pointer (some ⟨D, 0, none⟩)) (by simp only [execOp, e]; go_simp) rfl
end Go.Proofs.Ytdgmcaehadigaaa
