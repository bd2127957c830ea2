/- The document's table of mutexes (ganglionref19), by contract: Give. -/
import Derived.Test.YtdgmcaehadigaaaRefLck2
namespace Go.Proofs.Ytdgmcaehadigaaa
open Go.RowKit

/-- Within Z, or new. -/
def TN (Z : Nat → Prop) (w : World) (b : Nat) : Prop := Z b ∨ w.heap.size ≤ b
/-- A list of pairs, in blocks from N on. -/
def Pn (N : Nat) (A : Option Addr) (L : List PrT) (W : World) : Prop := RdP2 W W.heap.size A L ∧ ∀ g o, A = some ⟨g, o, none⟩ → N ≤ g
theorem Pn.below {N : Nat} {A : Option Addr} {L : List PrT} {W W' : World} (h : Pn N A L W) (hb : Below W.heap.size W W') : Pn N A L W' := ⟨h.1.later hb, h.2⟩
theorem Pn.set {N : Nat} {A : Option Addr} {L : List PrT} {W : World} (h : Pn N A L W) {p : Addr} (hp : p.block < N) (v : Value) : Pn N A L (W.setCell p v) := ⟨fun k z hk => by
  obtain ⟨b, off, e, h1, h2, h3⟩ := h.1 k z hk
  have := h.2 b off e
  have hne : p.block ≠ b := by omega
  exact ⟨b, off, e, by rw [World.size_setCell]; exact h1, by rw [World.cell?_setCell_far _ _ _ _ hne]; exact h2, by rw [World.cell?_setCell_far _ _ _ _ hne]; exact h3⟩, h.2⟩
theorem Pn.less {N N' : Nat} {A : Option Addr} {L : List PrT} {W : World} (h : Pn N A L W) (hN : N' ≤ N) : Pn N' A L W := ⟨h.1, fun g o e => Nat.le_trans hN (h.2 g o e)⟩
theorem Pn.of_own {N n c : Nat} {A : Option Addr} {L : List PrT} {W : World} (h : W.ownsRow N 143 2 (.slice A n c) n (cellsQ L)) (hn : L.length = n) : Pn N A L W := ⟨RdP2.of_own h hn, fun g o e => (h.lt g (by rw [e]; rfl)).1⟩
/-- .. or in old ones. -/
def Pz (Z : Nat → Prop) (A : Option Addr) (L : List PrT) (W : World) : Prop := RdP2 W W.heap.size A L ∧ (L.length ≠ 0 → ∀ g o, A = some ⟨g, o, none⟩ → Z g)
theorem Pz.old {Z : Nat → Prop} {A : Option Addr} {L : List PrT} {w W : World} (h : Pz Z A L w) (hb : Below w.heap.size w W) : Pz (TN Z w) A L W := ⟨h.1.later hb, fun hn g o e => .inl (h.2 hn g o e)⟩
theorem Pn.pz {N : Nat} {Z : Nat → Prop} {A : Option Addr} {L : List PrT} {w W : World} (h : Pn N A L W) (hN : w.heap.size ≤ N) : Pz (TN Z w) A L W := ⟨h.1, fun _ g o e => .inr (Nat.le_trans hN (h.2 g o e))⟩
theorem RT.parts {w : World} {Z : Nat → Prop} {V : Value} {x : LX} (h : RT w Z V x) : ∃ A1 c1 A2 c2, V = .agg #[.slice A1 x.hs.length c1, .slice A2 x.ws.length c2, .bool (!x.up)] ∧ Pz Z A1 x.hs w ∧ Pz Z A2 x.ws w := by
  obtain ⟨A1, c1, A2, c2, rfl, r1, r2, t1, t2⟩ := h
  exact ⟨A1, c1, A2, c2, rfl, ⟨r1, t1⟩, ⟨r2, t2⟩⟩
theorem RT.mk {W : World} {Z : Nat → Prop} {A1 A2 : Option Addr} {c1 c2 l1 l2 : Nat} {L1 L2 : List PrT} {u : Bool} (h1 : Pz Z A1 L1 W) (h2 : Pz Z A2 L2 W) (hl1 : L1.length = l1) (hl2 : L2.length = l2) (b : Bool) (hb : b = !u) : RT W Z (.agg #[.slice A1 l1 c1, .slice A2 l2 c2, .bool b]) ⟨L1, L2, u⟩ := by
  subst hl1 hl2 hb
  exact ⟨A1, c1, A2, c2, rfl, h1.1, h2.1, h1.2, h2.2⟩
/-- What a call of the document's leaves. -/
def TOut (w : World) (Z : Nat → Prop) (b : Bool) (y : LX) (r : Ending) (w' : World) : Prop := ∃ V', r = .returned (.tuple #[V', .bool b]) ∧ RT w' (TN Z w) V' y ∧ Below w.heap.size w w'
/-- Two boxes of three cells, one behind the other. -/
theorem two_boxes (w : World) (a0 a1 a2 b0 b1 b2 : Value) (t : TypeId) : Bx ((w.alloc (.cells #[a0, a1, a2] t)).alloc (.cells #[b0, b1, b2] t)) w.heap.size [a0, a1, a2] ∧ Bx ((w.alloc (.cells #[a0, a1, a2] t)).alloc (.cells #[b0, b1, b2] t)) (w.heap.size + 1) [b0, b1, b2] ∧ Below w.heap.size w ((w.alloc (.cells #[a0, a1, a2] t)).alloc (.cells #[b0, b1, b2] t)) ∧ ((w.alloc (.cells #[a0, a1, a2] t)).alloc (.cells #[b0, b1, b2] t)).heap.size = w.heap.size + 2 := by
  have h1 := Bx.new w [a0, a1, a2] t
  have h2 := Bx.new (w.alloc (.cells #[a0, a1, a2] t)) [b0, b1, b2] t
  rw [World.size_alloc] at h2
  exact ⟨h1.below (below_new _ _), h2, Below.next (below_new _ _) (below_new _ _), by simp⟩
theorem gotB_free {x : LX} {v n : Int} (h : hold x.hs n ≠ some v) : giveB x v n = false ∧ giveX x v n = x := by
  unfold giveB giveX
  rw [if_neg h]
  exact ⟨by simpa using h, rfl⟩
set_option maxRecDepth 100000 in
set_option maxHeartbeats 4000000 in
theorem RGive_any {w : World} {Z : Nat → Prop} {V : Value} {x : LX} (h : RT w Z V x) (few1 : x.hs.length ≤ 1000) (few2 : x.ws.length ≤ 1000) (v n : Int) :
    Calls Try.prog 23 #[V, .int .i64 v, .int .i64 n] w (TOut w Z (giveB x v n) (giveX x v n)) := by
  obtain ⟨i1, hj0, hj1, hj2, hj3⟩ := info_parts info_pair
  obtain ⟨A1, c1, A2, c2, rfl, p1, p2⟩ := h.parts
  have HP1 := Lib.hid p1
  have HP2 := Lib.hid p2
  have HH := Lib.hid (fun W hb => RHolder_at (c1 := c1) (A2 := A2) (l2 := x.ws.length) (c2 := c2) (b := !x.up) (W := W) p1.1 hb rfl (Nat.le_trans few1 (by omega)) n)
  have HT := Lib.hid (two_boxes w (.slice A1 x.hs.length c1) (.slice A2 x.ws.length c2) (.bool (!x.up)) (.slice none 0 0) (.slice none 0 0) (.bool false) 49)
  have HNOT := Lib.hid (fun h => gotB_free (x := x) (v := v) (n := n) h)
  clear h p1 p2
  generalize hup : (!x.up) = nu at *
  go_enter Try.func23, Try.ntmps23
  go_upto_region 1 with (fail)
  obtain ⟨W0, hW0⟩ : ∃ W0, W0 = (w.alloc (.cells #[.slice A1 x.hs.length c1, .slice A2 x.ws.length c2, .bool nu] 49)).alloc (.cells #[.slice none 0 0, .slice none 0 0, .bool false] 49) := ⟨_, rfl⟩
  rw [← hW0] at HT ⊢
  clear hW0
  have x0 := HT.out.1.c 0 _ rfl
  have x1 := HT.out.1.c 1 _ rfl
  have x2 := HT.out.1.c 2 _ rfl
  have HC := Lib.hid (HH.out W0 HT.out.2.2.1)
  go_wp2_with fail
  refine HC.out.mono ?_
  rintro e w1 ⟨rfl, hb1⟩
  have HD := Lib.hid (HT.out.1.below hb1)
  have HR := Lib.hid (HT.out.2.1.below hb1)
  have HB := Lib.hid (Below.next HT.out.2.2.1 hb1)
  have hs1 : w.heap.size + 2 ≤ w1.heap.size := by
    have := HT.out.2.2.2
    have := hb1.size
    omega
  clear HC HH HT x0 x1 x2 hb1
  have x0 := HD.out.c 0 _ rfl
  have x1 := HD.out.c 1 _ rfl
  have x2 := HD.out.c 2 _ rfl
  have y0 := HR.out.c 0 _ rfl
  have y1 := HR.out.c 1 _ rfl
  have y2 := HR.out.c 2 _ rfl
  have k0 := HR.out.f 0
  have k1 := HR.out.f 1
  have k2 := HR.out.f 2
  by_cases hy : hold x.hs n = some v
  · have HG := Lib.hid (giveX_yes hy)
    rw [hy]
    simp only [gotI, gotB, Option.getD_some, Option.isSome_some]
    clear HNOT hy y0 y1 y2 k0 k1 k2
    have d0 := HD.out.f 0
    have d1 := HD.out.f 1
    have d2 := HD.out.f 2
    have HL := Lib.hid (HP1.out.1.later HB.out)
    have HS := Lib.hid (fun k z h => free_take (L := x.hs) (w := n) (k := k) (z := z) h)
    have HLN := Lib.hid (fun k => free_len x.hs n k)
    have H0 : Hid (freeL (x.hs.take 0) n = []) := Lib.hid rfl
    have HA : Hid (freeL (x.hs.take x.hs.length) n = freeL x.hs n) := Lib.hid (by rw [List.take_length])
    generalize hL : x.hs = L at *
    go_wp2
    go_loopw [10, 30] (fun s i wr => ∃ (k : Nat) (R : List PrT), k ≤ L.length ∧ i = .int .i64 (k : Int) ∧ Below w1.heap.size w1 wr ∧ wr.ownsRow w1.heap.size 143 2 s R.length (cellsQ R) ∧ Hid (freeL (L.take k) n = R)) (fun _ i _ => L.length - (intOf i).toNat)
    case atStart => exact ⟨0, [], Nat.zero_le _, rfl, Below.refl _ _, World.ownsRow_nil _ _ _ _, H0⟩
    case round =>
      clear x0 x1 x2 d0 d1 d2
      obtain ⟨k, R, hk, rfl, hbel, ho, HRR⟩ := hrel
      have hln : R.length ≤ k := by have := HLN.out k; rw [HRR.out] at this; exact this
      obtain ⟨A4, c4, rfl, _, _⟩ := ownSlice ho
      by_cases hlt : k < L.length
      · obtain ⟨bb, off, rfl, hbb, q0, q1⟩ := (HL.out.below hbel) k _ (List.getElem?_eq_getElem hlt)
        have hst := HS.out k _ (List.getElem?_eq_getElem hlt)
        rw [HRR.out] at hst
        generalize L[k] = z at *
        obtain ⟨zn, zw⟩ := z
        simp only at q0 q1 hst
        have hkl : (k : Int) < (L.length : Int) := by omega
        have hk0 : (0 : Int) ≤ (k : Int) := by omega
        have HQ := Lib.hid (Bx.new wr [.int .i64 zn, .int .i64 zw] 143)
        have HBX := Lib.hid (hbel.alloc hbel.size (.cells #[.int .i64 zn, .int .i64 zw] 143))
        have HO := Lib.hid (ho.alloc (.cells #[.int .i64 zn, .int .i64 zw] 143))
        have hsz := hbel.size
        clear hbel ho HRR
        by_cases e : zn = n
        · rw [if_pos e, List.append_nil] at hst
          have HN := Lib.hid hst
          clear hst
          subst e
          go_wp2
          go_roundw
          case rel => exact ⟨k + 1, R, by omega, by go_num, HBX.out, HO.out, HN⟩
          case measure => simp [intOf]; omega
        · rw [if_neg e] at hst
          have HN := Lib.hid hst
          clear hst
          go_upto_region 9 with (fail)
          obtain ⟨X, hX⟩ : ∃ X, X = wr.alloc (.cells #[.int .i64 zn, .int .i64 zw] 143) := ⟨_, rfl⟩
          have hq0 : X.cell? ⟨wr.heap.size, 0, none⟩ = some (.int .i64 zn) := by rw [hX]; exact HQ.out.c 0 _ rfl
          have hq1 : X.cell? ⟨wr.heap.size, 1, none⟩ = some (.int .i64 zw) := by rw [hX]; exact HQ.out.c 1 _ rfl
          rw [← hX] at HBX HO ⊢
          clear hX HQ q0 q1
          generalize wr.heap.size = D at *
          have hxs := HBX.out.size
          go_wp2_with (at_builtin; refine wpList_append_lies _ rfl _ _ 47 rfl w1.heap.size 143 i1 _ 2 16 Try.underlying47 hj0 hj1 hj2 hj3 rfl (by decide) _ R.length (cellsQ R) rfl (HO.out.alloc _) ⟨X.heap.size, 0, none⟩ 1 1 [.int .i64 zn, .int .i64 zw] rfl rfl (World.news_of_block (cs := #[.int .i64 zn, .int .i64 zw]) (t := 143) (fr := (0, 0)) (heap_alloc_last X _)) (by simp [Value.oneCell']) (by decide) (by unfold maxLen; omega) (by omega) (by rw [World.size_alloc]; omega) (X.heap.size + 1) (by simp) ?_)
          intro g cp w4 hown hgr _ hglt
          have hb4 := Lib.hid ((HBX.out.alloc hxs (.cells #[.int .i64 zn, .int .i64 zw] 143)).grown hgr (by rw [World.size_alloc]; omega) (fun q hq => (HO.out.lt q hq).1))
          have HO' := Lib.hid (show w4.ownsRow w1.heap.size 143 2 (.slice (some ⟨g, 0, none⟩) (R.length + 1) cp) (R ++ [(zn, zw)]).length (cellsQ (R ++ [(zn, zw)])) from by rw [cellsQ_snoc, List.length_append]; exact hown)
          clear hown hgr
          go_wp2
          go_roundw
          case rel => exact ⟨k + 1, R ++ [(zn, zw)], by omega, by go_num, hb4.out, HO'.out, HN⟩
          case measure => simp [intOf]; omega
      · obtain rfl : k = L.length := by omega
        have hRR : freeL L n = R := by rw [← HRR.out, HA.out]
        have HPA := Lib.hid ((Pn.of_own ho rfl).less (N' := w.heap.size + 2) hs1)
        rw [hRR] at HG
        have HD2 := Lib.hid ((HD.out.below hbel).set 0 (.slice A4 R.length c4))
        have HR2 := Lib.hid ((HR.out.below hbel).other (a := ⟨w.heap.size, 0, none⟩) (by simp) (.slice A4 R.length c4))
        have HB2 := Lib.hid (bl1 (k := 0) (Below.next HB.out hbel) (Nat.le_refl w.heap.size) (.slice A4 R.length c4))
        have HPB := Lib.hid (HPA.out.set (p := ⟨w.heap.size, 0, none⟩) (by simp) (.slice A4 R.length c4))
        have HDb := HD.out.below hbel
        have x0 := HDb.c 0 _ rfl
        have d0 := HDb.f 0
        clear ho HRR hRR HPA HA H0 HLN HS HL HD HR HB HDb hbel hln
        go_upto_region 12 with (fail)
        generalize wr.setCell ⟨w.heap.size, 0, none⟩ (.slice A4 R.length c4) = X at *
        clear x0 d0
        have x1 := HD2.out.c 1 _ rfl
        have HC := Lib.hid (RRest_any (c := c2) (HP2.out.1.later HB2.out) (Nat.le_trans few2 (by omega)) v)
        go_wp2_with fail
        refine HC.out.mono ?_
        rintro e w5 ⟨A5, c5, rfl, ho5, hb5⟩
        generalize hM : restL x.ws v = M at *
        have HD3 := Lib.hid ((HD2.out.below hb5).set 1 (.slice A5 M.length c5))
        have HR3 := Lib.hid ((HR2.out.below hb5).other (a := ⟨w.heap.size, 1, none⟩) (by simp) (.slice A5 M.length c5))
        have HB3 := Lib.hid (bl1 (k := 1) (Below.next HB2.out hb5) (Nat.le_refl w.heap.size) (.slice A5 M.length c5))
        have HPC := Lib.hid ((HPB.out.below hb5).set (p := ⟨w.heap.size, 1, none⟩) (by simp) (.slice A5 M.length c5))
        have hsX : w.heap.size + 2 ≤ X.heap.size := by
          have := HR2.out.lt
          omega
        have HPD := Lib.hid (((Pn.of_own ho5 rfl).less (N' := w.heap.size + 2) hsX).set (p := ⟨w.heap.size, 1, none⟩) (by simp) (.slice A5 M.length c5))
        have HDb := HD2.out.below hb5
        have z1 := HDb.c 1 _ rfl
        have d1 := HDb.f 1
        clear HC HD2 HR2 HB2 HPB ho5 hb5 HDb x1 hsX
        go_upto_region 13 with (fail)
        generalize w5.setCell ⟨w.heap.size, 1, none⟩ (.slice A5 M.length c5) = Y at *
        clear z1 d1
        have x0 := HD3.out.c 0 _ rfl
        have x1 := HD3.out.c 1 _ rfl
        have x2 := HD3.out.c 2 _ rfl
        have y0 := HR3.out.c 0 _ rfl
        have y1 := HR3.out.c 1 _ rfl
        have y2 := HR3.out.c 2 _ rfl
        have k0 := HR3.out.f 0
        have k1 := HR3.out.f 1
        have k2 := HR3.out.f 2
        have hN : w.heap.size ≤ w.heap.size + 2 := by omega
        have HPP := Lib.hid (HR3.out.put3 (.slice A4 R.length c4) (.slice A5 M.length c5) (.bool nu))
        have HRES : Hid (TOut w Z (giveB x v n) (giveX x v n) (.returned (.tuple #[.agg #[.slice A4 R.length c4, .slice A5 M.length c5, .bool nu], .bool true])) (((Y.setCell ⟨w.heap.size + 1, 0, none⟩ (.slice A4 R.length c4)).setCell ⟨w.heap.size + 1, 1, none⟩ (.slice A5 M.length c5)).setCell ⟨w.heap.size + 1, 2, none⟩ (.bool nu))) := Lib.hid (by
          rw [HG.out.1, HG.out.2]
          refine ⟨_, rfl, RT.mk (((HPC.out.set (p := ⟨w.heap.size + 1, 0, none⟩) (by simp) _).set (p := ⟨w.heap.size + 1, 1, none⟩) (by simp) _).set (p := ⟨w.heap.size + 1, 2, none⟩) (by simp) _ |>.pz hN) ((((HPD.out.set (p := ⟨w.heap.size + 1, 0, none⟩) (by simp) _).set (p := ⟨w.heap.size + 1, 1, none⟩) (by simp) _).set (p := ⟨w.heap.size + 1, 2, none⟩) (by simp) _).pz hN) rfl rfl _ hup.symm, below_put3 HB3.out (by omega) _ _ _⟩)
        clear HD3 HR3 HB3 HPC HPD HG HP1 HP2
        go_wp2
        have q0 := HPP.out.c 0 _ rfl
        have q1 := HPP.out.c 1 _ rfl
        have q2 := HPP.out.c 2 _ rfl
        exact bodyPost_ret (v := .tuple #[.agg #[.slice A4 R.length c4, .slice A5 M.length c5, .bool nu], .bool true]) (by simp [results, Try.results23, go_sem, q0, q1, q2]) rfl HRES.out
  · have HPP := Lib.hid (HR.out.put3 (.slice A1 x.hs.length c1) (.slice A2 x.ws.length c2) (.bool nu))
    have HRES : Hid (TOut w Z (giveB x v n) (giveX x v n) (.returned (.tuple #[.agg #[.slice A1 x.hs.length c1, .slice A2 x.ws.length c2, .bool nu], .bool false])) (((w1.setCell ⟨w.heap.size + 1, 0, none⟩ (.slice A1 x.hs.length c1)).setCell ⟨w.heap.size + 1, 1, none⟩ (.slice A2 x.ws.length c2)).setCell ⟨w.heap.size + 1, 2, none⟩ (.bool nu))) := Lib.hid (by
      have hB := below_put3 (b := w.heap.size + 1) HB.out (by omega) (.slice A1 x.hs.length c1) (.slice A2 x.ws.length c2) (.bool nu)
      rw [(HNOT.out hy).1, (HNOT.out hy).2]
      exact ⟨_, rfl, RT.mk (HP1.out.old hB) (HP2.out.old hB) rfl rfl _ hup.symm, hB⟩)
    have hcase : hold x.hs n = none ∨ ∃ u, u ≠ v ∧ hold x.hs n = some u := by
      cases hh : hold x.hs n with
      | none => exact .inl rfl
      | some u => exact .inr ⟨u, fun e => hy (by rw [hh, e]), rfl⟩
    clear HNOT HP1 HP2 HD HR HB hy
    rcases hcase with hc | ⟨u, hu, hc⟩
    all_goals
      rw [hc]
      simp only [gotI, gotB, Option.getD_some, Option.isSome_some, Option.getD_none, Option.isSome_none]
      clear hc
      go_wp2
      have q0 := HPP.out.c 0 _ rfl
      have q1 := HPP.out.c 1 _ rfl
      have q2 := HPP.out.c 2 _ rfl
      exact bodyPost_ret (v := .tuple #[.agg #[.slice A1 x.hs.length c1, .slice A2 x.ws.length c2, .bool nu], .bool false]) (by simp [results, Try.results23, go_sem, q0, q1, q2]) rfl HRES.out
end Go.Proofs.Ytdgmcaehadigaaa
