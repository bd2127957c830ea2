/- The document's watch (ganglionref18), by contract: Load. -/
import Derived.Test.YtdgmcaehadigaaaRefRac2
import Derived.Test.YtdgmcaehadigaaaRefRacPut
import Derived.Test.YtdgmcaehadigaaaHeldT
namespace Go.Proofs.Ytdgmcaehadigaaa
open Go.RowKit

/-- A clock told, within S. -/
def PV.clz (S : Nat → Prop) (N : List Int) : PV := ⟨fun v W => ∃ A zs c, v = .slice A (zs : List Int).length c ∧ RdG S W A (zs.map (Value.int .i64)) ∧ Okz zs ∧ numL zs = N, fun _ _ _ hb ⟨A, zs, c, e, hr, hl, hn⟩ => ⟨A, zs, c, e, hr.below hb, hl, hn⟩⟩
/-- A list of clocks with another one, within S. -/
def PV.put (S : Nat → Prop) (L : List SyT) (k : Int) (N : List Int) : PV := ⟨fun v W => ∃ u zs A c, v = .slice A (putS L k (u, (zs : List Int))).length c ∧ RdG S W A (cellsS (putS L k (u, zs))) ∧ SG S W u zs ∧ numL zs = N, fun _ _ _ hb ⟨u, zs, A, c, e, hr, hs, hn⟩ => ⟨u, zs, A, c, e, hr.below hb, hs.below hb, hn⟩⟩
theorem SN_sub {S : Nat → Prop} {w W : World} (h : w.heap.size ≤ W.heap.size) (b : Nat) (hb : SN S W b) : SN S w b := by
  rcases hb with hb | hb
  · exact .inl hb
  · exact .inr (Nat.le_trans h hb)
theorem SN_twice {S : Nat → Prop} {w W : World} (h : w.heap.size ≤ W.heap.size) (b : Nat) (hb : SN (SN S w) W b) : SN S w b := by
  rcases hb with hb | hb
  · exact hb
  · exact .inr (Nat.le_trans h hb)
theorem CkOut.clz {w W W' : World} {S : Nat → Prop} {N : List Int} {e : Ending} (h : CkOut W S N e W') (hs : w.heap.size ≤ W.heap.size) : ∃ v, e = .returned v ∧ Below W.heap.size W W' ∧ (PV.clz (SN S w) N).P v W' := by
  obtain ⟨v, zs, he, ⟨A, c, rfl, hr, hl⟩, hn, hb⟩ := h
  exact ⟨_, he, hb, A, zs, c, rfl, hr.mono (SN_sub hs), hl, hn⟩
theorem IntsZ.clz {w W W' : World} {S : Nat → Prop} {L N : List Int} {e : Ending} (h : IntsZ L W e W') (hs : w.heap.size ≤ W.heap.size) (hl : Okz L) (hn : numL L = N) : ∃ v, e = .returned v ∧ Below W.heap.size W W' ∧ (PV.clz (SN S w) N).P v W' := by
  obtain ⟨A, c, he, hr, _, _, _, hb, hz⟩ := h
  obtain ⟨A', c', e2, hg, hl'⟩ := SG.of_z (S := S) (w := W) (c := c) hr hz hl
  injection e2 with e2 _ e3
  subst e2 e3
  exact ⟨_, he, hb, A, L, c, rfl, hg.mono (SN_sub hs), hl, hn⟩
theorem PutOut.put {w W W' : World} {S : Nat → Prop} {L : List SyT} {k : Int} {u : Value} {zs N : List Int} {e : Ending} (h : PutOut W S (putS L k (u, zs)) e W') (hs : w.heap.size ≤ W.heap.size) (hu : SG (SN S w) W u zs) (hn : numL zs = N) : ∃ v, e = .returned v ∧ Below W.heap.size W W' ∧ (PV.put (SN S w) L k N).P v W' := by
  obtain ⟨A, c, he, hr, hb⟩ := h
  exact ⟨_, he, hb, u, zs, A, c, rfl, hr.mono (SN_sub hs), hu.below hb, hn⟩
section
variable {o : Oper} {a : Act} {W : World} {s t : Operand}
theorem np_loadSy {b k : Nat} {A : Option Addr} {n c : Nat} (ho : o.op = .load 26 s) (e : a.eval s = .pointer (some ⟨b, k, none⟩)) (h : W.cell? ⟨b, k, none⟩ = some (.slice A n c)) : (execOp a.eval o).run Try.prog W = .ok (.value (.slice A n c)) W := by
  simp only [execOp, ho, e]
  go_simp
set_option maxRecDepth 100000 in
/-- The store that comes last. -/
theorem n_store {Q : Exit → Act → World → Prop} {K : Act → World → Prop} {b k : Nat} {u : Value} {A : Option Addr} {n c : Nat} (ho : o.op = .store 26 s t) (hd : o.dst = none) (e : a.eval s = .pointer (some ⟨b, k, none⟩)) (e' : a.eval t = .slice A n c) (h : W.cell? ⟨b, k, none⟩ = some u) (hf : W.frozen? ⟨b, k, none⟩ = false) (hK : K a (W.setCell ⟨b, k, none⟩ (.slice A n c))) : Oper.wp Try.prog o a W K Q := by
  have hr : (execOp a.eval o).run Try.prog W = .ok .skip (W.setCell ⟨b, k, none⟩ (.slice A n c)) := by
    simp only [execOp, ho, e, e']
    go_simp
  unfold Oper.wp
  rw [hr, Oper.upon_skip, hd]
  exact hK
end
def ldDs (D : Nat) (A1 A2 A3 A4 A5 : Option Addr) (l1 c1 l2 c2 l3 c3 l4 c4 l5 c5 : Nat) (S1 : Nat → Prop) (y : YX) (k : Nat) (p : Int) : List DI := [.c (.pointer (some ⟨D, 0, none⟩)), .c (.slice A1 l1 c1), .c (.int .i64 (k : Int)), .c (.agg #[.slice A1 l1 c1, .slice A2 l2 c2, .slice A3 l3 c3, .slice A4 l4 c4, .slice A5 l5 c5]), .c (.int .i64 (k : Int)), .p (PV.clz S1 (ckN y k)), .c (.agg #[.slice A1 l1 c1, .slice A2 l2 c2, .slice A3 l3 c3, .slice A4 l4 c4, .slice A5 l5 c5]), .c (.int .i64 p), .p (PV.clz S1 (syN y p)), .p (PV.clz S1 (joinN (ckN y k) (syN y p))), .p (PV.put S1 y.ck k (joinN (ckN y k) (syN y p))), .c (.pointer (some ⟨D, 0, none⟩))]
/-- Two boxes of five cells, one behind the other. -/
theorem two_five (w : World) (a0 a1 a2 a3 a4 b0 b1 b2 b3 b4 : Value) (t : TypeId) : Bx ((w.alloc (.cells #[a0, a1, a2, a3, a4] t)).alloc (.cells #[b0, b1, b2, b3, b4] t)) w.heap.size [a0, a1, a2, a3, a4] ∧ Bx ((w.alloc (.cells #[a0, a1, a2, a3, a4] t)).alloc (.cells #[b0, b1, b2, b3, b4] t)) (w.heap.size + 1) [b0, b1, b2, b3, b4] ∧ Below w.heap.size w ((w.alloc (.cells #[a0, a1, a2, a3, a4] t)).alloc (.cells #[b0, b1, b2, b3, b4] t)) ∧ ((w.alloc (.cells #[a0, a1, a2, a3, a4] t)).alloc (.cells #[b0, b1, b2, b3, b4] t)).heap.size = w.heap.size + 2 := by
  have h1 := Bx.new w [a0, a1, a2, a3, a4] t
  have h2 := Bx.new (w.alloc (.cells #[a0, a1, a2, a3, a4] t)) [b0, b1, b2, b3, b4] t
  rw [World.size_alloc] at h2
  exact ⟨h1.below (below_new _ _), h2, Below.next (below_new _ _) (below_new _ _), by simp⟩
theorem Bx.put5 {W : World} {b : Nat} {u0 u1 u2 u3 u4 : Value} (h : Bx W b [u0, u1, u2, u3, u4]) (v0 v1 v2 v3 v4 : Value) : Bx (((((W.setCell ⟨b, 0, none⟩ v0).setCell ⟨b, 1, none⟩ v1).setCell ⟨b, 2, none⟩ v2).setCell ⟨b, 3, none⟩ v3).setCell ⟨b, 4, none⟩ v4) b [v0, v1, v2, v3, v4] := ((((h.set 0 v0).set 1 v1).set 2 v2).set 3 v3).set 4 v4
theorem below_put5 {w W : World} {B b : Nat} (h : Below B w W) (hb : B ≤ b) (v0 v1 v2 v3 v4 : Value) : Below B w (((((W.setCell ⟨b, 0, none⟩ v0).setCell ⟨b, 1, none⟩ v1).setCell ⟨b, 2, none⟩ v2).setCell ⟨b, 3, none⟩ v3).setCell ⟨b, 4, none⟩ v4) := bl1 (bl1 (bl1 (bl1 (bl1 h hb v0) hb v1) hb v2) hb v3) hb v4
/-- What lies apart from a block stays when that block is written. -/
theorem RYs.keep {W W' : World} {S : Nat → Prop} {A1 A2 A3 A4 A5 : Option Addr} {y : YX} (h : RYs W S A1 A2 A3 A4 A5 y) (hk : ∀ b, S b → b < W.heap.size → W'.heap[b]? = W.heap[b]?) : RYs W' S A1 A2 A3 A4 A5 y :=
  ⟨h.ck.keep hk, h.sy.keep hk, h.wr.keep hk, h.rd.keep hk, h.cl.keep hk, fun p hp => by
    obtain ⟨A, c, e, h1, h2⟩ := h.cks p hp
    exact ⟨A, c, e, h1.keep hk, h2⟩, fun p hp => by
    obtain ⟨A, c, e, h1, h2⟩ := h.sys p hp
    exact ⟨A, c, e, h1.keep hk, h2⟩, h.few⟩
/-- Lists of n at most. -/
def YFew (n : Nat) (y : YX) : Prop := y.ck.length ≤ n ∧ y.sy.length ≤ n ∧ y.wr.length ≤ n ∧ y.rd.length ≤ n ∧ y.cl.length ≤ n
/-- What a call leaves that turns a watch. -/
def YOut (w : World) (S : Nat → Prop) (n : Nat) (a : AX) (e : Ending) (w' : World) : Prop := ∃ V' y', e = .returned V' ∧ RY w' (SN S w) V' y' ∧ RelY a y' ∧ YFew n y' ∧ Below w.heap.size w w'
set_option maxRecDepth 100000 in
set_option maxHeartbeats 4000000 in
theorem RLoad_yes {w : World} {S : Nat → Prop} {V : Value} {y : YX} {a : AX} {m : Nat} (h : RY w S V y) (hS : ∀ b, S b → b < w.heap.size) (hr : RelY a y) (hf : YFew m y) (hm : m < 900) (k : Nat) (hk : k < 65) (p : Int) :
    Calls Try.prog 10 #[V, .int .i64 (k : Int), .int .i64 p] w (YOut w S (m + 1) (loadA a k p)) := by
  have hmix : Try.prog.follows .mixedOrders = true := by kernel_rfl
  obtain ⟨A1, c1, A2, c2, A3, c3, A4, c4, A5, c5, rfl, hy⟩ := h
  have HT := Lib.hid (two_five w (.slice A1 y.ck.length c1) (.slice A2 y.sy.length c2) (.slice A3 y.wr.length c3) (.slice A4 y.rd.length c4) (.slice A5 y.cl.length c5) (.slice none 0 0) (.slice none 0 0) (.slice none 0 0) (.slice none 0 0) (.slice none 0 0) 30)
  have HY := Lib.hid hy
  have HS := Lib.hid hS
  have HREL := Lib.hid hr
  have HFEW := Lib.hid hf
  have HVS : Hid (Sls y.ck) := Lib.hid fun q hq => by
    obtain ⟨A, c, e, _⟩ := hy.cks q hq
    exact ⟨A, _, c, e⟩
  have HFW : Hid (y.ck.length ≤ 1000) := Lib.hid hy.few.1
  have HNU : Hid (IsNum (ckN y k)) := Lib.hid (by rw [hr.ck k hk]; exact hr.num k hk)
  have hk65 := Lib.hid hk
  have hw : isW (k : Int) = true := by unfold isW; simp; omega
  clear hy hr hS hf
  generalize hl1 : y.ck.length = l1 at *
  generalize hl2 : y.sy.length = l2 at *
  generalize hl3 : y.wr.length = l3 at *
  generalize hl4 : y.rd.length = l4 at *
  generalize hl5 : y.cl.length = l5 at *
  have HL1 := Lib.hid hl1
  have HL2 := Lib.hid hl2
  have HL3 := Lib.hid hl3
  have HL4 := Lib.hid hl4
  have HL5 := Lib.hid hl5
  clear hl1 hl2 hl3 hl4 hl5
  go_enter Try.func10, Try.ntmps10
  go_upto_region 1 with (fail)
  obtain ⟨X, hX⟩ : ∃ X, X = (w.alloc (.cells #[.slice A1 l1 c1, .slice A2 l2 c2, .slice A3 l3 c3, .slice A4 l4 c4, .slice A5 l5 c5] 30)).alloc (.cells #[.slice none 0 0, .slice none 0 0, .slice none 0 0, .slice none 0 0, .slice none 0 0] 30) := ⟨_, rfl⟩
  rw [← hX] at HT ⊢
  clear hX
  go_wp2_with fail
  refine (RNone_any _ _).mono ?_
  rintro e w1 ⟨rfl, rfl⟩
  rw [hw]
  clear hw
  go_upto_region 3 with (fail)
  obtain ⟨D, hD⟩ : ∃ D, w.heap.size = D := ⟨_, rfl⟩
  have HXD : Hid (∀ W, Below X.drew.heap.size X.drew W → Bx W D [.slice A1 l1 c1, .slice A2 l2 c2, .slice A3 l3 c3, .slice A4 l4 c4, .slice A5 l5 c5]) := Lib.hid fun W hb => by
    rw [← hD]
    exact HT.out.1.below (((Drawn.refl.step 1).below _).trans hb)
  have HXR : Hid (∀ W, Below X.drew.heap.size X.drew W → Bx W (D + 1) [.slice none 0 0, .slice none 0 0, .slice none 0 0, .slice none 0 0, .slice none 0 0]) := Lib.hid fun W hb => by
    rw [← hD]
    exact HT.out.2.1.below (((Drawn.refl.step 1).below _).trans hb)
  have HBW : Hid (∀ W, Below X.drew.heap.size X.drew W → Below w.heap.size w W) := Lib.hid fun W hb => Below.next HT.out.2.2.1 (((Drawn.refl.step 1).below _).trans hb)
  have HYS : Hid (∀ W, Below X.drew.heap.size X.drew W → RYs W S A1 A2 A3 A4 A5 y) := Lib.hid fun W hb => HY.out.below (HBW.out W hb)
  have HSN : Hid (∀ W, Below X.drew.heap.size X.drew W → X.heap.size ≤ W.heap.size) := Lib.hid fun W hb => (((Drawn.refl.step 1).below X.heap.size).trans hb).size
  have HXS : Hid (X.heap.size = D + 2) := Lib.hid (by rw [← hD]; exact HT.out.2.2.2)
  rw [hD]
  rw [hD] at HS
  clear HT
  refine region_heldT 23 hmix rfl (VI (ldDs D A1 A2 A3 A4 A5 l1 c1 l2 c2 l3 c3 l4 c4 l5 c5 (SN S X) y k p)) (VI_later _) (by kernel_rfl) (by kernel_rfl) rfl rfl ?_ ?_
  rotate_left 1
  · intro listed a' W hall h
    have e21 : a'.eval (.tmp 21) = .pointer (some ⟨D, 0, none⟩) := h.but hall 11 21 (by decide) rfl
    obtain ⟨u, zs, A9, c9, e20, hp9, hsg, hnm⟩ := (show ∃ u zs A c, a'.eval (.tmp 20) = .slice A (putS y.ck k (u, (zs : List Int))).length c ∧ RdG (SN S X) W A (cellsS (putS y.ck k (u, zs))) ∧ SG (SN S X) W u zs ∧ numL zs = joinN (ckN y k) (syN y p) from h.but hall 10 20 (by decide) rfl)
    have hbW : Below X.drew.heap.size X.drew W := h.hb
    obtain ⟨g', hg', hge⟩ := h.frame [10, 11, 12, 13, 14, 15, 16, 17, 18, 19, 20, 21] rfl
    have hx := HXD.out W hbW
    refine n_store rfl rfl e21 e20 (hx.c 0 _ rfl) (hx.f 0) ?_
    clear hge h hall e21 e20
    subst hg'
    simp only [List.foldl_cons, List.foldl_nil, List.setIfInBounds_toArray, List.set_cons_zero, List.set_cons_succ]
    obtain ⟨l9, hl9⟩ : ∃ l9, (putS y.ck k (u, zs)).length = l9 := ⟨_, rfl⟩
    rw [hl9]
    have hDW : D < W.heap.size := hx.lt
    have HD2 := Lib.hid (hx.set 0 (.slice A9 l9 c9))
    have HR2 := Lib.hid ((HXR.out W hbW).other (a := ⟨D, 0, none⟩) (by simp) (.slice A9 l9 c9))
    have HB2 := Lib.hid (bl1 (k := 0) (HBW.out W hbW) (by omega : w.heap.size ≤ D) (.slice A9 l9 c9))
    have hSD : ∀ q, SN S X q → q < W.heap.size → q ≠ D ∧ q ≠ D + 1 := fun q hq _ => by
      rcases hq with hq | hq
      · have := HS.out q hq
        omega
      · have := HXS.out
        omega
    have hyW := HYS.out W hbW
    have hbl : (putS y.ck k (u, zs)).length ≤ y.ck.length + 1 := putS_len _ _ _
    have hf := HFEW.out
    unfold YFew at hf
    have hY2 : RYs W (SN S X) A9 A2 A3 A4 A5 ⟨putS y.ck k (u, zs), y.sy, y.wr, y.rd, y.cl⟩ := by
      have hm := hyW.mono (S' := SN S X) (fun _ hz => .inl hz)
      refine ⟨hp9, hm.sy, hm.wr, hm.rd, hm.cl, fun q hq => ?_, hm.sys, ?_⟩
      · rcases putS_mem hq with hq | rfl
        · exact hm.cks q hq
        · exact hsg
      · show (putS y.ck k (u, zs)).length ≤ 1000 ∧ _
        refine ⟨by omega, hm.few.2⟩
    have hk : ∀ q, SN S X q → q < W.heap.size → ((((((W.setCell ⟨D, 0, none⟩ (.slice A9 l9 c9)).setCell ⟨D + 1, 0, none⟩ (.slice A9 l9 c9)).setCell ⟨D + 1, 1, none⟩ (.slice A2 l2 c2)).setCell ⟨D + 1, 2, none⟩ (.slice A3 l3 c3)).setCell ⟨D + 1, 3, none⟩ (.slice A4 l4 c4)).setCell ⟨D + 1, 4, none⟩ (.slice A5 l5 c5)).heap[q]? = W.heap[q]? := fun q hq hlt => by
      obtain ⟨n0, n1⟩ := hSD q hq hlt
      exact (Below.heap_setCell _ _ _ _ n1).trans ((Below.heap_setCell _ _ _ _ n1).trans ((Below.heap_setCell _ _ _ _ n1).trans ((Below.heap_setCell _ _ _ _ n1).trans ((Below.heap_setCell _ _ _ _ n1).trans (Below.heap_setCell _ _ _ _ n0)))))
    have HRES : Hid (YOut w S (m + 1) (loadA a k p) (.returned (.agg #[.slice A9 l9 c9, .slice A2 l2 c2, .slice A3 l3 c3, .slice A4 l4 c4, .slice A5 l5 c5])) ((((((W.setCell ⟨D, 0, none⟩ (.slice A9 l9 c9)).setCell ⟨D + 1, 0, none⟩ (.slice A9 l9 c9)).setCell ⟨D + 1, 1, none⟩ (.slice A2 l2 c2)).setCell ⟨D + 1, 2, none⟩ (.slice A3 l3 c3)).setCell ⟨D + 1, 3, none⟩ (.slice A4 l4 c4)).setCell ⟨D + 1, 4, none⟩ (.slice A5 l5 c5))) := Lib.hid (by
      refine ⟨_, ⟨putS y.ck k (u, zs), y.sy, y.wr, y.rd, y.cl⟩, rfl, ⟨A9, c9, A2, c2, A3, c3, A4, c4, A5, c5, ?_, (hY2.keep hk).mono (SN_sub (by have := HXS.out; omega))⟩, HREL.out.load hk65.out p (v := (u, zs)) ?_, ⟨?_, ?_, ?_, ?_, ?_⟩, below_put5 HB2.out (by omega) _ _ _ _ _⟩
      · show _ = Value.agg #[.slice A9 (putS y.ck k (u, zs)).length c9, .slice A2 y.sy.length c2, .slice A3 y.wr.length c3, .slice A4 y.rd.length c4, .slice A5 y.cl.length c5]
        rw [hl9, HL2.out, HL3.out, HL4.out, HL5.out]
      · show numL zs = _
        rw [hnm, HREL.out.ck k hk65.out, HREL.out.sy p]
      · show (putS y.ck k (u, zs)).length ≤ m + 1
        omega
      all_goals
        first
        | (show y.sy.length ≤ m + 1; omega)
        | (show y.wr.length ≤ m + 1; omega)
        | (show y.rd.length ≤ m + 1; omega)
        | (show y.cl.length ≤ m + 1; omega))
    have x0 := HD2.out.c 0 _ rfl
    have x1 := HD2.out.c 1 _ rfl
    have x2 := HD2.out.c 2 _ rfl
    have x3 := HD2.out.c 3 _ rfl
    have x4 := HD2.out.c 4 _ rfl
    have y0 := HR2.out.c 0 _ rfl
    have y1 := HR2.out.c 1 _ rfl
    have y2 := HR2.out.c 2 _ rfl
    have y3 := HR2.out.c 3 _ rfl
    have y4 := HR2.out.c 4 _ rfl
    have k0 := HR2.out.f 0
    have k1 := HR2.out.f 1
    have k2 := HR2.out.f 2
    have k3 := HR2.out.f 3
    have k4 := HR2.out.f 4
    have HPP := Lib.hid (HR2.out.put5 (.slice A9 l9 c9) (.slice A2 l2 c2) (.slice A3 l3 c3) (.slice A4 l4 c4) (.slice A5 l5 c5))
    clear HD2 HR2 HB2 hk hY2 hyW hbl hf hSD hp9 hsg hnm hl9 hx hbW HXD HXR HBW HYS HSN HXS HY HS HREL HFEW
    generalize W.setCell ⟨D, 0, none⟩ (.slice A9 l9 c9) = W2 at *
    go_wp2
    have q0 := HPP.out.c 0 _ rfl
    have q1 := HPP.out.c 1 _ rfl
    have q2 := HPP.out.c 2 _ rfl
    have q3 := HPP.out.c 3 _ rfl
    have q4 := HPP.out.c 4 _ rfl
    exact bodyPost_ret (v := .agg #[.slice A9 l9 c9, .slice A2 l2 c2, .slice A3 l3 c3, .slice A4 l4 c4, .slice A5 l5 c5]) (by simp [results, Try.results10, go_sem, q0, q1, q2, q3, q4]) rfl HRES.out
  refine ⟨?_, ?_, ?_, ?_, ?_, ?_, ?_, ?_, ?_, ?_, ?_, ?_, trivial⟩
  · intro a W hb ho hg
    rw [if_pos (nw_none rfl)]
    have e : a.eval (.tmp 3) = .pointer (some ⟨D, 0, none⟩) := ho 3 rfl
    exact n_run (v := .pointer (some ⟨D, 0, none⟩)) (by simp only [execOp, e]; go_simp) rfl
  · intro a W hb ho hg
    rw [if_pos (nw_none rfl)]
    have e : a.eval (.tmp 10) = .pointer (some ⟨D, 0, none⟩) := hg 0 10 rfl rfl
    exact n_run (np_loadSy rfl e ((HXD.out W hb).c 0 _ rfl)) rfl
  · intro a W hb ho hg
    rw [if_pos (nw_none rfl)]
    have e : a.eval (.tmp 1) = .int .i64 (k : Int) := ho 1 rfl
    exact n_move rfl e rfl
  · intro a W hb ho hg
    rw [if_pos (nw_none rfl)]
    have e : a.eval (.tmp 3) = .pointer (some ⟨D, 0, none⟩) := ho 3 rfl
    exact n_run (np_loadW rfl e (HXD.out W hb)) rfl
  · intro a W hb ho hg
    rw [if_pos (nw_none rfl)]
    have e : a.eval (.tmp 1) = .int .i64 (k : Int) := ho 1 rfl
    exact n_move rfl e rfl
  · intro a W hb ho hg
    rw [if_pos (nw_none rfl)]
    have e0 : a.eval (.tmp 13) = .agg #[.slice A1 l1 c1, .slice A2 l2 c2, .slice A3 l3 c3, .slice A4 l4 c4, .slice A5 l5 c5] := hg 3 13 rfl rfl
    have e1 : a.eval (.tmp 14) = .int .i64 (k : Int) := hg 4 14 rfl rfl
    exact n_call (f := 74) rfl (by simp only [List.map_toArray, List.map_cons, List.map_nil, e0, e1] <;> rfl) (by go_simp) (RClockOf_any (HYS.out W hb) HL1.out k) (fun e W' h => h.clz (HSN.out W hb))
  · intro a W hb ho hg
    rw [if_pos (nw_none rfl)]
    have e : a.eval (.tmp 3) = .pointer (some ⟨D, 0, none⟩) := ho 3 rfl
    exact n_run (np_loadW rfl e (HXD.out W hb)) rfl
  · intro a W hb ho hg
    rw [if_pos (nw_none rfl)]
    have e : a.eval (.tmp 2) = .int .i64 p := ho 2 rfl
    exact n_move rfl e rfl
  · intro a W hb ho hg
    rw [if_pos (nw_none rfl)]
    have e0 : a.eval (.tmp 16) = .agg #[.slice A1 l1 c1, .slice A2 l2 c2, .slice A3 l3 c3, .slice A4 l4 c4, .slice A5 l5 c5] := hg 6 16 rfl rfl
    have e1 : a.eval (.tmp 17) = .int .i64 p := hg 7 17 rfl rfl
    exact n_call (f := 75) rfl (by simp only [List.map_toArray, List.map_cons, List.map_nil, e0, e1] <;> rfl) (by go_simp) (RSyncOf_any (HYS.out W hb) HL2.out p) (fun e W' h => h.clz (HSN.out W hb))
  · intro a W hb ho hg
    rw [if_pos (nw_none rfl)]
    obtain ⟨Ae0, ze0, ce0, e0, re0, le0, ne0⟩ := (show ∃ A zs c, a.eval (.tmp 15) = .slice A (zs : List Int).length c ∧ RdG (SN S X) W A (zs.map (Value.int .i64)) ∧ Okz zs ∧ numL zs = ckN y k from hg 5 15 rfl rfl)
    obtain ⟨Ae1, ze1, ce1, e1, re1, le1, ne1⟩ := (show ∃ A zs c, a.eval (.tmp 18) = .slice A (zs : List Int).length c ∧ RdG (SN S X) W A (zs.map (Value.int .i64)) ∧ Okz zs ∧ numL zs = syN y p from hg 8 18 rfl rfl)
    exact n_call (f := 73) rfl (by simp only [List.map_toArray, List.map_cons, List.map_nil, e0, e1] <;> rfl) (by go_simp) (refJoin_any Ae0 Ae1 ze0 ze1 ce0 ce1 W re0.rd re1.rd) (fun e W' h => h.clz (HSN.out W hb) (okz_short (joinN_num (numL_num _))) (by rw [ne0, ne1, numL_short (joinN_num HNU.out)]))
  · intro a W hb ho hg
    rw [if_pos (nw_none rfl)]
    have e0 : a.eval (.tmp 11) = .slice A1 l1 c1 := hg 1 11 rfl rfl
    have e1 : a.eval (.tmp 12) = .int .i64 (k : Int) := hg 2 12 rfl rfl
    obtain ⟨Ae2, ze2, ce2, e2, re2, le2, ne2⟩ := (show ∃ A zs c, a.eval (.tmp 19) = .slice A (zs : List Int).length c ∧ RdG (SN S X) W A (zs.map (Value.int .i64)) ∧ Okz zs ∧ numL zs = joinN (ckN y k) (syN y p) from hg 9 19 rfl rfl)
    exact n_call (f := 72) rfl (by simp only [List.map_toArray, List.map_cons, List.map_nil, e0, e1, e2] <;> rfl) (by go_simp) (RPut_any (HYS.out W hb).ck HVS.out HL1.out HFW.out k Ae2 ce2 ze2) (fun e W' h => h.put (HSN.out W hb) ⟨Ae2, ce2, rfl, re2, le2⟩ ne2)
  · intro a W hb ho hg
    rw [if_pos (nw_none rfl)]
    have e : a.eval (.tmp 3) = .pointer (some ⟨D, 0, none⟩) := ho 3 rfl
    exact n_run (v := .pointer (some ⟨D, 0, none⟩)) (by simp only [execOp, e]; go_simp) rfl
end Go.Proofs.Ytdgmcaehadigaaa
