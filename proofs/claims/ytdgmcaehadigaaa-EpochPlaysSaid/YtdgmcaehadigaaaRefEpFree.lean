/- The document's epoch clock: Free. -/
import Derived.Test.YtdgmcaehadigaaaRefEpPin2
import Derived.Test.YtdgmcaehadigaaaEpFree
import Derived.Deep.AppendLies
import Derived.Test.YtdgmcaehadigaaaBx
namespace Go.Proofs.Ytdgmcaehadigaaa
open Go.RowKit

/-- A row of numbers and a row of refs lie apart. -/
theorem rows_apart {W : World} {b1 b2 n1 n2 : Nat} {v1 v2 : Value} {x1 x2 : List Value} (h1 : W.ownsRow b1 3 1 v1 n1 x1) (h2 : W.ownsRow b2 154 2 v2 n2 x2) {g : Nat} (hg : v1.ownBlock = some g) : v2.ownBlock ≠ some g := fun hg2 => by
  rcases h1.2 with ⟨hv, _⟩ | ⟨g1, _, c1, hv, _, hh, _⟩
  · rw [hv] at hg; cases hg
  · rcases h2.2 with ⟨hv2, _⟩ | ⟨g2, _, c2, hv2, _, hh2, _⟩
    · rw [hv2] at hg2; cases hg2
    · rw [hv] at hg
      rw [hv2] at hg2
      have e1 : g1 = g := by injection hg
      have e2 : g2 = g := by injection hg2
      rw [e1] at hh
      rw [e2, hh] at hh2
      injection hh2 with hh2
      injection hh2 with _ ht _
      revert ht
      decide
/-- Which of the first k may be used again, and which not. -/
def freeT (x : EX) (k : Nat) : List Int := ((x.lb.take k).filter (ripe x.e)).map (·.1)
def keepT (x : EX) (k : Nat) : List (Int × Nat) := (x.lb.take k).filter (fun p => !ripe x.e p)
theorem freeT_step {x : EX} {k : Nat} {p : Int × Nat} (hp : x.lb[k]? = some p) :
    (p.2 + 2 ≤ x.e → freeT x (k + 1) = freeT x k ++ [p.1] ∧ keepT x (k + 1) = keepT x k) ∧ (¬ p.2 + 2 ≤ x.e → freeT x (k + 1) = freeT x k ∧ keepT x (k + 1) = keepT x k ++ [p]) := by
  have ht : x.lb.take (k + 1) = x.lb.take k ++ [p] := by rw [List.take_add_one, hp]; rfl
  unfold freeT keepT
  rw [ht, List.filter_append, List.filter_append]
  refine ⟨fun h => ?_, fun h => ?_⟩
  · have hr : ripe x.e p = true := decide_eq_true h
    simp [hr]
  · have hr : ripe x.e p = false := decide_eq_false h
    simp [hr]
theorem freeT_len (x : EX) (k : Nat) : (freeT x k).length ≤ k ∧ (keepT x k).length ≤ k := by
  unfold freeT keepT
  have h1 := List.length_filter_le (ripe x.e) (x.lb.take k)
  have h2 := List.length_filter_le (fun p => !ripe x.e p) (x.lb.take k)
  rw [List.length_take] at h1 h2
  rw [List.length_map]
  omega
theorem freeT_all {n : Nat} {x : EX} (hf : EFit n x) : freeT x x.lb.length = (freeL1 x).map (·.1) ∧ keepT x x.lb.length = (freeE x).lb := by
  unfold freeT keepT
  rw [List.take_length, (free_filter hf).1, (free_filter hf).2]
  exact ⟨rfl, rfl⟩
/-- What a Free of the document's leaves. -/
def RFreeOut (w : World) (Z : Nat → Prop) (x : EX) (r : Ending) (w' : World) : Prop :=
  ∃ V' A c, r = .returned (.tuple #[V', .slice A ((freeL1 x).map (·.1)).length c]) ∧ RC w' (ZZ Z w) V' (freeE x) ∧ Rd (Value.int .i64) w' w'.heap.size A ((freeL1 x).map (·.1)) ∧ Below w.heap.size w w' ∧ ∀ g o, A = some ⟨g, o, none⟩ → w.heap.size ≤ g
set_option maxRecDepth 100000 in
set_option maxHeartbeats 8000000 in
theorem RFree_any {w : World} {Z : Nat → Prop} {V : Value} {x : EX} {n : Nat} (h : RC w Z V x) (hf : EFit n x) (hn : n ≤ 100000) :
    Calls Try.prog 49 #[V] w (RFreeOut w Z x) := by
  obtain ⟨i0, hi0, hz0, hz1, hz2⟩ := info_parts info_int
  obtain ⟨i1, hj0, hj1, hj2, hj3⟩ := info_parts info_ref
  obtain ⟨A1, c1, A2, c2, A3, c3, rfl, r1, r2, r3, t1, t2, t3⟩ := h
  have HX := Lib.hid (show ∀ W A c L, keepT x x.lb.length = L → Below w.heap.size w W → RdR W W.heap.size A L → (∀ g o, A = some ⟨g, o, none⟩ → w.heap.size ≤ g) → RC W (ZZ Z w) (cV x.e A1 x.ld.length c1 A2 x.rc.length c2 A L.length c x.lk) (freeE x) from fun W A c L hL hb hr hz => by
    rw [(freeT_all hf).2] at hL
    subst hL
    exact ⟨A1, c1, A2, c2, A, c, rfl, rd_later r1 hb, rd_later r2 hb, hr, t1.old, t2.old, .new hz⟩)
  have HFT := Lib.hid (freeT_all hf).1
  have HL := Lib.hid r3
  have HG := Lib.hid hf.gn
  have HST := Lib.hid (fun k p h => freeT_step (x := x) (k := k) (p := p) h)
  have HLN := Lib.hid (fun k => freeT_len x k)
  have few : x.lb.length ≤ 100000 := Nat.le_trans hf.ln hn
  have few2 : x.e ≤ 100000 := Nat.le_trans hf.en hn
  have H00 : Hid (freeT x 0 = [] ∧ keepT x 0 = []) := Lib.hid ⟨rfl, rfl⟩
  clear r1 r2 r3 t1 t2 t3 hf
  unfold cV at *
  obtain ⟨e, hee⟩ : ∃ e, e = x.e := ⟨_, rfl⟩
  rw [← hee] at HX HG HST few2 ⊢
  generalize (x.lk : Int) = lk at *
  generalize x.ld.length = l1 at *
  generalize x.rc.length = l2 at *
  obtain ⟨lb, hlb⟩ : ∃ lb, lb = x.lb := ⟨_, rfl⟩
  rw [← hlb] at HX HFT HL HG HST few ⊢
  clear hlb hee
  obtain ⟨b1, b2, b3⟩ := Five.two w (.int .i64 (e : Int)) (.slice A1 l1 c1) (.slice A2 l2 c2) (.slice A3 lb.length c3) (.int .i64 lk) (.int .i64 0) (.slice none 0 0) (.slice none 0 0) (.slice none 0 0) (.int .i64 0) 69
  have HB1 := Lib.hid b1
  have HB2 := Lib.hid b2
  have HB3 := Lib.hid b3
  clear b1 b2 b3
  go_enter Try.func49, Try.ntmps49
  go_wp2
  obtain ⟨W0, hW0⟩ : ∃ W0, W0 = (w.alloc (.cells #[.int .i64 (e : Int), .slice A1 l1 c1, .slice A2 l2 c2, .slice A3 lb.length c3, .int .i64 lk] 69)).alloc (.cells #[.int .i64 0, .slice none 0 0, .slice none 0 0, .slice none 0 0, .int .i64 0] 69) := ⟨_, rfl⟩
  rw [← hW0] at HB1 HB2 HB3 ⊢
  clear hW0
  go_loopw [4, 5, 11] (fun s4 s5 i wr => ∃ (k : Nat) (L1 : List Int) (L2 : List (Int × Nat)), k ≤ lb.length ∧ i = .int .i64 (k : Int) ∧ Below W0.heap.size W0 wr ∧ wr.ownsRow W0.heap.size 3 1 s4 L1.length (L1.map (Value.int .i64)) ∧ wr.ownsRow W0.heap.size 154 2 s5 L2.length (cellsR L2) ∧ Hid (freeT x k = L1) ∧ Hid (keepT x k = L2)) (fun _ _ i _ => lb.length - (intOf i).toNat)
  case atStart => exact ⟨0, [], [], Nat.zero_le _, rfl, Below.refl _ _, World.ownsRow_nil _ _ _ _, World.ownsRow_nil _ _ _ _, Lib.hid H00.out.1, Lib.hid H00.out.2⟩
  case round =>
    obtain ⟨k, L1, L2, hk, rfl, hbel, ho4, ho5, HL1, HL2⟩ := hrel
    have hln1 : L1.length ≤ k := by have := (HLN.out k).1; rw [HL1.out] at this; exact this
    have hln2 : L2.length ≤ k := by have := (HLN.out k).2; rw [HL2.out] at this; exact this
    obtain ⟨A4, c4, rfl, _, _⟩ := ownSlice ho4
    obtain ⟨A5, c5, rfl, _, _⟩ := ownSlice ho5
    have HBW := Lib.hid hbel
    by_cases hlt : k < lb.length
    · obtain ⟨b, off, rfl, hb, q1, q2⟩ := (HL.out.below (Below.next HB3.out hbel)) k _ (List.getElem?_eq_getElem hlt)
      have hgl := HG.out _ (List.getElem_mem hlt)
      have hst := HST.out k _ (List.getElem?_eq_getElem hlt)
      generalize lb[k] = pp at *
      obtain ⟨sl, gn⟩ := pp
      simp only at q1 q2 hgl hst
      have hkl : (k : Int) < (lb.length : Int) := by omega
      have hk0 : (0 : Int) ≤ (k : Int) := by omega
      have HBX := Lib.hid (hbel.alloc hbel.size (.cells #[.int .i64 sl, .int .i64 (gn : Int)] 154))
      have HQ := Lib.hid (Bx.new wr [.int .i64 sl, .int .i64 (gn : Int)] 154)
      have HO4 := Lib.hid (ho4.alloc (.cells #[.int .i64 sl, .int .i64 (gn : Int)] 154))
      have HO5 := Lib.hid (ho5.alloc (.cells #[.int .i64 sl, .int .i64 (gn : Int)] 154))
      have hsz := hbel.size
      have HST1 := Lib.hid hst.1
      have HST2 := Lib.hid hst.2
      clear hbel ho4 ho5 hst
      go_upto_region 6 with (fail)
      obtain ⟨X, hX⟩ : ∃ X, X = wr.alloc (.cells #[.int .i64 sl, .int .i64 (gn : Int)] 154) := ⟨_, rfl⟩
      have HQ0 : Hid (X.cell? ⟨wr.heap.size, 0, none⟩ = some (.int .i64 sl)) := Lib.hid (by rw [hX]; exact HQ.out.c 0 _ rfl)
      have HQ1 : Hid (X.cell? ⟨wr.heap.size, 1, none⟩ = some (.int .i64 (gn : Int))) := Lib.hid (by rw [hX]; exact HQ.out.c 1 _ rfl)
      rw [← hX] at HBX HO4 HO5 ⊢
      clear hX HQ q1 q2
      generalize wr.heap.size = D at *
      have hq0 := HQ0.out
      have hq1 := HQ1.out
      have x0 := (HB1.out.below HBX.out).c0
      have hn1 : (0 : Int) ≤ (gn : Int) := by omega
      have hn2 : (gn : Int) ≤ 100000 := by omega
      have hxs := HBX.out.size
      by_cases hrp : gn + 2 ≤ e
      · have hri : (gn : Int) + 2 ≤ (e : Int) := by omega
        have HN1 : Hid (freeT x (k + 1) = L1 ++ [sl]) := Lib.hid (by rw [(HST1.out hrp).1, HL1.out])
        have HN2 : Hid (keepT x (k + 1) = L2) := Lib.hid (by rw [(HST1.out hrp).2, HL2.out])
        clear HST1 HST2 HL1 HL2 hrp
        go_upto_region 9 with (at_builtin; refine wpList_append_lies _ rfl _ _ 38 rfl W0.heap.size 3 i0 (.int .i64 0) 1 8 Try.underlying38 hi0 hz0 hz1 hz2 rfl (by decide) _ L1.length _ rfl (HO4.out.alloc _) ⟨X.heap.size, 0, none⟩ 1 1 [.int .i64 sl] rfl rfl (World.news_of_block (cs := #[.int .i64 sl]) (t := 3) (fr := (0, 0)) (heap_alloc_last X _)) (by simp [Value.oneCell']) (by decide) (by unfold maxLen; omega) (by omega) (by rw [World.size_alloc]; omega) (X.heap.size + 1) (by simp) ?_)
        intro g cp w4 hown hgr _ hglt
        have hb4 := Lib.hid ((HBX.out.alloc hxs (.cells #[.int .i64 sl] 3)).grown hgr (by rw [World.size_alloc]; omega) (fun q hq => (HO4.out.lt q hq).1))
        have HO4' := Lib.hid (show w4.ownsRow W0.heap.size 3 1 (.slice (some ⟨g, 0, none⟩) (L1.length + 1) cp) (L1 ++ [sl]).length ((L1 ++ [sl]).map (Value.int .i64)) from by rw [List.map_append, List.length_append]; exact hown)
        have HO5' := Lib.hid (ownsRow_same (w' := w4) (HO5.out.alloc (.cells #[.int .i64 sl] 3)) (fun q hq => hgr.block q ((HO5.out.alloc (.cells #[.int .i64 sl] 3)).lt q hq).2 (fun e2 => rows_apart HO4.out HO5.out (g := q) e2.symm hq)))
        clear hown hgr hq0 hq1 x0 HQ0 HQ1
        go_wp2
        go_roundw
        case rel => exact ⟨k + 1, L1 ++ [sl], L2, by omega, by go_num, hb4.out, HO4'.out, HO5'.out, HN1, HN2⟩
        case measure => simp [intOf]; omega
      · have hri : ¬ (gn : Int) + 2 ≤ (e : Int) := by omega
        have HN1 : Hid (freeT x (k + 1) = L1) := Lib.hid (by rw [(HST2.out hrp).1, HL1.out])
        have HN2 : Hid (keepT x (k + 1) = L2 ++ [(sl, gn)]) := Lib.hid (by rw [(HST2.out hrp).2, HL2.out])
        clear HST1 HST2 HL1 HL2 hrp
        go_upto_region 9 with (at_builtin; refine wpList_append_lies _ rfl _ _ 67 rfl W0.heap.size 154 i1 _ 2 16 Try.underlying67 hj0 hj1 hj2 hj3 rfl (by decide) _ L2.length (cellsR L2) rfl (HO5.out.alloc _) ⟨X.heap.size, 0, none⟩ 1 1 [.int .i64 sl, .int .i64 (gn : Int)] rfl rfl (World.news_of_block (cs := #[.int .i64 sl, .int .i64 (gn : Int)]) (t := 154) (fr := (0, 0)) (heap_alloc_last X _)) (by simp [Value.oneCell']) (by decide) (by unfold maxLen; omega) (by omega) (by rw [World.size_alloc]; omega) (X.heap.size + 1) (by simp) ?_)
        intro g cp w4 hown hgr _ hglt
        have hb4 := Lib.hid ((HBX.out.alloc hxs (.cells #[.int .i64 sl, .int .i64 (gn : Int)] 154)).grown hgr (by rw [World.size_alloc]; omega) (fun q hq => (HO5.out.lt q hq).1))
        have HO5' := Lib.hid (show w4.ownsRow W0.heap.size 154 2 (.slice (some ⟨g, 0, none⟩) (L2.length + 1) cp) (L2 ++ [(sl, gn)]).length (cellsR (L2 ++ [(sl, gn)])) from by rw [cellsR_snoc, List.length_append]; exact hown)
        have HO4' := Lib.hid (ownsRow_same (w' := w4) (HO4.out.alloc (.cells #[.int .i64 sl, .int .i64 (gn : Int)] 154)) (fun q hq => hgr.block q ((HO4.out.alloc (.cells #[.int .i64 sl, .int .i64 (gn : Int)] 154)).lt q hq).2 (fun e2 => rows_apart HO4.out HO5.out (g := q) hq e2.symm)))
        clear hown hgr hq0 hq1 x0 HQ0 HQ1
        go_wp2
        go_roundw
        case rel => exact ⟨k + 1, L1, L2 ++ [(sl, gn)], by omega, by go_num, hb4.out, HO4'.out, HO5'.out, HN1, HN2⟩
        case measure => simp [intOf]; omega
    · obtain rfl : k = lb.length := by omega
      have hBw := Below.next HB3.out hbel
      have hlt0 := HB2.out.lt
      have h1 := (HB1.out.below hbel).one (.slice A5 L2.length c5)
      have h2 := (HB2.out.below hbel).other (a := ⟨w.heap.size, 3, none⟩) (by simp) (.slice A5 L2.length c5)
      have E1 := h1.2.2
      have HP := Lib.hid (h2.put (.int .i64 (e : Int)) (.slice A1 l1 c1) (.slice A2 l2 c2) (.slice A5 L2.length c5) (.int .i64 lk))
      have HBF := Lib.hid (below_put (hBw.setCell (p := ⟨w.heap.size, 3, none⟩) (Nat.le_refl _) (.slice A5 L2.length c5)) (Nat.le_succ w.heap.size) (.int .i64 (e : Int)) (.slice A1 l1 c1) (.slice A2 l2 c2) (.slice A5 L2.length c5) (.int .i64 lk))
      have hs : ∀ q, W0.heap.size ≤ q → ((((((wr.setCell ⟨w.heap.size, 3, none⟩ (.slice A5 L2.length c5)).setCell ⟨w.heap.size + 1, 0, none⟩ (.int .i64 (e : Int))).setCell ⟨w.heap.size + 1, 1, none⟩ (.slice A1 l1 c1)).setCell ⟨w.heap.size + 1, 2, none⟩ (.slice A2 l2 c2)).setCell ⟨w.heap.size + 1, 3, none⟩ (.slice A5 L2.length c5)).setCell ⟨w.heap.size + 1, 4, none⟩ (.int .i64 lk)).heap[q]? = wr.heap[q]? := fun q hq =>
        have n2 : q ≠ w.heap.size + 1 := by omega
        have n1 : q ≠ w.heap.size := by omega
        (Below.heap_setCell _ _ _ _ n2).trans ((Below.heap_setCell _ _ _ _ n2).trans ((Below.heap_setCell _ _ _ _ n2).trans ((Below.heap_setCell _ _ _ _ n2).trans ((Below.heap_setCell _ _ _ _ n2).trans (Below.heap_setCell _ _ _ _ n1)))))
      have HO4' := Lib.hid (ownsRow_same ho4 (fun q hq => hs q (ho4.lt q hq).1))
      have HO5' := Lib.hid (ownsRow_same ho5 (fun q hq => hs q (ho5.lt q hq).1))
      have hsW := HB3.out.size
      have HZ5 : Hid (∀ g o, A5 = some ⟨g, o, none⟩ → w.heap.size ≤ g) := Lib.hid fun g o e => by
        have := (ho5.lt g (by rw [e]; rfl)).1
        omega
      have HZ4 : Hid (∀ g o, A4 = some ⟨g, o, none⟩ → w.heap.size ≤ g) := Lib.hid fun g o e => by
        have := (ho4.lt g (by rw [e]; rfl)).1
        omega
      have HLL : Hid (L1 = (freeL1 x).map (·.1)) := Lib.hid (by rw [← HL1.out, HFT.out])
      have hres := Lib.hid (show RFreeOut w Z x (.returned (.tuple #[.agg #[.int .i64 (e : Int), .slice A1 l1 c1, .slice A2 l2 c2, .slice A5 L2.length c5, .int .i64 lk], .slice A4 L1.length c4])) _ from ⟨_, A4, c4, by rw [← HLL.out], HX.out _ A5 c5 L2 HL2.out HBF.out (RdR.of_own HO5'.out rfl) HZ5.out, by rw [← HLL.out]; exact Rd.of_own HO4'.out, HBF.out, HZ4.out⟩)
      obtain ⟨_, x0, x1, x2, x3, x4, y0, y1, y2, y3, y4⟩ := HB1.out.below hbel
      obtain ⟨_, e0, e1, e2, e3, e4, _, _, _, _, _⟩ := E1
      obtain ⟨_, u0, u1, u2, u3, u4, z0, z1, z2, z3, z4⟩ := h2
      clear HB1 HB2 HB3 HX HFT HL HG HST HLN H00 ho4 ho5 hbel hBw hs HBW h1 HL1 HL2 HO4' HO5' HLL HBF
      go_wp2
      obtain ⟨_, q0, q1, q2, q3, q4, _, _, _, _, _⟩ := HP.out
      exact bodyPost_ret (v := .tuple #[.agg #[.int .i64 (e : Int), .slice A1 l1 c1, .slice A2 l2 c2, .slice A5 L2.length c5, .int .i64 lk], .slice A4 L1.length c4]) (by simp [results, Try.results49, go_sem, q0, q1, q2, q3, q4]) rfl hres.out
end Go.Proofs.Ytdgmcaehadigaaa
