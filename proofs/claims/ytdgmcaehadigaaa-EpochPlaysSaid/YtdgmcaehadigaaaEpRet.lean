/- epoch's Retire, by contract. -/
import Derived.Test.YtdgmcaehadigaaaEpDo
import Derived.Deep.RegionLaw
namespace Go.Proofs.Ytdgmcaehadigaaa
open Go.RowKit

theorem info_ref : (Try.prog.info? 154).map (fun i => (i.zero, i.size, i.bytes)) = some (some (.agg #[.int .i64 0, .int .i64 0]), 2, 16) := by kernel_rfl
theorem isRet_snoc (x : EX) (s k : Int) : putU (isRet x) s k = isRet (retE x s) k := by
  unfold putU isRet retE
  rw [List.any_append]
  by_cases e : k = s
  · subst e
    rw [if_pos rfl]
    simp
  · have hn : ¬ s = k := fun e2 => e e2.symm
    rw [if_neg e]
    simp [hn]
section
variable {w : World} {B bw bm n m : Nat} {lv : Value} {x : EX}
/-- The map has the slot, the list its ref: what was retired. -/
theorem Ep.retire (h : Ep w B bw bm n lv x) (hf : EFit n x) {s : Int} {W1 W2 w2 : World} {W3 : World} {gg cap : Nat} (hb : Below w.heap.size w W1) (hm : MapU W2 bm (n + 1) (putU (isRet x) s)) (ht : W1.mapTurned W2 bm) (hb3 : Below W2.heap.size W2 W3)
    (hg : W3.grownBy w2 lv.ownBlock) (hown : w2.ownsRow 0 154 2 (.slice (some ⟨gg, 0, none⟩) (x.lb.length + 1) cap) (x.lb.length + 1) (cellsR x.lb ++ [.int .i64 s, .int .i64 (x.e : Int)])) (hat : lv.ownBlock = some gg ∨ gg = W3.heap.size) :
    EpOut w B bw bm (n + 1) lv (retE x s) (.bool true) (.returned (.bool true)) (w2.setCell ⟨B, 2, none⟩ (.slice (some ⟨gg, 0, none⟩) (x.lb.length + 1) cap)) := by
  have hgw : lv.ownBlock = some gg ∨ W3.heap.size ≤ gg := hat.imp id (fun e => by omega)
  have h1 := h.later hf.pos hb
  have g2 := ht.grown
  have hs1 := hb.size
  have hs2 := g2.size
  have hs3 := hb3.size
  have hc1 : Chg (EpM B bw bm lv) w W1 := Chg.of_below hb
  have hc2 : Chg (EpM B bw bm lv) w W2 := hc1.turned (.inr (.inr (.inl rfl))) ht
  have hc3 : Chg (EpM B bw bm lv) w W3 := hc2.trans (M' := fun _ => False) (Chg.of_below hb3) (fun _ e => e.elim)
  have hc4 : Chg (EpM B bw bm lv) w w2 := hc3.trans (M' := fun b => some b = lv.ownBlock) ⟨hg.os, hg.tape, hg.output, hg.size, fun b hb hn => hg.block b hb hn⟩ (fun b e => .inl (.inr (.inr (.inr e.symm))))
  have hnB : some B ≠ lv.ownBlock := fun e => (h.nr B e.symm).1 rfl
  have hnW : some bw ≠ lv.ownBlock := fun e => (h.nr bw e.symm).2 rfl
  have hBm : B ≠ bm := h.mp.not_cell h.c0.1
  have hWm : bw ≠ bm := h.mp.not_cell (h.wk 0 hf.pos).1.1
  have qB : w2.heap[B]? = w.heap[B]? := (hg.block B (by have := h.lt; omega) hnB).trans ((hb3.block B (by have := h.lt; omega)).trans ((g2.block B (by have := h.lt; omega) (fun e => hBm (by injection e))).trans (hb.block B h.lt)))
  have qW : w2.heap[bw]? = w.heap[bw]? := (hg.block bw (by have := h.wlt hf.pos; omega) hnW).trans ((hb3.block bw (by have := h.wlt hf.pos; omega)).trans ((g2.block bw (by have := h.wlt hf.pos; omega) (fun e => hWm (by injection e))).trans (hb.block bw (h.wlt hf.pos))))
  have hmm : some bm ≠ lv.ownBlock := fun e => by
    rcases h.row.2 with ⟨hv, _⟩ | ⟨g, cp, cur, hv, _, hh, _⟩
    · rw [hv] at e; cases e
    · rw [hv] at e
      have e : bm = g := by injection e
      obtain ⟨D, ⟨es, clock, hbm, _⟩, _⟩ := h.mp
      rw [e, hh] at hbm
      cases hbm
  have qm : w2.heap[bm]? = W2.heap[bm]? := (hg.block bm (by have := hm.lt; omega) hmm).trans (hb3.block bm hm.lt)
  have hgB : gg ≠ B := by
    rcases hgw with e | e
    · exact (h.nr gg e).1
    · have := h.lt; omega
  have hgW : gg ≠ bw := by
    rcases hgw with e | e
    · exact (h.nr gg e).2
    · have := h.wlt hf.pos; omega
  obtain ⟨w4, hw4⟩ : ∃ w4, w2.setCell ⟨B, 2, none⟩ (.slice (some ⟨gg, 0, none⟩) (x.lb.length + 1) cap) = w4 := ⟨_, rfl⟩
  have q4 : ∀ b, b ≠ B → w4.heap[b]? = w2.heap[b]? := fun b hb => by rw [← hw4]; exact Below.heap_setCell _ _ _ _ hb
  have cB : ∀ o, 2 ≠ o → w4.cell? ⟨B, o, none⟩ = w.cell? ⟨B, o, none⟩ := fun o ho => by
    rw [← hw4]
    exact (World.cell?_setCell_other _ _ _ _ (fun e => ho (by injection e))).trans (World.cell?_of_block (w := w) qB)
  have fB : ∀ o, w4.frozen? ⟨B, o, none⟩ = w.frozen? ⟨B, o, none⟩ := fun o => by
    rw [← hw4, World.frozen?_setCell]
    exact World.frozen?_of_block (w := w) qB
  have cW : ∀ o, w4.cell? ⟨bw, o, none⟩ = w.cell? ⟨bw, o, none⟩ := fun o => World.cell?_of_block (w := w) ((q4 bw h.nw).trans qW)
  have fW : ∀ o, w4.frozen? ⟨bw, o, none⟩ = w.frozen? ⟨bw, o, none⟩ := fun o => World.frozen?_of_block (w := w) ((q4 bw h.nw).trans qW)
  have c2 : w4.cell? ⟨B, 2, none⟩ = some (.slice (some ⟨gg, 0, none⟩) (x.lb.length + 1) cap) := by
    rw [← hw4]
    exact World.cell?_setCell_same _ _ _ ((World.cell?_of_block (w := w) qB).trans h.c2.1)
  have hc5 : Chg (EpM B bw bm lv) w w4 := by
    rw [← hw4]
    exact hc4.setCell (.inl rfl) _
  rw [hw4]
  have hl : (retE x s).lb.length = x.lb.length + 1 := by simp [retE]
  refine ⟨rfl, .slice (some ⟨gg, 0, none⟩) (x.lb.length + 1) cap, {
    c0 := ⟨(cB 0 (by decide)).trans h.c0.1, (fB 0).trans h.c0.2⟩, c1 := (cB 1 (by decide)).trans h.c1, c2 := ⟨c2, (fB 2).trans h.c2.2⟩, c3 := (cB 3 (by decide)).trans h.c3, c4 := ⟨(cB 4 (by decide)).trans h.c4.1, (fB 4).trans h.c4.2⟩
    wk := fun k hk => ⟨⟨(cW _).trans (h.wk k hk).1.1, (fW _).trans (h.wk k hk).1.2⟩, (cW _).trans (h.wk k hk).2.1, (fW _).trans (h.wk k hk).2.2⟩
    row := ?_, mp := (hm.same ((q4 bm (fun e => hBm e.symm)).trans qm)).eq (fun k _ => isRet_snoc x s k), nw := h.nw, nr := fun g hg => ?_ }, hc5, fun g hg => ?_⟩
  · rw [hl, show (retE x s).lb = x.lb ++ [(s, x.e)] from rfl, cellsR_snoc]
    refine ownsRow_same hown (fun g hg => ?_)
    have : g = gg := by injection hg with hg; exact hg.symm
    rw [this]
    exact q4 gg hgB
  · have : g = gg := by injection hg with hg; exact hg.symm
    rw [this]
    exact ⟨hgB, hgW⟩
  · have : g = gg := by injection hg with hg; exact hg.symm
    rw [this]
    exact hgw.imp id (fun e => by omega)

set_option maxRecDepth 100000 in
set_option maxHeartbeats 4000000 in
theorem Retire_any (h : Ep w B bw bm n lv x) (hf : EFit n x) (hn : n < 100000) (s : Int) (hs : IsI s) :
    Calls Try.prog 46 #[.pointer (some ⟨B, 0, none⟩), .int .i64 s] w (EpOut w B bw bm (n + 1) lv (retX x s) (.bool (!isRet x s))) := by
  have hlk := h.mp.look hs
  have c3 := h.c3
  cases hr : isRet x s with
  | true =>
    have HO : Hid (EpOut w B bw bm (n + 1) lv (retX x s) (.bool false) (.returned (.bool false)) (w.alloc (.cells #[] 155))) := Lib.hid (by
      unfold retX
      rw [if_pos hr]
      exact ⟨rfl, lv, (h.later hf.pos ((Below.refl _ w).alloc (Nat.le_refl _) _)).more (by omega), Chg.of_below ((Below.refl _ w).alloc (Nat.le_refl _) _), fun _ e => .inl e⟩)
    rw [hr] at hlk
    clear h hf hr
    go_enter Try.func46, Try.ntmps46
    go_wp2
    go_ret
    exact HO.out
  | false =>
    have hbA : Below w.heap.size w (w.alloc (.cells #[] 155)) := (Below.refl _ w).alloc (Nat.le_refl _) _
    have h1 := h.later hf.pos hbA
    obtain ⟨W2, hu, hm, ht⟩ := (h1.mp.mono (Nat.le_refl n)).put (by unfold maxLen; omega) hs
    have e3 := h1.c3
    rw [hr] at hlk
    obtain ⟨i0, hi0, hz0, hz1, hz2⟩ := info_parts info_ref
    have hX : retX x s = retE x s := by unfold retX; rw [hr]; rfl
    rw [hX]
    obtain ⟨A, c, hlv, hc1, hc2⟩ := ownSlice h.row
    have hB1 : B ≠ bm := h.mp.not_cell h.c0.1
    have g2 := ht.grown
    have h2c : ∀ o, W2.cell? ⟨B, o, none⟩ = w.cell? ⟨B, o, none⟩ := fun o => World.cell?_of_block (w := w) ((g2.block B h1.lt (fun e => hB1 (by injection e))).trans (hbA.block B h.lt))
    have h2f : ∀ o, W2.frozen? ⟨B, o, none⟩ = w.frozen? ⟨B, o, none⟩ := fun o => World.frozen?_of_block (w := w) ((g2.block B h1.lt (fun e => hB1 (by injection e))).trans (hbA.block B h.lt))
    have d0 := (h2c 0).trans h.c0.1
    have d2 := (h2c 2).trans h.c2.1
    have f2 := (h2f 2).trans h.c2.2
    have hBl : B < W2.heap.size := cellE_lt d0
    have hbm : some bm ≠ lv.ownBlock := fun e => by
      rcases h.row.2 with ⟨hv, _⟩ | ⟨g, cp, cur, hv, _, hh, _⟩
      · rw [hv] at e; cases e
      · rw [hv] at e
        have e : bm = g := by injection e
        obtain ⟨D, ⟨es, clock, hbm, _⟩, _⟩ := h.mp
        rw [e, hh] at hbm
        cases hbm
    have hnB : some B ≠ lv.ownBlock := fun e => (h.nr B e.symm).1 rfl
    have row2 : W2.ownsRow 0 154 2 lv x.lb.length (cellsR x.lb) := ownsRow_same h.row (fun g hg => (g2.block g (by have := (h.row.lt g hg).2; have := hbA.size; omega) (fun e => hbm (by rw [hg]; exact e.symm))).trans (hbA.block g (h.row.lt g hg).2))
    have hbm2 := hf.ln
    have HF := Lib.hid (fun W3 w2 gg cap (hb3 : Below W2.heap.size W2 W3) hg hown hat => Ep.retire (W3 := W3) (w2 := w2) (gg := gg) (cap := cap) h hf hbA hm ht hb3 hg hown hat)
    generalize hll : x.lb.length = l at *
    generalize hcr : cellsR x.lb = cr at *
    rw [hlv] at d2 row2 hnB
    have hown1 := (row2.alloc (.cells #[.int .i64 s, .int .i64 (x.e : Int)] 154)).drew
    have hb1 : Below W2.heap.size W2 (W2.alloc (.cells #[.int .i64 s, .int .i64 (x.e : Int)] 154)).drew := ((Below.refl _ W2).alloc (Nat.le_refl _) _).drew
    have hsz : (W2.alloc (.cells #[.int .i64 s, .int .i64 (x.e : Int)] 154)).drew.heap.size = W2.heap.size + 1 := by simp
    have C0 := Lib.hid ((hb1.cell (p := ⟨B, 2, none⟩) hBl).trans d2)
    have F0 := Lib.hid ((hb1.frozen (p := ⟨B, 2, none⟩) hBl).trans f2)
    have HNEW := Lib.hid (show (W2.alloc (.cells #[.int .i64 s, .int .i64 (x.e : Int)] 154)).drew.heap[W2.heap.size]? = some (.cells #[.int .i64 s, .int .i64 (x.e : Int)] 154) from heap_alloc_last W2 _)
    have HB := Lib.hid hb1
    have HW := Lib.hid hown1
    have HZ := Lib.hid hsz
    have HNE := Lib.hid hnB
    have HLV := Lib.hid hlv
    have k3 : (W2.alloc (.cells #[.int .i64 s, .int .i64 (x.e : Int)] 154)).cell? ⟨B, 2, none⟩ = some (.slice A l c) := (hb1.cell (p := ⟨B, 2, none⟩) hBl).trans d2
    have k0 : (W2.alloc (.cells #[.int .i64 s, .int .i64 (x.e : Int)] 154)).cell? ⟨B, 0, none⟩ = some (.int .i64 (x.e : Int)) := (hb1.cell (p := ⟨B, 0, none⟩) hBl).trans d0
    clear hown1 hsz hnB hb1 hlv h1 h hm ht row2 hX hr hf g2 h2c h2f hbA hll hcr hbm
    go_enter Try.func46, Try.ntmps46
    go_upto_region 7 with (fail)
    go_region_law (refine step_append_lies _ (by rfl) _ _ _ (by rfl) 0 154 i0 _ 2 16 Try.underlying67 hi0 hz0 hz1 hz2 rfl (by omega) (.slice A l c) l cr (by rfl) HW.out ⟨W2.heap.size, 0, none⟩ 1 1 [.int .i64 s, .int .i64 (x.e : Int)] (by rfl) (by rfl) (World.news_of_block (cs := #[.int .i64 s, .int .i64 (x.e : Int)]) (t := 154) (fr := (0, 0)) HNEW.out) (by simp [Value.oneCell']) (by omega) (by unfold maxLen; omega) (by omega) (by omega) (W2.heap.size + 1) HZ.out ?_; intro gg cap w2 hown2 hgrow hat hlt2; have q0 := hgrow.cell C0.out HNE.out; have q1 := (World.frozen?_of_block (a := ⟨B, 2, none⟩) (hgrow.block B (by rw [HZ.out]; omega) HNE.out)).trans F0.out; have HG := Lib.hid hgrow; have HO := Lib.hid hown2; have HA := Lib.hid hat; clear hgrow hown2 hat)
    all_goals
      have hF := HF.out _ w2 gg cap HB.out (by rw [HLV.out]; exact HG.out) HO.out (by rw [HLV.out, HZ.out]; exact HA.out)
      have HFF := Lib.hid hF
      clear HG HO HA HW HZ HNE HB HF HLV hF q0 q1 hlt2 k3 k0 C0 F0 HNEW
      go_wp2
      go_ret
      exact HFF.out
end

end Go.Proofs.Ytdgmcaehadigaaa
