/- race's note (a clash put behind all others), by contract. -/
import Derived.Test.YtdgmcaehadigaaaRacData
import Derived.Deep.AppendLies
import Derived.Deep.RegionLaw
namespace Go.Proofs.Ytdgmcaehadigaaa
open Go.RowKit

theorem info_clash : (Try.prog.info? 120).map (fun i => (i.zero, i.size, i.bytes)) = some (some (.agg #[.int .i64 0, .int .i64 0, .bool false, .int .i64 0, .int .i64 0, .bool false]), 6, 48) := by kernel_rfl

/-- Which block is what, once the clashes' row lies in g. -/
def rhoC (ρ : Nat → Int × Int) (g b : Nat) : Int × Int := if b = g then (4, 0) else ρ b
theorem rhoC_ne {ρ : Nat → Int × Int} {g b : Nat} (h : b ≠ g) : rhoC ρ g b = ρ b := if_neg h
theorem rhoC_own {ρ : Nat → Int × Int} {g b : Nat} (h : Owned (rhoC ρ g) b) : Owned ρ b ∨ b = g := by
  by_cases e : b = g
  · exact .inr e
  · unfold Owned at h
    rw [rhoC_ne e] at h
    exact .inl h

section
variable {w W3 w2 : World} {Z : Nat → Prop} {n : Nat} {ρ : Nat → Int × Int} {X : RX}
theorem Rac.clash (h : Rac w Z n ρ X) (hb : Below w.heap.size w W3) {m gg cap : Nat} (x : ClT) (hm : X.a.cl.length = m) (hg : W3.grownBy w2 X.cv.ownBlock)
    (hown : w2.ownsRow 0 120 6 (.slice (some ⟨gg, 0, none⟩) (m + 1) cap) (m + 1) (cellsCl X.a.cl ++ (cellsAcc x.1 ++ cellsAcc x.2))) (hat : X.cv.ownBlock = some gg ∨ gg = W3.heap.size) (hlt : gg < w2.heap.size) :
    RacOut w Z (n + 1) ρ X { X.a with cl := X.a.cl ++ [x] } (w2.setCell ⟨X.B, 67, none⟩ (.slice (some ⟨gg, 0, none⟩) (m + 1) cap)) := by
  have hggw : (ρ gg).1 = 4 ∨ w.heap.size ≤ gg := by
    rcases hat with e | e
    · exact .inl (h.co gg e)
    · exact .inr (by rw [e]; exact hb.size)
  have hne : ∀ b, (ρ b).1 ≠ 0 → (ρ b).1 ≠ 4 → b ≠ gg := fun b h0 h4 e => by
    rcases hggw with e2 | e2
    · exact h4 (by rw [e]; exact e2)
    · have := (h.own b h0).1
      omega
  have hw2 : ∀ b, (ρ b).1 ≠ 0 → (ρ b).1 ≠ 4 → w2.heap[b]? = w.heap[b]? := fun b h0 h4 =>
    (hg.block b (Nat.lt_of_lt_of_le (h.own b h0).1 hb.size) (fun e => h4 (h.co b e.symm))).trans (hb.block b (h.own b h0).1)
  obtain ⟨w4, hw4⟩ : ∃ w4, w2.setCell ⟨X.B, 67, none⟩ (.slice (some ⟨gg, 0, none⟩) (m + 1) cap) = w4 := ⟨_, rfl⟩
  have hoB : (ρ X.B).1 ≠ 0 := by rw [h.rB]; decide
  have hB4 : (ρ X.B).1 ≠ 4 := by rw [h.rB]; decide
  have h42 : ∀ b, b ≠ X.B → w4.heap[b]? = w2.heap[b]? := fun b hb => by
    rw [← hw4]
    exact Below.heap_setCell _ _ _ _ hb
  have q : ∀ b, (ρ b).1 ≠ 0 → (ρ b).1 ≠ 4 → (ρ b).1 ≠ 1 → w4.heap[b]? = w.heap[b]? := fun b h0 h4 h1 => (h42 b (fun e => h1 (by rw [e, h.rB]))).trans (hw2 b h0 h4)
  have cB : ∀ o, 67 ≠ o → w4.cell? ⟨X.B, o, none⟩ = w.cell? ⟨X.B, o, none⟩ := fun o ho => by
    rw [← hw4]
    exact (World.cell?_setCell_other _ _ _ _ (fun e => ho (by injection e))).trans (World.cell?_of_block (w := w) (hw2 X.B hoB hB4))
  have fB : ∀ o, w4.frozen? ⟨X.B, o, none⟩ = w.frozen? ⟨X.B, o, none⟩ := fun o => by
    rw [← hw4, World.frozen?_setCell]
    exact World.frozen?_of_block (w := w) (hw2 X.B hoB hB4)
  have c67 : w4.cell? ⟨X.B, 67, none⟩ = some (.slice (some ⟨gg, 0, none⟩) (m + 1) cap) := by
    rw [← hw4]
    exact World.cell?_setCell_same _ _ _ ((World.cell?_of_block (w := w) (hw2 X.B hoB hB4)).trans h.c67.1)
  have hc2 : Chg (Owned ρ) w w2 := (Chg.of_below hb).trans (M' := fun b => some b = X.cv.ownBlock) ⟨hg.os, hg.tape, hg.output, hg.size, fun b hb hn => hg.block b hb hn⟩ (fun b e => .inl (by have := h.co b e.symm; unfold Owned; rw [this]; decide))
  have hc4 : Chg (Owned ρ) w w4 := by
    rw [← hw4]
    exact hc2.setCell hoB _
  have hs4 : w4.heap.size = w2.heap.size := by rw [← hw4]; simp
  have hMZ : ∀ b, Owned ρ b → Z b ∨ w.heap.size ≤ b := fun b e => .inl (h.own b e).2
  have hZ' : ∀ b, (Z b ∨ Owned (rhoC ρ gg) b) → Z b ∨ w.heap.size ≤ b := fun b e => by
    rcases e with e | e
    · exact .inl e
    · rcases rhoC_own e with e | rfl
      · exact hMZ b e
      · rcases hggw with e2 | e2
        · exact .inl (h.own b (by rw [e2]; decide)).2
        · exact .inr e2
  have hsz := hc4.size
  rw [hw4]
  refine ⟨rhoC ρ gg, { X with cv := .slice (some ⟨gg, 0, none⟩) (m + 1) cap, a := { X.a with cl := X.a.cl ++ [x] } }, {
    own := fun b hbo => ⟨?_, .inr hbo⟩, zlt := fun b hz => ?_, rB := (rhoC_ne (hne _ hoB hB4)).trans h.rB, rp := (rhoC_ne (hne _ (by rw [h.rp]; decide) (by rw [h.rp]; decide))).trans h.rp, rd := (rhoC_ne (hne _ (by rw [h.rd]; decide) (by rw [h.rd]; decide))).trans h.rd,
    wk := fun j hj => ⟨(cB j (by omega)).trans (h.wk j hj).1, (fB j).trans (h.wk j hj).2⟩, ck := fun j hj => (h.ck j hj).chg hc4 hMZ hZ',
    c65 := (cB 65 (by omega)).trans h.c65, c66 := (cB 66 (by omega)).trans h.c66, c67 := ⟨c67, (fB 67).trans h.c67.2⟩,
    pm := (h.pm.same (q _ (by rw [h.rp]; decide) (by rw [h.rp]; decide) (by rw [h.rp]; decide))).mono (Nat.le_succ n), pk := fun j hj => (h.pk j hj).chg hc4 hMZ hZ',
    dm := (h.dm.same (q _ (by rw [h.rd]; decide) (by rw [h.rd]; decide) (by rw [h.rd]; decide))).mono (Nat.le_succ n),
    dt := fun j hj => (h.dt j hj).same (Nat.le_succ n) (fun b eb => ?_) rfl rfl rfl rfl,
    cr := ?_, co := fun g hg => ?_, cn := ?_ }, rfl, rfl, hc4, fun b e => ?_, fun _ _ e => e⟩
  · rcases rhoC_own hbo with e | e
    · exact Nat.lt_of_lt_of_le (h.own b e).1 hsz
    · omega
  · rcases hz with e | e
    · exact Nat.lt_of_lt_of_le (h.zlt b e) hsz
    · rcases rhoC_own e with e | e
      · exact Nat.lt_of_lt_of_le (h.own b e).1 hsz
      · omega
  · have h0 : (ρ b).1 ≠ 0 := by rcases eb with eb | eb <;> rw [eb] <;> simp
    have h4 : (ρ b).1 ≠ 4 := by rcases eb with eb | eb <;> rw [eb] <;> simp
    have h1 : (ρ b).1 ≠ 1 := by rcases eb with eb | eb <;> rw [eb] <;> simp
    exact ⟨q b h0 h4 h1, rhoC_ne (hne b h0 h4)⟩
  · show w4.ownsRow 0 _ 6 (.slice (some ⟨gg, 0, none⟩) (m + 1) cap) (X.a.cl ++ [x]).length (cellsCl (X.a.cl ++ [x]))
    rw [cellsCl_snoc, show (X.a.cl ++ [x]).length = m + 1 by simp [hm]]
    refine ownsRow_same hown (fun g hg => ?_)
    have hgg : g = gg := by
      have : some gg = some g := hg
      injection this with this
      exact this.symm
    subst hgg
    refine h42 g (fun e => ?_)
    rcases hggw with e2 | e2
    · rw [e, h.rB] at e2
      exact absurd e2 (by decide)
    · have := (h.own X.B hoB).1
      omega
  · have hgg : g = gg := by
      have : some gg = some g := hg
      injection this with this
      exact this.symm
    rw [hgg, rhoC, if_pos rfl]
  · show (X.a.cl ++ [x]).length ≤ n + 1
    have := h.cn
    simp
    omega
  · rcases rhoC_own e with e | rfl
    · exact .inl e
    · rcases hggw with e2 | e2
      · exact .inl (by unfold Owned; rw [e2]; decide)
      · exact .inr e2

def accV (x : AccT) : Value := .agg #[.int .i64 x.1.1, .int .i64 x.1.2, .bool x.2]

set_option maxRecDepth 100000 in
set_option maxHeartbeats 4000000 in
theorem note_any (h : Rac w Z n ρ X) (hn : n < 100000) (x y : AccT) :
    Calls Try.prog 109 #[.pointer (some ⟨X.B, 0, none⟩), accV x, accV y] w fun e w' => e = .returned (.tuple #[]) ∧ RacOut w Z (n + 1) ρ X { X.a with cl := X.a.cl ++ [(x, y)] } w' := by
  have mixed : Try.prog.follows .mixedOrders = true := by kernel_rfl
  obtain ⟨i0, hi0, hz0, hz1, hz2⟩ := info_parts info_clash
  obtain ⟨A, c, hcv, hc1, hc2⟩ := ownSlice h.cr
  have h67 := h.c67
  rw [hcv] at h67
  obtain ⟨c0, f0⟩ := h67
  have hown := h.cr
  rw [hcv] at hown
  have hBl : X.B < w.heap.size := (h.own X.B (by rw [h.rB]; decide)).1
  have hcn := h.cn
  obtain ⟨m, hm⟩ : ∃ m, X.a.cl.length = m := ⟨_, rfl⟩
  rw [hm] at hown c0 hc1 hcn hcv
  obtain ⟨⟨xa, xb⟩, xc⟩ := x
  obtain ⟨⟨ya, yb⟩, yc⟩ := y
  unfold accV
  simp only
  have hown1 := (((hown.alloc (.cells #[.int .i64 xa, .int .i64 xb, .bool xc] 118)).alloc (.cells #[.int .i64 ya, .int .i64 yb, .bool yc] 118)).alloc (.cells #[.int .i64 xa, .int .i64 xb, .bool xc, .int .i64 ya, .int .i64 yb, .bool yc] 120)).drew
  have hb1 : Below w.heap.size w (((w.alloc (.cells #[.int .i64 xa, .int .i64 xb, .bool xc] 118)).alloc (.cells #[.int .i64 ya, .int .i64 yb, .bool yc] 118)).alloc (.cells #[.int .i64 xa, .int .i64 xb, .bool xc, .int .i64 ya, .int .i64 yb, .bool yc] 120)).drew :=
    ((((Below.refl _ w).alloc (Nat.le_refl _) _).alloc (by simp) _).alloc (by simp; omega) _).drew
  have hsz : (((w.alloc (.cells #[.int .i64 xa, .int .i64 xb, .bool xc] 118)).alloc (.cells #[.int .i64 ya, .int .i64 yb, .bool yc] 118)).alloc (.cells #[.int .i64 xa, .int .i64 xb, .bool xc, .int .i64 ya, .int .i64 yb, .bool yc] 120)).drew.heap.size = w.heap.size + 3 := by simp
  have C0 := Lib.hid ((hb1.cell (p := ⟨X.B, 67, none⟩) hBl).trans c0)
  have F0 := Lib.hid ((hb1.frozen (p := ⟨X.B, 67, none⟩) hBl).trans f0)
  have hne : some X.B ≠ (Value.slice A m c).ownBlock := fun e => by
    have := h.co X.B (by rw [hcv]; exact e.symm)
    rw [h.rB] at this
    exact absurd this (by decide)
  have hnew : (((w.alloc (.cells #[.int .i64 xa, .int .i64 xb, .bool xc] 118)).alloc (.cells #[.int .i64 ya, .int .i64 yb, .bool yc] 118)).alloc (.cells #[.int .i64 xa, .int .i64 xb, .bool xc, .int .i64 ya, .int .i64 yb, .bool yc] 120)).drew.heap[w.heap.size + 2]? = some (.cells #[.int .i64 xa, .int .i64 xb, .bool xc, .int .i64 ya, .int .i64 yb, .bool yc] 120) := by
    have := heap_alloc_last ((w.alloc (.cells #[.int .i64 xa, .int .i64 xb, .bool xc] 118)).alloc (.cells #[.int .i64 ya, .int .i64 yb, .bool yc] 118)) (.cells #[.int .i64 xa, .int .i64 xb, .bool xc, .int .i64 ya, .int .i64 yb, .bool yc] 120)
    simp only [World.size_alloc] at this
    exact this
  have k2 : ((w.alloc (.cells #[.int .i64 xa, .int .i64 xb, .bool xc] 118)).alloc (.cells #[.int .i64 ya, .int .i64 yb, .bool yc] 118)).cell? ⟨X.B, 67, none⟩ = some (.slice A m c) := ((((Below.refl w.heap.size w).alloc (Nat.le_refl _) (.cells #[.int .i64 xa, .int .i64 xb, .bool xc] 118)).alloc (by simp) (.cells #[.int .i64 ya, .int .i64 yb, .bool yc] 118)).cell (p := ⟨X.B, 67, none⟩) hBl).trans c0
  have k3 : (((w.alloc (.cells #[.int .i64 xa, .int .i64 xb, .bool xc] 118)).alloc (.cells #[.int .i64 ya, .int .i64 yb, .bool yc] 118)).alloc (.cells #[.int .i64 xa, .int .i64 xb, .bool xc, .int .i64 ya, .int .i64 yb, .bool yc] 120)).cell? ⟨X.B, 67, none⟩ = some (.slice A m c) := (hb1.cell (p := ⟨X.B, 67, none⟩) hBl).trans c0
  have HNEW := Lib.hid hnew
  have HB := Lib.hid hb1
  have HW := Lib.hid hown1
  have HZ := Lib.hid hsz
  have HNE := Lib.hid hne
  have HH := Lib.hid h
  have HM := Lib.hid hm
  have HCV := Lib.hid hcv
  clear hown1 hsz hown hne hb1 h hm hcv hnew
  go_enter Try.func109, Try.ntmps109
  go_upto_region 1 with (fail)
  go_region_law (refine step_append_lies _ (by rfl) _ _ _ (by rfl) 0 120 i0 _ 6 48 Try.underlying28 hi0 hz0 hz1 hz2 rfl (by omega) (.slice A m c) m (cellsCl X.a.cl) (by rfl) HW.out ⟨w.heap.size + 2, 0, none⟩ 1 1 [.int .i64 xa, .int .i64 xb, .bool xc, .int .i64 ya, .int .i64 yb, .bool yc] (by rfl) (by rfl) (World.news_of_block (cs := #[.int .i64 xa, .int .i64 xb, .bool xc, .int .i64 ya, .int .i64 yb, .bool yc]) (t := 120) (fr := (0, 0)) HNEW.out) (by simp [Value.oneCell']) (by omega) (by unfold maxLen; omega) (by omega) (by omega) (w.heap.size + 3) HZ.out ?_; intro gg cap w2 hown2 hgrow hat hlt2; have q0 := hgrow.cell C0.out HNE.out; have q1 := (World.frozen?_of_block (a := ⟨X.B, 67, none⟩) (hgrow.block X.B (by rw [HZ.out]; omega) HNE.out)).trans F0.out; have HG := Lib.hid hgrow; have HO := Lib.hid hown2; have HA := Lib.hid hat; clear hgrow hown2 hat)
  all_goals
    have hf := HH.out.clash HB.out (((xa, xb), xc), ((ya, yb), yc)) HM.out (by rw [HCV.out]; exact HG.out) HO.out (by rw [HCV.out]; exact HA.out.imp id (fun e => by rw [e, HZ.out])) hlt2
    have HF := Lib.hid hf
    clear HG HO HA HW HZ HNE HB HH HM HCV hf q0 q1 hlt2 k2 k3 C0 F0 HNEW
    go_wp2
    exact bodyPost_end (results_none rfl _ _ _) rfl ⟨rfl, HF.out⟩
end

end Go.Proofs.Ytdgmcaehadigaaa
