/- epoch's Free, by contract. -/
import Derived.Test.YtdgmcaehadigaaaEpDel
import Derived.Test.YtdgmcaehadigaaaClkNew
namespace Go.Proofs.Ytdgmcaehadigaaa
open Go.RowKit

theorem drop_tw {f : Int × Nat → Bool} : ∀ L : List (Int × Nat), L.drop (L.takeWhile f).length = L.dropWhile f ∧ L.take (L.takeWhile f).length = L.takeWhile f
  | [] => ⟨rfl, rfl⟩
  | a :: r => by
    by_cases h : f a = true
    · rw [List.takeWhile_cons_of_pos h, List.dropWhile_cons_of_pos h]
      have := drop_tw (f := f) r
      simp [this.1, this.2]
    · rw [List.takeWhile_cons_of_neg h, List.dropWhile_cons_of_neg h]
      exact ⟨rfl, rfl⟩
/-- What is retired yet, once the first k are not. -/
def retAt (x : EX) (k : Nat) (s : Int) : Bool := (x.lb.drop k).any fun p => p.1 == s
theorem retAt_step {n : Nat} {x : EX} (hf : EFit n x) {k : Nat} {p : Int × Nat} (hp : x.lb[k]? = some p) (s : Int) : delU (retAt x k) p.1 s = retAt x (k + 1) s := by
  have hk := (List.getElem?_eq_some_iff.1 hp).1
  have hd : x.lb.drop k = p :: x.lb.drop (k + 1) := by
    rw [List.drop_eq_getElem_cons hk]
    congr 1
    rw [List.getElem?_eq_getElem hk] at hp
    injection hp
  have hone : ((x.lb.drop k).map (·.1)).Nodup := by
    refine List.Nodup.sublist ?_ hf.one
    exact (List.drop_sublist k x.lb).map _
  unfold delU retAt
  rw [hd] at hone ⊢
  rw [List.map_cons, List.nodup_cons] at hone
  by_cases e : s = p.1
  · rw [if_pos e]
    refine (List.any_eq_false.2 fun q hq he => ?_).symm
    have he' : q.1 = s := by simpa using he
    exact hone.1 (List.mem_map.2 ⟨q, hq, by rw [he', e]⟩)
  · have e2 : ¬ p.1 = s := fun h => e h.symm
    rw [if_neg e, List.any_cons]
    simp [e2]
/-- What Free leaves. -/
def FreeOut (w : World) (B bw bm n : Nat) (lv : Value) (x : EX) (e : Ending) (w' : World) : Prop :=
  ∃ A c, e = .returned (.slice A ((freeL1 x).map (·.1)).length c) ∧ (∀ k z, ((freeL1 x).map (·.1))[k]? = some z → ∃ b off, A = some ⟨b, off, none⟩ ∧ w.heap.size ≤ b ∧ b < w'.heap.size ∧ w'.cell? ⟨b, off + k, none⟩ = some (.int .i64 z)) ∧
    ∃ lv', Ep w' B bw bm n lv' (freeE x) ∧ Chg (EpM B bw bm lv) w w' ∧ ∀ g, lv'.ownBlock = some g → lv.ownBlock = some g

section
variable {w : World} {B bw bm n m : Nat} {lv : Value} {x : EX}
/-- Of what was retired the first are gone, from the map and from the list. -/
theorem Ep.freed (h : Ep w B bw bm n lv x) (hf : EFit n x) {W1 W2 : World} {lv' : Value} (hc : Chg (fun b => b = bm) w W1) (hm : MapU W1 bm n (isRet (freeE x))) (hc2 : Chg (fun b => lv.ownBlock = some b) W1 W2) (hlv : lv'.ownBlock = lv.ownBlock)
    (hr : W2.ownsRow 0 154 2 lv' (freeE x).lb.length (cellsR (freeE x).lb)) :
    Ep (W2.setCell ⟨B, 2, none⟩ lv') B bw bm n lv' (freeE x) ∧ Chg (EpM B bw bm lv) w (W2.setCell ⟨B, 2, none⟩ lv') := by
  have hnB : ¬ lv.ownBlock = some B := fun e => (h.nr B e).1 rfl
  have hnW : ¬ lv.ownBlock = some bw := fun e => (h.nr bw e).2 rfl
  have hBm : B ≠ bm := h.mp.not_cell h.c0.1
  have hWm : bw ≠ bm := h.mp.not_cell (h.wk 0 hf.pos).1.1
  have hmm : ¬ lv.ownBlock = some bm := fun e => by
    rcases h.row.2 with ⟨hv, _⟩ | ⟨g, cp, cur, hv, _, hh, _⟩
    · rw [hv] at e; cases e
    · rw [hv] at e
      have e : g = bm := by injection e
      obtain ⟨D, ⟨es, clock, hbm, _⟩, _⟩ := h.mp
      rw [← e, hh] at hbm
      cases hbm
  have hlt := h.lt
  have hwl := h.wlt hf.pos
  have hs1 := hc.size
  have qB : W2.heap[B]? = w.heap[B]? := (hc2.block B (by omega) hnB).trans (hc.block B hlt hBm)
  have qW : W2.heap[bw]? = w.heap[bw]? := (hc2.block bw (by omega) hnW).trans (hc.block bw hwl hWm)
  have qm : W2.heap[bm]? = W1.heap[bm]? := hc2.block bm hm.lt hmm
  obtain ⟨w4, hw4⟩ : ∃ w4, W2.setCell ⟨B, 2, none⟩ lv' = w4 := ⟨_, rfl⟩
  have q4 : ∀ b, b ≠ B → w4.heap[b]? = W2.heap[b]? := fun b hb => by rw [← hw4]; exact Below.heap_setCell _ _ _ _ hb
  have cB : ∀ o, 2 ≠ o → w4.cell? ⟨B, o, none⟩ = w.cell? ⟨B, o, none⟩ := fun o ho => by
    rw [← hw4]
    exact (World.cell?_setCell_other _ _ _ _ (fun e => ho (by injection e))).trans (World.cell?_of_block (w := w) qB)
  have fB : ∀ o, w4.frozen? ⟨B, o, none⟩ = w.frozen? ⟨B, o, none⟩ := fun o => by
    rw [← hw4, World.frozen?_setCell]
    exact World.frozen?_of_block (w := w) qB
  have cW : ∀ o, w4.cell? ⟨bw, o, none⟩ = w.cell? ⟨bw, o, none⟩ := fun o => World.cell?_of_block (w := w) ((q4 bw h.nw).trans qW)
  have fW : ∀ o, w4.frozen? ⟨bw, o, none⟩ = w.frozen? ⟨bw, o, none⟩ := fun o => World.frozen?_of_block (w := w) ((q4 bw h.nw).trans qW)
  have c2 : w4.cell? ⟨B, 2, none⟩ = some lv' := by
    rw [← hw4]
    exact World.cell?_setCell_same _ _ _ ((World.cell?_of_block (w := w) qB).trans h.c2.1)
  have hcc : Chg (EpM B bw bm lv) w w4 := by
    rw [← hw4]
    exact ((hc.mono (fun b e => .inr (.inr (.inl e)))).trans hc2 (fun b e => .inl (.inr (.inr (.inr e))))).setCell (.inl rfl) _
  rw [hw4]
  refine ⟨{
    c0 := ⟨(cB 0 (by decide)).trans h.c0.1, (fB 0).trans h.c0.2⟩, c1 := (cB 1 (by decide)).trans h.c1, c2 := ⟨c2, (fB 2).trans h.c2.2⟩, c3 := (cB 3 (by decide)).trans h.c3, c4 := ⟨(cB 4 (by decide)).trans h.c4.1, (fB 4).trans h.c4.2⟩
    wk := fun k hk => ⟨⟨(cW _).trans (h.wk k hk).1.1, (fW _).trans (h.wk k hk).1.2⟩, (cW _).trans (h.wk k hk).2.1, (fW _).trans (h.wk k hk).2.2⟩
    row := ownsRow_same hr (fun g hg => q4 g (fun e => hnB (by rw [← hlv, hg, e])))
    mp := hm.same ((q4 bm (fun e => hBm e.symm)).trans qm), nw := h.nw, nr := fun g hg => h.nr g (by rw [← hlv]; exact hg) }, hcc⟩

theorem MapU.ne_own {W : World} {b k : Nat} {mm : Int → Bool} (h : MapU W b k mm) {base : Nat} {e : TypeId} {size q : Nat} {v : Value} {xs : List Value} (hr : W.ownsRow base e size v q xs) {g : Nat} (hg : v.ownBlock = some g) : g ≠ b := by
  rcases hr.2 with ⟨hv, _⟩ | ⟨g', cp, cur, hv, _, hh, _⟩
  · rw [hv] at hg; cases hg
  · rw [hv] at hg
    have e : g' = g := by injection hg
    intro e2
    obtain ⟨D, ⟨es, clock, hbm, _⟩, _⟩ := h
    rw [← e2, ← e, hh] at hbm
    cases hbm

/-- The first t are deleted from the list, in any world in which it lies as it did. -/
theorem Ep.delAt (h : Ep w B bw bm n lv x) {ad : Addr} {l c t : Nat} (hlv : lv = .slice (some ad) l c) (hl : x.lb.length = l) (ht : t ≤ l) (few : l ≤ 100000) {W : World} (hc : Chg (fun b => b = bm) w W) :
    Calls Try.prog 96 #[.slice (some ad) l c, .int .i64 0, .int .i64 (t : Int)] W fun e W2 => e = .returned (.slice (some ad) (l - t) c) ∧ W2.ownsRow 0 154 2 (.slice (some ad) (l - t) c) (l - t) (cellsR (x.lb.drop t)) ∧ Chg (fun b => lv.ownBlock = some b) W W2 := by
  have hr := h.row
  have hne := fun g hg => h.mp.ne_own h.row (g := g) hg
  rw [hlv, hl] at hr
  rw [hlv] at hne ⊢
  rcases hr.2 with ⟨hv, _⟩ | ⟨g, cap, cur, hv, h0, hh, h1, h2, h3, h4⟩
  · cases hv
  · injection hv with e1 e2 e3
    injection e1 with e1
    subst e1 e3
    have hW : W.heap[g]? = some (.cells cur 154 (0, 0)) := (hc.block g (Array.getElem?_eq_some_iff.1 hh).1 (hne g rfl)).trans hh
    by_cases h0t : t = 0
    · subst h0t
      refine (Del_none (some ⟨g, 0, none⟩) l c W h1 (by unfold maxLen at h2; omega) (fun e => by cases e)).mono ?_
      rintro e W2 ⟨rfl, rfl⟩
      refine ⟨rfl, ⟨?_, .inr ⟨g, c, cur, rfl, h0, hW, by omega, h2, h3, ?_⟩⟩, Chg.refl⟩
      · rw [cellsR_len, List.length_drop, hl]
      · rw [Nat.sub_zero, List.drop_zero]
        exact h4
    · subst hl
      refine (Del_any g c cur x.lb t W hW h3 h1 (by unfold maxLen at h2; omega) h4 (by omega) ht few).mono ?_
      rintro e W2 ⟨rfl, ⟨cur', k1, k2, k3⟩, k4⟩
      refine ⟨rfl, ⟨?_, .inr ⟨g, c, cur', rfl, h0, k1, by omega, h2, k2, k3⟩⟩, k4.mono (fun b e => by rw [e]; rfl)⟩
      rw [cellsR_len, List.length_drop]

set_option maxRecDepth 100000 in
set_option maxHeartbeats 8000000 in
theorem Free_any (h : Ep w B bw bm n lv x) (hf : EFit n x) (hn : n < 100000) (hI : ∀ p ∈ x.lb, IsI p.1) :
    Calls Try.prog 50 #[.pointer (some ⟨B, 0, none⟩)] w (FreeOut w B bw bm n lv x) := by
  obtain ⟨i0, hi0, hz0, hz1, hz2⟩ := info_parts info_int
  obtain ⟨A, c, hlv, hlc, hcm⟩ := ownSlice h.row
  obtain ⟨l, hl⟩ : ∃ l, x.lb.length = l := ⟨_, rfl⟩
  obtain ⟨t, ht⟩ : ∃ t, (x.lb.takeWhile (ripe x.e)).length = t := ⟨_, rfl⟩
  have htl : t ≤ l := by rw [← ht, ← hl]; exact tw_len _
  have hl1 : l ≤ 100000 := by have := hf.ln; omega
  have hBl := h.lt
  -- the box of the receiver
  obtain ⟨W0, hW0⟩ : ∃ W0, w.alloc (.cells #[.pointer (some ⟨B, 0, none⟩)] 63) = W0 := ⟨_, rfl⟩
  have hb0 : Below w.heap.size w W0 := by rw [← hW0]; exact (Below.refl _ w).alloc (Nat.le_refl _) _
  have hs0 : W0.heap.size = w.heap.size + 1 := by rw [← hW0]; simp
  have bx0 : W0.cell? ⟨w.heap.size, 0, none⟩ = some (.pointer (some ⟨B, 0, none⟩)) := by rw [← hW0]; exact cell_of_row _ _ 0 _ _ (0, 0) (heap_alloc_last w _)
  have hrow := h.row
  rw [hlv, hl] at hrow
  rw [hl] at hlv hlc
  have hR0 := RdR.of_own hrow hl
  have hix := Index_any B w.heap.size x.e A x.lb c W0 ((hR0.below hb0).more (by omega)) bx0 ((hb0.cell (p := ⟨B, 0, none⟩) hBl).trans h.c0.1) (by have := hf.en; omega) hf.gn (by omega)
  have d20 := (hb0.cell (p := ⟨B, 2, none⟩) hBl).trans h.c2.1
  have hid : idxR x.e x.lb = if t < l then (t : Int) else -1 := by unfold idxR; rw [ht, hl]
  rw [hl, hid] at hix
  rw [hlv] at d20
  have HRD : Hid (∀ W, Chg (fun b => b = bm) w W → RdR W w.heap.size A x.lb) := Lib.hid fun W hc k p hp => by
    obtain ⟨b, off, e1, e2, e3, e4⟩ := hR0 k p hp
    have hne : b ≠ bm := h.mp.not_cell e3
    exact ⟨b, off, e1, e2, (hc.cell (p := ⟨b, off + k * 2, none⟩) e2 hne).trans e3, (hc.cell (p := ⟨b, off + k * 2 + 1, none⟩) e2 hne).trans e4⟩
  have HM0 : Hid (∀ W, Below w.heap.size w W → MapU W bm n (retAt x 0)) := Lib.hid fun W hb => (h.mp.same (hb.block bm h.mp.lt)).eq (fun k _ => by unfold retAt isRet; rw [List.drop_zero])
  have HBB : Hid (∀ W, Chg (fun b => b = bm) w W → W.cell? ⟨B, 2, none⟩ = some (.slice A l c) ∧ W.cell? ⟨B, 3, none⟩ = some (.map (some bm)) ∧ W.frozen? ⟨B, 2, none⟩ = false) := Lib.hid fun W hc => by
    have hne : B ≠ bm := h.mp.not_cell h.c0.1
    refine ⟨?_, (hc.cell (p := ⟨B, 3, none⟩) hBl hne).trans h.c3, (hc.frozen (p := ⟨B, 2, none⟩) hBl hne).trans h.c2.2⟩
    rw [← hlv]
    exact (hc.cell (p := ⟨B, 2, none⟩) hBl hne).trans h.c2.1
  have HIX := Lib.hid hix
  have HB0 := Lib.hid hb0
  have HH := Lib.hid h
  have HF := Lib.hid hf
  have HII := Lib.hid hI
  have HLV := Lib.hid hlv
  have HT := Lib.hid ht
  have HL := Lib.hid hl
  have HR := Lib.hid hrow
  clear hix hb0 h hf hI hlv ht hl hrow hR0 hid
  cases A with
  | none =>
    obtain ⟨rfl, rfl⟩ : l = 0 ∧ c = 0 := by
      rcases HR.out.2 with ⟨hv, h0⟩ | ⟨g, cap, cur, hv, _⟩
      · injection hv with _ _ e3
        exact ⟨h0, e3⟩
      · cases hv
    obtain rfl : t = 0 := by omega
    have hnil : x.lb = [] := List.eq_nil_of_length_eq_zero HL.out
    have hfr : (freeE x).lb = [] ∧ freeL1 x = [] := by unfold freeE freeL1; rw [hnil]; exact ⟨rfl, rfl⟩
    have hfo : ∀ W, Below w.heap.size w W → Hid (FreeOut w B bw bm n lv x (.returned (.slice none 0 0)) (W.setCell ⟨B, 2, none⟩ (.slice none 0 0))) := fun W hb => by
      have hm' : MapU W bm n (isRet (freeE x)) := (HH.out.mp.same (hb.block bm HH.out.mp.lt)).eq (fun j _ => by unfold isRet; rw [hfr.1, hnil])
      have hE := HH.out.freed HF.out (W1 := W) (W2 := W) (lv' := .slice none 0 0) (Chg.of_below hb) hm' Chg.refl (by rw [HLV.out]) (by rw [hfr.1]; exact World.ownsRow_nil _ _ _ _)
      refine ⟨none, 0, by rw [hfr.2]; rfl, fun k z hk => ?_, _, hE.1, hE.2, fun g hg => by cases hg⟩
      rw [hfr.2] at hk
      simp at hk
    have HFO := Lib.hid hfo
    clear hfo hfr hnil
    go_enter Try.func50, Try.ntmps50
    go_upto_region 3 with (fail)
    go_wp2_with fail
    refine HIX.out.mono ?_
    rintro e W1 ⟨rfl, hb1⟩
    have HB1 := Lib.hid (HB0.out.trans (hb1.mono (by omega : w.heap.size ≤ W0.heap.size)))
    have bx1 := (hb1.cell (p := ⟨w.heap.size, 0, none⟩) (show w.heap.size < W0.heap.size by omega)).trans bx0
    have d21 := (hb1.cell (p := ⟨B, 2, none⟩) (show B < W0.heap.size by omega)).trans d20
    have f21 := (HB1.out.frozen (p := ⟨B, 2, none⟩) hBl).trans HH.out.c2.2
    clear hb1 HIX bx0 d20 hW0 hs0
    rw [if_neg (by decide)]
    go_upto_region 8 with (fail)
    go_loopw [4, 29] (fun s i wr => s = .slice none 0 0 ∧ i = .int .i64 0 ∧ wr = W1) (fun _ _ _ => 0)
    case atStart => exact ⟨rfl, rfl, rfl⟩
    case round =>
      obtain ⟨rfl, rfl, rfl⟩ := hrel
      have HDN := Lib.hid (Del_none none 0 0 wr.drew (Nat.le_refl _) (by omega) (fun _ => rfl))
      have HFF := Lib.hid (HFO.out wr.drew HB1.out.drew)
      clear HFO
      go_upto_region 13 with (fail)
      go_region_with (first | (go_at_call 96; refine Calls.mono HDN.out ?_; rintro e W5 ⟨rfl, rfl⟩))
      all_goals
        go_wp2
        go_ret
        exact HFF.out.out
  | some ad =>
  go_enter Try.func50, Try.ntmps50
  go_upto_region 3 with (fail)
  go_wp2_with fail
  refine HIX.out.mono ?_
  rintro e W1 ⟨rfl, hb1⟩
  have HB1 := Lib.hid (HB0.out.trans (hb1.mono (by omega : w.heap.size ≤ W0.heap.size)))
  have bx1 := (hb1.cell (p := ⟨w.heap.size, 0, none⟩) (show w.heap.size < W0.heap.size by omega)).trans bx0
  have d21 := (hb1.cell (p := ⟨B, 2, none⟩) (show B < W0.heap.size by omega)).trans d20
  have hs1 := hb1.size
  clear hb1 HIX bx0 d20 hW0 hs0
  have hlc1 : (t : Int) ≤ (c : Int) := by omega
  have ht0 : (0 : Int) ≤ (t : Int) := by omega
  by_cases htt : t < l
  case' pos =>
    rw [if_pos htt]
    go_upto_region 8 with (fail)
  case' neg =>
    obtain rfl : t = l := by omega
    rw [if_neg htt]
    go_upto_region 8 with (fail)
  all_goals
    go_loopw [4, 29] (fun s i wr => ∃ (k : Nat) (Lk : List Int), k ≤ t ∧ i = .int .i64 k ∧ Hid (Lk = (x.lb.take k).map (·.1)) ∧ wr.ownsRow (w.heap.size + 1) 3 1 s k (Lk.map (Value.int .i64)) ∧ Chg (fun b => b = bm) w wr ∧ MapU wr bm n (retAt x k) ∧ wr.cell? ⟨w.heap.size, 0, none⟩ = some (.pointer (some ⟨B, 0, none⟩)))
      (fun _ i _ => t - (intOf i).toNat)
    case' atStart => exact ⟨0, [], Nat.zero_le _, rfl, rfl, World.ownsRow_nil _ _ _ _, Chg.of_below HB1.out, HM0.out _ HB1.out, bx1⟩
    case' round =>
      obtain ⟨k, Lk, hk, rfl, HLk, hown, hc, hm, hbx⟩ := hrel
      have hwr := hc.size
      by_cases hlt : k < t
      · obtain ⟨p, hp⟩ : ∃ p, x.lb[k]? = some p := ⟨_, List.getElem?_eq_getElem (by have := HL.out; omega)⟩
        obtain ⟨b, off, e, hbb, q1, q2⟩ := HRD.out wr hc k p hp
        injection e with e
        subst e
        have hpI := HII.out p (List.mem_of_getElem? hp)
        have htk : (x.lb.take (k + 1)).map (·.1) = (x.lb.take k).map (·.1) ++ [p.1] := by rw [List.take_add_one, hp]; simp
        have HTK : Hid (Lk ++ [p.1] = (x.lb.take (k + 1)).map (·.1)) := Lib.hid (by rw [htk, HLk.out])
        clear htk
        have HST := Lib.hid (fun s => retAt_step HF.out hp s)
        obtain ⟨s, g⟩ := p
        simp only at q1 q2 hpI
        obtain ⟨W2, hW2⟩ : ∃ W2, wr.alloc (.cells #[.int .i64 s, .int .i64 (g : Int)] 154) = W2 := ⟨_, rfl⟩
        have hb2 : Below wr.heap.size wr W2 := by rw [← hW2]; exact (Below.refl _ wr).alloc (Nat.le_refl _) _
        have hs2 : W2.heap.size = wr.heap.size + 1 := by rw [← hW2]; simp
        have hbs : W2.cell? ⟨wr.heap.size, 0, none⟩ = some (.int .i64 s) := by rw [← hW2]; exact cell_of_row _ _ 0 _ _ (0, 0) (heap_alloc_last wr _)
        have hbx2 := (hb2.cell (p := ⟨w.heap.size, 0, none⟩) (cellE_lt hbx)).trans hbx
        have d3 := (hb2.cell (p := ⟨B, 3, none⟩) (show B < wr.heap.size by omega)).trans (HBB.out wr hc).2.1
        have hm2 := hm.same (w' := W2) (hb2.block bm hm.lt)
        obtain ⟨W3, hdel, hm3, ht3⟩ := (hm2.same (w' := W2.drew) rfl).drop hpI
        have g3 := ht3.grown
        have hbm2 := hm2.lt
        have hne1 : wr.heap.size ≠ bm := by have := hm.lt; omega
        have hne2 : w.heap.size ≠ bm := hm.not_cell hbx
        have hbs3 : W3.cell? ⟨wr.heap.size, 0, none⟩ = some (.int .i64 s) := (World.cell?_of_block (w := W2) (a := ⟨wr.heap.size, 0, none⟩) (g3.block wr.heap.size (show wr.heap.size < W2.heap.size by omega) (fun e => hne1 (by injection e)))).trans hbs
        have hbx3 : W3.cell? ⟨w.heap.size, 0, none⟩ = some (.pointer (some ⟨B, 0, none⟩)) := (World.cell?_of_block (w := W2) (a := ⟨w.heap.size, 0, none⟩) (g3.block w.heap.size (cellE_lt hbx2) (fun e => hne2 (by injection e)))).trans hbx2
        have hs3 : W2.heap.size ≤ W3.heap.size := g3.size
        have hown3 : W3.ownsRow (w.heap.size + 1) 3 1 u4 k (Lk.map (Value.int .i64)) := ownsRow_same hown (fun g' hg' => (g3.block g' (by have := (hown.lt g' hg').2; show g' < W2.heap.size; omega) (fun e => hm.ne_own hown hg' (by injection e))).trans (hb2.block g' (hown.lt g' hg').2))
        have hc3 : Chg (fun b => b = bm) w W3 := ((hc.trans (M' := fun _ => False) (Chg.of_below hb2) (fun _ e => e.elim)).drew).turned rfl ht3
        have HM3 := Lib.hid (hm3.eq (m' := retAt x (k + 1)) (fun j _ => HST.out j))
        have HC3 := Lib.hid hc3
        obtain ⟨A4, c4, rfl, hk4, hc4⟩ := ownSlice hown3
        have hcx := cellE_lt hbx
        have HNW : Hid (∀ j u, [Value.int .i64 s][j]? = some u → (W3.alloc (.cells #[.int .i64 s] 3)).cell? (Addr.add ⟨W3.heap.size, 0, none⟩ j) = some u) := Lib.hid fun j u hj => by
          match j, hj with
          | 0, hj => simp at hj; subst hj; simp [Addr.add]
        have HON : Hid (∀ u ∈ [Value.int .i64 s], u.oneCell' = true) := Lib.hid fun u hu => by simp at hu; subst hu; rfl
        clear hm2 hm3 ht3 g3 hb2 hown hc hm hc3 hp HST hbm2
        go_upto_region 10 with (fail)
        go_region
        all_goals
          go_wp2_with (at_builtin; refine wpList_append_own _ rfl _ _ 38 rfl (w.heap.size + 1) 3 i0 (.int .i64 0) 1 8 Try.underlying38 hi0 hz0 hz1 hz2 rfl (by decide) _ _ _ rfl (hown3.alloc _) ⟨W3.heap.size, 0, none⟩ 1 1 [.int .i64 s] rfl rfl HNW.out HON.out (by unfold maxLen; omega) (by omega) (by simp; omega) ?_)
          intro v' w4 hown4 hgrow _
          have hgn : ∀ q, (Value.slice A4 k c4).ownBlock = some q → w.heap.size + 1 ≤ q := fun q hq => (hown3.lt q hq).1
          have hs4 := hgrow.size
          rw [World.size_alloc] at hs4
          have hgb : some bm ≠ (Value.slice A4 k c4).ownBlock := fun e => HM3.out.ne_own hown3 e.symm rfl
          have hgx : some w.heap.size ≠ (Value.slice A4 k c4).ownBlock := fun e => by
            have := hgn _ e.symm
            omega
          have hbx4 := hgrow.cell (((Below.refl W3.heap.size W3).alloc (Nat.le_refl _) (.cells #[.int .i64 s] 3)).cell (p := ⟨w.heap.size, 0, none⟩) (cellE_lt hbx3) |>.trans hbx3) hgx
          have HM4 := Lib.hid (HM3.out.same (w' := w4) ((hgrow.block bm (by rw [World.size_alloc]; have := HM3.out.lt; omega) hgb).trans (Below.heap_alloc W3 _ bm HM3.out.lt)))
          have hc4' : Chg (fun b => b = bm) w w4 := (HC3.out.trans (M' := fun b => w.heap.size ≤ b) ⟨hgrow.os, hgrow.tape, hgrow.output, by omega, fun b hb hn => (hgrow.block b (by rw [World.size_alloc]; omega) (fun e => hn (by have := hgn b e.symm; omega))).trans (Below.heap_alloc W3 _ b hb)⟩ (fun b e => .inr e))
          have hown5 : w4.ownsRow (w.heap.size + 1) 3 1 v' (k + 1) ((Lk ++ [s]).map (Value.int .i64)) := by
            rw [List.map_append]
            exact hown4
          clear hgrow hown4 hown3 hgn hgb hgx hbx3 hbx2 hbs3 hbs hdel HM3 HC3 q1 q2 d3
          go_wp2
          go_roundw
          case rel => exact ⟨k + 1, Lk ++ [s], by omega, by go_num, HTK.out, hown5, hc4', HM4.out, hbx4⟩
          case measure => simp [intOf]; omega
      · obtain rfl : k = t := by omega
        obtain ⟨A4, c4, rfl, hk4, hc4⟩ := ownSlice hown
        have hd := HBB.out wr hc
        have hLk : Lk = (freeL1 x).map (·.1) := by rw [HLk.out, ← HT.out, (drop_tw x.lb).2]; rfl
        have hll : Lk.length = k := by rw [HLk.out, List.length_map, List.length_take, HL.out]; omega
        have hfresh : ∀ j z, Lk[j]? = some z → ∃ b off, A4 = some ⟨b, off, none⟩ ∧ w.heap.size + 1 ≤ b ∧ b < wr.heap.size ∧ wr.cell? ⟨b, off + j, none⟩ = some (.int .i64 z) := fun j z hj => by
          obtain ⟨b, off, e1, e2, e3⟩ := Rd.of_own hown j z hj
          refine ⟨b, off, e1, ?_, e2, e3⟩
          exact (hown.lt b (by rw [e1]; rfl)).1
        have hfinal : ∀ NN, x.lb.length = NN → ∀ W W2, Below wr.heap.size wr W → W2.ownsRow 0 154 2 (.slice (some ad) (NN - k) c) (NN - k) (cellsR (x.lb.drop k)) → Chg (fun b => lv.ownBlock = some b) W W2 → FreeOut w B bw bm n lv x (.returned (.slice A4 k c4)) (W2.setCell ⟨B, 2, none⟩ (.slice (some ad) (NN - k) c)) := fun NN hNN W W2 hb hr hc2 => by
          have hcW : Chg (fun b => b = bm) w W := hc.trans (M' := fun _ => False) (Chg.of_below hb) (fun _ e => e.elim)
          have hdl : x.lb.drop k = (freeE x).lb := by rw [← HT.out, (drop_tw x.lb).1]; rfl
          have hlen : (freeE x).lb.length = NN - k := by rw [← hdl, List.length_drop, hNN]
          have hm' : MapU W bm n (isRet (freeE x)) := (hm.same (hb.block bm hm.lt)).eq (fun j _ => by unfold retAt isRet; rw [hdl])
          rw [hdl] at hr
          have hE := HH.out.freed HF.out hcW hm' hc2 (lv' := .slice (some ad) (NN - k) c) (by rw [HLV.out]; rfl) (by rw [hlen]; exact hr)
          refine ⟨A4, c4, by rw [← hLk, hll], fun j z hj => ?_, _, hE.1, hE.2, fun g hg => by rw [HLV.out]; exact hg⟩
          rw [← hLk] at hj
          obtain ⟨b, off, e1, e2, e3, e4⟩ := hfresh j z hj
          have hbg : ¬ lv.ownBlock = some b := fun e => by
            have := (HH.out.row.lt b e).2
            omega
          have hbB : b ≠ B := fun e => by omega
          have hsz := hb.size
          have hsz2 := hc2.size
          refine ⟨b, off, e1, by omega, by rw [World.size_setCell]; omega, ?_⟩
          refine (World.cell?_setCell_other _ _ _ _ (fun e => hbB (by injection e with e; exact e.symm))).trans ?_
          exact (hc2.cell (p := ⟨b, off + j, none⟩) (show b < W.heap.size by omega) hbg).trans ((hb.cell (p := ⟨b, off + j, none⟩) e3).trans e4)
        have hdel : ∀ NN, x.lb.length = NN → lv = .slice (some ad) NN c → k ≤ NN → NN ≤ 100000 → ∀ W, Below wr.heap.size wr W → Calls Try.prog 96 #[.slice (some ad) NN c, .int .i64 0, .int .i64 (k : Int)] W fun e W2 => e = .returned (.slice (some ad) (NN - k) c) ∧ (W2.cell? ⟨B, 2, none⟩ = some (.slice (some ad) NN c) ∧ W2.frozen? ⟨B, 2, none⟩ = false ∧ W2.cell? ⟨w.heap.size, 0, none⟩ = some (.pointer (some ⟨B, 0, none⟩))) ∧ FreeOut w B bw bm n lv x (.returned (.slice A4 k c4)) (W2.setCell ⟨B, 2, none⟩ (.slice (some ad) (NN - k) c)) := fun NN hNN hlv2 hkN hN W hb => by
          have hcW : Chg (fun b => b = bm) w W := hc.trans (M' := fun _ => False) (Chg.of_below hb) (fun _ e => e.elim)
          refine (HH.out.delAt hlv2 hNN hkN hN hcW).mono ?_
          rintro e W2 ⟨he, hr, hc2⟩
          have hnB : ¬ lv.ownBlock = some B := fun e => (HH.out.nr B e).1 rfl
          have hdW := HBB.out W hcW
          have hBW : B < W.heap.size := cellE_lt hdW.1
          exact ⟨he, ⟨((hc2.cell (p := ⟨B, 2, none⟩) hBW hnB).trans hdW.1).trans (congrArg some (HLV.out.symm.trans hlv2)), (hc2.frozen (p := ⟨B, 2, none⟩) hBW hnB).trans hdW.2.2, (hc2.cell (p := ⟨w.heap.size, 0, none⟩) (show w.heap.size < W.heap.size by have := hb.size; have := cellE_lt hbx; simp only at this; omega) (fun e => by have := (HH.out.row.lt _ e).2; simp only at this; omega)).trans ((hb.cell (p := ⟨w.heap.size, 0, none⟩) (cellE_lt hbx)).trans hbx)⟩, hfinal NN hNN W W2 hb hr hc2⟩
        have HDEL := Lib.hid (hdel _ HL.out HLV.out (by omega) (by omega))
        have hbx' := hbx
        have hd1 := hd.1
        have hX0 := (Below.refl wr.heap.size wr).drew
        clear hfinal hdel hfresh hown hm hc hLk hll
        go_upto_region 13 with (fail)
        go_region_with (first | (go_at_call 96; refine Calls.mono (HDEL.out _ hX0) ?_; rintro e W5 ⟨rfl, ⟨q0, q1, q2⟩, hfo⟩; have HFO := Lib.hid hfo; clear hfo))
        all_goals
          go_wp2
          go_ret
          first
            | exact HFO.out
            | (have h9 := HFO.out
               simp only [Nat.sub_self] at h9
               exact h9)
end

end Go.Proofs.Ytdgmcaehadigaaa
