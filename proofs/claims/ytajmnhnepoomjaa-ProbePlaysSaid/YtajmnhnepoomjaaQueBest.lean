/- The best list's methods, by contract. -/
import Derived.Test.YtajmnhnepoomjaaQuePeek
import Derived.Test.YtajmnhnepoomjaaHeapTakeG
namespace Go.Proofs.Ytajmnhnepoomjaa
open Go.RowKit Go.Shelf Go.Sort

/-- How many a best list may have. -/
def bestN (most : Int) : Nat := (min (max most 0) 4096).toNat
theorem bestN_le (most : Int) : bestN most ≤ 4096 := by unfold bestN; omega
theorem bestN_eq (most : Int) : ((bestN most : Nat) : Int) = min (max most 0) 4096 := by unfold bestN; omega

def NewG (n : Nat) (W : World) (e : Ending) (W' : World) : Prop := ∃ b, e = .returned (.pointer (some ⟨b, 0, none⟩)) ∧ W.heap.size ≤ b ∧ HeapAt W' b fvG none 0 [] ∧ W'.cell? ⟨b, 2, none⟩ = some (.int .i64 n) ∧ Below W.heap.size W W'
set_option maxHeartbeats 1000000 in
theorem bNew_any (most : Int) (W : World) : Calls Try.prog 73 #[.int .i64 most] W (NewG (bestN most) W) := by
  unfold NewG
  rw [bestN_eq]
  go_enter Try.func73, Try.ntmps73
  go_wp2
  go_ret
  exact ⟨_, rfl, Nat.le_refl _, ⟨by go_cell, by unfold fvG; go_cell, by go_simp, World.ownsRow_nil _ _ _ _⟩, by go_cell, by go_grown⟩

set_option maxHeartbeats 1000000 in
theorem bFull_any {b : Nat} {fv : Value} {A : Option Addr} {c : Nat} {M : List SpotT} {W : World} (h : HeapAt W b fv A c M) (n : Nat) (hn : W.cell? ⟨b, 2, none⟩ = some (.int .i64 n)) :
    Calls Try.prog 118 #[.pointer (some ⟨b, 0, none⟩)] W fun e W' => e = .returned (.bool (decide (n ≤ M.length))) ∧ ∃ q, W' = W.drewN q := by
  have mixed : Try.prog.follows .mixedOrders = true := by kernel_rfl
  have c0 := h.h0
  clear h
  go_enter Try.func118, Try.ntmps118
  go_wp2
  go_quiet (fail)
  go_wp2
  go_ret
  exact ⟨rfl, _, rfl⟩
theorem bFull_nil (W : World) : Calls Try.prog 118 #[.pointer none] W fun e W' => e = .returned (.bool true) ∧ ∃ q, W' = W.drewN q := by
  have mixed : Try.prog.follows .mixedOrders = true := by kernel_rfl
  go_enter Try.func118, Try.ntmps118
  go_wp2
  go_quiet (fail)
  go_wp2
  go_ret
  exact ⟨rfl, _, rfl⟩

set_option maxHeartbeats 1000000 in
theorem bList_any {b : Nat} {fv : Value} {A : Option Addr} {c : Nat} {M : List SpotT} {W : World} (h : HeapAt W b fv A c M) (hn : M.length ≤ 100000) :
    Calls Try.prog 85 #[.pointer (some ⟨b, 0, none⟩)] W (SpotsOut (sortS M) W) := by
  have c0 := h.h0
  have HR := Lib.hid (rdS_own h.row)
  clear h
  go_enter Try.func85, Try.ntmps85
  go_wp2_with fail
  refine (Sort_any A M c (by omega) W HR.out).mono ?_
  rintro e w1 ⟨A1, c1, rfl, hr, hc, hm, hb⟩
  go_wp2
  go_ret
  exact ⟨A1, c1, rfl, hr, hc, hm, hb⟩
theorem bList_nil (W : World) : Calls Try.prog 85 #[.pointer none] W (SpotsOut [] W) := by
  go_enter Try.func85, Try.ntmps85
  go_wp2
  go_ret
  exact ⟨none, 0, rfl, RdS.nil, Nat.le_refl _, by omega, Below.refl _ _⟩

/-- Is a spot put in, and what there is then. -/
def offB (m : Nat) (M : List SpotT) (s : SpotT) : Bool := decide (M.length < m) || (decide (0 < M.length) && ltS s (spAt M 0))
def offL (m : Nat) (M : List SpotT) (s : SpotT) : List SpotT := if M.length < m then M ++ [s] else if 0 < M.length ∧ ltS s (spAt M 0) = true then M.set 0 s else M
def OfferOut (m b : Nat) (A : Option Addr) (M : List SpotT) (s : SpotT) (W : World) (e : Ending) (W' : World) : Prop :=
  e = .returned (.bool (offB m M s)) ∧ ∃ A' c' M', HeapAt W' b fvG A' c' M' ∧ M'.Perm (offL m M s) ∧ HeapOK gtS M' ∧ Kp (BlkH b A) W W' ∧ SameOrNew A W.heap.size A'

set_option maxRecDepth 100000 in
set_option maxHeartbeats 4000000 in
theorem bOffer_any {b : Nat} {A : Option Addr} {c : Nat} {M : List SpotT} {W : World} (h : HeapAt W b fvG A c M) (m : Nat) (hm : W.cell? ⟨b, 2, none⟩ = some (.int .i64 m)) (s : SpotT) (hn : M.length < 100000) (hu : HeapOK gtS M) :
    Calls Try.prog 83 #[.pointer (some ⟨b, 0, none⟩), sptV s] W (OfferOut m b A M s W) := by
  have mixed : Try.prog.follows .mixedOrders = true := by kernel_rfl
  have hX := below_new3 W (.cells #[.int .u64 s.1.1, .int .u64 s.1.2, .int .i64 s.2] 62)
  have H := Lib.hid (h.later hX)
  have HM := Lib.hid ((hX.cell (p := ⟨b, 2, none⟩) h.lt).trans hm)
  have HB := Lib.hid hX
  have HU := Lib.hid hu
  clear h hX hu hm
  obtain ⟨⟨xa, xb⟩, xc⟩ := s
  unfold sptV
  simp only at H HM HB ⊢
  have b0 : (W.alloc (.cells #[.int .u64 xa, .int .u64 xb, .int .i64 xc] 62)).cell? ⟨W.heap.size, 0, none⟩ = some (.int .u64 xa) := by go_cell
  have b1 : (W.alloc (.cells #[.int .u64 xa, .int .u64 xb, .int .i64 xc] 62)).cell? ⟨W.heap.size, 1, none⟩ = some (.int .u64 xb) := by go_cell
  have b2 : (W.alloc (.cells #[.int .u64 xa, .int .u64 xb, .int .i64 xc] 62)).cell? ⟨W.heap.size, 2, none⟩ = some (.int .i64 xc) := by go_cell
  have hsz : (W.alloc (.cells #[.int .u64 xa, .int .u64 xb, .int .i64 xc] 62)).heap.size = W.heap.size + 1 := by simp
  go_enter Try.func83, Try.ntmps83
  go_upto_region 1 with (fail)
  generalize W.alloc (.cells #[.int .u64 xa, .int .u64 xb, .int .i64 xc] 62) = X at *
  generalize hbx : W.heap.size = bx at *
  have HBX := Lib.hid hbx
  clear hbx
  go_wp2_with fail
  refine (bFull_any H.out m HM.out).mono ?_
  rintro e X1 ⟨rfl, q, rfl⟩
  have hD := below_draws X q X.heap.size
  have H1 := Lib.hid (H.out.later hD)
  have HB1 := Lib.hid (HB.out.trans (hD.mono (by omega)))
  have HZ := Lib.hid hD.size
  have b0 := (hD.cell (p := ⟨bx, 0, none⟩) (by simp; omega)).trans b0
  have b1 := (hD.cell (p := ⟨bx, 1, none⟩) (by simp; omega)).trans b1
  have b2 := (hD.cell (p := ⟨bx, 2, none⟩) (by simp; omega)).trans b2
  have hlt : bx < (X.drewN q).heap.size := by have := hD.size; omega
  clear hD H HM HB hsz
  generalize X.drewN q = Y at *
  by_cases hf : m ≤ M.length
  · rw [decide_eq_true hf]
    go_wp2_with fail
    refine (bWorst_any H1.out).mono ?_
    rintro e Z ⟨rfl, hb⟩
    have H3 := Lib.hid (H1.out.later hb)
    have b0 := (hb.cell (p := ⟨bx, 0, none⟩) hlt).trans b0
    have b1 := (hb.cell (p := ⟨bx, 1, none⟩) hlt).trans b1
    have b2 := (hb.cell (p := ⟨bx, 2, none⟩) hlt).trans b2
    have hlt2 : bx < Z.heap.size := Nat.lt_of_lt_of_le hlt hb.size
    have HB2 := Lib.hid (HB1.out.trans (hb.mono (Nat.le_of_lt hlt)))
    clear hb HB1 H1 hlt
    have hoB := show offB m M ((xa, xb), xc) = (decide (0 < M.length) && ltS ((xa, xb), xc) (spAt M 0)) by unfold offB; rw [decide_eq_false (show ¬ M.length < m by omega)]; rfl
    have hoL := show offL m M ((xa, xb), xc) = if 0 < M.length ∧ ltS ((xa, xb), xc) (spAt M 0) = true then M.set 0 ((xa, xb), xc) else M by unfold offL; rw [if_neg (show ¬ M.length < m by omega)]
    have hre : 0 < M.length → ∀ V, HeapAt V b fvG A c M → Calls Try.prog 124 #[.pointer (some ⟨b, 0, none⟩), .agg #[.int .u64 xa, .int .u64 xb, .int .i64 xc]] V (HeapG b A c (M.set 0 ((xa, xb), xc)) V) := fun h0 V hy => replaceG_any hy ((xa, xb), xc) h0 (by omega) HU.out
    have HRE := Lib.hid hre
    clear hre
    generalize spAt M 0 = y at *
    obtain ⟨⟨ya, yb⟩, yc⟩ := y
    unfold sptV
    simp only
    have hX2 := below_new3 Z (.cells #[.int .u64 ya, .int .u64 yb, .int .i64 yc] 62)
    have y0 : (Z.alloc (.cells #[.int .u64 ya, .int .u64 yb, .int .i64 yc] 62)).cell? ⟨Z.heap.size, 0, none⟩ = some (.int .u64 ya) := by go_cell
    have y1 : (Z.alloc (.cells #[.int .u64 ya, .int .u64 yb, .int .i64 yc] 62)).cell? ⟨Z.heap.size, 1, none⟩ = some (.int .u64 yb) := by go_cell
    have y2 : (Z.alloc (.cells #[.int .u64 ya, .int .u64 yb, .int .i64 yc] 62)).cell? ⟨Z.heap.size, 2, none⟩ = some (.int .i64 yc) := by go_cell
    have b0 := (hX2.cell (p := ⟨bx, 0, none⟩) hlt2).trans b0
    have b1 := (hX2.cell (p := ⟨bx, 1, none⟩) hlt2).trans b1
    have b2 := (hX2.cell (p := ⟨bx, 2, none⟩) hlt2).trans b2
    have H4 := Lib.hid (H3.out.later hX2)
    have HB3 := Lib.hid (HB2.out.trans (hX2.mono (Nat.le_of_lt hlt2)))
    have hlt3 : bx < (Z.alloc (.cells #[.int .u64 ya, .int .u64 yb, .int .i64 yc] 62)).heap.size := Nat.lt_of_lt_of_le hlt2 hX2.size
    clear hX2 H3 HB2
    by_cases h0 : 0 < M.length
    · rw [decide_eq_true h0] at hoB ⊢
      have HR := Lib.hid (HRE.out h0)
      cases hs : ltS ((xa, xb), xc) ((ya, yb), yc)
      · have HO : Hid (offB m M ((xa, xb), xc) = false ∧ offL m M ((xa, xb), xc) = M) := Lib.hid ⟨by rw [hoB, hs]; rfl, by rw [hoL, if_neg (fun e => by rw [hs] at e; cases e.2)]⟩
        clear hoB hoL h0 hf HRE HR
        go_upto_region 5 with (fail)
        generalize Z.alloc (.cells #[.int .u64 ya, .int .u64 yb, .int .i64 yc] 62) = V at *
        generalize Z.heap.size = d at *
        go_wp2_with fail
        refine (Spot_any ((_, _), _) ((_, _), _) _).mono ?_
        rintro e V2 ⟨rfl, hg⟩
        rw [hs]
        have hgb := hg.below
        have H5 := Lib.hid (H4.out.later hgb)
        have HB4 := Lib.hid (HB3.out.trans (hgb.mono (Nat.le_of_lt hlt3)))
        go_wp2
        go_ret
        refine ⟨by rw [HO.out.1]; rfl, A, c, M, H5.out, by rw [HO.out.2], HU.out, Kp.of_below (by rw [HBX.out]; exact HB4.out), sameOrNew_refl⟩
      · have HO : Hid (offB m M ((xa, xb), xc) = true ∧ offL m M ((xa, xb), xc) = M.set 0 ((xa, xb), xc)) := Lib.hid ⟨by rw [hoB, hs]; rfl, by rw [hoL, if_pos ⟨h0, hs⟩]⟩
        clear hoB hoL h0 hf HRE
        go_upto_region 5 with (fail)
        generalize Z.alloc (.cells #[.int .u64 ya, .int .u64 yb, .int .i64 yc] 62) = V at *
        generalize Z.heap.size = d at *
        go_wp2_with fail
        refine (Spot_any ((_, _), _) ((_, _), _) _).mono ?_
        rintro e V2 ⟨rfl, hg⟩
        rw [hs]
        have hgb := hg.below
        have H5 := Lib.hid (H4.out.later hgb)
        have HB4 := Lib.hid (HB3.out.trans (hgb.mono (Nat.le_of_lt hlt3)))
        have b0 := (hgb.cell (p := ⟨bx, 0, none⟩) hlt3).trans b0
        have b1 := (hgb.cell (p := ⟨bx, 1, none⟩) hlt3).trans b1
        have b2 := (hgb.cell (p := ⟨bx, 2, none⟩) hlt3).trans b2
        clear hgb hg H4 HB3 y0 y1 y2
        go_upto_region 7 with (fail)
        go_region_with (go_at_call 124; (first | refine Calls.mono (HR.out _ H5.out) ?_ | refine Calls.mono (HR.out _ H5.out.drew) ?_); rintro e W' ⟨rfl, M', h1, h2, h3, h4⟩; have HF := Lib.hid (And.intro h1 (And.intro h2 (And.intro h3 h4))); clear h1 h2 h3 h4)
        all_goals
          go_wp2
          go_ret
          obtain ⟨h1, h2, h3, h4⟩ := HF.out
          rw [← HO.out.2] at h2
          refine ⟨by rw [HO.out.1]; rfl, A, c, M', h1, h2, h3, ?_, sameOrNew_refl⟩
          exact (Kp.of_below (by rw [HBX.out]; exact HB4.out)).trans (Kp.trans Kp.refl.drew h4)
    · rw [decide_eq_false h0] at hoB ⊢
      have HO : Hid (offB m M ((xa, xb), xc) = false ∧ offL m M ((xa, xb), xc) = M) := Lib.hid ⟨by rw [hoB]; rfl, by rw [hoL, if_neg (fun e => h0 e.1)]⟩
      clear hoB hoL h0 hf HRE
      go_upto_region 5 with (fail)
      generalize Z.alloc (.cells #[.int .u64 ya, .int .u64 yb, .int .i64 yc] 62) = V at *
      go_wp2
      go_ret
      refine ⟨by rw [HO.out.1]; rfl, A, c, M, H4.out, by rw [HO.out.2], HU.out, Kp.of_below (by rw [HBX.out]; exact HB3.out), sameOrNew_refl⟩
  · rw [decide_eq_false hf]
    have HC : ∀ V, HeapAt V b fvG A c M → Calls Try.prog 123 #[.pointer (some ⟨b, 0, none⟩), .agg #[.int .u64 xa, .int .u64 xb, .int .i64 xc]] V (HeapG2 b A (M ++ [((xa, xb), xc)]) V) := fun V hy => putG_any hy ((xa, xb), xc) hn HU.out
    have HCC := Lib.hid HC
    have HO : Hid (offB m M ((xa, xb), xc) = true ∧ offL m M ((xa, xb), xc) = M ++ [((xa, xb), xc)]) := Lib.hid ⟨by unfold offB; rw [decide_eq_true (show M.length < m by omega)]; rfl, by unfold offL; rw [if_pos (show M.length < m by omega)]⟩
    clear HC HU hf
    go_upto_region 2 with (fail)
    go_region_with (go_at_call 123; (first | refine Calls.mono (HCC.out _ H1.out) ?_ | refine Calls.mono (HCC.out _ H1.out.drew) ?_); rintro e W' ⟨rfl, A', c', M', h1, h2, h3, h4, h5⟩; have HF := Lib.hid (And.intro h1 (And.intro h2 (And.intro h3 (And.intro h4 h5)))); clear h1 h2 h3 h4 h5)
    all_goals
      go_wp2
      go_ret
      obtain ⟨h1, h2, h3, h4, h5⟩ := HF.out
      rw [← HO.out.2] at h2
      refine ⟨by rw [HO.out.1]; rfl, A', c', M', h1, h2, h3, ?_, ?_⟩
      · exact (Kp.of_below (by rw [HBX.out]; exact HB1.out)).trans (Kp.trans Kp.refl.drew h4)
      · rw [HBX.out]; exact sameOrNew_less h5 (Nat.le_of_lt hlt)

end Go.Proofs.Ytajmnhnepoomjaa
