/- epoch's Look, by contract. -/
import Derived.Test.YtdgmcaehadigaaaEpDo
namespace Go.Proofs.Ytdgmcaehadigaaa
open Go.RowKit

section
variable {w : World} {B bw bm n m : Nat} {lv : Value} {x : EX}
theorem EpOut.look {W : World} {y : EX} (hp : Ep W B bw bm m lv y) (hc : Chg (EpM B bw bm lv) w W) (r : Value) : EpOut w B bw bm m lv y r (.returned r) W := ⟨rfl, lv, hp, hc, fun _ e => .inl e⟩

set_option maxRecDepth 100000 in
set_option maxHeartbeats 4000000 in
theorem Look_any (h : Ep w B bw bm n lv x) (hf : EFit n x) (hn : n < 100000) :
    Calls Try.prog 48 #[.pointer (some ⟨B, 0, none⟩)] w (EpOut w B bw bm n lv (lookE x) (.bool (lookB x))) := by
  obtain ⟨_, r1, r2⟩ := h.wk x.lk hf.lk
  have c0 := h.c0.1
  have c1 := h.c1
  have c4 := h.c4.1
  have f4 := h.c4.2
  have hl0 : (0 : Int) ≤ (x.lk : Int) := by omega
  have hl1 : (x.lk : Int) < (x.rc.length : Int) := by have := hf.lk; omega
  have hfew : (x.rc.length : Int) ≤ 64 := by have := hf.few; omega
  have he1 : (x.e : Int) < 100000 := by have := hf.en; omega
  have HD := Lib.hid (fun q => h.later hf.pos (below_draws w q w.heap.size))
  have HC := Lib.hid (fun q => (Chg.of_below (M := EpM B bw bm lv) (below_draws w q w.heap.size)))
  cases hb : blocksE x with
  | true =>
    have hX : lookE x = { x with lk := 0 } ∧ lookB x = false := by
      unfold lookE lookB
      rw [hb, if_pos rfl]
      exact ⟨rfl, rfl⟩
    have HO : Hid (∀ q, EpOut w B bw bm n lv (lookE x) (.bool (lookB x)) (.returned (.bool false)) ((w.drewN q).setCell ⟨B, 4, none⟩ (.int .i64 0))) := Lib.hid fun q => by
      rw [hX.1, hX.2]
      exact EpOut.look ((HD.out q).setRow (lk := 0) (e := x.e) (.inr ⟨rfl, rfl, rfl⟩)) ((HC.out q).setCell (.inl rfl) _) _
    unfold blocksE at hb
    generalize x.rc.getD x.lk 0 = r at *
    rw [Bool.and_eq_true, Bool.not_eq_true', Bool.not_eq_true', beq_eq_false_iff_ne, beq_eq_false_iff_ne] at hb
    have hr0 : ((r : Int) != 0) = true := by rw [bne_iff_ne]; omega
    have hr1 : ((r : Int) != (x.e : Int) + 1) = true := by rw [bne_iff_ne]; omega
    clear h hf hb hX HD HC
    generalize lookB x = lb at *
    generalize lookE x = le at *
    go_enter Try.func48, Try.ntmps48
    go_upto_region 3 with (fail)
    go_quiet (fail)
    go_wp2
    go_ret
    exact HO.out _
  | false =>
    have hr : x.rc.getD x.lk 0 = 0 ∨ x.rc.getD x.lk 0 = x.e + 1 := by
      unfold blocksE at hb
      rw [Bool.and_eq_false_iff, Bool.not_eq_false', Bool.not_eq_false', beq_iff_eq, beq_iff_eq] at hb
      exact hb
    have HT : Hid (∀ q, Ep ((w.drewN q).setCell ⟨B, 4, none⟩ (.int .i64 ((x.lk : Int) + 1))) B bw bm n lv { x with lk := x.lk + 1 } ∧ Chg (EpM B bw bm lv) w ((w.drewN q).setCell ⟨B, 4, none⟩ (.int .i64 ((x.lk : Int) + 1)))) := Lib.hid fun q => by
      have := (HD.out q).setRow (lk := x.lk + 1) (e := x.e) (.inr ⟨rfl, rfl, rfl⟩)
      rw [show ((x.lk + 1 : Nat) : Int) = (x.lk : Int) + 1 by omega] at this
      exact ⟨this, (HC.out q).setCell (.inl rfl) _⟩
    have HL := Lib.hid hb
    generalize x.rc.getD x.lk 0 = r at *
    have hq : (r = 0) ∨ (((r : Int) != 0) = true ∧ ((r : Int) != (x.e : Int) + 1) = false) := by
      rcases hr with h | h
      · exact .inl h
      · refine .inr ⟨by rw [bne_iff_ne]; omega, by rw [bne_eq_false_iff_eq]; omega⟩
    clear h hb HD HC hr
    by_cases hlt : x.lk + 1 < x.rc.length
    · have hX : lookE x = { x with lk := x.lk + 1 } ∧ lookB x = false := by
        unfold lookE lookB
        rw [HL.out, if_neg (by decide), if_pos hlt, decide_eq_false (by omega)]
        exact ⟨rfl, rfl⟩
      have hli : (x.lk : Int) + 1 < (x.rc.length : Int) := by omega
      rw [hX.2]
      have HX := Lib.hid hX.1
      clear hX hf
      have HO : Hid (∀ W q, Ep W B bw bm n lv { x with lk := x.lk + 1 } → Chg (EpM B bw bm lv) w W → EpOut w B bw bm n lv (lookE x) (.bool false) (.returned (.bool false)) (W.drewN q)) := Lib.hid fun W q hp hc => by
        rw [HX.out]
        exact EpOut.look (hp.later (by show 1 ≤ x.rc.length; omega) (below_draws _ _ _)) (hc.trans (M' := fun _ => False) (Chg.of_below (below_draws W q _)) (fun _ e => e.elim)) _
      generalize lookE x = le at *
      rcases hq with rfl | ⟨hq0, hq1⟩
      all_goals
        go_enter Try.func48, Try.ntmps48
        go_upto_region 3 with (fail)
        go_quiet (fail)
        go_upto_region 8 with (fail)
        obtain ⟨T1, C1⟩ := HT.out nq
        generalize (w.drewN nq).setCell ⟨B, 4, none⟩ (.int .i64 ((x.lk : Int) + 1)) = W1 at *
        have d4 := T1.c4.1
        have d1 := T1.c1
        have HO2 := Lib.hid (fun q => HO.out W1 q T1 C1)
        simp only at d4 d1
        rw [show ((x.lk + 1 : Nat) : Int) = (x.lk : Int) + 1 by omega] at d4
        clear T1 C1 HO HT c0 c1 c4 f4 r1 r2
        go_quiet (fail)
        go_wp2
        go_ret
        exact HO2.out _
    · have hX : lookE x = { x with lk := 0, e := x.e + 1 } ∧ lookB x = true := by
        unfold lookE lookB
        rw [HL.out, if_neg (by decide), if_neg hlt, decide_eq_true hlt]
        exact ⟨rfl, rfl⟩
      have hli : ¬ (x.lk : Int) + 1 < (x.rc.length : Int) := by omega
      rw [hX.2]
      have HX := Lib.hid hX.1
      clear hX
      have HO : Hid (∀ W q, Ep W B bw bm n lv { x with lk := x.lk + 1 } → Chg (EpM B bw bm lv) w W → EpOut w B bw bm n lv (lookE x) (.bool true) (.returned (.bool true)) (((W.drewN q).setCell ⟨B, 4, none⟩ (.int .i64 0)).setCell ⟨B, 0, none⟩ (.int .i64 ((x.e : Int) + 1)))) := Lib.hid fun W q hp hc => by
        rw [HX.out]
        have h1 := (hp.later (by show 1 ≤ x.rc.length; exact hf.pos) (below_draws W q _)).setRow (lk := 0) (e := x.e) (.inr ⟨rfl, rfl, rfl⟩)
        have h2 := h1.setRow (lk := 0) (e := x.e + 1) (.inl ⟨rfl, rfl, rfl⟩)
        rw [show ((x.e + 1 : Nat) : Int) = (x.e : Int) + 1 by omega] at h2
        exact EpOut.look h2 (((hc.trans (M' := fun _ => False) (Chg.of_below (below_draws W q _)) (fun _ e => e.elim)).setCell (.inl rfl) _).setCell (.inl rfl) _) _
      clear hf
      generalize lookE x = le at *
      rcases hq with rfl | ⟨hq0, hq1⟩
      all_goals
        go_enter Try.func48, Try.ntmps48
        go_upto_region 3 with (fail)
        go_quiet (fail)
        go_upto_region 8 with (fail)
        obtain ⟨T1, C1⟩ := HT.out nq
        generalize (w.drewN nq).setCell ⟨B, 4, none⟩ (.int .i64 ((x.lk : Int) + 1)) = W1 at *
        have d4 := T1.c4.1
        have e4 := T1.c4.2
        have d1 := T1.c1
        have d0 := T1.c0.1
        have e0 := T1.c0.2
        have HO2 := Lib.hid (fun q => HO.out W1 q T1 C1)
        simp only at d4 d1 d0
        rw [show ((x.lk + 1 : Nat) : Int) = (x.lk : Int) + 1 by omega] at d4
        clear T1 C1 HO HT c0 c1 c4 f4 r1 r2
        go_quiet (fail)
        go_wp2
        go_ret
        exact HO2.out _
end

end Go.Proofs.Ytdgmcaehadigaaa
