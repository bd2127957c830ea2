/- The document's Same and SameHits (of lists that are one), and Rising, of both sides. -/
import Derived.Test.YtajmnhnepoomjaaRankRest
namespace Go.Proofs.Ytajmnhnepoomjaa
open Go.RowKit Go.Shelf Go.Sort Go.Lib

set_option maxHeartbeats 1000000 in
theorem SameS_refl (A B : Option Addr) (zs : List SpotT) (c d : Nat) (w : World) (hA : RdS w w.heap.size A zs) (hB : RdS w w.heap.size B zs) (hl : zs.length ≤ 9223372036854775807) :
    Calls Try.prog 31 #[.slice A zs.length c, .slice B zs.length d] w fun e w' => e = .returned (.bool true) ∧ Drawn w w' := by
  go_enter Try.func31, Try.ntmps31
  go_wp2
  go_loopw [13] (fun i wr => ∃ k : Nat, k ≤ zs.length ∧ i = .int .i64 k ∧ Drawn w wr) (fun i _ => zs.length - (intOf i).toNat)
  case atStart => exact ⟨0, Nat.zero_le _, rfl, Drawn.refl⟩
  case round =>
    obtain ⟨k, hk, rfl, hdr⟩ := hrel
    by_cases hlt : k < zs.length
    · obtain ⟨b, off, rfl, hb, h0, h1, h2⟩ := hA k _ (List.getElem?_eq_getElem hlt)
      obtain ⟨b', off', rfl, hb', k0, k1, k2⟩ := hB k _ (List.getElem?_eq_getElem hlt)
      rw [← hdr.cell] at h0 h1 h2 k0 k1 k2
      generalize zs[k] = z at *
      have hkl : (k : Int) < (zs.length : Int) := by omega
      have hk0 : (0 : Int) ≤ (k : Int) := by omega
      go_wp2
      go_quiet (fail)
      go_wp2
      go_roundw
      case rel => exact ⟨k + 1, by omega, by go_num, hdr.step _⟩
      case measure => simp [intOf]; omega
    · go_wp2
      go_ret
      exact ⟨rfl, hdr⟩

theorem refHit_any (x y : HitT) (W : World) :
    Calls Try.prog 67 #[.agg #[.int .u64 x.1, .int .u64 x.2], .agg #[.int .u64 y.1, .int .u64 y.2]] W fun e w' => e = .returned (.bool (ltH x y)) ∧ Grown W w' := by
  obtain ⟨a, b⟩ := x
  obtain ⟨c, d⟩ := y
  have hl := ltH_iff (a, b) (c, d)
  by_cases h : a = c
  · have hr : ltH (a, b) (c, d) = decide (b < d) := by
      rw [Bool.eq_iff_iff, hl, decide_eq_true_iff]
      simp only
      omega
    rw [hr]; clear hr hl
    subst h
    go_enter Try.func67, Try.ntmps67
    go_wp2
    go_ret
    exact ⟨rfl, Grown.two _ _ _⟩
  · have hr : ltH (a, b) (c, d) = decide (a < c) := by
      rw [Bool.eq_iff_iff, hl, decide_eq_true_iff]
      simp only
      omega
    have hne : (a != c) = true := by simpa using h
    rw [hr]; clear hr hl h
    go_enter Try.func67, Try.ntmps67
    go_wp2
    go_ret
    exact ⟨rfl, Grown.two _ _ _⟩
theorem refSpot_any (x y : SpotT) (W : World) :
    Calls Try.prog 75 #[.agg #[.int .u64 x.1.1, .int .u64 x.1.2, .int .i64 x.2], .agg #[.int .u64 y.1.1, .int .u64 y.1.2, .int .i64 y.2]] W fun e w' => e = .returned (.bool (ltS x y)) ∧ Grown W w' := by
  obtain ⟨⟨a, b⟩, s⟩ := x
  obtain ⟨⟨c, d⟩, t⟩ := y
  have hl := ltS_iff ((a, b), s) ((c, d), t)
  by_cases h : a = c ∧ b = d
  · have hr : ltS ((a, b), s) ((c, d), t) = decide (s < t) := by
      rw [Bool.eq_iff_iff, hl, decide_eq_true_iff]
      simp only
      omega
    rw [hr]; clear hr hl
    obtain ⟨h1, h2⟩ := h
    subst h1 h2
    go_enter Try.func75, Try.ntmps75
    go_wp2
    go_ret
    exact ⟨rfl, Grown.two _ _ _⟩
  · have hr : ltS ((a, b), s) ((c, d), t) = ltH (a, b) (c, d) := by
      rw [Bool.eq_iff_iff, hl, ltH_iff]
      simp only
      omega
    have hcase : (¬ a = c) ∨ (a = c ∧ ¬ b = d) := by omega
    rw [hr]; clear hr hl h
    rcases hcase with hne | ⟨rfl, hne⟩
    all_goals
      go_enter Try.func75, Try.ntmps75
      go_wp2_with (go_at_call 67; refine (refHit_any (_, _) (_, _) _).mono ?_; rintro e w' ⟨rfl, hg⟩)
      go_ret
      exact ⟨rfl, (Grown.two _ _ _).trans hg⟩

end Go.Proofs.Ytajmnhnepoomjaa
