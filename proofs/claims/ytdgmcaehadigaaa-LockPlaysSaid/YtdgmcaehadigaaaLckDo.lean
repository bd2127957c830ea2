/- The functions of package lock, by contract. -/
import Derived.Test.YtdgmcaehadigaaaLckMem
import Derived.Test.YtdgmcaehadigaaaOwn
import Derived.Laws.AppendOwnNone
import Derived.Deep.RegionHeld3
import Derived.Deep.DeepCutAuto
import Derived.Handy
namespace Go.Proofs.Ytdgmcaehadigaaa
open Go.RowKit Go.Maps

theorem atO_has {D : DataW Value} {k v : Int} (h : atO D k = some v) : Maps.has D (.int .i64 k) = true := by
  unfold atO at h
  split at h
  · assumption
  · cases h
theorem atO_at {D : DataW Value} {k v : Int} (h : ∀ zd, D.atKey (.int .i64 k) zd = .lit (.int .i64 v)) : atO D k = some v := by
  unfold atO
  rw [if_pos (has_true_of_atKey h), h]
theorem left_two {left : Lit → Bool} {x k : Int} (h : (left (.int .i64 k) && !(Lit.int .i64 k).sameKey (.int .i64 x)) = false) : left (.int .i64 k) = false ∨ k = x := by
  cases hl : left (.int .i64 k)
  · exact .inl rfl
  · right
    rw [hl, Bool.true_and, Bool.not_eq_false'] at h
    have := WideAt.sameKey_eq h
    injection this

theorem above_false {x : LX} {k n w : Int} (hk : hold x.hs k = some w) (hn : n ≤ k) : aboveB x.hs n w = false := by
  cases h : aboveB x.hs n w
  · rfl
  · have := above_lt h (hold_some hk)
    omega
theorem above_true {x : LX} (hx : LFit x) {n w : Int} (h : ∀ k, hold x.hs k = some w → k < n) : aboveB x.hs n w = true := by
  refine List.all_eq_true.2 fun p hp => ?_
  obtain ⟨k, v⟩ := p
  by_cases e : v = w
  · subst e
    have := h k (hx.one _ _ hp)
    simp
    omega
  · simp [e]
theorem isI_mutex {x : LX} (hx : LFit x) {k w : Int} (h : hold x.hs k = some w) : IsI k := by
  have := (hx.hw _ _ (hold_some h)).1
  unfold IsI
  exact WalkArith.wf_i64 (by omega)

theorem above_any {w : World} {B bh bw n : Nat} {x : LX} (h : Tab w B bh bw n x) (hx : LFit x) (k v : Int) :
    Calls Try.prog 89 #[.pointer (some ⟨B, 0, none⟩), .int .i64 k, .int .i64 v] w fun e w' => e = .returned (.bool (aboveB x.hs k v)) ∧ Below w.heap.size w w' := by
  have hc := h.c0
  obtain ⟨D, hown, hat0⟩ := h.mh
  have HD := Lib.hid hat0
  have HX := Lib.hid hx
  clear h hat0 hx
  go_enter Try.func89, Try.ntmps89
  go_wp2_with (first
    | (at_range; refine wpList_range_own _ rfl _ 139 rfl 3 3 law_int under_map _ bh n _ rfl hown ?_; intro w0 hrg0 hg0 hs0)
    | go_in)
  go_frame
  go_loopw [6] (fun _ wr => ∃ (left : Lit → Bool) (cnt : Nat), wr.ranges Try.prog 3 (plainElem Try.prog 3) bh w.heap.size n D left cnt ∧ Below w.heap.size w wr ∧ Hid (∀ j, left (.int .i64 j) = false → hold x.hs j = some v → j < k))
    (fun _ wr => wr.rangeLeft bh w.heap.size)
  case atStart => exact ⟨_, _, hrg0, (Below.refl _ _).grown hg0 (Nat.le_refl _) (fun j hj => by cases hj), fun j hj he => by
    have := atO_has ((HD.out j (isI_mutex HX.out he)).trans he)
    rw [this] at hj
    cases hj⟩
  case round =>
    obtain ⟨left, cnt, hrg, hb, HP⟩ := hrel
    go_wp2_with (first
      | (at_next; refine wpList_next_ranges_ii _ rfl _ rfl 3 3 .i64 .i64 law_int Try.underlying3 Try.underlying3 bh w.heap.size n _ _ _ rfl hrg ?_ ?_)
      | go_in)
    · intro _ hl0
      have HR := Lib.hid (above_true HX.out (n := k) (w := v) fun j hj => HP.out j (hl0 _) hj)
      go_wp2
      go_ret
      exact ⟨ret_bool HR.out.symm, hb⟩
    · intro j c w1 cnt1 hwx hwc hlx hat hrg1 hlt hg1 hs1 hen
      have hb1 : Below w.heap.size w w1 := hb.grown hg1 hb.size (fun j hj => by cases hj; exact Nat.le_refl _)
      have HC := Lib.hid ((HD.out j hwx).symm.trans (atO_at hat))
      clear hs1 hg1
      by_cases e : c = v
      · have HE := Lib.hid e
        by_cases e2 : k ≤ j
        · have HR := Lib.hid (above_false (n := k) (HC.out.trans (congrArg some e)) e2)
          subst e
          go_wp2
          go_ret
          exact ⟨ret_bool HR.out.symm, hb1⟩
        · have HP2 : Hid (∀ i, (left (.int .i64 i) && !(Lit.int .i64 i).sameKey (.int .i64 j)) = false → hold x.hs i = some v → i < k) := Lib.hid fun i hi hh => by
            rcases left_two hi with h1 | rfl
            · exact HP.out i h1 hh
            · omega
          subst e
          go_wp2
          go_roundw
          case rel => exact ⟨_, cnt1, hrg1, hb1, HP2⟩
          case measure => rw [hrg1.left_eq, hrg.left_eq]; exact hlt
      · have HP2 : Hid (∀ i, (left (.int .i64 i) && !(Lit.int .i64 i).sameKey (.int .i64 j)) = false → hold x.hs i = some v → i < k) := Lib.hid fun i hi hh => by
          rcases left_two hi with h1 | rfl
          · exact HP.out i h1 hh
          · rw [HC.out] at hh
            injection hh with hh
            exact absurd hh e
        go_wp2
        go_roundw
        case rel => exact ⟨_, cnt1, hrg1, hb1, HP2⟩
        case measure => rw [hrg1.left_eq, hrg.left_eq]; exact hlt

end Go.Proofs.Ytdgmcaehadigaaa
