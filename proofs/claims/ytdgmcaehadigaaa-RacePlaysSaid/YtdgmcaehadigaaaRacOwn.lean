/- Deeds, done to a watch beside rows that a law itself writes. -/
import Derived.Test.YtdgmcaehadigaaaRacKeep
import Derived.Test.YtdgmcaehadigaaaRacDeed
namespace Go.Proofs.Ytdgmcaehadigaaa
open Go.RowKit

section
variable {w0 w w' : World} {n m B : Nat} {a a' : AX} {J J' : Nat → Prop}
set_option maxRecDepth 100000 in
set_option maxHeartbeats 4000000 in
theorem do_w3 (h : W3 w0 n B a J w) (hn : n < 90000) (d : D3) (hp : IsI d.2) :
    Calls Try.prog 15 #[.pointer (some ⟨B, 0, none⟩), D3V d] w fun e w' => e = .returned (.bool (doA a d).2) ∧ W3 w0 (n + 3) B (doA a d).1 J w' ∧ Keep J w w' := by
  obtain ⟨⟨kd, wk⟩, p⟩ := d
  unfold D3V
  simp only
  simp only at hp
  have hk0 : Keep J w (w.alloc (.cells #[.int .i64 kd, .int .i64 wk, .int .i64 p] 32)) := Keep.of_below (fun b e => h.lt e) (below_new _ _)
  have HK0 := Lib.hid hk0
  have h1 := h.later (w' := w.alloc (.cells #[.int .i64 kd, .int .i64 wk, .int .i64 p] 32)) (below_new _ _)
  clear h hk0
  cases hW : isW wk
  · have HD : Hid (doA a ((kd, wk), p) = (a, true)) := by rw [Hid, doA, hW]; rfl
    have HL := Lib.hid (Load_not B wk p hW (w.alloc (.cells #[.int .i64 kd, .int .i64 wk, .int .i64 p] 32)))
    have HS := Lib.hid (Store_not B wk p hW (w.alloc (.cells #[.int .i64 kd, .int .i64 wk, .int .i64 p] 32)))
    have HX := Lib.hid (Swap_not B wk p hW (w.alloc (.cells #[.int .i64 kd, .int .i64 wk, .int .i64 p] 32)))
    have HR := Lib.hid (Read_not B wk p hW (w.alloc (.cells #[.int .i64 kd, .int .i64 wk, .int .i64 p] 32)))
    have HWr := Lib.hid (Write_not B wk p hW (w.alloc (.cells #[.int .i64 kd, .int .i64 wk, .int .i64 p] 32)))
    have HF := Lib.hid (And.intro (h1.more (show n ≤ n + 3 by omega)) HK0.out)
    clear h1 hW
    by_cases k0 : kd = 0
    · subst k0
      go_enter Try.func15, Try.ntmps15
      go_wp2_with fail
      refine HL.out.mono ?_
      rintro e w' ⟨rfl, rfl⟩
      go_wp2
      go_ret
      rw [HD.out]
      exact ⟨rfl, HF.out⟩
    by_cases k1 : kd = 1
    · subst k1
      go_enter Try.func15, Try.ntmps15
      go_wp2_with fail
      refine HS.out.mono ?_
      rintro e w' ⟨rfl, rfl⟩
      go_wp2
      go_ret
      rw [HD.out]
      exact ⟨rfl, HF.out⟩
    by_cases k2 : kd = 2
    · subst k2
      go_enter Try.func15, Try.ntmps15
      go_wp2_with fail
      refine HX.out.mono ?_
      rintro e w' ⟨rfl, rfl⟩
      go_wp2
      go_ret
      rw [HD.out]
      exact ⟨rfl, HF.out⟩
    by_cases k3 : kd = 3
    · subst k3
      go_enter Try.func15, Try.ntmps15
      go_wp2_with fail
      refine HR.out.mono ?_
      rintro e w' ⟨rfl, rfl⟩
      go_wp2
      go_ret
      rw [HD.out]
      exact ⟨rfl, HF.out⟩
    by_cases k4 : kd = 4
    · subst k4
      go_enter Try.func15, Try.ntmps15
      go_wp2_with fail
      refine HWr.out.mono ?_
      rintro e w' ⟨rfl, rfl⟩
      go_wp2
      go_ret
      rw [HD.out]
      exact ⟨rfl, HF.out⟩
    go_enter Try.func15, Try.ntmps15
    go_wp2
    go_ret
    rw [HD.out]
    exact ⟨rfl, HF.out⟩
  · have hwb := of_decide_eq_true (show decide (0 ≤ wk ∧ wk ≤ 64) = true from hW)
    obtain ⟨k, rfl⟩ : ∃ k : Nat, wk = (k : Int) := ⟨wk.toNat, by omega⟩
    have hk : k < 65 := by omega
    have HD : Hid (doA a ((kd, (k : Int)), p) = (if kd = 0 then (loadA a k p, true) else if kd = 1 then (storeA a k p, true) else if kd = 2 then (swapA a k p, true)
      else if kd = 3 then (readA a k p, !hidW a k p) else if kd = 4 then (writeA a k p, (clashW a k p).isNone) else (a, true))) := by
      rw [Hid, doA, hW, if_pos rfl]
      simp only [Int.toNat_natCast]
    have H1 := Lib.hid h1
    clear h1 hW hwb
    by_cases k0 : kd = 0
    · subst k0
      have HL := Lib.hid (Load_w3 H1.out k hk p hp)
      go_enter Try.func15, Try.ntmps15
      go_wp2_with fail
      refine HL.out.mono ?_
      rintro e w' ⟨rfl, h2⟩
      have HF := Lib.hid (And.intro (h2.1.more (show n + 1 ≤ n + 3 by omega)) (HK0.out.trans h2.2))
      clear h2
      go_wp2
      go_ret
      rw [HD.out]
      exact ⟨rfl, HF.out⟩
    by_cases k1 : kd = 1
    · subst k1
      have HL := Lib.hid (Store_w3 H1.out (by omega) k hk p hp)
      go_enter Try.func15, Try.ntmps15
      go_wp2_with fail
      refine HL.out.mono ?_
      rintro e w' ⟨rfl, h2⟩
      have HF := Lib.hid (And.intro (h2.1.more (show n + 1 ≤ n + 3 by omega)) (HK0.out.trans h2.2))
      clear h2
      go_wp2
      go_ret
      rw [HD.out]
      exact ⟨rfl, HF.out⟩
    by_cases k2 : kd = 2
    · subst k2
      have HL := Lib.hid (Swap_w3 H1.out (by omega) k hk p hp)
      go_enter Try.func15, Try.ntmps15
      go_wp2_with fail
      refine HL.out.mono ?_
      rintro e w' ⟨rfl, h2⟩
      have HF := Lib.hid (And.intro (h2.1.more (show n + 1 + 1 ≤ n + 3 by omega)) (HK0.out.trans h2.2))
      clear h2
      go_wp2
      go_ret
      rw [HD.out]
      exact ⟨rfl, HF.out⟩
    by_cases k3 : kd = 3
    · subst k3
      have HL := Lib.hid (Read_w3 H1.out (by omega) k hk p hp)
      generalize hidW a k p = t at *
      go_enter Try.func15, Try.ntmps15
      go_wp2_with fail
      refine HL.out.mono ?_
      rintro e w' ⟨rfl, h2⟩
      have HF := Lib.hid (And.intro h2.1 (HK0.out.trans h2.2))
      clear h2
      go_wp2
      go_ret
      rw [HD.out]
      exact ⟨rfl, HF.out⟩
    by_cases k4 : kd = 4
    · subst k4
      have HL := Lib.hid (Write_w3 H1.out (by omega) k hk p hp)
      generalize (clashW a k p).isNone = t at *
      go_enter Try.func15, Try.ntmps15
      go_wp2_with fail
      refine HL.out.mono ?_
      rintro e w' ⟨rfl, h2⟩
      have HF := Lib.hid (And.intro h2.1 (HK0.out.trans h2.2))
      clear h2
      go_wp2
      go_ret
      rw [HD.out]
      exact ⟨rfl, HF.out⟩
    have HF := Lib.hid (And.intro (H1.out.more (show n ≤ n + 3 by omega)) HK0.out)
    have hd2 : Hid (doA a ((kd, (k : Int)), p) = (a, true)) := by rw [Hid, HD.out, if_neg k0, if_neg k1, if_neg k2, if_neg k3, if_neg k4]
    clear HD
    go_enter Try.func15, Try.ntmps15
    go_wp2
    go_ret
    rw [hd2.out]
    exact ⟨rfl, HF.out⟩
end

end Go.Proofs.Ytdgmcaehadigaaa
