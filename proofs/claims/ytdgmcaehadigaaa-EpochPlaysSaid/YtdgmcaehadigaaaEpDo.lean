/- epoch's has, Load, Pin, Unpin, Epoch, Rec, Look, by contract. -/
import Derived.Test.YtdgmcaehadigaaaEpMem
import Derived.Deep.RegionHeld3
import Derived.Deep.DeepCutAuto
import Derived.Handy
namespace Go.Proofs.Ytdgmcaehadigaaa
open Go.RowKit

/-- A nil clock (as one without workers, of epoch 0), or one that lies in memory. -/
def nilE : EX := ⟨0, [], [], [], 0⟩
/-- What a change leaves of a clock. -/
def EpOut (w : World) (B bw bm n : Nat) (lv : Value) (x : EX) (r : Value) (e : Ending) (w' : World) : Prop :=
  e = .returned r ∧ ∃ lv', Ep w' B bw bm n lv' x ∧ Chg (EpM B bw bm lv) w w' ∧ ∀ g, lv'.ownBlock = some g → lv.ownBlock = some g ∨ w.heap.size ≤ g
section
variable {w : World} {B bw bm n m : Nat} {lv : Value} {x : EX}
theorem EpOut.same (h : Ep w B bw bm n lv x) (hn : n ≤ m) (r : Value) : EpOut w B bw bm m lv x r (.returned r) w := ⟨rfl, lv, h.more hn, Chg.refl, fun _ e => .inl e⟩

theorem ehas_any (h : Ep w B bw bm n lv x) (v : Int) :
    Calls Try.prog 93 #[.pointer (some ⟨B, 0, none⟩), .int .i64 v] w fun e w' => e = .returned (.bool (hasE x v)) ∧ w = w' := by
  have c1 := h.c1
  clear h
  by_cases h1 : 0 ≤ v
  · by_cases h2 : v < (x.rc.length : Int)
    · have HR := Lib.hid (show hasE x v = true from decide_eq_true ⟨h1, h2⟩)
      go_enter Try.func93, Try.ntmps93
      go_wp2
      go_ret
      exact ⟨ret_bool HR.out.symm, rfl⟩
    · have HR := Lib.hid (show hasE x v = false from decide_eq_false (fun h => h2 h.2))
      go_enter Try.func93, Try.ntmps93
      go_wp2
      go_ret
      exact ⟨ret_bool HR.out.symm, rfl⟩
  · have HR := Lib.hid (show hasE x v = false from decide_eq_false (fun h => h1 h.1))
    go_enter Try.func93, Try.ntmps93
    go_wp2
    go_ret
    exact ⟨ret_bool HR.out.symm, rfl⟩
theorem ehas_nil (v : Int) (w : World) : Calls Try.prog 93 #[.pointer none, .int .i64 v] w fun e w' => e = .returned (.bool false) ∧ w = w' := by
  go_enter Try.func93, Try.ntmps93
  go_wp2
  go_ret
  exact ⟨rfl, rfl⟩
theorem hasE_nat {v : Int} (h : hasE x v = true) : ∃ k : Nat, v = (k : Int) ∧ k < x.rc.length := by
  have := of_decide_eq_true h
  exact ⟨v.toNat, by omega, by omega⟩

set_option maxRecDepth 100000 in
set_option maxHeartbeats 2000000 in
theorem Unpin_any (h : Ep w B bw bm n lv x) (hf : EFit n x) (v : Int) :
    Calls Try.prog 44 #[.pointer (some ⟨B, 0, none⟩), .int .i64 v] w (EpOut w B bw bm n lv (unpinX x v) (.bool (unpinB x v))) := by
  have HH := Lib.hid (ehas_any h v)
  cases hh : hasE x v with
  | false =>
    have hb : unpinB x v = false := by unfold unpinB; rw [hh]; rfl
    have HO := Lib.hid (EpOut.same h (Nat.le_refl n) (.bool (unpinB x v)))
    rw [hb] at HO
    have HX := Lib.hid (show unpinX x v = x by unfold unpinX; rw [hb]; rfl)
    rw [HX.out, hb]
    rw [hh] at HH
    clear h hf hb hh
    go_enter Try.func44, Try.ntmps44
    go_wp2_with fail
    refine HH.out.mono ?_
    rintro e w1 ⟨rfl, rfl⟩
    go_wp2
    go_ret
    exact HO.out
  | true =>
    obtain ⟨k, rfl, hk⟩ := hasE_nat hh
    obtain ⟨_, r1, r2⟩ := h.wk k hk
    have c1 := h.c1
    rw [hh] at HH
    have hk0 : (0 : Int) ≤ (k : Int) := by omega
    have hk1 : (k : Int) < (x.rc.length : Int) := by omega
    by_cases hz : x.rc.getD k 0 = 0
    · have hb : unpinB x (k : Int) = false := by unfold unpinB; rw [hh, Int.toNat_natCast, hz]; rfl
      have HO := Lib.hid (EpOut.same h (Nat.le_refl n) (.bool (unpinB x k)))
      rw [hb] at HO
      have HX := Lib.hid (show unpinX x k = x by unfold unpinX; rw [hb]; rfl)
      rw [HX.out, hb]
      rw [hz] at r1
      clear h hf hb hh hz
      go_enter Try.func44, Try.ntmps44
      go_wp2_with fail
      refine HH.out.mono ?_
      rintro e w1 ⟨rfl, rfl⟩
      go_wp2
      go_ret
      exact HO.out
    · have hb : unpinB x (k : Int) = true := by unfold unpinB; rw [hh, Int.toNat_natCast, Bool.true_and, beq_eq_false_iff_ne.2 hz]; rfl
      have HX : unpinX x k = { x with rc := x.rc.set k 0 } := by unfold unpinX; rw [if_pos hb, Int.toNat_natCast]; rfl
      have HO : Hid (EpOut w B bw bm n lv (unpinX x k) (.bool true) (.returned (.bool true)) (w.setCell ⟨bw, k * 2 + 1, none⟩ (.int .i64 0))) := Lib.hid ⟨rfl, lv, by
        rw [HX]
        exact h.setWork hk hf.len (v := 0) (.inr ⟨rfl, rfl, rfl⟩), Chg.refl.setCell (.inr (.inl rfl)) _, fun _ e => .inl e⟩
      rw [hb]
      generalize x.rc.getD k 0 = r at *
      have hr0 : ¬ (r : Int) = 0 := by omega
      clear h hf hb hh HX
      go_enter Try.func44, Try.ntmps44
      go_wp2_with fail
      refine HH.out.mono ?_
      rintro e w1 ⟨rfl, rfl⟩
      go_wp2
      go_ret
      exact HO.out

set_option maxRecDepth 100000 in
set_option maxHeartbeats 2000000 in
theorem ELoad_any (h : Ep w B bw bm n lv x) (hf : EFit n x) (v : Int) :
    Calls Try.prog 40 #[.pointer (some ⟨B, 0, none⟩), .int .i64 v] w (EpOut w B bw bm n lv (loadX x v) (.int .i64 (loadV x v : Nat))) := by
  have HH := Lib.hid (ehas_any h v)
  cases hh : hasE x v with
  | false =>
    have HX : loadX x v = x ∧ loadV x v = 0 := by unfold loadX loadV; rw [hh]; exact ⟨rfl, rfl⟩
    have HO := Lib.hid (EpOut.same h (Nat.le_refl n) (.int .i64 ((0 : Nat) : Int)))
    rw [HX.1, HX.2]
    rw [hh] at HH
    clear h hf hh HX
    go_enter Try.func40, Try.ntmps40
    go_wp2_with fail
    refine HH.out.mono ?_
    rintro e w1 ⟨rfl, rfl⟩
    go_wp2
    go_ret
    exact HO.out
  | true =>
    obtain ⟨k, rfl, hk⟩ := hasE_nat hh
    obtain ⟨⟨r1, r2⟩, _⟩ := h.wk k hk
    have c1 := h.c1
    have c0 := h.c0.1
    rw [hh] at HH
    have hk0 : (0 : Int) ≤ (k : Int) := by omega
    have hk1 : (k : Int) < (x.rc.length : Int) := by omega
    have HX : loadX x k = { x with ld := x.ld.set k x.e } ∧ loadV x k = x.e := by unfold loadX loadV; rw [hh, if_pos rfl, if_pos rfl, Int.toNat_natCast]; exact ⟨rfl, rfl⟩
    have c0' : (w.setCell ⟨bw, k * 2, none⟩ (.int .i64 (x.e : Int))).drew.cell? ⟨B, 0, none⟩ = some (.int .i64 (x.e : Int)) := (World.cell?_of_block (w := w) (Below.heap_setCell _ _ _ _ (fun e => h.nw e.symm))).trans c0
    have HO : Hid (∀ W, (W = w ∨ W = w.drew) → EpOut w B bw bm n lv (loadX x k) (.int .i64 (x.e : Nat)) (.returned (.int .i64 (x.e : Nat))) (W.setCell ⟨bw, k * 2, none⟩ (.int .i64 (x.e : Int)))) := Lib.hid fun W hW => ⟨rfl, lv, by
      rw [HX.1]
      rcases hW with rfl | rfl
      · exact h.setWork hk hf.len (v := x.e) (.inl ⟨rfl, rfl, rfl⟩)
      · exact (h.later hf.pos ((Below.refl _ w).drew)).setWork hk hf.len (v := x.e) (.inl ⟨rfl, rfl, rfl⟩), by
      rcases hW with rfl | rfl
      · exact Chg.refl.setCell (.inr (.inl rfl)) _
      · exact (Chg.refl.drew).setCell (.inr (.inl rfl)) _, fun _ e => .inl e⟩
    rw [HX.2]
    clear h hf hh HX
    go_enter Try.func40, Try.ntmps40
    go_wp2_with fail
    refine HH.out.mono ?_
    rintro e w1 ⟨rfl, rfl⟩
    go_upto_region 3 with (fail)
    go_region
    all_goals
      go_wp2
      go_ret
      first
        | exact HO.out _ (.inl rfl)
        | exact HO.out _ (.inr rfl)

set_option maxRecDepth 100000 in
set_option maxHeartbeats 2000000 in
theorem Pin_any (h : Ep w B bw bm n lv x) (hf : EFit n x) (hn : n < 100000) (v : Int) :
    Calls Try.prog 42 #[.pointer (some ⟨B, 0, none⟩), .int .i64 v] w (EpOut w B bw bm n lv (pinX x v) (.bool (pinB x v))) := by
  have HH := Lib.hid (ehas_any h v)
  cases hh : hasE x v with
  | false =>
    have hb : pinB x v = false := by unfold pinB; rw [hh]; rfl
    have HO := Lib.hid (EpOut.same h (Nat.le_refl n) (.bool (pinB x v)))
    rw [hb] at HO
    have HX := Lib.hid (show pinX x v = x by unfold pinX; rw [hb]; rfl)
    rw [HX.out, hb]
    rw [hh] at HH
    clear h hf hb hh
    go_enter Try.func42, Try.ntmps42
    go_wp2_with fail
    refine HH.out.mono ?_
    rintro e w1 ⟨rfl, rfl⟩
    go_wp2
    go_ret
    exact HO.out
  | true =>
    obtain ⟨k, rfl, hk⟩ := hasE_nat hh
    obtain ⟨⟨l1, l2⟩, r1, r2⟩ := h.wk k hk
    have c1 := h.c1
    rw [hh] at HH
    have hk0 : (0 : Int) ≤ (k : Int) := by omega
    have hk1 : (k : Int) < (x.rc.length : Int) := by omega
    by_cases hz : x.rc.getD k 0 = 0
    · have hb : pinB x (k : Int) = true := by unfold pinB; rw [hh, Int.toNat_natCast, hz]; rfl
      have HX : pinX x k = { x with rc := x.rc.set k (x.ld.getD k 0 + 1) } := by unfold pinX; rw [if_pos hb, Int.toNat_natCast]; rfl
      have HO : Hid (∀ W, (W = w ∨ W = w.drew) → EpOut w B bw bm n lv (pinX x k) (.bool true) (.returned (.bool true)) (W.setCell ⟨bw, k * 2 + 1, none⟩ (.int .i64 ((x.ld.getD k 0 + 1 : Nat) : Int)))) := Lib.hid fun W hW => ⟨rfl, lv, by
        rw [HX]
        rcases hW with rfl | rfl
        · exact h.setWork hk hf.len (.inr ⟨rfl, rfl, rfl⟩)
        · exact (h.later hf.pos ((Below.refl _ w).drew)).setWork hk hf.len (.inr ⟨rfl, rfl, rfl⟩), by
        rcases hW with rfl | rfl
        · exact Chg.refl.setCell (.inr (.inl rfl)) _
        · exact (Chg.refl.drew).setCell (.inr (.inl rfl)) _, fun _ e => .inl e⟩
      rw [hb]
      rw [hz] at r1
      have hle := hf.ld k
      have hen := hf.en
      generalize x.ld.getD k 0 = r at *
      have hr : (r : Int) < 100000 := by omega
      rw [show ((r + 1 : Nat) : Int) = (r : Int) + 1 by omega] at HO
      clear h hf hb hh HX hz hle hen
      go_enter Try.func42, Try.ntmps42
      go_wp2_with fail
      refine HH.out.mono ?_
      rintro e w1 ⟨rfl, rfl⟩
      go_upto_region 3 with (fail)
      go_region
      all_goals
        go_wp2
        go_ret
        first
          | exact HO.out _ (.inl rfl)
          | exact HO.out _ (.inr rfl)
    · have hb : pinB x (k : Int) = false := by unfold pinB; rw [hh, Int.toNat_natCast, Bool.true_and, beq_eq_false_iff_ne.2 hz]
      have HO := Lib.hid (EpOut.same h (Nat.le_refl n) (.bool (pinB x k)))
      rw [hb] at HO
      have HX := Lib.hid (show pinX x k = x by unfold pinX; rw [hb]; rfl)
      rw [HX.out, hb]
      generalize x.rc.getD k 0 = r at *
      have hr0 : ¬ (r : Int) = 0 := by omega
      clear h hf hb hh hz
      go_enter Try.func42, Try.ntmps42
      go_wp2_with fail
      refine HH.out.mono ?_
      rintro e w1 ⟨rfl, rfl⟩
      go_wp2
      go_ret
      exact HO.out

theorem Epoch_any (h : Ep w B bw bm n lv x) :
    Calls Try.prog 52 #[.pointer (some ⟨B, 0, none⟩)] w fun e w' => e = .returned (.int .i64 (x.e : Nat)) ∧ w = w' := by
  have c0 := h.c0.1
  clear h
  go_enter Try.func52, Try.ntmps52
  go_wp2
  go_ret
  exact ⟨rfl, rfl⟩
theorem Rec_any (h : Ep w B bw bm n lv x) (v : Int) :
    Calls Try.prog 53 #[.pointer (some ⟨B, 0, none⟩), .int .i64 v] w fun e w' => e = .returned (.int .i64 (recV x v : Nat)) ∧ w = w' := by
  have HH := Lib.hid (ehas_any h v)
  cases hh : hasE x v with
  | false =>
    have HX : recV x v = 0 := by unfold recV; rw [hh]; rfl
    rw [HX]
    rw [hh] at HH
    clear h hh HX
    go_enter Try.func53, Try.ntmps53
    go_wp2_with fail
    refine HH.out.mono ?_
    rintro e w1 ⟨rfl, rfl⟩
    go_wp2
    go_ret
    exact ⟨rfl, rfl⟩
  | true =>
    obtain ⟨k, rfl, hk⟩ := hasE_nat hh
    obtain ⟨_, r1, r2⟩ := h.wk k hk
    have HX : recV x k = x.rc.getD k 0 := by unfold recV; rw [if_pos hh, Int.toNat_natCast]
    rw [HX]
    have c1 := h.c1
    rw [hh] at HH
    have hk0 : (0 : Int) ≤ (k : Int) := by omega
    have hk1 : (k : Int) < (x.rc.length : Int) := by omega
    generalize x.rc.getD k 0 = r at *
    clear h hh HX
    go_enter Try.func53, Try.ntmps53
    go_wp2_with fail
    refine HH.out.mono ?_
    rintro e w1 ⟨rfl, rfl⟩
    go_wp2
    go_ret
    exact ⟨rfl, rfl⟩
end

end Go.Proofs.Ytdgmcaehadigaaa
