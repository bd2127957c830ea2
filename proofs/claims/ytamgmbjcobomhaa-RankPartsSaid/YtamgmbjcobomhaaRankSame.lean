/- The document's Same and SameHits (of lists that are one), and Rising, of both sides. -/
import Derived.Test.YtamgmbjcobomhaaRankRest
namespace Go.Proofs.Ytamgmbjcobomhaa
open Go.RowKit Go.Shelf Go.Sort Go.Lib

set_option maxHeartbeats 1000000 in
theorem SameS_refl (A B : Option Addr) (zs : List SpotT) (c d : Nat) (w : World) (hA : RdS w w.heap.size A zs) (hB : RdS w w.heap.size B zs) (hl : zs.length ≤ 9223372036854775807) :
    Calls Try.prog 13 #[.slice A zs.length c, .slice B zs.length d] w fun e w' => e = .returned (.bool true) ∧ Drawn w w' := by
  go_enter Try.func13, Try.ntmps13
  go_wp2
  go_loopw [13] (fun i wr => ∃ k : Nat, k ≤ zs.length ∧ i = .int .i64 k ∧ Drawn w wr) (fun i _ => zs.length - (intOf i).toNat)
  case atStart => exact ⟨0, Nat.zero_le _, rfl, Drawn.refl⟩
  case round =>
    obtain ⟨k, hk, rfl, hdr⟩ := hrel
    by_cases hlt : k < zs.length
    · obtain ⟨b, off, rfl, hb, h0, h1, h2⟩ := hA k _ (List.getElem?_eq_getElem hlt)
      obtain ⟨b', off', rfl, hb', k0, k1, k2⟩ := hB k _ (List.getElem?_eq_getElem hlt)
      rw [← hdr.cell] at h0 h1 h2 k0 k1 k2
      generalize zs[k] = z at *
      have hkl : (k : Int) < (zs.length : Int) := by omega
      have hk0 : (0 : Int) ≤ (k : Int) := by omega
      go_wp2
      go_quiet (fail)
      go_wp2
      go_roundw
      case rel => exact ⟨k + 1, by omega, by go_num, hdr.step _⟩
      case measure => simp [intOf]; omega
    · go_wp2
      go_ret
      exact ⟨rfl, hdr⟩

set_option maxHeartbeats 1000000 in
theorem SameH_refl (A B : Option Addr) (zs : List HitT) (c d : Nat) (w : World) (hA : RdH w w.heap.size A zs) (hB : RdH w w.heap.size B zs) (hl : zs.length ≤ 9223372036854775807) :
    Calls Try.prog 18 #[.slice A zs.length c, .slice B zs.length d] w fun e w' => e = .returned (.bool true) ∧ Drawn w w' := by
  go_enter Try.func18, Try.ntmps18
  go_wp2
  go_loopw [13] (fun i wr => ∃ k : Nat, k ≤ zs.length ∧ i = .int .i64 k ∧ Drawn w wr) (fun i _ => zs.length - (intOf i).toNat)
  case atStart => exact ⟨0, Nat.zero_le _, rfl, Drawn.refl⟩
  case round =>
    obtain ⟨k, hk, rfl, hdr⟩ := hrel
    by_cases hlt : k < zs.length
    · obtain ⟨b, off, rfl, hb, h0, h1⟩ := hA k _ (List.getElem?_eq_getElem hlt)
      obtain ⟨b', off', rfl, hb', k0, k1⟩ := hB k _ (List.getElem?_eq_getElem hlt)
      rw [← hdr.cell] at h0 h1 k0 k1
      generalize zs[k] = z at *
      have hkl : (k : Int) < (zs.length : Int) := by omega
      have hk0 : (0 : Int) ≤ (k : Int) := by omega
      go_wp2
      go_quiet (fail)
      go_wp2
      go_roundw
      case rel => exact ⟨k + 1, by omega, by go_num, hdr.step _⟩
      case measure => simp [intOf]; omega
    · go_wp2
      go_ret
      exact ⟨rfl, hdr⟩

/-- Is each hit ahead of the next, from place k on? -/
def riseFrom (zs : List HitT) : Nat → Nat → Bool
  | 0, _ => true
  | m + 1, k => ltH (zs.getD k (0, 0)) (zs.getD (k + 1) (0, 0)) && riseFrom zs m (k + 1)
def riseH (zs : List HitT) : Bool := riseFrom zs (zs.length - 1) 0
theorem rise_step (zs : List HitT) (k : Nat) (h : k + 1 < zs.length) : riseFrom zs (zs.length - 1 - k) k = (ltH zs[k] zs[k + 1] && riseFrom zs (zs.length - 1 - (k + 1)) (k + 1)) := by
  have e : zs.length - 1 - k = (zs.length - 1 - (k + 1)) + 1 := by omega
  rw [e, riseFrom, List.getD_eq_getElem?_getD, List.getD_eq_getElem?_getD, List.getElem?_eq_getElem h, List.getElem?_eq_getElem (by omega : k < zs.length)]
  rfl
theorem rise_end (zs : List HitT) (k : Nat) (h : zs.length ≤ k + 1) : riseFrom zs (zs.length - 1 - k) k = true := by
  rw [show zs.length - 1 - k = 0 by omega]
  rfl

set_option maxHeartbeats 2000000 in
theorem Rising_any (A : Option Addr) (zs : List HitT) (c : Nat) (w : World) (hA : RdH w w.heap.size A zs) (hl : zs.length ≤ 1000000) :
    Calls Try.prog 21 #[.slice A zs.length c] w fun e w' => e = .returned (.bool (riseH zs)) ∧ Grown w w' := by
  have mixed : Try.prog.follows .mixedOrders = true := by kernel_rfl
  go_enter Try.func21, Try.ntmps21
  go_wp2
  go_loopw [3] (fun i wr => ∃ k : Nat, i = .int .i64 (k + 1 : Nat) ∧ k ≤ zs.length ∧ Grown w wr ∧ Hid (riseH zs = riseFrom zs (zs.length - 1 - k) k)) (fun i _ => zs.length + 1 - (intOf i).toNat)
  case atStart => exact ⟨0, rfl, Nat.zero_le _, ⟨0, #[], by rw [grow_empty]; rfl⟩, rfl⟩
  case round =>
    obtain ⟨k, rfl, hk, hgr, HR⟩ := hrel
    by_cases hlt : k + 1 < zs.length
    · obtain ⟨b, off, rfl, hb, h0, h1⟩ := hA.below hgr.below k _ (List.getElem?_eq_getElem (by omega : k < zs.length))
      obtain ⟨b', off', he, hb', k0, k1⟩ := hA.below hgr.below (k + 1) _ (List.getElem?_eq_getElem hlt)
      injection he with he
      injection he with e1 e2
      subst e1 e2
      have HS := Lib.hid (rise_step zs k hlt)
      generalize zs[k + 1] = y at *
      generalize zs[k]'(by omega) = x at *
      obtain ⟨xa, xb⟩ := x
      obtain ⟨ya, yb⟩ := y
      have hbw : b < wr.heap.size := Nat.lt_of_lt_of_le hb hgr.below.size
      have g0 := fun n os => cell_grown (n := n) (os := os) (a := ⟨b, off + k * 2, none⟩) hbw h0
      have g1 := fun n os => cell_grown (n := n) (os := os) (a := ⟨b, off + k * 2 + 1, none⟩) hbw h1
      have g2 := fun n os => cell_grown (n := n) (os := os) (a := ⟨b, off + (k + 1) * 2, none⟩) hbw k0
      have g3 := fun n os => cell_grown (n := n) (os := os) (a := ⟨b, off + (k + 1) * 2 + 1, none⟩) hbw k1
      have hkl : ((k + 1 : Nat) : Int) < (zs.length : Int) := by omega
      have hkl0 : (k : Int) < (zs.length : Int) := by omega
      have hk0 : (0 : Int) ≤ (k : Int) := by omega
      have hk1 : (0 : Int) ≤ ((k + 1 : Nat) : Int) := by omega
      have e2 : ((k : Int)).toNat = k := Int.toNat_natCast k
      have e3 : (((k + 1 : Nat) : Int)).toNat = k + 1 := Int.toNat_natCast _
      have e1 : IntKind.i64.wrap (((k + 1 : Nat) : Int) - 1) = (k : Int) := by
        rw [IntWalk.i64_in _ (by omega)]
        omega
      have e1b : IntKind.i64.wrap (k : Int) = (k : Int) := IntWalk.i64_in _ (by omega)
      have e3b : ((k : Int) + 1).toNat = k + 1 := by omega
      have hklb : (k : Int) + 1 < (zs.length : Int) := by omega
      have hk1b : (0 : Int) ≤ (k : Int) + 1 := by omega
      clear h0 h1 k0 k1
      go_wp2
      go_quiet_grown ((go_at_call 24; exact Calls.grown_of (Hit_any (_, _) (_, _) _)))
      have HGr : Grown w (grow (wr.drewN nq) osq) := hgr.trans ⟨nq, osq, rfl⟩
      clear g0 g1 g2 g3 e1 e1b e2 e3 e3b
      generalize ltH (xa, xb) (ya, yb) = t at *
      cases t
      · go_wp2
        go_ret
        exact ⟨by rw [HR.out, HS.out]; rfl, HGr⟩
      · go_wp2
        go_roundw
        case rel => exact ⟨k + 1, by go_num, by omega, HGr, by rw [Hid, HR.out, HS.out]; rfl⟩
        case measure => simp [intOf]; omega
    · have HE := Lib.hid (rise_end zs k (by omega))
      go_wp2
      go_ret
      exact ⟨by rw [HR.out, HE.out]; rfl, hgr⟩

theorem refHit_any (x y : HitT) (W : World) :
    Calls Try.prog 70 #[.agg #[.int .u64 x.1, .int .u64 x.2], .agg #[.int .u64 y.1, .int .u64 y.2]] W fun e w' => e = .returned (.bool (ltH x y)) ∧ Grown W w' := by
  obtain ⟨a, b⟩ := x
  obtain ⟨c, d⟩ := y
  have hl := ltH_iff (a, b) (c, d)
  by_cases h : a = c
  · have hr : ltH (a, b) (c, d) = decide (b < d) := by
      rw [Bool.eq_iff_iff, hl, decide_eq_true_iff]
      simp only
      omega
    rw [hr]; clear hr hl
    subst h
    go_enter Try.func70, Try.ntmps70
    go_wp2
    go_ret
    exact ⟨rfl, Grown.two _ _ _⟩
  · have hr : ltH (a, b) (c, d) = decide (a < c) := by
      rw [Bool.eq_iff_iff, hl, decide_eq_true_iff]
      simp only
      omega
    have hne : (a != c) = true := by simpa using h
    rw [hr]; clear hr hl h
    go_enter Try.func70, Try.ntmps70
    go_wp2
    go_ret
    exact ⟨rfl, Grown.two _ _ _⟩
theorem refSpot_any (x y : SpotT) (W : World) :
    Calls Try.prog 65 #[.agg #[.int .u64 x.1.1, .int .u64 x.1.2, .int .i64 x.2], .agg #[.int .u64 y.1.1, .int .u64 y.1.2, .int .i64 y.2]] W fun e w' => e = .returned (.bool (ltS x y)) ∧ Grown W w' := by
  obtain ⟨⟨a, b⟩, s⟩ := x
  obtain ⟨⟨c, d⟩, t⟩ := y
  have hl := ltS_iff ((a, b), s) ((c, d), t)
  by_cases h : a = c ∧ b = d
  · have hr : ltS ((a, b), s) ((c, d), t) = decide (s < t) := by
      rw [Bool.eq_iff_iff, hl, decide_eq_true_iff]
      simp only
      omega
    rw [hr]; clear hr hl
    obtain ⟨h1, h2⟩ := h
    subst h1 h2
    go_enter Try.func65, Try.ntmps65
    go_wp2
    go_ret
    exact ⟨rfl, Grown.two _ _ _⟩
  · have hr : ltS ((a, b), s) ((c, d), t) = ltH (a, b) (c, d) := by
      rw [Bool.eq_iff_iff, hl, ltH_iff]
      simp only
      omega
    have hcase : (¬ a = c) ∨ (a = c ∧ ¬ b = d) := by omega
    rw [hr]; clear hr hl h
    rcases hcase with hne | ⟨rfl, hne⟩
    all_goals
      go_enter Try.func65, Try.ntmps65
      go_wp2_with (go_at_call 70; refine (refHit_any (_, _) (_, _) _).mono ?_; rintro e w' ⟨rfl, hg⟩)
      go_ret
      exact ⟨rfl, (Grown.two _ _ _).trans hg⟩

set_option maxHeartbeats 2000000 in
theorem refRising_any (A : Option Addr) (zs : List HitT) (c : Nat) (w : World) (hA : RdH w w.heap.size A zs) (hl : zs.length ≤ 1000000) :
    Calls Try.prog 22 #[.slice A zs.length c] w fun e w' => e = .returned (.bool (riseH zs)) ∧ Grown w w' := by
  have mixed : Try.prog.follows .mixedOrders = true := by kernel_rfl
  go_enter Try.func22, Try.ntmps22
  go_wp2
  go_loopw [3] (fun i wr => ∃ k : Nat, i = .int .i64 (k + 1 : Nat) ∧ k ≤ zs.length ∧ Grown w wr ∧ Hid (riseH zs = riseFrom zs (zs.length - 1 - k) k)) (fun i _ => zs.length + 1 - (intOf i).toNat)
  case atStart => exact ⟨0, rfl, Nat.zero_le _, ⟨0, #[], by rw [grow_empty]; rfl⟩, rfl⟩
  case round =>
    obtain ⟨k, rfl, hk, hgr, HR⟩ := hrel
    by_cases hlt : k + 1 < zs.length
    · obtain ⟨b, off, rfl, hb, h0, h1⟩ := hA.below hgr.below k _ (List.getElem?_eq_getElem (by omega : k < zs.length))
      obtain ⟨b', off', he, hb', k0, k1⟩ := hA.below hgr.below (k + 1) _ (List.getElem?_eq_getElem hlt)
      injection he with he
      injection he with e1 e2
      subst e1 e2
      have HS := Lib.hid (rise_step zs k hlt)
      generalize zs[k + 1] = y at *
      generalize zs[k]'(by omega) = x at *
      obtain ⟨xa, xb⟩ := x
      obtain ⟨ya, yb⟩ := y
      have hbw : b < wr.heap.size := Nat.lt_of_lt_of_le hb hgr.below.size
      have g0 := fun n os => cell_grown (n := n) (os := os) (a := ⟨b, off + k * 2, none⟩) hbw h0
      have g1 := fun n os => cell_grown (n := n) (os := os) (a := ⟨b, off + k * 2 + 1, none⟩) hbw h1
      have g2 := fun n os => cell_grown (n := n) (os := os) (a := ⟨b, off + (k + 1) * 2, none⟩) hbw k0
      have g3 := fun n os => cell_grown (n := n) (os := os) (a := ⟨b, off + (k + 1) * 2 + 1, none⟩) hbw k1
      have hkl : ((k + 1 : Nat) : Int) < (zs.length : Int) := by omega
      have hkl0 : (k : Int) < (zs.length : Int) := by omega
      have hk0 : (0 : Int) ≤ (k : Int) := by omega
      have hk1 : (0 : Int) ≤ ((k + 1 : Nat) : Int) := by omega
      have e2 : ((k : Int)).toNat = k := Int.toNat_natCast k
      have e3 : (((k + 1 : Nat) : Int)).toNat = k + 1 := Int.toNat_natCast _
      have e1 : IntKind.i64.wrap (((k + 1 : Nat) : Int) - 1) = (k : Int) := by
        rw [IntWalk.i64_in _ (by omega)]
        omega
      have e1b : IntKind.i64.wrap (k : Int) = (k : Int) := IntWalk.i64_in _ (by omega)
      have e3b : ((k : Int) + 1).toNat = k + 1 := by omega
      have hklb : (k : Int) + 1 < (zs.length : Int) := by omega
      have hk1b : (0 : Int) ≤ (k : Int) + 1 := by omega
      clear h0 h1 k0 k1
      go_wp2
      go_quiet_grown ((go_at_call 70; exact Calls.grown_of (refHit_any (_, _) (_, _) _)))
      have HGr : Grown w (grow (wr.drewN nq) osq) := hgr.trans ⟨nq, osq, rfl⟩
      clear g0 g1 g2 g3 e1 e1b e2 e3 e3b
      generalize ltH (xa, xb) (ya, yb) = t at *
      cases t
      · go_wp2
        go_ret
        exact ⟨by rw [HR.out, HS.out]; rfl, HGr⟩
      · go_wp2
        go_roundw
        case rel => exact ⟨k + 1, by go_num, by omega, HGr, by rw [Hid, HR.out, HS.out]; rfl⟩
        case measure => simp [intOf]; omega
    · have HE := Lib.hid (rise_end zs k (by omega))
      go_wp2
      go_ret
      exact ⟨by rw [HR.out, HE.out]; rfl, hgr⟩

end Go.Proofs.Ytamgmbjcobomhaa
