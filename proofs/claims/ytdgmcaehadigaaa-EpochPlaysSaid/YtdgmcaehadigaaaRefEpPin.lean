/- The document's epoch clock: Pin and Unpin. -/
import Derived.Test.YtdgmcaehadigaaaRefEp
namespace Go.Proofs.Ytdgmcaehadigaaa
open Go.RowKit

set_option maxRecDepth 100000 in
set_option maxHeartbeats 4000000 in
theorem RPin_not {w : World} {Z : Nat → Prop} {V : Value} {x : EX} (h : RC w Z V x) (v : Int) (hv : pinB x v = false) :
    Calls Try.prog 41 #[V, .int .i64 v] w fun r w' => r = .returned (.tuple #[V, .bool false]) ∧ Below w.heap.size w w' := by
  obtain ⟨A1, c1, A2, c2, A3, c3, rfl, _, r2, _⟩ := h
  have HH := Lib.hid (fun W => RHas_any (x.e : Int) A1 x.ld.length c1 A2 x.rc.length c2 A3 x.lb.length c3 (x.lk : Int) v W)
  by_cases hh : hasE x v = true
  · have hvb := of_decide_eq_true (show decide (0 ≤ v ∧ v < (x.rc.length : Int)) = true from hh)
    obtain ⟨k, rfl⟩ : ∃ k : Nat, v = (k : Int) := ⟨v.toNat, by omega⟩
    have hk : k < x.rc.length := by omega
    have hrk : ((x.rc.getD k 0 : Nat) : Int) ≠ 0 := fun e => by
      unfold pinB at hv
      rw [hh, Bool.true_and, Int.toNat_natCast] at hv
      rw [show x.rc.getD k 0 = 0 by omega] at hv
      exact absurd hv (by decide)
    obtain ⟨rk, hrk2⟩ : ∃ rk : Nat, x.rc.getD k 0 = rk := ⟨_, rfl⟩
    rw [hrk2] at hrk
    obtain ⟨b2, o2, rfl, hb2, hcell⟩ := r2 k (rk : Int) (by unfold natI; rw [List.getElem?_map, List.getElem?_eq_getElem hk]; simp only [Option.map_some]; rw [← hrk2, List.getD_eq_getElem?_getD, List.getElem?_eq_getElem hk]; rfl)
    have hd : decide (0 ≤ (k : Int) ∧ (k : Int) < (x.rc.length : Int)) = true := hh
    rw [hd] at HH
    have hrk3 : ((rk : Int) != 0) = true := by simpa using hrk
    have hk0 : (0 : Int) ≤ (k : Int) := by omega
    have hk1 : (k : Int) < (x.rc.length : Int) := by omega
    clear hv hh hvb hd r2 hrk2 hrk
    unfold cV at *
    generalize (x.e : Int) = e at *
    generalize (x.lk : Int) = lk at *
    generalize x.ld.length = l1 at *
    generalize x.rc.length = l2 at *
    generalize x.lb.length = l3 at *
    obtain ⟨b1, b4, b3⟩ := Five.two w (.int .i64 e) (.slice A1 l1 c1) (.slice (some ⟨b2, o2, none⟩) l2 c2) (.slice A3 l3 c3) (.int .i64 lk) (.int .i64 0) (.slice none 0 0) (.slice none 0 0) (.slice none 0 0) (.int .i64 0) 69
    have HB1 := Lib.hid b1
    have HB2 := Lib.hid b4
    have HB3 := Lib.hid b3
    have HCE := Lib.hid (And.intro hb2 hcell)
    clear b1 b4 b3 hb2 hcell
    go_enter Try.func41, Try.ntmps41
    go_wp2_with fail
    refine (HH.out _).mono ?_
    rintro r w2 ⟨rfl, hb2⟩
    obtain ⟨_, x0, x1, x2, x3, x4, y0, y1, y2, y3, y4⟩ := HB1.out.below hb2
    obtain ⟨hlt, u0, u1, u2, u3, u4, z0, z1, z2, z3, z4⟩ := HB2.out.below hb2
    have HBB := Lib.hid (Below.next HB3.out hb2)
    have hc := (HBB.out.cell (p := ⟨b2, o2 + k, none⟩) HCE.out.1).trans HCE.out.2
    have HP := Lib.hid ((HB2.out.below hb2).put (.int .i64 e) (.slice A1 l1 c1) (.slice (some ⟨b2, o2, none⟩) l2 c2) (.slice A3 l3 c3) (.int .i64 lk))
    clear hb2 HB1 HB2 HB3 HH
    go_wp2
    obtain ⟨_, q0, q1, q2, q3, q4, _, _, _, _, _⟩ := HP.out
    exact bodyPost_ret (v := .tuple #[.agg #[.int .i64 e, .slice A1 l1 c1, .slice (some ⟨b2, o2, none⟩) l2 c2, .slice A3 l3 c3, .int .i64 lk], .bool false]) (by simp [results, Try.results41, go_sem, q0, q1, q2, q3, q4]) rfl ⟨rfl, below_put HBB.out (Nat.le_succ _) _ _ _ _ _⟩
  · have hd : decide (0 ≤ v ∧ v < (x.rc.length : Int)) = false := Bool.eq_false_iff.2 hh
    rw [hd] at HH
    clear hv hh hd r2
    unfold cV at *
    generalize (x.e : Int) = e at *
    generalize (x.lk : Int) = lk at *
    generalize x.ld.length = l1 at *
    generalize x.rc.length = l2 at *
    generalize x.lb.length = l3 at *
    obtain ⟨b1, b4, b3⟩ := Five.two w (.int .i64 e) (.slice A1 l1 c1) (.slice A2 l2 c2) (.slice A3 l3 c3) (.int .i64 lk) (.int .i64 0) (.slice none 0 0) (.slice none 0 0) (.slice none 0 0) (.int .i64 0) 69
    have HB1 := Lib.hid b1
    have HB2 := Lib.hid b4
    have HB3 := Lib.hid b3
    clear b1 b4 b3
    go_enter Try.func41, Try.ntmps41
    go_wp2_with fail
    refine (HH.out _).mono ?_
    rintro r w2 ⟨rfl, hb2⟩
    obtain ⟨_, x0, x1, x2, x3, x4, y0, y1, y2, y3, y4⟩ := HB1.out.below hb2
    obtain ⟨hlt, u0, u1, u2, u3, u4, z0, z1, z2, z3, z4⟩ := HB2.out.below hb2
    have HBB := Lib.hid (Below.next HB3.out hb2)
    have HP := Lib.hid ((HB2.out.below hb2).put (.int .i64 e) (.slice A1 l1 c1) (.slice A2 l2 c2) (.slice A3 l3 c3) (.int .i64 lk))
    clear hb2 HB1 HB2 HB3 HH
    go_wp2
    obtain ⟨_, q0, q1, q2, q3, q4, _, _, _, _, _⟩ := HP.out
    exact bodyPost_ret (v := .tuple #[.agg #[.int .i64 e, .slice A1 l1 c1, .slice A2 l2 c2, .slice A3 l3 c3, .int .i64 lk], .bool false]) (by simp [results, Try.results41, go_sem, q0, q1, q2, q3, q4]) rfl ⟨rfl, below_put HBB.out (Nat.le_succ _) _ _ _ _ _⟩

end Go.Proofs.Ytdgmcaehadigaaa
