/- The document's epoch clock: a look. -/
import Derived.Test.YtdgmcaehadigaaaRefEp
namespace Go.Proofs.Ytdgmcaehadigaaa
open Go.RowKit

theorem Five.cell {W : World} {b : Nat} {u0 u1 u2 u3 u4 : Value} (h : Five W b u0 u1 u2 u3 u4) (v : Value) : Five (W.setCell ⟨b, 4, none⟩ v) b u0 u1 u2 u3 v ∧ Five (W.setCell ⟨b, 0, none⟩ v) b v u1 u2 u3 u4 := by
  have o : ∀ (i j : Nat), i ≠ j → (W.setCell ⟨b, i, none⟩ v).cell? ⟨b, j, none⟩ = W.cell? ⟨b, j, none⟩ := fun i j hij => World.cell?_setCell_other _ _ _ _ (fun e => hij (by injection e))
  have l : ∀ i, b < (W.setCell ⟨b, i, none⟩ v).heap.size := fun i => by rw [World.size_setCell]; exact h.lt
  have f : ∀ i j, (W.setCell ⟨b, i, none⟩ v).frozen? ⟨b, j, none⟩ = W.frozen? ⟨b, j, none⟩ := fun i j => World.frozen?_setCell _ _ _ _
  exact ⟨⟨l 4, (o 4 0 (by decide)).trans h.c0, (o 4 1 (by decide)).trans h.c1, (o 4 2 (by decide)).trans h.c2, (o 4 3 (by decide)).trans h.c3, World.cell?_setCell_same _ _ _ h.c4, (f 4 0).trans h.f0, (f 4 1).trans h.f1, (f 4 2).trans h.f2, (f 4 3).trans h.f3, (f 4 4).trans h.f4⟩,
    ⟨l 0, World.cell?_setCell_same _ _ _ h.c0, (o 0 1 (by decide)).trans h.c1, (o 0 2 (by decide)).trans h.c2, (o 0 3 (by decide)).trans h.c3, (o 0 4 (by decide)).trans h.c4, (f 0 0).trans h.f0, (f 0 1).trans h.f1, (f 0 2).trans h.f2, (f 0 3).trans h.f3, (f 0 4).trans h.f4⟩⟩
set_option maxHeartbeats 4000000 in
theorem RLook_any {w : World} {Z : Nat → Prop} {V : Value} {x : EX} {n : Nat} (h : RC w Z V x) (hf : EFit n x) (hn : n ≤ 100000) :
    Calls Try.prog 47 #[V] w fun r w' => ∃ V', r = .returned (.tuple #[V', .bool (lookB x)]) ∧ RC w' (ZZ Z w) V' (lookE x) ∧ Below w.heap.size w w' := by
  obtain ⟨A1, c1, A2, c2, A3, c3, rfl, r1, r2, r3, t1, t2, t3⟩ := h
  have hlk := hf.lk
  have hfew := hf.few
  have hen := hf.en
  obtain ⟨rk, hrk⟩ : ∃ rk, x.rc.getD x.lk 0 = rk := ⟨_, rfl⟩
  obtain ⟨b2, o2, rfl, hb2, hcell⟩ := r2 x.lk (rk : Int) (by unfold natI; rw [List.getElem?_map, List.getElem?_eq_getElem hlk]; simp only [Option.map_some]; rw [← hrk, List.getD_eq_getElem?_getD, List.getElem?_eq_getElem hlk]; rfl)
  have hrk2 := hf.rc x.lk
  rw [hrk] at hrk2
  have HO : Hid (∀ W (e lk : Nat), Below w.heap.size w W → RC W (ZZ Z w) (cV (e : Int) A1 x.ld.length c1 (some ⟨b2, o2, none⟩) x.rc.length c2 A3 x.lb.length c3 (lk : Int)) { x with e := e, lk := lk }) := Lib.hid fun W e lk hb =>
    ⟨A1, c1, _, c2, A3, c3, rfl, rd_later r1 hb, rd_later r2 hb, (r3.below hb).more hb.size, t1.old, t2.old, t3.old⟩
  have HLB : Hid (lookB x = (!(!(rk == 0) && !(rk == x.e + 1)) && decide (¬ x.lk + 1 < x.rc.length))) := Lib.hid (by unfold lookB blocksE; rw [hrk])
  have HLE : Hid (lookE x = if (!(rk == 0) && !(rk == x.e + 1)) = true then { x with lk := 0 } else if x.lk + 1 < x.rc.length then { x with lk := x.lk + 1 } else { x with lk := 0, e := x.e + 1 }) := Lib.hid (by unfold lookE blocksE; rw [hrk])
  clear r1 r2 r3 t1 t2 t3 hf hrk
  generalize hE : x.e = e at *
  generalize hK : x.lk = lk at *
  generalize x.ld.length = l1 at *
  generalize x.rc.length = l2 at *
  generalize x.lb.length = l3 at *
  have hl0 : ¬ (l2 : Int) = 0 := by omega
  have hlk0 : (0 : Int) ≤ (lk : Int) := by omega
  have hlk1 : (lk : Int) < (l2 : Int) := by omega
  have he0 : (0 : Int) ≤ (e : Int) := by omega
  have he1 : (e : Int) ≤ 100000 := by omega
  have hl64 : (l2 : Int) ≤ 64 := by omega
  have HC := Lib.hid (fun W (hb : Below w.heap.size w W) => (hb.cell (p := ⟨b2, o2 + lk, none⟩) hb2).trans hcell)
  have HFIN : Hid (∀ (e' lk' : Nat), Five ((w.alloc (.cells #[.int .i64 (e' : Int), .slice A1 l1 c1, .slice (some ⟨b2, o2, none⟩) l2 c2, .slice A3 l3 c3, .int .i64 (lk' : Int)] 69)).alloc (.cells #[.int .i64 (e' : Int), .slice A1 l1 c1, .slice (some ⟨b2, o2, none⟩) l2 c2, .slice A3 l3 c3, .int .i64 (lk' : Int)] 69)) (w.heap.size + 1) (.int .i64 (e' : Int)) (.slice A1 l1 c1) (.slice (some ⟨b2, o2, none⟩) l2 c2) (.slice A3 l3 c3) (.int .i64 (lk' : Int)) ∧
      RC ((w.alloc (.cells #[.int .i64 (e' : Int), .slice A1 l1 c1, .slice (some ⟨b2, o2, none⟩) l2 c2, .slice A3 l3 c3, .int .i64 (lk' : Int)] 69)).alloc (.cells #[.int .i64 (e' : Int), .slice A1 l1 c1, .slice (some ⟨b2, o2, none⟩) l2 c2, .slice A3 l3 c3, .int .i64 (lk' : Int)] 69)) (ZZ Z w) (cV (e' : Int) A1 l1 c1 (some ⟨b2, o2, none⟩) l2 c2 A3 l3 c3 (lk' : Int)) { x with e := e', lk := lk' } ∧
      Below w.heap.size w ((w.alloc (.cells #[.int .i64 (e' : Int), .slice A1 l1 c1, .slice (some ⟨b2, o2, none⟩) l2 c2, .slice A3 l3 c3, .int .i64 (lk' : Int)] 69)).alloc (.cells #[.int .i64 (e' : Int), .slice A1 l1 c1, .slice (some ⟨b2, o2, none⟩) l2 c2, .slice A3 l3 c3, .int .i64 (lk' : Int)] 69))) := Lib.hid fun e' lk' =>
    have h2 := Five.two w (.int .i64 (e' : Int)) (.slice A1 l1 c1) (.slice (some ⟨b2, o2, none⟩) l2 c2) (.slice A3 l3 c3) (.int .i64 (lk' : Int)) (.int .i64 (e' : Int)) (.slice A1 l1 c1) (.slice (some ⟨b2, o2, none⟩) l2 c2) (.slice A3 l3 c3) (.int .i64 (lk' : Int)) 69
    ⟨h2.2.1, HO.out _ e' lk' h2.2.2, h2.2.2⟩
  have hc1 : ∀ W, Below w.heap.size w W → W.cell? ⟨b2, o2 + lk, none⟩ = some (.int .i64 (rk : Int)) := HC.out
  have hcw := hcell
  clear HO HC hc1
  rcases (show rk = 0 ∨ (rk ≠ 0 ∧ rk = e + 1) ∨ (rk ≠ 0 ∧ rk ≠ e + 1) by omega) with hz | ⟨hz, hz2⟩ | ⟨hz, hz2⟩
  · subst hz
    by_cases hmore : lk + 1 < l2
    · have hm1 : (lk : Int) + 1 < (l2 : Int) := by omega
      have hv : Hid (lookB x = false ∧ lookE x = { x with e := e, lk := (lk+1) }) := Lib.hid ⟨by rw [HLB.out]; simp_all, by rw [HLE.out]; simp_all⟩
      have hfin := Lib.hid (HFIN.out e (lk+1))
      clear HFIN HLB HLE hmore
      unfold cV at *
      go_enter Try.func47, Try.ntmps47
      go_wp2
      obtain ⟨⟨_, q0, q1, q2, q3, q4, _, _, _, _, _⟩, hR, hB⟩ := hfin.out
      exact bodyPost_ret (v := .tuple #[.agg #[.int .i64 ((e : Nat) : Int), .slice A1 l1 c1, .slice (some ⟨b2, o2, none⟩) l2 c2, .slice A3 l3 c3, .int .i64 (((lk+1) : Nat) : Int)], .bool false]) (by simp [results, Try.results47, go_sem]) rfl ⟨_, by rw [hv.out.1], by rw [hv.out.2]; exact hR, hB⟩
    · have hm1 : ¬ (lk : Int) + 1 < (l2 : Int) := by omega
      have hv : Hid (lookB x = true ∧ lookE x = { x with e := (e+1), lk := 0 }) := Lib.hid ⟨by rw [HLB.out]; simp_all, by rw [HLE.out]; simp_all⟩
      have hfin := Lib.hid (HFIN.out (e+1) 0)
      clear HFIN HLB HLE hmore
      unfold cV at *
      go_enter Try.func47, Try.ntmps47
      go_wp2
      obtain ⟨⟨_, q0, q1, q2, q3, q4, _, _, _, _, _⟩, hR, hB⟩ := hfin.out
      exact bodyPost_ret (v := .tuple #[.agg #[.int .i64 (((e+1) : Nat) : Int), .slice A1 l1 c1, .slice (some ⟨b2, o2, none⟩) l2 c2, .slice A3 l3 c3, .int .i64 ((0 : Nat) : Int)], .bool true]) (by simp [results, Try.results47, go_sem]) rfl ⟨_, by rw [hv.out.1], by rw [hv.out.2]; exact hR, hB⟩
  · subst hz2
    clear hz
    have hne : (((e + 1 : Nat) : Int) == 0) = false := by simp; omega
    have hne2 : ((((e + 1 : Nat) : Int)) != (e : Int) + 1) = false := by simp
    by_cases hmore : lk + 1 < l2
    · have hm1 : (lk : Int) + 1 < (l2 : Int) := by omega
      have hv : Hid (lookB x = false ∧ lookE x = { x with e := e, lk := (lk+1) }) := Lib.hid ⟨by rw [HLB.out]; simp_all, by rw [HLE.out]; simp_all⟩
      have hfin := Lib.hid (HFIN.out e (lk+1))
      clear HFIN HLB HLE hmore
      unfold cV at *
      go_enter Try.func47, Try.ntmps47
      go_wp2
      obtain ⟨⟨_, q0, q1, q2, q3, q4, _, _, _, _, _⟩, hR, hB⟩ := hfin.out
      exact bodyPost_ret (v := .tuple #[.agg #[.int .i64 ((e : Nat) : Int), .slice A1 l1 c1, .slice (some ⟨b2, o2, none⟩) l2 c2, .slice A3 l3 c3, .int .i64 (((lk+1) : Nat) : Int)], .bool false]) (by simp [results, Try.results47, go_sem]) rfl ⟨_, by rw [hv.out.1], by rw [hv.out.2]; exact hR, hB⟩
    · have hm1 : ¬ (lk : Int) + 1 < (l2 : Int) := by omega
      have hv : Hid (lookB x = true ∧ lookE x = { x with e := (e+1), lk := 0 }) := Lib.hid ⟨by rw [HLB.out]; simp_all, by rw [HLE.out]; simp_all⟩
      have hfin := Lib.hid (HFIN.out (e+1) 0)
      clear HFIN HLB HLE hmore
      unfold cV at *
      go_enter Try.func47, Try.ntmps47
      go_wp2
      obtain ⟨⟨_, q0, q1, q2, q3, q4, _, _, _, _, _⟩, hR, hB⟩ := hfin.out
      exact bodyPost_ret (v := .tuple #[.agg #[.int .i64 (((e+1) : Nat) : Int), .slice A1 l1 c1, .slice (some ⟨b2, o2, none⟩) l2 c2, .slice A3 l3 c3, .int .i64 ((0 : Nat) : Int)], .bool true]) (by simp [results, Try.results47, go_sem]) rfl ⟨_, by rw [hv.out.1], by rw [hv.out.2]; exact hR, hB⟩
  · have hne : ((rk : Int) == 0) = false := by simp; exact hz
    have hne2 : ((rk : Int) != (e : Int) + 1) = true := by simp; omega
    have hmore : True := trivial
    have hv : Hid (lookB x = false ∧ lookE x = { x with e := e, lk := 0 }) := Lib.hid ⟨by rw [HLB.out]; simp_all, by rw [HLE.out]; simp_all⟩
    have hfin := Lib.hid (HFIN.out e 0)
    clear HFIN HLB HLE hmore
    unfold cV at *
    go_enter Try.func47, Try.ntmps47
    go_wp2
    obtain ⟨⟨_, q0, q1, q2, q3, q4, _, _, _, _, _⟩, hR, hB⟩ := hfin.out
    exact bodyPost_ret (v := .tuple #[.agg #[.int .i64 ((e : Nat) : Int), .slice A1 l1 c1, .slice (some ⟨b2, o2, none⟩) l2 c2, .slice A3 l3 c3, .int .i64 ((0 : Nat) : Int)], .bool false]) (by simp [results, Try.results47, go_sem]) rfl ⟨_, by rw [hv.out.1], by rw [hv.out.2]; exact hR, hB⟩

end Go.Proofs.Ytdgmcaehadigaaa
