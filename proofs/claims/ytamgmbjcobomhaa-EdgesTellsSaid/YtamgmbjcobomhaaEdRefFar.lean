/- The document's own Far, by contract. -/
import Derived.Test.YtamgmbjcobomhaaEdFarL
import Derived.Test.YtamgmbjcobomhaaRefDist
import Derived.Test.YtamgmbjcobomhaaRankSame
import Derived.Deep.DeepCutAuto
import Derived.Deep.CutBlock
namespace Go.Proofs.Ytamgmbjcobomhaa
open Go.RowKit Go.Shelf

theorem VecB.refDist {w : World} {B : Nat} {A A' : Option Addr} {xs ys : List Int} (hA : VecB w B A xs) (hB : VecB w B A' ys) (hx : xs.length ≤ 9223372036854775807) (hy : ys.length ≤ 9223372036854775807) (ca cb : Nat) :
    Calls Try.prog 78 #[.slice A xs.length ca, .slice A' ys.length cb] w fun e w' => e = .returned (.int .u64 (satN (distN xs ys (max xs.length ys.length)))) ∧ w = w' :=
  refDist_any A A' xs ys ca cb w hA.rd hB.rd hx hy hA.all hB.all

/-- An item in a block of the round's own. -/
structure ItW (wr W : World) (z : ItT) : Prop where
  hb : Below wr.heap.size wr W
  lt : wr.heap.size < W.heap.size
  x0 : W.cell? ⟨wr.heap.size, 0, none⟩ = some (.int .u64 z.id)
  x1 : W.cell? ⟨wr.heap.size, 1, none⟩ = some (.slice z.A z.vec.length z.cap)

theorem ItW.of_new (wr : World) (z : ItT) (t : TypeId) : ItW wr (wr.alloc (.cells #[.int .u64 z.id, .slice z.A z.vec.length z.cap, .int .u64 z.tags] t)) z :=
  ⟨(Below.refl _ wr).alloc (Nat.le_refl _) _, by simp, by go_cell, by go_cell⟩

/-- The item's block, in a world that has grown from W1. -/
structure SR (W1 W : World) (T : Nat) (id : Int) (sv : Value) : Prop where
  hb : Below W1.heap.size W1 W
  lt : T < W1.heap.size
  x0 : W.cell? ⟨T, 0, none⟩ = some (.int .u64 id)
  x1 : W.cell? ⟨T, 1, none⟩ = some sv
section
variable {W1 W V' : World} {T : Nat} {id : Int} {sv : Value}
theorem SR.grow (h : SR W1 W T id sv) (hb : Below W1.heap.size W V') : SR W1 V' T id sv :=
  ⟨h.hb.trans hb, h.lt, (hb.cell (p := ⟨T, 0, none⟩) h.lt).trans h.x0, (hb.cell (p := ⟨T, 1, none⟩) h.lt).trans h.x1⟩
theorem SR.drew (h : SR W1 W T id sv) : SR W1 W.drew T id sv := h.grow (below_draws _ 1 _)
theorem SR.alloc (h : SR W1 W T id sv) (o : Obj) : SR W1 (W.alloc o) T id sv := h.grow ((Below.refl _ W).alloc h.hb.size o)
theorem SR.set (h : SR W1 W T id sv) (p : Addr) (v : Value) (hp : W1.heap.size ≤ p.block) : SR W1 (W.setCell p v) T id sv := h.grow ((Below.refl _ W).setCell hp v)
theorem SR.all (h : SR W1 W T id sv) : SR W1 W T id sv ∧ W.cell? ⟨T, 0, none⟩ = some (.int .u64 id) ∧ W.cell? ⟨T, 1, none⟩ = some sv := ⟨h, h.x0, h.x1⟩
end

/-- A spot in a block of the round's own. -/
structure SpW (W1 W : World) (X : Nat) (s : SpotT) : Prop where
  hb : Below W1.heap.size W1 W
  lt : X < W.heap.size
  z0 : W.cell? ⟨X, 0, none⟩ = some (.int .u64 s.1.1)
  z1 : W.cell? ⟨X, 1, none⟩ = some (.int .u64 s.1.2)
  z2 : W.cell? ⟨X, 2, none⟩ = some (.int .i64 s.2)

theorem SpW.of_new (W1 : World) (d i n : Int) (t : TypeId) : SpW W1 (W1.alloc (.cells #[.int .u64 d, .int .u64 i, .int .i64 n] t)).drew W1.heap.size ((d, i), n) :=
  ⟨((Below.refl _ W1).alloc (Nat.le_refl _) _).trans (below_draws _ 1 _), by simp, by go_cell, by go_cell, by go_cell⟩

set_option maxRecDepth 100000 in
set_option maxHeartbeats 8000000 in
theorem refFar_any (V : Option Addr) (vs : List Int) (cv : Nat) (A : Option Addr) (zs : List Int) (c : Nat) (I : Option Addr) (its : List ItT) (ci : Nat) (w : World)
    (hV : VecB w w.heap.size V vs) (hA : Rd (Value.int .i64) w w.heap.size A zs) (hI : ItemsAt w w.heap.size I its) (hl : zs.length ≤ 100000) (_hi : its.length ≤ 100000) (hvl : vs.length ≤ 9223372036854775807) (hzl : Hid (∀ z ∈ its, z.vec.length ≤ 9223372036854775807)) :
    Calls Try.prog 41 #[.slice V vs.length cv, .slice A zs.length c, .slice I its.length ci] w (FarOut vs zs its w) := by
  have T0 : FarW w ((w.alloc (.cells #[.int .u64 0, .int .u64 0, .int .i64 0] 36)).alloc (.cells #[.int .u64 0, .int .u64 0, .int .i64 0] 36)) ((0, 0), 0) :=
    ⟨((Below.refl _ w).alloc (Nat.le_refl _) _).alloc (by simp) _, by simp, by go_cell, by go_cell, by go_cell, by go_simp, by go_simp, by go_simp, by go_cell, by go_cell, by go_cell, by go_simp, by go_simp, by go_simp⟩
  have HT0 := Lib.hid T0
  clear T0
  go_enter Try.func41, Try.ntmps41
  go_wp2_with fail
  go_loopw [15] (fun i wr => ∃ k : Nat, k ≤ zs.length ∧ i = .int .i64 k ∧ Hid (FarW w wr (farTo vs zs its k))) (fun i _ => zs.length - (intOf i).toNat)
  case atStart => exact ⟨0, Nat.zero_le _, rfl, HT0.out⟩
  case round =>
    clear HT0
    obtain ⟨k, hk, rfl, HT⟩ := hrel
    have hbr := HT.out.hb
    have hsr := HT.out.sz
    by_cases hlt : k < zs.length
    · obtain ⟨b, off, rfl, hb, h0⟩ := hA.below hbr k _ (numAt_lt hlt)
      have hkl : (k : Int) < (zs.length : Int) := by omega
      have hk0 : (0 : Int) ≤ (k : Int) := by omega
      have HF : Hid (farTo vs zs its (k + 1) = if k = 0 then spotOf vs (numAt zs k) (itAt its k) else later (farTo vs zs its k) (spotOf vs (numAt zs k) (itAt its k))) := rfl
      have HZ := Lib.hid ((hI.vec k).below hbr)
      have HV := Lib.hid (hV.below hbr)
      have HZL : Hid ((itAt its k).vec.length ≤ 9223372036854775807) := by
        by_cases h : k < its.length
        · exact hzl.out _ (List.mem_of_getElem? (itAt_lt h))
        · rw [Hid, itAt_ge (by omega)]; simp [noIt]
      generalize numAt zs k = n at *
      go_upto_if 23 with (fail)
      go_cut [] (fun wx => ItW wr wx (itAt its k))
      case first =>
        by_cases h : k < its.length
        · obtain ⟨⟨b2, off2, rfl, hb2, i0, i1, i2⟩, _⟩ := (hI.below hbr) k _ (itAt_lt h)
          have hbw : b2 < wr.heap.size := by omega
          generalize itAt its k = z at *
          have hkl2 : (k : Int) < (its.length : Int) := by omega
          have hk1 : (k : Int).toNat = k := Int.toNat_natCast k
          have g0 := fun O => (World.cell?_alloc_lt wr O ⟨b2, off2 + k * 3, none⟩ hbw).trans i0
          have g1 := fun O => (World.cell?_alloc_lt wr O ⟨b2, off2 + k * 3 + 1, none⟩ hbw).trans i1
          have g2 := fun O => (World.cell?_alloc_lt wr O ⟨b2, off2 + k * 3 + 2, none⟩ hbw).trans i2
          clear h0 i0 i1 i2
          go_wp2
          go_meet
          exact ItW.of_new wr z _
        · have hkl2 : ¬ (k : Int) < (its.length : Int) := by omega
          go_wp2
          go_meet
          rw [itAt_ge (by omega)]
          exact ItW.of_new wr noIt _
      case rest =>
        generalize itAt its k = z at *
        obtain ⟨hb1, hlt1, x0, x1⟩ := hcut
        generalize hwc : wc = W1 at *
        have HV1 := Lib.hid (HV.out.below (hb1.mono (by omega)))
        have HZ1 := Lib.hid (HZ.out.below (hb1.mono (by omega)))
        have T1 := Lib.hid (HT.out.grow (hb1.mono (by omega)))
        have hs1 := T1.out.sz
        clear HV HZ HT hb1 h0 hb hbr hsr hlt1
        have HS : Hid (spotOf vs n z = ((((satN (distN vs z.vec (max vs.length z.vec.length)) : Nat) : Int), z.id), n)) := rfl
        have HD : Hid (∀ W, Below W1.heap.size W1 W → Calls Try.prog 78 #[.slice V vs.length cv, .slice z.A z.vec.length z.cap] W fun e w' => e = .returned (.int .u64 (satN (distN vs z.vec (max vs.length z.vec.length)))) ∧ W = w') := Lib.hid fun W hW =>
          VecB.refDist (HV1.out.below (hW.mono (by omega))) (HZ1.out.below (hW.mono (by omega))) hvl HZL.out cv z.cap
        have TS := SR.mk (Below.refl W1.heap.size W1) (World.block_lt_of_cell? _ _ x0) x0 x1
        clear x0 x1 HV1 HZ1
        generalize satN (distN vs z.vec (max vs.length z.vec.length)) = D at *
        generalize spotOf vs n z = s at *
        obtain rfl : s = (((D : Int), z.id), n) := HS.out
        clear HS
        go_upto_region 8 with (fail)
        go_cut [12] (fun p wx => ∃ X : Nat, p = .pointer (some ⟨X, 0, none⟩) ∧ SpW W1 wx X (((D : Int), z.id), n))
        case first =>
          go_region_held3 (fun W => SR W1 W wr.heap.size z.id (.slice z.A z.vec.length z.cap) ∧ W.cell? ⟨wr.heap.size, 0, none⟩ = some (.int .u64 z.id) ∧ W.cell? ⟨wr.heap.size, 1, none⟩ = some (.slice z.A z.vec.length z.cap))
            (first | exact SR.all (by with_reducible assumption) | (refine SR.all ?_; repeat (with_reducible first | assumption | exact And.left (by assumption) | refine SR.drew ?_ | refine SR.alloc ?_ _ | refine SR.set ?_ _ _ (by simp))))
            (first | (go_at_call 78; refine Calls.mono (HD.out _ (SR.hb (And.left (by assumption)))) ?_; rintro e W ⟨rfl, rfl⟩))
          all_goals
            go_wp2
            go_meet
            exact ⟨_, rfl, SpW.of_new _ _ _ _ _⟩
        case rest =>
          obtain ⟨X, rfl, hb2, hX, z0, z1, z2⟩ := hcut
          generalize hwc2 : wc = W2 at *
          have T2 := T1.out.grow (hb2.mono (by omega))
          clear T1 hb2 TS HD HZL hwc hwc2
          generalize farTo vs zs its k = u at *
          obtain ⟨⟨u1, u2⟩, u3⟩ := u
          generalize (D : Int) = s1 at *
          generalize z.id = s2' at *
          have H3 := Lib.hid T2
          have s2 := T2.sz
          obtain ⟨_, _, _, _, _, _, _, _, y0, y1, y2, f0, f1, f2⟩ := T2
          simp only at y0 y1 y2 z0 z1 z2
          by_cases hz : k = 0
          · subst hz
            have HR : Hid (farTo vs zs its (0 + 1) = ((s1, s2'), n)) := HF.out.trans (if_pos rfl)
            go_wp2
            go_roundw
            case rel => exact ⟨0 + 1, by omega, by go_num, by rw [HR.out]; exact H3.out.set ((s1, s2'), n)⟩
            case measure => simp [intOf]; omega
          · have hz1 : ¬ (k : Int) = 0 := by omega
            have hz2 : ((k : Int) == 0) = false := by simpa using hz1
            have hz3 : decide ((k : Int) = 0) = false := by simpa using hz1
            have HR : Hid (farTo vs zs its (k + 1) = later ((u1, u2), u3) ((s1, s2'), n)) := HF.out.trans (if_neg hz)
            go_wp2_with fail
            refine Calls.mono (refSpot_any ((_, _), _) ((_, _), _) _) ?_
            rintro e W4 ⟨rfl, hg⟩
            have hb4 := hg.below
            have T4 := H3.out.grow (hb4.mono (by omega))
            have s4 := T4.sz
            have H4 := Lib.hid T4
            have v0 := (hb4.cell (p := ⟨X, 0, none⟩) hX).trans z0
            have v1 := (hb4.cell (p := ⟨X, 1, none⟩) hX).trans z1
            have v2 := (hb4.cell (p := ⟨X, 2, none⟩) hX).trans z2
            clear y0 y1 y2 f0 f1 f2 hg hb4 H3 z0 z1 z2
            obtain ⟨_, _, _, _, _, _, _, _, y0, y1, y2, f0, f1, f2⟩ := T4
            simp only at y0 y1 y2
            cases hs : ltS ((u1, u2), u3) ((s1, s2'), n)
            · have HQ : Hid (farTo vs zs its (k + 1) = ((u1, u2), u3)) := HR.out.trans (by unfold later; rw [hs]; rfl)
              clear hs
              go_wp2
              go_roundw
              case rel => exact ⟨k + 1, by omega, by go_num, by rw [HQ.out]; exact H4.out⟩
              case measure => simp [intOf]; omega
            · have HQ : Hid (farTo vs zs its (k + 1) = ((s1, s2'), n)) := HR.out.trans (by unfold later; rw [hs]; rfl)
              clear hs
              go_wp2
              go_roundw
              case rel => exact ⟨k + 1, by omega, by go_num, by rw [HQ.out]; exact H4.out.set ((s1, s2'), n)⟩
              case measure => simp [intOf]; omega
    · obtain rfl : k = zs.length := by omega
      have HE : Hid (FarW w wr (farS vs zs its)) := HT.out
      clear HT
      have T := HE.out
      clear HE hA hV hI
      obtain ⟨⟨⟨u1, u2⟩, u3⟩, hu⟩ : ∃ u, farS vs zs its = u := ⟨_, rfl⟩
      rw [hu] at T
      have HU := Lib.hid hu
      clear hu
      obtain ⟨hB, _, x0, x1, x2, e0, e1, e2, y0, y1, y2, _, _, _⟩ := T
      simp only at y0 y1 y2
      obtain ⟨q0, q1, q2⟩ := set3_cells x0 x1 x2 (.int .u64 u1) (.int .u64 u2) (.int .i64 u3)
      have hB2 := Below.set3 hB (Nat.le_refl _) (.int .u64 u1) (.int .u64 u2) (.int .i64 u3)
      have HQ := Lib.hid (And.intro q0 (And.intro q1 q2))
      clear q0 q1 q2
      go_wp2
      obtain ⟨q0, q1, q2⟩ := HQ.out
      exact bodyPost_ret (v := .tuple #[.agg #[.int .u64 u1, .int .u64 u2, .int .i64 u3], .bool (decide (0 < zs.length))]) (by simp [results, Try.results41, go_sem, q0, q1, q2]) rfl ⟨by rw [HU.out]; rfl, hB2⟩

end Go.Proofs.Ytamgmbjcobomhaa
