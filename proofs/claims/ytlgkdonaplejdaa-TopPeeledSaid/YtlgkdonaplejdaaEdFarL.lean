/- edges.Far by contract: the last of the spots. -/
import Derived.Test.YtlgkdonaplejdaaEdSpot
namespace Go.Proofs.Ytlgkdonaplejdaa
open Go.RowKit Go.Shelf

/-- The number at a place. -/
def numAt (l : List Int) (k : Nat) : Int := l.getD k 0
theorem numAt_lt {l : List Int} {k : Nat} (h : k < l.length) : l[k]? = some (numAt l k) := by
  unfold numAt
  rw [List.getD_eq_getElem?_getD, List.getElem?_eq_getElem h]
  rfl
/-- The later one of two spots, the first if they are one. -/
def later (a s : SpotT) : SpotT := if ltS a s = true then s else a
/-- The last of the first k spots. -/
def farTo (v l : List Int) (its : List ItT) : Nat → SpotT
  | 0 => ((0, 0), 0)
  | k + 1 => if k = 0 then spotOf v (numAt l k) (itAt its k) else later (farTo v l its k) (spotOf v (numAt l k) (itAt its k))
def farS (v l : List Int) (its : List ItT) : SpotT := farTo v l its l.length

/-- What edges.Far has: its result and the last spot so far, each in a block. -/
structure FarW (w W : World) (s : SpotT) : Prop where
  hb : Below w.heap.size w W
  sz : w.heap.size + 2 ≤ W.heap.size
  x0 : W.cell? ⟨w.heap.size, 0, none⟩ = some (.int .u64 0)
  x1 : W.cell? ⟨w.heap.size, 1, none⟩ = some (.int .u64 0)
  x2 : W.cell? ⟨w.heap.size, 2, none⟩ = some (.int .i64 0)
  e0 : W.frozen? ⟨w.heap.size, 0, none⟩ = false
  e1 : W.frozen? ⟨w.heap.size, 1, none⟩ = false
  e2 : W.frozen? ⟨w.heap.size, 2, none⟩ = false
  y0 : W.cell? ⟨w.heap.size + 1, 0, none⟩ = some (.int .u64 s.1.1)
  y1 : W.cell? ⟨w.heap.size + 1, 1, none⟩ = some (.int .u64 s.1.2)
  y2 : W.cell? ⟨w.heap.size + 1, 2, none⟩ = some (.int .i64 s.2)
  f0 : W.frozen? ⟨w.heap.size + 1, 0, none⟩ = false
  f1 : W.frozen? ⟨w.heap.size + 1, 1, none⟩ = false
  f2 : W.frozen? ⟨w.heap.size + 1, 2, none⟩ = false
section
variable {w W W' : World} {s : SpotT}
theorem FarW.grow (h : FarW w W s) (hb : Below (w.heap.size + 2) W W') : FarW w W' s :=
  have c := fun b o (hlt : b < w.heap.size + 2) => hb.cell (p := ⟨b, o, none⟩) hlt
  have f := fun b o (hlt : b < w.heap.size + 2) => hb.frozen (p := ⟨b, o, none⟩) hlt
  ⟨h.hb.trans (hb.mono (by omega)), Nat.le_trans h.sz hb.size, (c _ _ (by omega)).trans h.x0, (c _ _ (by omega)).trans h.x1, (c _ _ (by omega)).trans h.x2, (f _ _ (by omega)).trans h.e0, (f _ _ (by omega)).trans h.e1, (f _ _ (by omega)).trans h.e2,
    (c _ _ (by omega)).trans h.y0, (c _ _ (by omega)).trans h.y1, (c _ _ (by omega)).trans h.y2, (f _ _ (by omega)).trans h.f0, (f _ _ (by omega)).trans h.f1, (f _ _ (by omega)).trans h.f2⟩
theorem FarW.set (h : FarW w W s) (t : SpotT) : FarW w (((W.setCell ⟨w.heap.size + 1, 0, none⟩ (.int .u64 t.1.1)).setCell ⟨w.heap.size + 1, 1, none⟩ (.int .u64 t.1.2)).setCell ⟨w.heap.size + 1, 2, none⟩ (.int .i64 t.2)) t := by
  obtain ⟨q0, q1, q2⟩ := set3_cells h.y0 h.y1 h.y2 (.int .u64 t.1.1) (.int .u64 t.1.2) (.int .i64 t.2)
  have c : ∀ o, ((((W.setCell ⟨w.heap.size + 1, 0, none⟩ (.int .u64 t.1.1)).setCell ⟨w.heap.size + 1, 1, none⟩ (.int .u64 t.1.2)).setCell ⟨w.heap.size + 1, 2, none⟩ (.int .i64 t.2)).cell? ⟨w.heap.size, o, none⟩) = W.cell? ⟨w.heap.size, o, none⟩ := fun o =>
    (World.cell?_setCell_other _ _ _ _ (by simp)).trans ((World.cell?_setCell_other _ _ _ _ (by simp)).trans (World.cell?_setCell_other _ _ _ _ (by simp)))
  refine ⟨Below.set3 h.hb (Nat.le_succ _) _ _ _, by simp; exact h.sz, (c 0).trans h.x0, (c 1).trans h.x1, (c 2).trans h.x2, ?_, ?_, ?_, q0, q1, q2, ?_, ?_, ?_⟩
  · simp only [World.frozen?_setCell]; exact h.e0
  · simp only [World.frozen?_setCell]; exact h.e1
  · simp only [World.frozen?_setCell]; exact h.e2
  · simp only [World.frozen?_setCell]; exact h.f0
  · simp only [World.frozen?_setCell]; exact h.f1
  · simp only [World.frozen?_setCell]; exact h.f2
end

def FarOut (v l : List Int) (its : List ItT) (w : World) (e : Ending) (w' : World) : Prop :=
  e = .returned (.tuple #[sptV (farS v l its), .bool (decide (0 < l.length))]) ∧ Below w.heap.size w w'

set_option maxRecDepth 100000 in
set_option maxHeartbeats 4000000 in
theorem Far_any (V : Option Addr) (vs : List Int) (cv : Nat) (A : Option Addr) (zs : List Int) (c : Nat) (I : Option Addr) (its : List ItT) (ci : Nat) (w : World)
    (hV : VecB w w.heap.size V vs) (hA : Rd (Value.int .i64) w w.heap.size A zs) (hI : ItemsAt w w.heap.size I its) (hl : zs.length ≤ 100000) (hi : its.length ≤ 100000) :
    Calls Try.prog 68 #[.slice V vs.length cv, .slice A zs.length c, .slice I its.length ci] w (FarOut vs zs its w) := by
  have T0 : FarW w ((w.alloc (.cells #[.int .u64 0, .int .u64 0, .int .i64 0] 37)).alloc (.cells #[.int .u64 0, .int .u64 0, .int .i64 0] 37)) ((0, 0), 0) :=
    ⟨((Below.refl _ w).alloc (Nat.le_refl _) _).alloc (by simp) _, by simp, by go_cell, by go_cell, by go_cell, by go_simp, by go_simp, by go_simp, by go_cell, by go_cell, by go_cell, by go_simp, by go_simp, by go_simp⟩
  have HT0 := Lib.hid T0
  clear T0
  go_enter Try.func68, Try.ntmps68
  go_wp2_with fail
  go_loopw [15] (fun i wr => ∃ k : Nat, k ≤ zs.length ∧ i = .int .i64 k ∧ Hid (FarW w wr (farTo vs zs its k))) (fun i _ => zs.length - (intOf i).toNat)
  case atStart => exact ⟨0, Nat.zero_le _, rfl, HT0.out⟩
  case round =>
    clear HT0
    obtain ⟨k, hk, rfl, HT⟩ := hrel
    have hbr := HT.out.hb
    have hsr := HT.out.sz
    by_cases hlt : k < zs.length
    · obtain ⟨b, off, rfl, hb, h0⟩ := hA.below hbr k _ (numAt_lt hlt)
      have hkl : (k : Int) < (zs.length : Int) := by omega
      have hk0 : (0 : Int) ≤ (k : Int) := by omega
      have HF : Hid (farTo vs zs its (k + 1) = if k = 0 then spotOf vs (numAt zs k) (itAt its k) else later (farTo vs zs its k) (spotOf vs (numAt zs k) (itAt its k))) := rfl
      have hZ := hI.vec k
      generalize numAt zs k = n at *
      go_wp2_with fail
      refine Calls.mono (itemAt_any I its ci k _ (hI.below hbr) (by omega) hi (by omega)) ?_
      rintro e W1 ⟨rfl, hb1⟩
      generalize itAt its k = z at *
      go_wp2_with fail
      refine Calls.mono (spot_any V vs cv n z _ ((hV.below hbr).below (hb1.mono (by omega))) ((hZ.below hbr).below (hb1.mono (by omega))) (by have := hb1.size; omega)) ?_
      rintro e W2 ⟨rfl, hb2⟩
      have T2 := HT.out.grow ((hb1.mono (by omega)).trans (hb2.mono (by have := hb1.size; omega)))
      have s2 := T2.sz
      clear HT hb1 hb2 h0 hb hbr hsr
      generalize spotOf vs n z = s at *
      generalize farTo vs zs its k = u at *
      obtain ⟨⟨s1, s2'⟩, s3⟩ := s
      obtain ⟨⟨u1, u2⟩, u3⟩ := u
      unfold sptV
      have H2 := Lib.hid T2
      have T3 := T2.grow ((Below.refl _ W2).alloc s2 (.cells #[.int .u64 s1, .int .u64 s2', .int .i64 s3] 37))
      have H3 := Lib.hid T3
      clear T2
      obtain ⟨_, _, _, _, _, _, _, _, y0, y1, y2, f0, f1, f2⟩ := T3
      simp only at y0 y1 y2
      by_cases hz : k = 0
      · subst hz
        have HR : Hid (farTo vs zs its (0 + 1) = ((s1, s2'), s3)) := HF.out.trans (if_pos rfl)
        go_wp2
        go_roundw
        case rel => exact ⟨0 + 1, by omega, by go_num, by rw [HR.out]; exact H3.out.set ((s1, s2'), s3)⟩
        case measure => simp [intOf]; omega
      · have hz1 : ¬ (k : Int) = 0 := by omega
        have hz2 : ((k : Int) == 0) = false := by simpa using hz1
        have hz3 : decide ((k : Int) = 0) = false := by simpa using hz1
        have HR : Hid (farTo vs zs its (k + 1) = later ((u1, u2), u3) ((s1, s2'), s3)) := HF.out.trans (if_neg hz)
        go_wp2_with fail
        refine Calls.mono (Spot_any ((_, _), _) ((_, _), _) _) ?_
        rintro e W4 ⟨rfl, hg⟩
        have hb4 := hg.below
        simp only [World.size_alloc] at hb4
        have T4 := H3.out.grow (hb4.mono (by omega))
        have s4 := T4.sz
        have H4 := Lib.hid T4
        have z0 : W4.cell? ⟨W2.heap.size, 0, none⟩ = some (.int .u64 s1) := (hb4.cell (p := ⟨W2.heap.size, 0, none⟩) (by simp)).trans (by go_cell)
        have z1 : W4.cell? ⟨W2.heap.size, 1, none⟩ = some (.int .u64 s2') := (hb4.cell (p := ⟨W2.heap.size, 1, none⟩) (by simp)).trans (by go_cell)
        have z2 : W4.cell? ⟨W2.heap.size, 2, none⟩ = some (.int .i64 s3) := (hb4.cell (p := ⟨W2.heap.size, 2, none⟩) (by simp)).trans (by go_cell)
        clear y0 y1 y2 f0 f1 f2 hg hb4 H3
        obtain ⟨_, _, _, _, _, _, _, _, y0, y1, y2, f0, f1, f2⟩ := T4
        simp only at y0 y1 y2
        cases hs : ltS ((u1, u2), u3) ((s1, s2'), s3)
        · have HQ : Hid (farTo vs zs its (k + 1) = ((u1, u2), u3)) := HR.out.trans (by unfold later; rw [hs]; rfl)
          clear hs
          go_wp2
          go_roundw
          case rel => exact ⟨k + 1, by omega, by go_num, by rw [HQ.out]; exact H4.out⟩
          case measure => simp [intOf]; omega
        · have HQ : Hid (farTo vs zs its (k + 1) = ((s1, s2'), s3)) := HR.out.trans (by unfold later; rw [hs]; rfl)
          clear hs
          go_wp2
          go_roundw
          case rel => exact ⟨k + 1, by omega, by go_num, by rw [HQ.out]; exact H4.out.set ((s1, s2'), s3)⟩
          case measure => simp [intOf]; omega
    · obtain rfl : k = zs.length := by omega
      have HE : Hid (FarW w wr (farS vs zs its)) := HT.out
      clear HT
      have T := HE.out
      clear HE hA hV hI
      obtain ⟨⟨⟨u1, u2⟩, u3⟩, hu⟩ : ∃ u, farS vs zs its = u := ⟨_, rfl⟩
      rw [hu] at T
      have HU := Lib.hid hu
      clear hu
      obtain ⟨hB, _, x0, x1, x2, e0, e1, e2, y0, y1, y2, _, _, _⟩ := T
      simp only at y0 y1 y2
      obtain ⟨q0, q1, q2⟩ := set3_cells x0 x1 x2 (.int .u64 u1) (.int .u64 u2) (.int .i64 u3)
      have hB2 := Below.set3 hB (Nat.le_refl _) (.int .u64 u1) (.int .u64 u2) (.int .i64 u3)
      have HQ := Lib.hid (And.intro q0 (And.intro q1 q2))
      clear q0 q1 q2
      go_wp2
      obtain ⟨q0, q1, q2⟩ := HQ.out
      exact bodyPost_ret (v := .tuple #[.agg #[.int .u64 u1, .int .u64 u2, .int .i64 u3], .bool (decide (0 < zs.length))]) (by simp [results, Try.results68, go_sem, q0, q1, q2]) rfl ⟨by rw [HU.out]; rfl, hB2⟩

end Go.Proofs.Ytlgkdonaplejdaa
