/- exact.Place, by contract. -/
import Derived.Test.YtajmnhnepoomjaaExSort
namespace Go.Proofs.Ytajmnhnepoomjaa
open Go.RowKit Go.Shelf Go.Sort
attribute [local go_sem] Oper.semAt_some wide_fn wide_depth

theorem keeps_below {W W' : World} (h : Below W.heap.size W W') : KeepsOthers W W' := ⟨h.size, fun k o hk _ => by
  rw [h.block k (Array.getElem?_eq_some_iff.1 hk).1]
  exact hk⟩
/-- How many of those told so far are ahead. -/
def cntP {n : Nat} (zs : List HitT) (h : HitT) (pre : List (Pl n)) : Nat := (toldH zs pre).countP fun y => ltH y h
theorem cntP_snoc {n : Nat} (zs : List HitT) (h : HitT) (pre : List (Pl n)) (x : Pl n) : cntP zs h (pre ++ [x]) = cntP zs h pre + (if ltH (htAt zs x.1) h = true then 1 else 0) := by
  unfold cntP
  rw [toldH_snoc, List.countP_append]
  by_cases e : ltH (htAt zs x.1) h = true <;> simp [e]
theorem cntP_le {n : Nat} (zs : List HitT) (h : HitT) (pre : List (Pl n)) : cntP zs h pre ≤ pre.length := by
  unfold cntP
  refine Nat.le_trans List.countP_le_length ?_
  unfold toldH
  rw [List.length_map]
  exact Nat.le_refl _
/-- The hit's box, and the count's. -/
structure PlB (W : World) (b : Nat) (h : HitT) (c : Nat) : Prop where
  h0 : W.cell? ⟨b, 0, none⟩ = some (.int .u64 h.1)
  h1 : W.cell? ⟨b, 1, none⟩ = some (.int .u64 h.2)
  c0 : W.cell? ⟨b + 1, 0, none⟩ = some (.int .i64 (c : Int))
  f0 : W.frozen? ⟨b + 1, 0, none⟩ = false
theorem PlB.below {W W' : World} {b : Nat} {h : HitT} {c : Nat} (t : PlB W b h c) (hb : Below W.heap.size W W') (hl : b + 1 < W.heap.size) : PlB W' b h c :=
  ⟨(hb.cell (p := ⟨b, 0, none⟩) (show b < _ by omega)).trans t.h0, (hb.cell (p := ⟨b, 1, none⟩) (show b < _ by omega)).trans t.h1, (hb.cell (p := ⟨b + 1, 0, none⟩) hl).trans t.c0, (hb.frozen (p := ⟨b + 1, 0, none⟩) hl).trans t.f0⟩
def PlI {n : Nat} (zs : List HitT) (h : HitT) (w : World) (pre : List (Pl n)) (W : World) : Prop := PlB W w.heap.size h (cntP zs h pre) ∧ (Below w.heap.size w W ∧ w.heap.size + 5 ≤ W.heap.size)
def PlAx (b : Nat) (A : Option Addr) (la ca : Nat) (Q : Option Addr) (lq cq : Nat) (mask : Int) (h : HitT) (B1 B2 B3 : Nat) (z : HitT) (a : Act) (W : World) : Prop :=
  ∃ g, b + 1 < g ∧ BoxedH W g z ∧ a = { tmps := #[.slice A la ca, .slice Q lq cq, .int .u64 mask, hitV h, undef, undef, undef, .pointer (some ⟨b, 0, none⟩), .int .i64 0, .pointer (some ⟨b + 1, 0, none⟩), .pointer (some ⟨g, 0, none⟩), .slice A la ca, .slice Q lq cq, .int .u64 mask,
    .func (.func 109) #[] #[.pointer (some ⟨B1, 0, none⟩), .pointer (some ⟨B2, 0, none⟩), .pointer (some ⟨B3, 0, none⟩)], hitV z, undef, undef, undef, undef, undef, undef], defers := [] }

theorem PlAx.own (b : Nat) (A : Option Addr) (la ca : Nat) (Q : Option Addr) (lq cq : Nat) (mask : Int) (h : HitT) (B1 B2 B3 B0 : Nat) (z : HitT) (a : Act) : OwnFrom B0 (fun (_ : Unit) W => PlAx b A la ca Q lq cq mask h B1 B2 B3 z a W) := by
  rintro _ X Y row ⟨g, hg, hb, ha⟩ hgr hrow
  refine ⟨g, hg, ?_, ha⟩
  refine (hgr.block g (Array.getElem?_eq_some_iff.1 hb).1 fun e => ?_).trans hb
  obtain ⟨_, o, ho, hc⟩ := hrow g e.symm
  rw [show X.heap[g]? = _ from hb] at ho
  cases ho
  cases hc
theorem PlI.own {n : Nat} (zs : List HitT) (h : HitT) (w : World) {B : Nat} (hB : w.heap.size ≤ B) : OwnFrom B (fun (pre : List (Pl n)) W => PlI zs h w pre W) := by
  refine OwnFrom.and (Own.from (fun s A C row hs hg hr => ⟨cell_kept hs.h0 hg hr, cell_kept hs.h1 hg hr, cell_kept hs.c0 hg hr, (frozen_kept hs.c0 hg hr).trans hs.f0⟩) _) (OwnFrom.and (ownFrom_below (Nat.le_refl _) hB) ?_)
  intro s X Y row hs hg _
  exact Nat.le_trans hs hg.size

set_option maxRecDepth 100000 in
set_option maxHeartbeats 2000000 in
theorem Place_any (A : Option Addr) (its : List ItT) (ca : Nat) (Q : Option Addr) (q : List Int) (cq : Nat) (mask : Int) (h : HitT) (hl : its.length ≤ 1000000000000) (w : World) (hA : ItemsAt w w.heap.size A its) (hQ : VecB w w.heap.size Q q) :
    Calls Try.prog 19 #[.slice A its.length ca, .slice Q q.length cq, .int .u64 mask, .agg #[.int .u64 h.1, .int .u64 h.2]] w fun e w' => e = .returned (.int .i64 (placeN q mask its h)) ∧ Below w.heap.size w w' := by
  have hlh := hitsL_le q mask its
  refine (callsIn_wide (n := 3)).1 ?_
  refine callsIn_of_wp_marks Try.func19 rfl trivial ?_ rfl
  simp only [Try.ntmps19, List.size_toArray, List.length_cons, List.length_nil, Nat.reduceAdd, Nat.reduceSub, Array.replicate_succ, Array.replicate_zero, List.push_toArray, List.append_toArray, List.nil_append, List.cons_append]
  gi_wp2_with (gi_at_call 63; refine CallsIn.mono (callsIn_wide.2 (hits_any _ _ _ _ _ _ _ _)) ?_; rintro e w' ⟨rfl, rfl⟩)
  have HI := ItB.new (w := (w.alloc (.cells #[.int .u64 h.1, .int .u64 h.2] 26)).alloc (.cells #[.int .i64 0] 3)) (ca := ca) (cq := cq) (mask := mask) (A := A) (its := its) (Q := Q) (q := q) ((hA.below (((Below.refl _ w).alloc (Nat.le_refl _) _).alloc (by go_size) _)).more (by simp; omega)) ((hQ.below (((Below.refl _ w).alloc (Nat.le_refl _) _).alloc (by go_size) _)).more (by simp; omega))
  simp only [World.size_alloc] at HI
  have hB0 : Below w.heap.size w (((((w.alloc (.cells #[.int .u64 h.1, .int .u64 h.2] 26)).alloc (.cells #[.int .i64 0] 3)).alloc (.cells #[.slice A its.length ca] 22)).alloc (.cells #[.slice Q q.length cq] 23)).alloc (.cells #[.int .u64 mask] 24)) := (((((Below.refl _ w).alloc (Nat.le_refl _) _).alloc (by go_size) _).alloc (by go_size) _).alloc (by go_size) _).alloc (by go_size) _
  have hP0 : PlB (((((w.alloc (.cells #[.int .u64 h.1, .int .u64 h.2] 26)).alloc (.cells #[.int .i64 0] 3)).alloc (.cells #[.slice A its.length ca] 22)).alloc (.cells #[.slice Q q.length cq] 23)).alloc (.cells #[.int .u64 mask] 24)) w.heap.size h 0 := ⟨by go_cell, by go_cell, by go_cell, by go_simp⟩
  have hS0 : w.heap.size + 5 ≤ (((((w.alloc (.cells #[.int .u64 h.1, .int .u64 h.2] 26)).alloc (.cells #[.int .i64 0] 3)).alloc (.cells #[.slice A its.length ca] 22)).alloc (.cells #[.slice Q q.length cq] 23)).alloc (.cells #[.int .u64 mask] 24)).heap.size := by simp
  have HST := hits_stops (3 - 1) w.heap.size (w.heap.size + 1 + 1) (w.heap.size + 1 + 1 + 1 + 1) (w.heap.size + 1 + 1 + 1) A its ca Q q cq mask (by omega) _ hB0.size (hA.below hB0) (hQ.below hB0) (by omega) (by omega) (by omega) HI.c1 HI.c2 HI.c3
  obtain ⟨zs, hzs⟩ : ∃ zs, hitsL q mask its = zs := ⟨_, rfl⟩
  rw [hzs] at HST hlh
  have HPN : Hid (placeN q mask its h = zs.countP fun y => ltH y h) := by rw [Hid, ← hzs]; rfl
  clear HI hA hQ
  generalize (((((w.alloc (.cells #[.int .u64 h.1, .int .u64 h.2] 26)).alloc (.cells #[.int .i64 0] 3)).alloc (.cells #[.slice A its.length ca] 22)).alloc (.cells #[.slice Q q.length cq] 23)).alloc (.cells #[.int .u64 mask] 24)) = w5 at *
  refine wpIn_rangeFunc_ownH rfl (by decide) (gf := 109) (lb := #[.pointer (some ⟨w.heap.size + 1 + 1, 0, none⟩), .pointer (some ⟨w.heap.size + 1 + 1 + 1 + 1, 0, none⟩), .pointer (some ⟨w.heap.size + 1 + 1 + 1, 0, none⟩)]) rfl trivial (enters_of Try.func109 (by kernel_rfl) rfl)
    HST kpP_t (kpP_b hB0.size (by omega) (by omega)) (Below.refl _ _) (fun _ => rfl)
    (fun pre W => PlI zs h w pre W) (fun _ _ _ => False)
    (PlI.own zs h w hB0.size)
    (fun _ _ _ _ _ hs _ _ => hs)
    ⟨hP0, hB0, hS0⟩
    (fun x a' W => PlAx w.heap.size A its.length ca Q q.length cq mask h (w.heap.size + 1 + 1) (w.heap.size + 1 + 1 + 1 + 1) (w.heap.size + 1 + 1 + 1) (htAt zs x.1) a' W) (fun x a' => PlAx.own _ _ _ _ _ _ _ _ _ _ _ _ _ _ _) ?assign ?body ?done ?stop
  case assign =>
    intro l pre x W K hI hK
    obtain ⟨hP, hB, hS⟩ := hI
    generalize htAt zs x.1 = z at hK
    unfold hitV
    dsimp only
    gi_wp2
    exact hK _ _ ((KeepsOthers.alloc _ _).from _) (kp_all ((Below.refl _ W).alloc (Nat.le_refl _) _) (by omega) (by omega) (by omega)) ⟨hP.below ((Below.refl _ W).alloc (Nat.le_refl _) _) (by omega), hB.alloc (by omega) _, by simp; omega⟩ ⟨W.heap.size, by omega, World.alloc_heap_new _ _, rfl⟩
  case body =>
    rintro l pre x a' W hl0 ⟨r, hr⟩ ⟨hP, hB, hS⟩ ⟨g, hgB, hb3, rfl⟩ hlt
    have HT := Lib.hid (cntP_snoc zs h pre x)
    have hle := cntP_le zs h pre
    generalize htAt zs x.1 = z at *
    generalize cntP zs h pre = c at *
    obtain ⟨t, ht⟩ : ∃ t, ltH z h = t := ⟨_, rfl⟩
    rw [ht] at HT
    obtain ⟨g0, g1⟩ := hb3.cells
    have h0 := hP.h0
    have h1 := hP.h1
    have HP := Lib.hid hP
    have HB := Lib.hid hB
    have hc1 : c ≤ 1000000000000 := by omega
    have hci : (c : Int) ≤ 1000000000000 := by omega
    have hci0 : (0 : Int) ≤ (c : Int) := by omega
    have HIT : Hid (Calls Try.prog 22 #[.agg #[.int .u64 z.1, .int .u64 z.2], .agg #[.int .u64 h.1, .int .u64 h.2]] W fun e w' => e = .returned (.bool t) ∧ Below W.heap.size W w') := (Hit_any z h W).mono fun _ _ ⟨he, hg⟩ => ⟨by rw [he, ht], hg.below⟩
    clear hP hB ht hP0 hB0 HST hS0 hl hlh
    cases t
    · gi_wp2_with (gi_at_call 22; refine CallsIn.mono (callsIn_wide.2 HIT.out) ?_; rintro e w' ⟨rfl, hg⟩)
      have HG := Lib.hid hg
      refine ⟨(keeps_below HG.out).from _, kp_all HG.out (by omega) (by omega) (by omega), ⟨by rw [HT.out]; exact HP.out.below HG.out (by omega), HB.out.trans (HG.out.mono HB.out.size), Nat.le_trans hS HG.out.size⟩⟩
    · gi_wp2_with (gi_at_call 22; refine CallsIn.mono (callsIn_wide.2 HIT.out) ?_; rintro e w' ⟨rfl, hg⟩; have c0 := (HP.out.below hg (by omega)).c0; have f0 := (HP.out.below hg (by omega)).f0)
      have HG := Lib.hid hg
      have HP2 := Lib.hid (HP.out.below HG.out (by omega))
      have hoth : ∀ b, b ≠ w.heap.size + 1 → ∀ o v, (w'.setCell ⟨w.heap.size + 1, 0, none⟩ v).cell? ⟨b, o, none⟩ = w'.cell? ⟨b, o, none⟩ := fun b hb o v => World.cell?_setCell_other _ _ _ _ (by simp)
      refine ⟨((keeps_below HG.out).trans (KeepsOthers.setCell _ _ _)).from _, ⟨(HG.out.mono (by omega)).setCell (p := ⟨w.heap.size + 1, 0, none⟩) (by simp) _, (hoth _ (by omega) _ _).trans (HG.out.cell (p := ⟨w.heap.size + 1 + 1 + 1 + 1, 0, none⟩) (show w.heap.size + 1 + 1 + 1 + 1 < W.heap.size by omega)), (hoth _ (by omega) _ _).trans (HG.out.cell (p := ⟨w.heap.size + 1 + 1 + 1, 0, none⟩) (show w.heap.size + 1 + 1 + 1 < W.heap.size by omega))⟩,
        ⟨(hoth _ (by omega) _ _).trans HP2.out.h0, (hoth _ (by omega) _ _).trans HP2.out.h1, by rw [HT.out]; exact World.cell?_setCell_same' _ _ _ (by rw [HP2.out.c0]; rfl), by rw [World.frozen?_setCell]; exact HP2.out.f0⟩, (HB.out.trans (HG.out.mono HB.out.size)).setCell (p := ⟨w.heap.size + 1, 0, none⟩) (by simp) _, by rw [World.size_setCell]; exact Nat.le_trans hS HG.out.size⟩
  case done =>
    rintro D pre W hD hU ⟨hP, hB, hS⟩ hK
    have HT : Hid (cntP zs h pre = zs.countP fun y => ltH y h) := by rw [Hid]; unfold cntP; rw [toldH_all pre hU]
    have c0 := hP.c0
    rw [HT.out, ← HPN.out] at c0
    gi_wp2
    refine ⟨by simp, .inl ⟨_, _, rfl, run_takeDeferred hK, ?_⟩⟩
    refine ⟨.int .i64 (placeN q mask its h), ?_, rfl, hB.trans (belowK_b (w := w) (Nat.le_refl _) _ D _ _ (by have := hB0.size; omega) hK rfl rfl)⟩
    simp [results, Try.f19, go_sem]
  case stop =>
    rintro D c pre W hD _ hX hK
    exact hX.elim

end Go.Proofs.Ytajmnhnepoomjaa
