/- slices.AppendSeq and Collect over slices.Values: the spots, in memory of the call's own. -/
import Derived.Test.YtajmnhnepoomjaaRankIter
import Derived.Test.YtajmnhnepoomjaaOwn
namespace Go.Proofs.Ytajmnhnepoomjaa
open Go.RowKit Go.Shelf
attribute [local go_sem] Oper.semAt_some wide_fn wide_depth

/-- The cells of spots, one behind the other. -/
def cellsS (zs : List SpotT) : List Value := zs.flatMap encS
theorem cellsS_snoc (zs : List SpotT) (x : SpotT) : cellsS (zs ++ [x]) = cellsS zs ++ encS x := by simp [cellsS]
theorem cellsS_len (zs : List SpotT) : (cellsS zs).length = zs.length * 3 := by
  unfold cellsS
  induction zs with
  | nil => rfl
  | cons z r ih => rw [List.flatMap_cons, List.length_append, ih]; show 3 + _ = _; rw [List.length_cons]; omega

/-- The spots that were told so far. -/
def toldS {n : Nat} (zs : List SpotT) (pre : List (Pl n)) : List SpotT := pre.map fun x => spAt zs x.1
theorem toldS_snoc {n : Nat} (zs : List SpotT) (pre : List (Pl n)) (x : Pl n) : toldS zs (pre ++ [x]) = toldS zs pre ++ [spAt zs x.1] := by simp [toldS]
theorem toldS_all {zs : List SpotT} (pre : List (Pl zs.length)) (h : UpTo zs.length pre) : toldS zs pre = zs := by
  have e : toldS zs pre = (pre.map (·.1)).map (spAt zs) := by rw [toldS, List.map_map]; rfl
  rw [e, h]
  apply List.ext_getElem?
  intro k
  rw [List.getElem?_map]
  by_cases hk : k < zs.length
  · rw [List.getElem?_range hk, spAt_lt hk]; rfl
  · rw [List.getElem?_eq_none (by simpa using hk), List.getElem?_eq_none (by omega)]; rfl

theorem info_spot : (Try.prog.info? 62).map (fun i => (i.zero, i.size, i.bytes)) = some (some (.agg #[.int .u64 0, .int .u64 0, .int .i64 0]), 3, 24) := by kernel_rfl

/-- A spot in a block of its own. -/
def Boxed3 (W : World) (g : Nat) (z : SpotT) : Prop := W.heap[g]? = some (.cells #[.int .u64 z.1.1, .int .u64 z.1.2, .int .i64 z.2] 62)
theorem Boxed3.cells {W : World} {g : Nat} {z : SpotT} (h : Boxed3 W g z) : W.cell? ⟨g, 0, none⟩ = some (.int .u64 z.1.1) ∧ W.cell? ⟨g, 1, none⟩ = some (.int .u64 z.1.2) ∧ W.cell? ⟨g, 2, none⟩ = some (.int .i64 z.2) := by
  unfold Boxed3 at h
  refine ⟨?_, ?_, ?_⟩ <;> simp [World.cell?, h]
def AppI {n : Nat} (zs : List SpotT) (w : World) (pre : List (Pl n)) (W : World) : Prop :=
  (∃ v, Boxed W w.heap.size 44 v ∧ W.ownsRow w.heap.size 62 3 v pre.length (cellsS (toldS zs pre)) ∧ True) ∧ Below w.heap.size w W
/-- The frame of a round: the round's own variable lies at g. -/
def AppAx (B Bs : Nat) (z : SpotT) (a : Act) (W : World) : Prop :=
  ∃ g, B < g ∧ Boxed3 W g z ∧ a = { tmps := #[.slice none 0 0, .func (.func 127) #[] #[.pointer (some ⟨Bs, 0, none⟩)], .pointer (some ⟨B, 0, none⟩), undef, .slice none 0 0, .pointer (some ⟨g, 0, none⟩),
    .func (.func 127) #[] #[.pointer (some ⟨Bs, 0, none⟩)], sptV z, undef, undef, undef, undef, undef], defers := [] }
theorem AppAx.own (B Bs B0 : Nat) (z : SpotT) (a : Act) : OwnFrom B0 (fun (_ : Unit) W => AppAx B Bs z a W) := by
  rintro _ X Y row ⟨g, hg, hb, ha⟩ hgr hrow
  refine ⟨g, hg, ?_, ha⟩
  refine (hgr.block g (Array.getElem?_eq_some_iff.1 hb).1 fun e => ?_).trans hb
  obtain ⟨_, o, ho, hc⟩ := hrow g e.symm
  rw [show X.heap[g]? = _ from hb] at ho
  cases ho
  cases hc

set_option maxRecDepth 100000 in
set_option maxHeartbeats 2000000 in
theorem AppendSeq_any (Bs : Nat) (A : Option Addr) (zs : List SpotT) (ca : Nat) (hl : zs.length ≤ 1000000000000) (w : World) (hlB : Bs < w.heap.size) (hA : RdS w w.heap.size A zs) (hBs : w.cell? ⟨Bs, 0, none⟩ = some (.slice A zs.length ca)) :
    Calls Try.prog 162 #[.slice none 0 0, .func (.func 127) #[] #[.pointer (some ⟨Bs, 0, none⟩)]] w fun e w' =>
      (∃ v, e = .returned v ∧ w'.ownsRow w.heap.size 62 3 v zs.length (cellsS zs)) ∧ Below w.heap.size w w' := by
  obtain ⟨i0, hi0, hz0, hz1, hz2⟩ := info_parts info_spot
  refine (callsIn_wide (n := 3)).1 ?_
  refine callsIn_of_wp_marks Try.func162 rfl trivial ?_ rfl
  simp only [Try.ntmps162, List.size_toArray, List.length_cons, List.length_nil, Nat.reduceAdd, Nat.reduceSub, Array.replicate_succ, Array.replicate_zero, List.push_toArray, List.append_toArray, List.nil_append, List.cons_append]
  gi_wp2
  have b0 := Boxed.new w 44 (.slice none 0 0)
  have hB0 : Below w.heap.size w (w.alloc (.cells #[.slice none 0 0] 44)) := (Below.refl _ w).alloc (Nat.le_refl _) _
  refine wpIn_rangeFunc_ownH rfl (by decide) (gf := 127) (lb := #[.pointer (some ⟨Bs, 0, none⟩)]) rfl trivial (enters_of Try.func127 (by kernel_rfl) rfl)
    (valuesS_stops (3 - 1) w.heap.size Bs A zs ca (by omega) _ (by simp) (by simp; omega) (hA.below hB0) ((hB0.cell (p := ⟨Bs, 0, none⟩) hlB).trans hBs)) belowK_t (belowK_b (by simp)) (Below.refl _ _) (fun _ => rfl)
    (fun pre W => AppI zs w pre W) (fun _ _ _ => False)
    (OwnFrom.and (Own.from (holdsRow_own w.heap.size w.heap.size 44 62 3 (fun pre : List (Pl zs.length) => pre.length) (fun pre => cellsS (toldS zs pre)) (fun _ _ => True)) _) (ownFrom_below (Nat.le_refl _) (by simp)))
    (fun _ _ _ _ _ hs _ _ => hs)
    ⟨⟨_, b0, World.ownsRow_nil _ _ _ _, trivial⟩, hB0⟩
    (fun x a' W => AppAx w.heap.size Bs (spAt zs x.1) a' W) (fun x a' => AppAx.own _ _ _ _ _) ?assign ?body ?done ?stop
  case assign =>
    intro l pre x W K hI hK
    obtain ⟨⟨v, hbx, hown, _⟩, hB⟩ := hI
    have hW := hbx.lt
    generalize spAt zs x.1 = z at hK
    unfold sptV
    dsimp only
    gi_wp2
    exact hK _ _ ((KeepsOthers.alloc _ _).from _) ((Below.refl _ W).alloc (by omega) _) ⟨⟨v, hbx.alloc _, hown.alloc _, trivial⟩, hB.alloc (by omega) _⟩ ⟨W.heap.size, hW, World.alloc_heap_new _ _, rfl⟩
  case body =>
    rintro l pre x a' W hl0 ⟨r, hr⟩ ⟨⟨v, hbx, hown, _⟩, hB⟩ ⟨g, hgB, hb3, rfl⟩ hlt
    have hW := hbx.lt
    have HT := Lib.hid (toldS_snoc zs pre x)
    generalize spAt zs x.1 = z at *
    obtain ⟨g0, g1, g2⟩ := hb3.cells
    have cb := hbx.cell
    have fb := hbx.frozen
    gi_wp2_with (gi_at_builtin; refine wpListIn_append_own _ rfl _ _ 44 rfl w.heap.size 62 i0 (.agg #[.int .u64 0, .int .u64 0, .int .i64 0]) 3 24 Try.underlying44 hi0 hz0 hz1 hz2 rfl (by decide) _ _ _ rfl (hown.alloc _) ⟨W.heap.size, 0, none⟩ 1 1 [.int .u64 z.1.1, .int .u64 z.1.2, .int .i64 z.2] rfl rfl ?c1 ?c2 ?c3 ?c4 ?c5 ?_)
    case c1 =>
      intro j u hj
      match j, hj with
      | 0, hj => simp at hj; subst hj; simp [Addr.add]
      | 1, hj => simp at hj; subst hj; simp [Addr.add]
      | 2, hj => simp at hj; subst hj; simp [Addr.add]
    case c2 => intro u hu; simp at hu; rcases hu with rfl | rfl | rfl <;> rfl
    case c3 => unfold maxLen; omega
    case c4 => omega
    case c5 => simp; omega
    intro v' w2 hown2 hgrow _
    obtain ⟨p1, p2, p3, p4, p5⟩ := Boxed.appended hbx (by decide) hown (by omega) (Nat.le_refl _) hown2 hgrow
    have cb2 := p1.cell
    have fb2 := p1.frozen
    obtain ⟨g', cap', rfl⟩ := ownsRow_succ hown2
    clear hgrow hown hown2 cb fb g0 g1 g2
    gi_wp2
    refine ⟨p4.from _, p5, ⟨_, p2, ?_, trivial⟩, hB.trans p5⟩
    rw [HT.out, cellsS_snoc, List.length_append]
    exact p3
  case done =>
    rintro D pre W hD hU ⟨⟨v, hbx, hown, _⟩, hB⟩ hK
    have HT := Lib.hid (toldS_all pre hU)
    have HL := Lib.hid hU.len
    have cb := hbx.cell
    gi_wp2
    refine ⟨by simp, .inl ⟨_, _, rfl, run_takeDeferred hK, ?_⟩⟩
    refine ⟨v, ?_, ⟨v, rfl, ?_⟩, hB.trans (belowK_b (w := w) (Nat.le_refl _) _ D _ _ (by simp at hD; omega) hK rfl rfl)⟩
    · simp [results, Try.f162, go_sem]
    · have := ownsRow_putObj hown (.deferred none) hK rfl
      rw [HT.out, HL.out] at this
      exact this
  case stop =>
    rintro D c pre W hD _ hX hK
    exact hX.elim

set_option maxHeartbeats 400000 in
theorem Collect_any (Bs : Nat) (A : Option Addr) (zs : List SpotT) (ca : Nat) (hl : zs.length ≤ 1000000000000) (w : World) (hlB : Bs < w.heap.size) (hA : RdS w w.heap.size A zs) (hBs : w.cell? ⟨Bs, 0, none⟩ = some (.slice A zs.length ca)) :
    Calls Try.prog 125 #[.func (.func 127) #[] #[.pointer (some ⟨Bs, 0, none⟩)]] w fun e w' =>
      (∃ v, e = .returned v ∧ w'.ownsRow w.heap.size 62 3 v zs.length (cellsS zs)) ∧ Below w.heap.size w w' := by
  go_enter Try.func125, Try.ntmps125
  go_wp2_with fail
  refine (AppendSeq_any Bs A zs ca hl _ hlB hA hBs).mono ?_
  rintro e w1 ⟨⟨v, rfl, hown⟩, hb⟩
  go_wp2
  go_ret
  exact ⟨⟨_, rfl, hown⟩, hb⟩

end Go.Proofs.Ytajmnhnepoomjaa
