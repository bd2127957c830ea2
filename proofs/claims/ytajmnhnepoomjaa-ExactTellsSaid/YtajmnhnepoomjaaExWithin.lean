/- exact.Within, by contract. -/
import Derived.Test.YtajmnhnepoomjaaExPlace
namespace Go.Proofs.Ytajmnhnepoomjaa
open Go.RowKit Go.Shelf Go.Sort
attribute [local go_sem] Oper.semAt_some wide_fn wide_depth

theorem boxed_own {β : Type} (B : Nat) (t : TypeId) (v : Value) : Own (fun (_ : β) W => Boxed W B t v) := by
  rintro s X Y row hv hg hrow
  exact hv.kept hg (fun e' => by
    obtain ⟨o, ho, hc⟩ := hrow B e'.symm
    rw [show X.heap[B]? = _ from hv] at ho
    cases ho
    cases hc)
/-- Those that are near enough, of those told so far. -/
def nearL {n : Nat} (zs : List HitT) (most : Int) (pre : List (Pl n)) : List HitT := (toldH zs pre).filter fun y => decide (y.1 ≤ most)
theorem nearL_snoc {n : Nat} (zs : List HitT) (most : Int) (pre : List (Pl n)) (x : Pl n) : nearL zs most (pre ++ [x]) = nearL zs most pre ++ (if (htAt zs x.1).1 ≤ most then [htAt zs x.1] else []) := by
  unfold nearL
  rw [toldH_snoc, List.filter_append]
  by_cases e : (htAt zs x.1).1 ≤ most <;> simp [e]
theorem nearL_le {n : Nat} (zs : List HitT) (most : Int) (pre : List (Pl n)) : (nearL zs most pre).length ≤ pre.length := by
  unfold nearL
  refine Nat.le_trans (List.length_filter_le _ _) ?_
  unfold toldH
  rw [List.length_map]
  exact Nat.le_refl _
def WnI {n : Nat} (zs : List HitT) (most : Int) (q2 q3 : Value) (w : World) (pre : List (Pl n)) (W : World) : Prop :=
  Boxed W w.heap.size 24 (.int .u64 most) ∧ (Boxed W (w.heap.size + 1 + 1 + 1 + 1) 24 q2 ∧ (Boxed W (w.heap.size + 1 + 1 + 1) 23 q3 ∧
    ((∃ v, Boxed W (w.heap.size + 1) 30 v ∧ W.ownsRow w.heap.size 26 2 v (nearL zs most pre).length (cellsH (nearL zs most pre)) ∧ True) ∧ Below w.heap.size w W)))
theorem WnI.own {n : Nat} (zs : List HitT) (most : Int) (q2 q3 : Value) (w : World) {B : Nat} (hB : w.heap.size ≤ B) : OwnFrom B (fun (pre : List (Pl n)) W => WnI zs most q2 q3 w pre W) :=
  OwnFrom.and (Own.from (boxed_own _ _ _) _) (OwnFrom.and (Own.from (boxed_own _ _ _) _) (OwnFrom.and (Own.from (boxed_own _ _ _) _) (OwnFrom.and (Own.from (holdsRow_own w.heap.size (w.heap.size + 1) 30 26 2 (fun pre : List (Pl n) => (nearL zs most pre).length) (fun pre => cellsH (nearL zs most pre)) (fun _ _ => True)) _) (ownFrom_below (Nat.le_refl _) hB))))
theorem WnI.alloc {n : Nat} {zs : List HitT} {most : Int} {q2 q3 : Value} {w W : World} {pre : List (Pl n)} (h : WnI zs most q2 q3 w pre W) (o : Obj) : WnI zs most q2 q3 w pre (W.alloc o) := by
  obtain ⟨h1, h2, h3, ⟨v, h4, h5, _⟩, h6⟩ := h
  exact ⟨h1.alloc _, h2.alloc _, h3.alloc _, ⟨v, h4.alloc _, h5.alloc _, trivial⟩, h6.alloc h6.size _⟩
def WnAx (b : Nat) (A : Option Addr) (la ca : Nat) (Q : Option Addr) (lq cq : Nat) (mask most : Int) (B1 B2 B3 : Nat) (z : HitT) (a : Act) (W : World) : Prop :=
  ∃ g, b + 1 < g ∧ BoxedH W g z ∧ a = { tmps := #[.slice A la ca, .slice Q lq cq, .int .u64 mask, .int .u64 most, undef, undef, undef, .pointer (some ⟨b, 0, none⟩), .slice none 0 0, .pointer (some ⟨b + 1, 0, none⟩), .pointer (some ⟨g, 0, none⟩), .slice A la ca, .slice Q lq cq, .int .u64 mask,
    .func (.func 109) #[] #[.pointer (some ⟨B1, 0, none⟩), .pointer (some ⟨B2, 0, none⟩), .pointer (some ⟨B3, 0, none⟩)], hitV z, undef, undef, undef, undef, undef, undef, undef, undef, undef, undef, undef], defers := [] }
theorem WnAx.own (b : Nat) (A : Option Addr) (la ca : Nat) (Q : Option Addr) (lq cq : Nat) (mask most : Int) (B1 B2 B3 B0 : Nat) (z : HitT) (a : Act) : OwnFrom B0 (fun (_ : Unit) W => WnAx b A la ca Q lq cq mask most B1 B2 B3 z a W) := by
  rintro _ X Y row ⟨g, hg, hb, ha⟩ hgr hrow
  refine ⟨g, hg, ?_, ha⟩
  refine (hgr.block g (Array.getElem?_eq_some_iff.1 hb).1 fun e => ?_).trans hb
  obtain ⟨_, o, ho, hc⟩ := hrow g e.symm
  rw [show X.heap[g]? = _ from hb] at ho
  cases ho
  cases hc
/-- What a sort leaves alone. -/
theorem sortH_block {blk off n : Nat} {w : World} {d : Array HitT} {os : Array Obj} {j : Nat} (hj : j < w.heap.size) (hne : blk ≠ j) : (sortWorldK encH 2 w blk off n d os).heap[j]? = w.heap[j]? := by
  show (w.heap.modify blk _ ++ os)[j]? = _
  rw [Array.getElem?_append_left (by rw [Array.size_modify]; omega), Array.getElem?_modify, if_neg hne]

set_option maxRecDepth 100000 in
set_option maxHeartbeats 4000000 in
theorem Within_any (A : Option Addr) (its : List ItT) (ca : Nat) (Q : Option Addr) (q : List Int) (cq : Nat) (mask most : Int) (hl : its.length ≤ 1000000000000) (w : World) (hA : ItemsAt w w.heap.size A its) (hQ : VecB w w.heap.size Q q) :
    Calls Try.prog 17 #[.slice A its.length ca, .slice Q q.length cq, .int .u64 mask, .int .u64 most] w (HitsOut (withinL q mask its most) w) := by
  have hlh := hitsL_le q mask its
  obtain ⟨i0, hi0, hz0, hz1, hz2⟩ := info_parts info_hit
  refine (callsIn_wide (n := 3)).1 ?_
  refine callsIn_of_wp_marks Try.func17 rfl trivial ?_ rfl
  simp only [Try.ntmps17, List.size_toArray, List.length_cons, List.length_nil, Nat.reduceAdd, Nat.reduceSub, Array.replicate_succ, Array.replicate_zero, List.push_toArray, List.append_toArray, List.nil_append, List.cons_append]
  gi_wp2_with (gi_at_call 63; refine CallsIn.mono (callsIn_wide.2 (hits_any _ _ _ _ _ _ _ _)) ?_; rintro e w' ⟨rfl, rfl⟩)
  have HI := ItB.new (w := (w.alloc (.cells #[.int .u64 most] 24)).alloc (.cells #[.slice none 0 0] 30)) (ca := ca) (cq := cq) (mask := mask) (A := A) (its := its) (Q := Q) (q := q) ((hA.below (((Below.refl _ w).alloc (Nat.le_refl _) _).alloc (by go_size) _)).more (by simp; omega)) ((hQ.below (((Below.refl _ w).alloc (Nat.le_refl _) _).alloc (by go_size) _)).more (by simp; omega))
  simp only [World.size_alloc] at HI
  have hB0 : Below w.heap.size w (((((w.alloc (.cells #[.int .u64 most] 24)).alloc (.cells #[.slice none 0 0] 30)).alloc (.cells #[.slice A its.length ca] 22)).alloc (.cells #[.slice Q q.length cq] 23)).alloc (.cells #[.int .u64 mask] 24)) := (((((Below.refl _ w).alloc (Nat.le_refl _) _).alloc (by go_size) _).alloc (by go_size) _).alloc (by go_size) _).alloc (by go_size) _
  have hI0 : ∀ n (zs : List HitT), WnI (n := n) zs most (.int .u64 mask) (.slice Q q.length cq) w [] (((((w.alloc (.cells #[.int .u64 most] 24)).alloc (.cells #[.slice none 0 0] 30)).alloc (.cells #[.slice A its.length ca] 22)).alloc (.cells #[.slice Q q.length cq] 23)).alloc (.cells #[.int .u64 mask] 24)) := fun n zs => by
    have b0 := Boxed.new w 24 (.int .u64 most)
    have b1 := Boxed.new (w.alloc (.cells #[.int .u64 most] 24)) 30 (.slice none 0 0)
    have b3 := Boxed.new (((w.alloc (.cells #[.int .u64 most] 24)).alloc (.cells #[.slice none 0 0] 30)).alloc (.cells #[.slice A its.length ca] 22)) 23 (.slice Q q.length cq)
    have b4 := Boxed.new ((((w.alloc (.cells #[.int .u64 most] 24)).alloc (.cells #[.slice none 0 0] 30)).alloc (.cells #[.slice A its.length ca] 22)).alloc (.cells #[.slice Q q.length cq] 23)) 24 (.int .u64 mask)
    simp only [World.size_alloc] at b1 b3 b4
    exact ⟨(((b0.alloc _).alloc _).alloc _).alloc _, b4, b3.alloc _, ⟨_, ((b1.alloc _).alloc _).alloc _, World.ownsRow_nil _ _ _ _, trivial⟩, hB0⟩
  have hS0 : w.heap.size + 5 ≤ (((((w.alloc (.cells #[.int .u64 most] 24)).alloc (.cells #[.slice none 0 0] 30)).alloc (.cells #[.slice A its.length ca] 22)).alloc (.cells #[.slice Q q.length cq] 23)).alloc (.cells #[.int .u64 mask] 24)).heap.size := by simp
  have HST := hits_stops (3 - 1) w.heap.size (w.heap.size + 1 + 1) (w.heap.size + 1 + 1 + 1 + 1) (w.heap.size + 1 + 1 + 1) A its ca Q q cq mask (by omega) _ hB0.size (hA.below hB0) (hQ.below hB0) (by omega) (by omega) (by omega) HI.c1 HI.c2 HI.c3
  obtain ⟨zs, hzs⟩ : ∃ zs, hitsL q mask its = zs := ⟨_, rfl⟩
  rw [hzs] at HST hlh
  have HPN : Hid (withinL q mask its most = sortH (zs.filter fun y => decide (y.1 ≤ most))) := by rw [Hid, withinL_sort, hzs]
  clear HI hA hQ
  have hI1 := hI0 zs.length zs
  clear hI0
  generalize (((((w.alloc (.cells #[.int .u64 most] 24)).alloc (.cells #[.slice none 0 0] 30)).alloc (.cells #[.slice A its.length ca] 22)).alloc (.cells #[.slice Q q.length cq] 23)).alloc (.cells #[.int .u64 mask] 24)) = w5 at *
  refine wpIn_rangeFunc_ownH rfl (by decide) (gf := 109) (lb := #[.pointer (some ⟨w.heap.size + 1 + 1, 0, none⟩), .pointer (some ⟨w.heap.size + 1 + 1 + 1 + 1, 0, none⟩), .pointer (some ⟨w.heap.size + 1 + 1 + 1, 0, none⟩)]) rfl trivial (enters_of Try.func109 (by kernel_rfl) rfl)
    HST kpP_t (kpP_b hB0.size (by omega) (by omega)) (Below.refl _ _) (fun _ => rfl)
    (fun pre W => WnI zs most (.int .u64 mask) (.slice Q q.length cq) w pre W) (fun _ _ _ => False)
    (WnI.own zs most _ _ w hB0.size)
    (fun _ _ _ _ _ hs _ _ => hs)
    hI1
    (fun x a' W => WnAx w.heap.size A its.length ca Q q.length cq mask most (w.heap.size + 1 + 1) (w.heap.size + 1 + 1 + 1 + 1) (w.heap.size + 1 + 1 + 1) (htAt zs x.1) a' W) (fun x a' => WnAx.own _ _ _ _ _ _ _ _ _ _ _ _ _ _ _) ?assign ?body ?done ?stop
  case assign =>
    intro l pre x W K hI hK
    have hlt := hI.2.1.lt
    generalize htAt zs x.1 = z at hK
    unfold hitV
    dsimp only
    gi_wp2
    exact hK _ _ ((KeepsOthers.alloc _ _).from _) (kp_all ((Below.refl _ W).alloc (Nat.le_refl _) _) (by omega) (by omega) (by omega)) (hI.alloc _) ⟨W.heap.size, by omega, World.alloc_heap_new _ _, rfl⟩
  case body =>
    rintro l pre x a' W hl0 ⟨r, hr⟩ ⟨hb0, hb4, hb3, ⟨v, hbx, hown, _⟩, hB⟩ ⟨g, hgB, hbz, rfl⟩ hlt
    have hW := hb4.lt
    have HT := Lib.hid (nearL_snoc zs most pre x)
    have hle := nearL_le zs most pre
    generalize htAt zs x.1 = z at *
    generalize nearL zs most pre = L at *
    obtain ⟨g0, g1⟩ := hbz.cells
    have cm := hb0.cell
    have cb := hbx.cell
    have fb := hbx.frozen
    clear hI1 HST
    by_cases ht : z.1 ≤ most
    · rw [if_pos ht] at HT
      gi_wp2_with (gi_at_builtin; refine wpListIn_append_own _ rfl _ _ 30 rfl w.heap.size 26 i0 (.agg #[.int .u64 0, .int .u64 0]) 2 16 Try.underlying30 hi0 hz0 hz1 hz2 rfl (by decide) _ _ _ rfl (hown.alloc _) ⟨W.heap.size, 0, none⟩ 1 1 [.int .u64 z.1, .int .u64 z.2] rfl rfl ?c1 ?c2 ?c3 ?c4 ?c5 ?_)
      case c1 =>
        intro j u hj
        match j, hj with
        | 0, hj => simp at hj; subst hj; simp [Addr.add]
        | 1, hj => simp at hj; subst hj; simp [Addr.add]
      case c2 => intro u hu; simp at hu; rcases hu with rfl | rfl <;> rfl
      case c3 => unfold maxLen; omega
      case c4 => omega
      case c5 => simp; omega
      intro v' w2 hown2 hgrow _
      obtain ⟨p1, p2, p3, p4, p5⟩ := Boxed.appended hbx (by decide) hown (by omega) (by omega) hown2 hgrow
      have hsc := grownBy_setCell' w2 (w.heap.size + 1) v'
      have n0 := (((hb0.alloc _).kept hgrow (hb0.not_row (by decide) hown))).kept hsc (by intro e; injection e with e; omega)
      have n4 := (((hb4.alloc _).kept hgrow (hb4.not_row (by decide) hown))).kept hsc (by intro e; injection e with e; omega)
      have n3 := (((hb3.alloc _).kept hgrow (hb3.not_row (by decide) hown))).kept hsc (by intro e; injection e with e; omega)
      have cb2 := p1.cell
      have fb2 := p1.frozen
      obtain ⟨g', cap', rfl⟩ := ownsRow_succ hown2
      have HKP := Lib.hid (show KpP w.heap.size (w.heap.size + 1 + 1 + 1 + 1) (w.heap.size + 1 + 1 + 1) W (w2.setCell ⟨w.heap.size + 1, 0, none⟩ (.slice (some ⟨g', 0, none⟩) (L.length + 1) cap')) from ⟨p5, n4.cell.trans hb4.cell.symm, n3.cell.trans hb3.cell.symm⟩)
      have HNI := Lib.hid (And.intro n0 (And.intro n4 n3))
      have HPP := Lib.hid (And.intro p2 (And.intro p3 p4))
      have HB9 := Lib.hid (hB.trans p5)
      clear hgrow hown hown2 cb fb g0 g1 cm n0 n4 n3 p1 p2 p3 p4 p5 hsc hb0 hb4 hb3 hbx hB
      gi_wp2
      refine ⟨HPP.out.2.2.from _, HKP.out, HNI.out.1, HNI.out.2.1, HNI.out.2.2, ⟨_, HPP.out.1, ?_, trivial⟩, HB9.out⟩
      rw [HT.out, cellsH_snoc, List.length_append]
      exact HPP.out.2.1
    · rw [if_neg ht, List.append_nil] at HT
      have htd : decide (z.1 ≤ most) = false := by simpa using ht
      gi_wp2
      exact ⟨(KeepsOthers.refl _).from _, ⟨Below.refl _ _, rfl, rfl⟩, hb0, hb4, hb3, ⟨v, hbx, by rw [HT.out]; exact hown, trivial⟩, hB⟩
  case done =>
    rintro D pre W hD hU ⟨hb0, hb4, hb3, ⟨v, hbx, hown, _⟩, hB⟩ hK
    have hL : nearL zs most pre = zs.filter fun y => decide (y.1 ≤ most) := by unfold nearL; rw [toldH_all pre hU]
    have hle : (zs.filter fun y => decide (y.1 ≤ most)).length ≤ zs.length := List.length_filter_le _ _
    rw [hL] at hown
    obtain ⟨F, hF⟩ : ∃ F, (zs.filter fun y => decide (y.1 ≤ most)) = F := ⟨_, rfl⟩
    rw [hF] at hown hle
    have HOR : Hid (withinL q mask its most = sortH F) := by rw [Hid, ← hF]; exact HPN.out
    obtain ⟨A1, c1, rfl, hc1, hm1⟩ := ownSlice hown
    have cb := hbx.cell
    clear hL hF
    by_cases h0 : F.length = 0
    · obtain rfl := List.eq_nil_of_length_eq_zero h0
      gi_wp2_with (gi_at_call 66; refine CallsIn.mono (callsIn_wide.2 (SortHits_none _ _ _ _)) ?_; rintro e w2 ⟨rfl, rfl⟩)
      refine ⟨by simp, .inl ⟨_, _, rfl, run_takeDeferred hK, ?_⟩⟩
      refine ⟨.slice A1 0 c1, ?_, A1, c1, by rw [HOR.out, sortH_nil]; rfl, by rw [HOR.out, sortH_nil]; exact RdH.nil, by rw [HOR.out, sortH_nil]; exact Nat.zero_le _, hm1, hB.trans (belowK_b (w := w) (Nat.le_refl _) _ D _ _ (by have := hB0.size; omega) hK rfl rfl)⟩
      simp [results, Try.f17, go_sem]
    · obtain ⟨g, rfl, hg, hgw⟩ := ownPos hown (by omega)
      have hng : g ≠ w.heap.size + 1 := fun e => hbx.not_row (by decide) hown (by simp [Value.ownBlock, e])
      have hDg : g ≠ D := fun e => by
        rcases hown.2 with ⟨hv, _⟩ | ⟨g', cap', cur, hv, _, hh, _⟩
        · cases hv
        · injection hv with hv _ _
          injection hv with hv
          injection hv with hv
          rw [← hv, e] at hh
          rw [show W.heap[D]? = _ from hK] at hh
          cases hh
      have hH := holds_ownH hown rfl
      have hS := SortHits_any g 0 c1 F.toArray W hH hgw (by simp; omega)
      rw [show F.toArray.size = F.length by simp] at hS
      have HS := Lib.hid hS
      have HH := Lib.hid hH
      have hbl := hbx.lt
      have HBB := Lib.hid hB
      clear hS hH hown hb0 hb4 hb3 hB
      gi_wp2_with (gi_at_call 66; refine CallsIn.mono (callsIn_wide.2 HS.out) ?_; rintro e w2 ⟨rfl, nn, os, hw2⟩; have cb2 : w2.cell? ⟨w.heap.size + 1, 0, none⟩ = some (.slice (some ⟨g, 0, none⟩) F.length c1) := (by rw [← cb, hw2]; exact World.cell?_of_block (sortH_block hbl hng)); have HW2 := Lib.hid hw2; clear hw2)
      have hw2 := HW2.out
      have hK2 : w2.heap[D]? = W.heap[D]? := by rw [hw2]; exact sortH_block (Array.getElem?_eq_some_iff.1 hK).1 hDg
      have hK' := hK2.trans hK
      have hKs : HoldsK encH 2 w2 g 0 (sortH F).toArray := by
        rw [hw2]
        exact holdsK_sortWorldK_c encH 2 W g 0 F.toArray _ nn os HH.out hgw (by simp [sortH_len])
      have hb2 : Below w.heap.size W w2 := by rw [hw2]; exact sortWorldH_below hg hgw
      have hgw2 : g < w2.heap.size := Nat.lt_of_lt_of_le hgw hb2.size
      clear hw2 HW2 HS HH
      refine ⟨by simp, .inl ⟨_, _, rfl, run_takeDeferred hK', ?_⟩⟩
      refine ⟨.slice (some ⟨g, 0, none⟩) F.length c1, ?_, some ⟨g, 0, none⟩, c1, by rw [HOR.out, sortH_len], ?_, by rw [HOR.out, sortH_len]; exact hc1, hm1, (HBB.out.trans hb2).trans (belowK_b (w := w) (Nat.le_refl _) _ D _ _ (by have := hB0.size; omega) hK' rfl rfl)⟩
      · simp [results, Try.f17, go_sem]
      · rw [HOR.out]
        intro k z hz
        obtain ⟨b, off, e1, e2, e3, e4⟩ := sorted_rd hKs hgw2 k z hz
        exact ⟨b, off, e1, by simpa using e2, cell_kept e3 (grownBy_putObj' _ D (.deferred none)) (fun r e => by cases e; exact ⟨_, hK', rfl⟩), cell_kept e4 (grownBy_putObj' _ D (.deferred none)) (fun r e => by cases e; exact ⟨_, hK', rfl⟩)⟩
  case stop =>
    rintro D c pre W hD _ hX hK
    exact hX.elim

end Go.Proofs.Ytajmnhnepoomjaa
