/- slices.SortedFunc over the hits of the items that count; exact.Search, by contract. -/
import Derived.Test.YtajmnhnepoomjaaExHits
import Derived.Test.YtajmnhnepoomjaaExCmp
import Derived.Test.YtajmnhnepoomjaaRankSort
namespace Go.Proofs.Ytajmnhnepoomjaa
open Go.RowKit Go.Shelf Go.Sort
attribute [local go_sem] Oper.semAt_some wide_fn wide_depth

/-- The slice that begins at A reads, in w, as these hits, in blocks below B. -/
def RdH (w : World) (B : Nat) (A : Option Addr) (zs : List HitT) : Prop :=
  ∀ k z, zs[k]? = some z → ∃ b off, A = some ⟨b, off, none⟩ ∧ b < B ∧ w.cell? ⟨b, off + k * 2, none⟩ = some (.int .u64 z.1) ∧ w.cell? ⟨b, off + k * 2 + 1, none⟩ = some (.int .u64 z.2)
section
variable {w w' : World} {B B' : Nat} {A : Option Addr} {zs : List HitT}
theorem RdH.nil : RdH w B A [] := fun k z h => by simp at h
theorem RdH.below (h : RdH w B A zs) (hb : Below B w w') : RdH w' B A zs := fun k z hz => by
  obtain ⟨b, off, hA, hlt, h0, h1⟩ := h k z hz
  exact ⟨b, off, hA, hlt, (hb.cell (p := ⟨b, off + k * 2, none⟩) hlt).trans h0, (hb.cell (p := ⟨b, off + k * 2 + 1, none⟩) hlt).trans h1⟩
theorem RdH.more (h : RdH w B A zs) (hB : B ≤ B') : RdH w B' A zs := fun k z hz => by
  obtain ⟨b, off, hA, hlt, hc⟩ := h k z hz
  exact ⟨b, off, hA, by omega, hc⟩
end
/-- The cells of hits, one behind the other. -/
def cellsH (zs : List HitT) : List Value := zs.flatMap encH
theorem cellsH_snoc (zs : List HitT) (x : HitT) : cellsH (zs ++ [x]) = cellsH zs ++ encH x := by simp [cellsH]
theorem cellsH_len (zs : List HitT) : (cellsH zs).length = zs.length * 2 := by
  unfold cellsH
  induction zs with
  | nil => rfl
  | cons z r ih => rw [List.flatMap_cons, List.length_append, ih]; show 2 + _ = _; rw [List.length_cons]; omega
theorem cellsH_get : ∀ (zs : List HitT) (k c : Nat) (h : k < zs.length), c < 2 → (cellsH zs)[k * 2 + c]? = some ((encH zs[k])[c]!)
  | z :: r, 0, c, _, hc => by
    have e : cellsH (z :: r) = encH z ++ cellsH r := rfl
    rw [e, List.getElem?_append_left (by show 0 * 2 + c < 2; omega)]
    match c, hc with
    | 0, _ => rfl
    | 1, _ => rfl
  | z :: r, k + 1, c, h, hc => by
    have e : cellsH (z :: r) = encH z ++ cellsH r := rfl
    have hl : (encH z).length = 2 := rfl
    rw [e, List.getElem?_append_right (by rw [hl]; omega), hl, show (k + 1) * 2 + c - 2 = k * 2 + c by omega]
    exact cellsH_get r k c (by simpa using h) hc
/-- The hits that were told so far. -/
def toldH {n : Nat} (zs : List HitT) (pre : List (Pl n)) : List HitT := pre.map fun x => htAt zs x.1
theorem toldH_snoc {n : Nat} (zs : List HitT) (pre : List (Pl n)) (x : Pl n) : toldH zs (pre ++ [x]) = toldH zs pre ++ [htAt zs x.1] := by simp [toldH]
theorem toldH_all {zs : List HitT} (pre : List (Pl zs.length)) (h : UpTo zs.length pre) : toldH zs pre = zs := by
  have e : toldH zs pre = (pre.map (·.1)).map (htAt zs) := by rw [toldH, List.map_map]; rfl
  rw [e, h]
  apply List.ext_getElem?
  intro k
  rw [List.getElem?_map]
  by_cases hk : k < zs.length
  · rw [List.getElem?_range hk, htAt_lt hk]; rfl
  · rw [List.getElem?_eq_none (by simpa using hk), List.getElem?_eq_none (by omega)]; rfl
theorem info_hit : (Try.prog.info? 26).map (fun i => (i.zero, i.size, i.bytes)) = some (some (.agg #[.int .u64 0, .int .u64 0]), 2, 16) := by kernel_rfl
/-- A hit in a block of its own. -/
def BoxedH (W : World) (g : Nat) (z : HitT) : Prop := W.heap[g]? = some (.cells #[.int .u64 z.1, .int .u64 z.2] 26)
theorem BoxedH.cells {W : World} {g : Nat} {z : HitT} (h : BoxedH W g z) : W.cell? ⟨g, 0, none⟩ = some (.int .u64 z.1) ∧ W.cell? ⟨g, 1, none⟩ = some (.int .u64 z.2) := by
  unfold BoxedH at h
  refine ⟨?_, ?_⟩ <;> simp [World.cell?, h]
/-- The iterator, as a value. -/
def itF (B1 B2 B3 : Nat) : Value := .func (.func 109) #[] #[.pointer (some ⟨B1, 0, none⟩), .pointer (some ⟨B2, 0, none⟩), .pointer (some ⟨B3, 0, none⟩)]
def AppIH {n : Nat} (zs : List HitT) (w : World) (pre : List (Pl n)) (W : World) : Prop :=
  (∃ v, Boxed W w.heap.size 30 v ∧ W.ownsRow w.heap.size 26 2 v pre.length (cellsH (toldH zs pre)) ∧ True) ∧ Below w.heap.size w W
/-- The frame of a round: the round's own variable lies at g. -/
def AppAxH (B B1 B2 B3 : Nat) (z : HitT) (a : Act) (W : World) : Prop :=
  ∃ g, B < g ∧ BoxedH W g z ∧ a = { tmps := #[.slice none 0 0, .func (.func 109) #[] #[.pointer (some ⟨B1, 0, none⟩), .pointer (some ⟨B2, 0, none⟩), .pointer (some ⟨B3, 0, none⟩)], .pointer (some ⟨B, 0, none⟩), undef, .slice none 0 0, .pointer (some ⟨g, 0, none⟩),
    .func (.func 109) #[] #[.pointer (some ⟨B1, 0, none⟩), .pointer (some ⟨B2, 0, none⟩), .pointer (some ⟨B3, 0, none⟩)], hitV z, undef, undef, undef, undef, undef], defers := [] }
theorem AppAxH.own (B B1 B2 B3 B0 : Nat) (z : HitT) (a : Act) : OwnFrom B0 (fun (_ : Unit) W => AppAxH B B1 B2 B3 z a W) := by
  rintro _ X Y row ⟨g, hg, hb, ha⟩ hgr hrow
  refine ⟨g, hg, ?_, ha⟩
  refine (hgr.block g (Array.getElem?_eq_some_iff.1 hb).1 fun e => ?_).trans hb
  obtain ⟨_, o, ho, hc⟩ := hrow g e.symm
  rw [show X.heap[g]? = _ from hb] at ho
  cases ho
  cases hc

/-- The boxes that the iterator keeps. -/
structure ItB (w : World) (B : Nat) (A : Option Addr) (its : List ItT) (ca : Nat) (Q : Option Addr) (q : List Int) (cq : Nat) (mask : Int) (B1 B2 B3 : Nat) : Prop where
  it : ItemsAt w B A its
  vec : VecB w B Q q
  l1 : B1 < B
  l2 : B2 < B
  l3 : B3 < B
  c1 : w.cell? ⟨B1, 0, none⟩ = some (.slice A its.length ca)
  c2 : w.cell? ⟨B2, 0, none⟩ = some (.int .u64 mask)
  c3 : w.cell? ⟨B3, 0, none⟩ = some (.slice Q q.length cq)
theorem ItB.below {w w' : World} {B : Nat} {A : Option Addr} {its : List ItT} {ca : Nat} {Q : Option Addr} {q : List Int} {cq : Nat} {mask : Int} {B1 B2 B3 : Nat} (h : ItB w B A its ca Q q cq mask B1 B2 B3) (hb : Below B w w') : ItB w' B A its ca Q q cq mask B1 B2 B3 :=
  ⟨h.it.below hb, h.vec.below hb, h.l1, h.l2, h.l3, (hb.cell (p := ⟨B1, 0, none⟩) h.l1).trans h.c1, (hb.cell (p := ⟨B2, 0, none⟩) h.l2).trans h.c2, (hb.cell (p := ⟨B3, 0, none⟩) h.l3).trans h.c3⟩
theorem ItB.stops {w : World} {B : Nat} {A : Option Addr} {its : List ItT} {ca : Nat} {Q : Option Addr} {q : List Int} {cq : Nat} {mask : Int} {B1 B2 B3 : Nat} (h : ItB w B A its ca Q q cq mask B1 B2 B3) (m : Nat) (hl : its.length ≤ 3074457345618258602) (hB : B ≤ w.heap.size) :
    SeqStopsK Fence.wide m Try.prog 109 #[.pointer (some ⟨B1, 0, none⟩), .pointer (some ⟨B2, 0, none⟩), .pointer (some ⟨B3, 0, none⟩)] (fun x : Pl (hitsL q mask its).length => #[hitV (htAt (hitsL q mask its) x.1)]) (KpP B B2 B3)
      (fun pre => UpTo (hitsL q mask its).length pre) (fun pre => ∃ k, k ≤ (hitsL q mask its).length ∧ UpTo k pre) (hitsL q mask its).length w :=
  hits_stops m B B1 B2 B3 A its ca Q q cq mask hl w hB h.it h.vec (Nat.lt_of_lt_of_le h.l1 hB) (Nat.lt_of_lt_of_le h.l2 hB) (Nat.lt_of_lt_of_le h.l3 hB) h.c1 h.c2 h.c3
theorem ItB.new {w : World} {A : Option Addr} {its : List ItT} {ca : Nat} {Q : Option Addr} {q : List Int} {cq : Nat} {mask : Int} (hA : ItemsAt w w.heap.size A its) (hQ : VecB w w.heap.size Q q) :
    ItB (((w.alloc (.cells #[.slice A its.length ca] 22)).alloc (.cells #[.slice Q q.length cq] 23)).alloc (.cells #[.int .u64 mask] 24)) (((w.alloc (.cells #[.slice A its.length ca] 22)).alloc (.cells #[.slice Q q.length cq] 23)).alloc (.cells #[.int .u64 mask] 24)).heap.size A its ca Q q cq mask w.heap.size (w.heap.size + 1 + 1) (w.heap.size + 1) := by
  have hb : Below w.heap.size w (((w.alloc (.cells #[.slice A its.length ca] 22)).alloc (.cells #[.slice Q q.length cq] 23)).alloc (.cells #[.int .u64 mask] 24)) := (((Below.refl _ w).alloc (Nat.le_refl _) _).alloc (by go_size) _).alloc (by go_size) _
  exact ⟨(hA.below hb).more hb.size, (hQ.below hb).more hb.size, by go_size, by go_size, by go_size, by go_cell, by go_cell, by go_cell⟩

set_option maxRecDepth 100000 in
set_option maxHeartbeats 2000000 in
theorem AppendSeqH_any (A : Option Addr) (its : List ItT) (ca : Nat) (Q : Option Addr) (q : List Int) (cq : Nat) (mask : Int) (B1 B2 B3 : Nat) (hl : its.length ≤ 1000000000000) (w : World) (hI : ItB w w.heap.size A its ca Q q cq mask B1 B2 B3) :
    Calls Try.prog 147 #[.slice none 0 0, .func (.func 109) #[] #[.pointer (some ⟨B1, 0, none⟩), .pointer (some ⟨B2, 0, none⟩), .pointer (some ⟨B3, 0, none⟩)]] w fun e w' =>
      (∃ v, e = .returned v ∧ w'.ownsRow w.heap.size 26 2 v (hitsL q mask its).length (cellsH (hitsL q mask its))) ∧ Below w.heap.size w w' := by
  obtain ⟨i0, hi0, hz0, hz1, hz2⟩ := info_parts info_hit
  have hlh := hitsL_le q mask its
  refine (callsIn_wide (n := 3)).1 ?_
  refine callsIn_of_wp_marks Try.func147 rfl trivial ?_ rfl
  simp only [Try.ntmps147, List.size_toArray, List.length_cons, List.length_nil, Nat.reduceAdd, Nat.reduceSub, Array.replicate_succ, Array.replicate_zero, List.push_toArray, List.append_toArray, List.nil_append, List.cons_append]
  gi_wp2
  have b0 := Boxed.new w 30 (.slice none 0 0)
  have hB0 : Below w.heap.size w (w.alloc (.cells #[.slice none 0 0] 30)) := (Below.refl _ w).alloc (Nat.le_refl _) _
  have HST := (hI.below hB0).stops (3 - 1) (by omega) (by simp)
  obtain ⟨zs, hzs⟩ : ∃ zs, hitsL q mask its = zs := ⟨_, rfl⟩
  rw [hzs] at HST hlh
  have hI2 := And.intro hI.l2 hI.l3
  refine wpIn_rangeFunc_ownH rfl (by decide) (gf := 109) (lb := #[.pointer (some ⟨B1, 0, none⟩), .pointer (some ⟨B2, 0, none⟩), .pointer (some ⟨B3, 0, none⟩)]) rfl trivial (enters_of Try.func109 (by kernel_rfl) rfl)
    HST kpP_t (kpP_b (by simp) (by have := hI.l2; simp; omega) (by have := hI.l3; simp; omega)) (Below.refl _ _) (fun _ => rfl)
    (fun pre W => AppIH zs w pre W) (fun _ _ _ => False)
    (OwnFrom.and (Own.from (holdsRow_own w.heap.size w.heap.size 30 26 2 (fun pre : List (Pl zs.length) => pre.length) (fun pre => cellsH (toldH zs pre)) (fun _ _ => True)) _) (ownFrom_below (Nat.le_refl _) (by simp)))
    (fun _ _ _ _ _ hs _ _ => hs)
    ⟨⟨_, b0, World.ownsRow_nil _ _ _ _, trivial⟩, hB0⟩
    (fun x a' W => AppAxH w.heap.size B1 B2 B3 (htAt zs x.1) a' W) (fun x a' => AppAxH.own _ _ _ _ _ _ _) ?assign ?body ?done ?stop
  case assign =>
    intro l pre x W K hI hK
    obtain ⟨⟨v, hbx, hown, _⟩, hB⟩ := hI
    have hW := hbx.lt
    generalize htAt zs x.1 = z at hK
    unfold hitV
    dsimp only
    gi_wp2
    exact hK _ _ ((KeepsOthers.alloc _ _).from _) (kp_below ((Below.refl _ W).alloc (by omega) _) hI2.1 hI2.2) ⟨⟨v, hbx.alloc _, hown.alloc _, trivial⟩, hB.alloc (by omega) _⟩ ⟨W.heap.size, hW, World.alloc_heap_new _ _, rfl⟩
  case body =>
    rintro l pre x a' W hl0 ⟨r, hr⟩ ⟨⟨v, hbx, hown, _⟩, hB⟩ ⟨g, hgB, hb3, rfl⟩ hlt
    have hW := hbx.lt
    have HT := Lib.hid (toldH_snoc zs pre x)
    generalize htAt zs x.1 = z at *
    obtain ⟨g0, g1⟩ := hb3.cells
    have cb := hbx.cell
    have fb := hbx.frozen
    gi_wp2_with (gi_at_builtin; refine wpListIn_append_own _ rfl _ _ 30 rfl w.heap.size 26 i0 (.agg #[.int .u64 0, .int .u64 0]) 2 16 Try.underlying30 hi0 hz0 hz1 hz2 rfl (by decide) _ _ _ rfl (hown.alloc _) ⟨W.heap.size, 0, none⟩ 1 1 [.int .u64 z.1, .int .u64 z.2] rfl rfl ?c1 ?c2 ?c3 ?c4 ?c5 ?_)
    case c1 =>
      intro j u hj
      match j, hj with
      | 0, hj => simp at hj; subst hj; simp [Addr.add]
      | 1, hj => simp at hj; subst hj; simp [Addr.add]
    case c2 => intro u hu; simp at hu; rcases hu with rfl | rfl <;> rfl
    case c3 => unfold maxLen; omega
    case c4 => omega
    case c5 => simp; omega
    intro v' w2 hown2 hgrow _
    obtain ⟨p1, p2, p3, p4, p5⟩ := Boxed.appended hbx (by decide) hown (by omega) (Nat.le_refl _) hown2 hgrow
    have cb2 := p1.cell
    have fb2 := p1.frozen
    obtain ⟨g', cap', rfl⟩ := ownsRow_succ hown2
    clear hgrow hown hown2 cb fb g0 g1
    gi_wp2
    refine ⟨p4.from _, kp_below p5 hI2.1 hI2.2, ⟨_, p2, ?_, trivial⟩, hB.trans p5⟩
    rw [HT.out, cellsH_snoc, List.length_append]
    exact p3
  case done =>
    rintro D pre W hD hU ⟨⟨v, hbx, hown, _⟩, hB⟩ hK
    have HT := Lib.hid (toldH_all pre hU)
    have HL := Lib.hid hU.len
    have cb := hbx.cell
    gi_wp2
    refine ⟨by simp, .inl ⟨_, _, rfl, run_takeDeferred hK, ?_⟩⟩
    refine ⟨v, ?_, ⟨v, rfl, ?_⟩, hB.trans (belowK_b (w := w) (Nat.le_refl _) _ D _ _ (by simp at hD; omega) hK rfl rfl)⟩
    · simp [results, Try.f147, go_sem]
    · have := ownsRow_putObj hown (.deferred none) hK rfl
      rw [HT.out, HL.out] at this
      rw [hzs]
      exact this
  case stop =>
    rintro D c pre W hD _ hX hK
    exact hX.elim

set_option maxHeartbeats 400000 in
theorem CollectH_any (A : Option Addr) (its : List ItT) (ca : Nat) (Q : Option Addr) (q : List Int) (cq : Nat) (mask : Int) (B1 B2 B3 : Nat) (hl : its.length ≤ 1000000000000) (w : World) (hI : ItB w w.heap.size A its ca Q q cq mask B1 B2 B3) :
    Calls Try.prog 108 #[.func (.func 109) #[] #[.pointer (some ⟨B1, 0, none⟩), .pointer (some ⟨B2, 0, none⟩), .pointer (some ⟨B3, 0, none⟩)]] w fun e w' =>
      (∃ v, e = .returned v ∧ w'.ownsRow w.heap.size 26 2 v (hitsL q mask its).length (cellsH (hitsL q mask its))) ∧ Below w.heap.size w w' := by
  go_enter Try.func108, Try.ntmps108
  go_wp2_with fail
  refine (AppendSeqH_any A its ca Q q cq mask B1 B2 B3 hl _ hI).mono ?_
  rintro e w1 ⟨⟨v, rfl, hown⟩, hb⟩
  go_wp2
  go_ret
  exact ⟨⟨_, rfl, hown⟩, hb⟩

theorem holds_ownH {w : World} {base g cap n : Nat} {zs : List HitT} (h : w.ownsRow base 26 2 (.slice (some ⟨g, 0, none⟩) n cap) n (cellsH zs)) (hn : zs.length = n) : HoldsK encH 2 w g 0 zs.toArray := by
  intro j hj
  have hsz : (flatK encH 2 zs.toArray).size = zs.length * 2 := by simp
  rw [hsz] at hj
  have hk : j / 2 < zs.length := by omega
  have hc : j % 2 < 2 := by omega
  have e : j = j / 2 * 2 + j % 2 := by omega
  have hx := cellsH_get zs (j / 2) (j % 2) hk hc
  rw [← e] at hx
  rcases h.2 with ⟨hv, _⟩ | ⟨g', cap', cur, hv, _, hb, _⟩
  · cases hv
  · injection hv with h1 h2 h3
    injection h1 with h1
    injection h1 with h1
    subst h1
    refine ⟨?_, ?_⟩
    · rw [Nat.zero_add, h.cellAt j (by omega), hx, get_flatK _ _ _ _ (by simpa using hj)]
      simp [hk]
    · simp [World.frozen?, hb]
theorem sortWorldH_below {B blk off n : Nat} {w : World} {d : Array HitT} {os : Array Obj} (hB : B ≤ blk) (hblk : blk < w.heap.size) : Below B w (sortWorldK encH 2 w blk off n d os) := by
  refine ⟨rfl, rfl, rfl, ?_, fun j hj => ?_⟩
  · show w.heap.size ≤ (w.heap.modify blk _ ++ os).size
    rw [Array.size_append, Array.size_modify]
    omega
  · show (w.heap.modify blk _ ++ os)[j]? = _
    rw [Array.getElem?_append_left (by rw [Array.size_modify]; omega), Array.getElem?_modify, if_neg (by omega)]
/-- Hits that a call leaves, in memory of its own. -/
def HitsOut (L : List HitT) (w : World) (e : Ending) (w' : World) : Prop :=
  ∃ A c, e = .returned (.slice A L.length c) ∧ RdH w' w'.heap.size A L ∧ L.length ≤ c ∧ c ≤ 9223372036854775807 ∧ Below w.heap.size w w'
theorem SortHits_any (blk off cap : Nat) (d : Array HitT) (w : World) (hH : HoldsK encH 2 w blk off d) (hblk : blk < w.heap.size) (hsz : d.size < 4611686018427387904) :
    Calls Try.prog 66 #[.slice (some ⟨blk, off, none⟩) d.size cap, .func (.func 64) #[] #[]] w fun e w' =>
      e = .returned (.tuple #[]) ∧ ∃ n os, w' = sortWorldK encH 2 w blk off n (sortH d.toList).toArray os :=
  AnyQ.slices_SortFunc_total Try.sortHit 2 Try.isAgg26 Try.sizeOf26 encH (fun _ => rfl) (fun x v hv => by simp [encH] at hv; rcases hv with rfl | rfl <;> rfl) cmpH swoH 64 #[] blk off cap d w
    (enters_of Try.func64 (by kernel_rfl) rfl) (cmpLaysX blk off d.size w) hH hblk hsz oneH
theorem SortHits_none (p : Option Addr) (cap : Nat) (fv : Value) (w : World) :
    Calls Try.prog 66 #[.slice p 0 cap, fv] w fun e w' => e = .returned (.tuple #[]) ∧ w' = w :=
  AnyF.slices_SortFunc_none { Try.sortHit with } p cap fv w
/-- A row of hits of the call's own, sorted. -/
theorem sorted_rd {w : World} {g B : Nat} {zs : List HitT} (hK : HoldsK encH 2 w g 0 zs.toArray) (hg : g < B) : RdH w B (some ⟨g, 0, none⟩) zs := by
  intro k z hz
  obtain ⟨hk, rfl⟩ := List.getElem?_eq_some_iff.1 hz
  have q := fun c hc => (hK.cell (i := k) (c := c) (by simpa using hk) hc).1
  refine ⟨g, 0, rfl, hg, ?_, ?_⟩
  · have := q 0 (by decide); simpa [hk, encH] using this
  · have := q 1 (by decide); simpa [hk, encH] using this

set_option maxHeartbeats 1000000 in
theorem SortedH_any (A : Option Addr) (its : List ItT) (ca : Nat) (Q : Option Addr) (q : List Int) (cq : Nat) (mask : Int) (B1 B2 B3 : Nat) (hl : its.length ≤ 1000000000000) (w : World) (hI : ItB w w.heap.size A its ca Q q cq mask B1 B2 B3) :
    Calls Try.prog 62 #[.func (.func 109) #[] #[.pointer (some ⟨B1, 0, none⟩), .pointer (some ⟨B2, 0, none⟩), .pointer (some ⟨B3, 0, none⟩)], .func (.func 64) #[] #[]] w (HitsOut (ordH q mask its) w) := by
  have hlh := hitsL_le q mask its
  go_enter Try.func62, Try.ntmps62
  go_wp2_with fail
  refine (CollectH_any A its ca Q q cq mask B1 B2 B3 hl _ hI).mono ?_
  rintro e w1 ⟨⟨v, rfl, hown⟩, hb⟩
  obtain ⟨zs, hzs⟩ : ∃ zs, hitsL q mask its = zs := ⟨_, rfl⟩
  have hor : ordH q mask its = sortH zs := by rw [← hzs]; rfl
  rw [hzs] at hown hlh
  have HOR := Lib.hid hor
  clear hzs hor
  obtain ⟨A1, c1, rfl, hc1, hm1⟩ := ownSlice hown
  by_cases h0 : zs.length = 0
  · obtain rfl := List.eq_nil_of_length_eq_zero h0
    go_wp2_with fail
    refine (SortHits_none _ _ _ _).mono ?_
    rintro e w2 ⟨rfl, rfl⟩
    go_wp2
    go_ret
    rw [HOR.out, sortH_nil]
    exact ⟨A1, c1, rfl, RdH.nil, Nat.zero_le _, hm1, hb⟩
  · obtain ⟨g, rfl, hg, hgw⟩ := ownPos hown (by omega)
    have hH := holds_ownH hown rfl
    have hS := SortHits_any g 0 c1 zs.toArray w1 hH hgw (by simp; omega)
    rw [show zs.toArray.size = zs.length by simp] at hS
    have HS := Lib.hid hS
    have HH := Lib.hid hH
    clear hS hH hown
    go_wp2_with fail
    refine HS.out.mono ?_
    rintro e w2 ⟨rfl, n, os, hw2⟩
    have hK : HoldsK encH 2 w2 g 0 (sortH zs).toArray := by
      rw [hw2]
      exact holdsK_sortWorldK_c encH 2 w1 g 0 zs.toArray _ n os HH.out hgw (by simp [sortH_len])
    have hb2 : Below w.heap.size w1 w2 := by rw [hw2]; exact sortWorldH_below hg hgw
    have hgw2 : g < w2.heap.size := Nat.lt_of_lt_of_le hgw hb2.size
    clear hw2 HS HH
    go_wp2
    go_ret
    rw [HOR.out]
    exact ⟨some ⟨g, 0, none⟩, c1, by rw [sortH_len]; rfl, sorted_rd hK hgw2, by rw [sortH_len]; exact hc1, hm1, hb.trans hb2⟩
theorem RdH.take {w : World} {B : Nat} {A : Option Addr} {zs : List HitT} (h : RdH w B A zs) (k : Nat) : RdH w B A (zs.take k) := fun j z hz => by
  rw [List.getElem?_take] at hz
  split at hz
  · exact h j z hz
  · cases hz

set_option maxHeartbeats 1000000 in
theorem Search_any (A : Option Addr) (its : List ItT) (ca : Nat) (Q : Option Addr) (q : List Int) (cq : Nat) (mask k : Int) (hl : its.length ≤ 1000000000000) (w : World) (hA : ItemsAt w w.heap.size A its) (hQ : VecB w w.heap.size Q q) :
    Calls Try.prog 15 #[.slice A its.length ca, .slice Q q.length cq, .int .u64 mask, .int .i64 k] w (HitsOut (searchL q mask its k) w) := by
  have HI := Lib.hid (ItB.new (ca := ca) (cq := cq) (mask := mask) hA hQ)
  have HB0 : Hid (Below w.heap.size w (((w.alloc (.cells #[.slice A its.length ca] 22)).alloc (.cells #[.slice Q q.length cq] 23)).alloc (.cells #[.int .u64 mask] 24))) := (((Below.refl _ w).alloc (Nat.le_refl _) _).alloc (by go_size) _).alloc (by go_size) _
  clear hA hQ
  go_enter Try.func15, Try.ntmps15
  go_wp2_with fail
  refine (hits_any A its.length ca Q q.length cq mask w).mono ?_
  rintro e w1 ⟨rfl, hw1⟩
  rw [← hw1] at HI HB0
  clear hw1
  go_wp2_with fail
  refine (SortedH_any A its ca Q q cq mask _ _ _ hl w1 HI.out).mono ?_
  rintro e w2 ⟨A2, c2, rfl, hr, hc, hm, hb⟩
  have hln := ordH_len q mask its
  obtain ⟨L, hL⟩ : ∃ L, ordH q mask its = L := ⟨_, rfl⟩
  have HS : Hid (searchL q mask its k = L.take k.toNat) := by rw [Hid, ← hL]; rfl
  rw [hL] at hr hc hln ⊢
  clear hL
  obtain ⟨n, hn⟩ : ∃ n, L.length = n := ⟨_, rfl⟩
  obtain ⟨t, ht⟩ : ∃ t : Nat, min (max k 0) (n : Int) = (t : Int) := ⟨(min (max k 0) (n : Int)).toNat, by omega⟩
  have htk : L.take k.toNat = L.take t := by
    by_cases h : k.toNat ≤ n
    · rw [show t = k.toNat by omega]
    · rw [List.take_of_length_le (by omega), List.take_of_length_le (by omega)]
  have htn : t ≤ n := by omega
  have HTK := Lib.hid htk
  have HR := Lib.hid (hr.take t)
  have HLT : Hid ((L.take t).length = t) := by rw [Hid, List.length_take]; omega
  have HB := Lib.hid (HB0.out.trans (hb.mono HB0.out.size))
  have h1 : (t : Int) ≤ (c2 : Int) := by omega
  have h2 : (0 : Int) ≤ (t : Int) := by omega
  have h3 : ((t : Int)).toNat = t := Int.toNat_natCast t
  have h4 : t ≤ c2 := by omega
  rw [hn]
  clear hr hb htk hn HI HB0 hln
  go_wp2
  go_ret
  rw [HS.out, HTK.out]
  exact ⟨A2, c2, by rw [HLT.out]; rfl, HR.out, by rw [HLT.out]; exact h4, hm, HB.out⟩

end Go.Proofs.Ytajmnhnepoomjaa
