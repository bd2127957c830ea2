/- A map from ids to refs beside blocks that a law itself writes. -/
import Derived.Test.YtoaikdnooafjmaaImPut
import Derived.Test.YtoaikdnooafjmaaImNew
import Derived.Test.YtoaikdnooafjmaaImList
import Derived.Test.YtoaikdnooafjmaaLits
namespace Go.Proofs.Ytoaikdnooafjmaa
open Go.RowKit

theorem imPut_n (x : IX) (k : Int) (r : RefT) : (imPut x k r).n = x.n := by unfold imPut; split <;> rfl
theorem imDrop_n (x : IX) (k : Int) : (imDrop x k).n = x.n := by unfold imDrop; split <;> rfl

/-- A map at B, in memory laid since w0; the law's own blocks J beside it. -/
structure IJ (w0 : World) (m B bs : Nat) (bm : Nat → Nat) (n : Nat) (x : IX) (J : Nat → Prop) (w : World) : Prop where
  im : Im w B bs bm m x
  fit : IFit m x
  sh : x.n = n
  bel : Below w0.heap.size w0 w
  lo : ∀ b, ImM B bs bm n b → w0.heap.size ≤ b
  own : ∀ b, J b → w0.heap.size ≤ b ∧ b < w.heap.size ∧ ¬ ImM B bs bm n b
/-- The law's own blocks are what they were. -/
def KeepI (J : Nat → Prop) (w w' : World) : Prop := ∀ b, J b → w'.heap[b]? = w.heap[b]?
section
variable {w0 w w' : World} {m m' B bs n : Nat} {bm : Nat → Nat} {x y : IX} {J J' : Nat → Prop}
theorem IJ.lt (h : IJ w0 m B bs bm n x J w) {b : Nat} (hb : J b) : w0.heap.size ≤ b ∧ b < w.heap.size := ⟨(h.own b hb).1, (h.own b hb).2.1⟩
theorem IJ.mlt (h : IJ w0 m B bs bm n x J w) {b : Nat} (hb : ImM B bs bm n b) : b < w.heap.size := by
  have := h.im.lt h.fit.n1 (b := b)
  rw [h.sh] at this
  exact this hb
theorem IJ.more (h : IJ w0 m B bs bm n x J w) (hm : m ≤ m') : IJ w0 m' B bs bm n x J w := { h with im := h.im.more hm, fit := h.fit.more hm }
theorem IJ.sub (h : IJ w0 m B bs bm n x J w) (hs : ∀ b, J' b → J b) : IJ w0 m B bs bm n x J' w := { h with own := fun b hb => h.own b (hs b hb) }
/-- The law writes blocks of its own, or lays new ones. -/
theorem IJ.write {M : Nat → Prop} (h : IJ w0 m B bs bm n x J w) (hc : Chg M w w') (hM : ∀ b, M b → J b) (hJ : ∀ b, J' b → J b ∨ (w.heap.size ≤ b ∧ b < w'.heap.size)) : IJ w0 m B bs bm n x J' w' := by
  refine { im := h.im.chg h.fit.n1 hc (fun b hb => (by rw [h.sh]; exact (h.own b (hM b hb)).2.2)), fit := h.fit, sh := h.sh, bel := h.bel.trans (hc.below (fun b hb => (h.own b (hM b hb)).1) h.bel.size), lo := h.lo, own := fun b hb => ?_ }
  rcases hJ b hb with e | ⟨e1, e2⟩
  · have := h.own b e
    exact ⟨this.1, Nat.lt_of_lt_of_le this.2.1 hc.size, this.2.2⟩
  · refine ⟨Nat.le_trans h.bel.size e1, e2, fun e => ?_⟩
    have := h.mlt e
    omega
theorem IJ.later (h : IJ w0 m B bs bm n x J w) (hb : Below w.heap.size w w') : IJ w0 m B bs bm n x J w' := h.write (M := fun _ => False) (Chg.of_below hb) (fun _ e => e.elim) (fun _ e => .inl e)
theorem IJ.of_out {r : Value} {e : Ending} (h : IJ w0 m B bs bm n x J w) (hf : IFit m' y) (hy : y.n = n) (ho : ImOut w B bs bm m' x.n y r e w') : e = .returned r ∧ IJ w0 m' B bs bm n y J w' ∧ KeepI J w w' := by
  obtain ⟨h6, h7, h8⟩ := ho
  rw [h.sh] at h8
  exact ⟨h6, { im := h7, fit := hf, sh := hy, bel := h.bel.trans (h8.below h.lo h.bel.size), lo := h.lo, own := fun b hb => ⟨(h.own b hb).1, Nat.lt_of_lt_of_le (h.own b hb).2.1 h8.size, (h.own b hb).2.2⟩ }, fun b hb => h8.block b (h.own b hb).2.1 (h.own b hb).2.2⟩
theorem imNew_ij (n : Nat) (h1 : 1 ≤ n) (h2 : n ≤ 64) (w : World) : Calls Try.prog 75 #[.int .i64 (n : Int)] w fun e w' => ∃ B bs bm, e = .returned (.tuple #[.pointer (some ⟨B, 0, none⟩), .int .i64 0]) ∧ IJ w 0 B bs bm n (imNew n) (fun _ => False) w' :=
  (imNew_any n h1 h2 w).mono fun _ _ ⟨B, bs, bm, he, g1, g2, g3⟩ => ⟨B, bs, bm, he, { im := g1, fit := IFit.new h1 h2, sh := rfl, bel := g2, lo := g3, own := fun _ hb => hb.elim }⟩
theorem imGet_ij (h : IJ w0 m B bs bm n x J w) {k : Int} (hk : IsU k) : Calls Try.prog 81 #[.pointer (some ⟨B, 0, none⟩), .int .u64 k] w fun e w' => e = .returned (.tuple #[.agg #[.int .i64 (imGet x k).1, .int .i64 (imGet x k).2], .bool (imHas x k)]) ∧ IJ w0 m B bs bm n x J w' ∧ Below w.heap.size w w' :=
  (imGet_any h.im h.fit hk).mono fun _ _ ⟨h1, h2⟩ => ⟨h1, h.later h2, h2⟩
theorem imPut_ij (h : IJ w0 m B bs bm n x J w) (hm : m < 100000) {k : Int} (hk : IsU k) (s g : Int) : Calls Try.prog 78 #[.pointer (some ⟨B, 0, none⟩), .int .u64 k, .agg #[.int .i64 s, .int .i64 g]] w fun e w' => e = .returned (.bool (!imHas x k)) ∧ IJ w0 (m + 1) B bs bm n (imPut x k (s, g)) J w' ∧ KeepI J w w' :=
  (imPut_any h.im h.fit hm hk (s, g)).mono fun _ _ ho => h.of_out (h.fit.put hk (s, g)) ((imPut_n x k (s, g)).trans h.sh) ho
theorem imDrop_ij (h : IJ w0 m B bs bm n x J w) (hm : m < 100000) {k : Int} (hk : IsU k) : Calls Try.prog 80 #[.pointer (some ⟨B, 0, none⟩), .int .u64 k] w fun e w' => e = .returned (.tuple #[.agg #[.int .i64 (imGet x k).1, .int .i64 (imGet x k).2], .bool (imHas x k)]) ∧ IJ w0 (m + 1) B bs bm n (imDrop x k) J w' ∧ KeepI J w w' :=
  (imDrop_any h.im h.fit hm hk).mono fun _ _ ho => h.of_out (h.fit.drop k) ((imDrop_n x k).trans h.sh) ho
theorem imLen_ij (h : IJ w0 m B bs bm n x J w) (hm : m < 100000) : Calls Try.prog 83 #[.pointer (some ⟨B, 0, none⟩)] w fun e w' => e = .returned (.int .i64 (x.L.length : Nat)) ∧ w = w' := imLen_any h.im h.fit hm
theorem imVer_ij (h : IJ w0 m B bs bm n x J w) : Calls Try.prog 84 #[.pointer (some ⟨B, 0, none⟩)] w fun e w' => e = .returned (.int .i64 (x.v : Nat)) ∧ w = w' := imVer_any h.im
theorem imSize_ij (h : IJ w0 m B bs bm n x J w) {i : Nat} (hi : i < n) : Calls Try.prog 87 #[.pointer (some ⟨B, 0, none⟩), .int .i64 (i : Int)] w fun e w' => e = .returned (.int .i64 (cntI n x.L i : Nat)) ∧ w = w' := by
  have h2 := h.sh
  subst h2
  exact imSize_in h.im hi
theorem imSize_ij_out (h : IJ w0 m B bs bm n x J w) {i : Int} (hi : i < 0 ∨ (n : Int) ≤ i) : Calls Try.prog 87 #[.pointer (some ⟨B, 0, none⟩), .int .i64 i] w fun e w' => e = .returned (.int .i64 0) ∧ w = w' := by
  have h2 := h.sh
  subst h2
  exact imSize_out h.im hi
theorem imShard_ij (h : IJ w0 m B bs bm n x J w) {k : Int} (hk : IsU k) : Calls Try.prog 85 #[.pointer (some ⟨B, 0, none⟩), .int .u64 k] w fun e w' => e = .returned (.int .i64 (shI n k : Nat)) ∧ Drawn w w' := by
  have h2 := h.sh
  subst h2
  exact imShard_any h.im h.fit hk
theorem imList_ij (h : IJ w0 m B bs bm n x J w) (hm : m < 100000) : Calls Try.prog 90 #[.pointer (some ⟨B, 0, none⟩)] w fun e w' => ∃ A c, e = .returned (.slice A x.L.length c) ∧ RdN w' w.heap.size A x.L ∧ Below w.heap.size w w' := imList_any h.im h.fit hm

/-- Boxes of two numbers: which block, and what it holds. -/
def BoxdI (L : List (Nat × Int × Int)) (b : Nat) : Prop := ∃ p ∈ L, p.1 = b
def IB (w0 : World) (m B bs : Nat) (bm : Nat → Nat) (n : Nat) (x : IX) (L : List (Nat × Int × Int)) (w : World) : Prop := IJ w0 m B bs bm n x (BoxdI L) w ∧ ∀ p ∈ L, w.cell? ⟨p.1, 0, none⟩ = some (.int .i64 p.2.1) ∧ w.cell? ⟨p.1, 1, none⟩ = some (.int .i64 p.2.2)
variable {L : List (Nat × Int × Int)}
theorem IB.keep (h : IB w0 m B bs bm n x L w) (hj : IJ w0 m' B bs bm n y (BoxdI L) w') (hk : KeepI (BoxdI L) w w') : IB w0 m' B bs bm n y L w' :=
  ⟨hj, fun p hp => ⟨(World.cell?_of_block (w := w) (hk p.1 ⟨p, hp, rfl⟩)).trans (h.2 p hp).1, (World.cell?_of_block (w := w) (hk p.1 ⟨p, hp, rfl⟩)).trans (h.2 p hp).2⟩⟩
theorem IB.box (h : IB w0 m B bs bm n x L w) (v k : Int) (t : TypeId) : IB w0 m B bs bm n x ((w.heap.size, v, k) :: L) (w.alloc (.cells #[.int .i64 v, .int .i64 k] t)) := by
  have hb := below_new w (.cells #[.int .i64 v, .int .i64 k] t)
  have hh := heap_alloc_last w (.cells #[.int .i64 v, .int .i64 k] t)
  refine ⟨h.1.write (M := fun _ => False) (Chg.of_below hb) (fun _ e => e.elim) (fun b e => ?_), fun p hp => ?_⟩
  · obtain ⟨p, hp, rfl⟩ := e
    rcases List.mem_cons.1 hp with rfl | hp
    · exact .inr ⟨Nat.le_refl _, by simp⟩
    · exact .inl ⟨p, hp, rfl⟩
  · rcases List.mem_cons.1 hp with rfl | hp
    · exact ⟨cell_of_row _ _ 0 _ t (0, 0) hh, cell_of_row _ _ 1 _ t (0, 0) hh⟩
    · have hlt := (h.1.lt ⟨p, hp, rfl⟩).2
      exact ⟨(hb.cell (p := ⟨p.1, 0, none⟩) hlt).trans (h.2 p hp).1, (hb.cell (p := ⟨p.1, 1, none⟩) hlt).trans (h.2 p hp).2⟩
theorem IB.later (h : IB w0 m B bs bm n x L w) (hb : Below w.heap.size w w') : IB w0 m B bs bm n x L w' := h.keep (h.1.later hb) fun b e => hb.block b (h.1.lt e).2
end

end Go.Proofs.Ytoaikdnooafjmaa
