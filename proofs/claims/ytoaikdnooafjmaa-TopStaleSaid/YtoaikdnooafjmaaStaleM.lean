/- An arena, a map whose refs are its slots, and blocks that a law writes (TopStale): in memory. -/
import Derived.Test.YtoaikdnooafjmaaTopBegins11
import Derived.Test.YtoaikdnooafjmaaBx
import Derived.Test.YtoaikdnooafjmaaEpMem
namespace Go.Proofs.Ytoaikdnooafjmaa
open Go.RowKit

/-- An arena x at B, a map y at C, the law's own blocks O. -/
structure SM (w0 : World) (n B : Nat) (x : AR) (m C cs : Nat) (cm : Nat → Nat) (y : IX) (O : Nat → Prop) (w : World) : Prop where
  aj : AJ w0 n B x (fun b => ImM C cs cm 8 b ∨ O b) w
  ij : IJ w0 m C cs cm 8 y O w
section
variable {w0 w w' : World} {n n' B m m' C cs : Nat} {cm : Nat → Nat} {x x' : AR} {y y' : IX} {O O' : Nat → Prop}
theorem SM.below0 (h : SM w0 n B x m C cs cm y O w) : Below w0.heap.size w0 w := h.aj.below
theorem SM.lt (h : SM w0 n B x m C cs cm y O w) {b : Nat} (hb : O b) : w0.heap.size ≤ b ∧ b < w.heap.size := h.ij.lt hb
theorem SM.more (h : SM w0 n B x m C cs cm y O w) (hn : n ≤ n') (hm : m ≤ m') : SM w0 n' B x m' C cs cm y O w := ⟨h.aj.more hn, h.ij.more hm⟩
/-- The law writes blocks of its own, or lays new ones. -/
theorem SM.write {M : Nat → Prop} (h : SM w0 n B x m C cs cm y O w) (hc : Chg M w w') (hM : ∀ b, M b → O b) (hO : ∀ b, O' b → O b ∨ (w.heap.size ≤ b ∧ b < w'.heap.size)) : SM w0 n B x m C cs cm y O' w' :=
  ⟨h.aj.write hc (fun b e => .inr (hM b e)) (fun b e => e.elim (fun e => .inl (.inl e)) (fun e => (hO b e).imp .inr id)), h.ij.write hc hM hO⟩
theorem SM.later (h : SM w0 n B x m C cs cm y O w) (hb : Below w.heap.size w w') : SM w0 n B x m C cs cm y O w' := h.write (M := fun _ => False) (Chg.of_below hb) (fun _ e => e.elim) (fun _ e => .inl e)
theorem SM.sub (h : SM w0 n B x m C cs cm y O w) (hs : ∀ b, O' b → O b) : SM w0 n B x m C cs cm y O' w := ⟨h.aj.sub fun _ e => e.imp id (hs _), h.ij.sub hs⟩
/-- The arena has been changed. -/
theorem SM.arena (h : SM w0 n B x m C cs cm y O w) (hj : AJ w0 n' B x' (fun b => ImM C cs cm 8 b ∨ O b) w') (hk : KeepA (fun b => ImM C cs cm 8 b ∨ O b) w w') : SM w0 n' B x' m C cs cm y O w' ∧ KeepA O w w' :=
  ⟨⟨hj, h.ij.kept hj.below (fun _ e => (hj.lt (.inr e)).2) (fun b e => hk b (.inl e))⟩, fun b e => hk b (.inr e)⟩
/-- The map is changed: what it may not touch holds the arena, too. -/
theorem SM.map (h : SM w0 n B x m C cs cm y O w) : ∃ J : Nat → Prop, IJ w0 m C cs cm 8 y J w ∧ ∀ w' m' y', IJ w0 m' C cs cm 8 y' J w' → KeepI J w w' → SM w0 n B x m' C cs cm y' O w' ∧ KeepA O w w' := by
  obtain ⟨bs, fv, h1, h2, h3, h4, h5⟩ := h.aj
  refine ⟨fun b => ArM B bs fv b ∨ O b, { h.ij with own := fun b e => ?_ }, fun w' m' y' hi hk => ⟨⟨⟨bs, fv, ?_, h2, hi.bel, h4, fun b e => ?_⟩, hi.sub fun b e => .inr e⟩, fun b e => hk b (.inr e)⟩⟩
  · rcases e with e | e
    · exact ⟨h4 b e, h1.mlt h2.pos e, fun q => (h5 b (.inl q)).2.2 e⟩
    · exact h.ij.own b e
  · exact h1.same (fun b e => hk b (.inl e))
  · rcases e with e | e
    · exact ⟨hi.lo b e, hi.mlt e, (h5 b (.inl e)).2.2⟩
    · have := hi.own b (.inr e)
      exact ⟨this.1, this.2.1, (h5 b (.inr e)).2.2⟩
theorem SM.new {w1 w2 : World} {N : Nat} (h1 : AJ w0 0 B (arNew N) (fun _ => False) w1) (h2 : IJ w1 0 C cs cm 8 (imNew 8) (fun _ => False) w2) : SM w0 0 B (arNew N) 0 C cs cm (imNew 8) (fun _ => False) w2 :=
  ⟨h1.write (M := fun _ => False) (Chg.of_below h2.bel) (fun _ e => e.elim) (fun b e => by
    rcases e with e | e
    · exact .inr ⟨h2.lo b e, h2.mlt e⟩
    · exact e.elim), h2.base h1.below⟩
end

/-- .. with the list of what is stale, and boxes D of the law's. -/
structure SD (w0 : World) (n B : Nat) (x : AR) (m C cs : Nat) (cm : Nat → Nat) (y : IX) (TV : Value) (T : List (Int × Nat)) (D : List (Nat × List Value)) (w : World) : Prop where
  sm : SM w0 n B x m C cs cm y (fun b => TV.ownBlock = some b ∨ ∃ p ∈ D, p.1 = b) w
  row : w.ownsRow 0 99 2 TV T.length (cellsR T)
  bs : ∀ p ∈ D, Bx w p.1 p.2
section
variable {w0 w w' : World} {n n' B m m' C cs : Nat} {cm : Nat → Nat} {x x' : AR} {y y' : IX} {TV : Value} {T : List (Int × Nat)} {D D' : List (Nat × List Value)}
theorem SD.keep (h : SD w0 n B x m C cs cm y TV T D w) (hs : SM w0 n' B x' m' C cs cm y' (fun b => TV.ownBlock = some b ∨ ∃ p ∈ D, p.1 = b) w') (hk : KeepA (fun b => TV.ownBlock = some b ∨ ∃ p ∈ D, p.1 = b) w w') : SD w0 n' B x' m' C cs cm y' TV T D w' :=
  ⟨hs, hk.row h.row (fun _ e => .inl e), fun p hp => by
    have q := hk p.1 (.inr ⟨p, hp, rfl⟩)
    have hb := h.bs p hp
    exact ⟨(hs.lt (.inr ⟨p, hp, rfl⟩)).2, fun j v hj => (World.cell?_of_block (w := w) q).trans (hb.c j v hj), fun j => (World.frozen?_of_block (w := w) q).trans (hb.f j)⟩⟩
theorem SD.later (h : SD w0 n B x m C cs cm y TV T D w) (hb : Below w.heap.size w w') : SD w0 n B x m C cs cm y TV T D w' := h.keep (h.sm.later hb) fun b e => hb.block b (h.sm.lt e).2
theorem SD.more (h : SD w0 n B x m C cs cm y TV T D w) (hn : n ≤ n') (hm : m ≤ m') : SD w0 n' B x m' C cs cm y TV T D w := ⟨h.sm.more hn hm, h.row, h.bs⟩
theorem SD.sub (h : SD w0 n B x m C cs cm y TV T D w) (hs : ∀ p ∈ D', p ∈ D) : SD w0 n B x m C cs cm y TV T D' w :=
  ⟨h.sm.sub fun _ e => e.imp id fun ⟨p, hp, q⟩ => ⟨p, hs p hp, q⟩, h.row, fun p hp => h.bs p (hs p hp)⟩
theorem SD.box (h : SD w0 n B x m C cs cm y TV T D w) (vs : List Value) (t : TypeId) : SD w0 n B x m C cs cm y TV T ((w.heap.size, vs) :: D) (w.alloc (.cells vs.toArray t)) := by
  have hb := below_new w (.cells vs.toArray t)
  refine ⟨h.sm.write (M := fun _ => False) (Chg.of_below hb) (fun _ e => e.elim) (fun b e => ?_), (h.later hb).row, fun p hp => ?_⟩
  · rcases e with e | ⟨p, hp, e⟩
    · exact .inl (.inl e)
    · rcases List.mem_cons.1 hp with rfl | hp
      · exact .inr ⟨by simp only at e; omega, by simp only at e; rw [World.size_alloc]; omega⟩
      · exact .inl (.inr ⟨p, hp, e⟩)
  · rcases List.mem_cons.1 hp with rfl | hp
    · exact Bx.new w vs t
    · exact (h.bs p hp).below hb
theorem SD.cell (h : SD w0 n B x m C cs cm y TV T D w) {p : Nat × List Value} (hp : p ∈ D) (j : Nat) {v : Value} (hv : p.2[j]? = some v) : w.cell? ⟨p.1, j, none⟩ = some v := (h.bs p hp).c j v hv
/-- A ref is put behind the stale ones. -/
theorem SD.put (h : SD w0 n B x m C cs cm y TV T D w) {W1 w2 : World} {gg cap tl g : Nat} {s : Int} (hb : Below w.heap.size w W1) (hg : W1.grownBy w2 TV.ownBlock) (hl : T.length = tl)
    (hown : w2.ownsRow 0 99 2 (.slice (some ⟨gg, 0, none⟩) (tl + 1) cap) (tl + 1) (cellsR T ++ [.int .i64 s, .int .i64 (g : Int)])) (hat : TV.ownBlock = some gg ∨ gg = W1.heap.size) (hlt : gg < w2.heap.size) :
    SD w0 n B x m C cs cm y (.slice (some ⟨gg, 0, none⟩) (tl + 1) cap) (T ++ [(s, g)]) [] w2 := by
  subst hl
  have hs := hb.size
  have hc : Chg (fun b => TV.ownBlock = some b) w w2 := (Chg.of_below hb).trans (M' := fun b => TV.ownBlock = some b) ⟨hg.os, hg.tape, hg.output, hg.size, fun b hb hn => hg.block b hb (fun e => hn e.symm)⟩ (fun b e => .inl e)
  refine ⟨h.sm.write hc (fun b e => .inl e) (fun b e => ?_), ?_, fun p hp => (by cases hp)⟩
  · rcases e with e | ⟨p, hp, _⟩
    · have : gg = b := by injection e
      subst this
      rcases hat with e2 | e2
      · exact .inl (.inl e2)
      · exact .inr ⟨by omega, hlt⟩
    · cases hp
  · rw [List.length_append, cellsR_snoc]
    exact hown
theorem SD.mv (h : SD w0 n B x m C cs cm y TV T D w) (v t : Int) : Calls Try.prog 65 #[.pointer (some ⟨B, 0, none⟩), .int .i64 v, .int .i64 t] w fun e w' => e = .returned (.bool (arMvB x v t)) ∧ SD w0 n B (arMvX x v t) m C cs cm y TV T D w' :=
  (arMove_aj h.sm.aj v t).mono fun _ _ ⟨h1, h2, h3⟩ => ⟨h1, have q := h.sm.arena h2 h3; h.keep q.1 q.2⟩
theorem SD.fr (h : SD w0 n B x m C cs cm y TV T D w) (hn : n < 100000) (v : Int) : Calls Try.prog 67 #[.pointer (some ⟨B, 0, none⟩), .int .i64 v] w fun e w' => e = .returned (.bool (arFrB x v)) ∧ SD w0 (n + 1) B (arFrX x v) m C cs cm y TV T D w' :=
  (arFree_aj h.sm.aj hn v).mono fun _ _ ⟨h1, h2, h3⟩ => ⟨h1, have q := h.sm.arena h2 h3; h.keep q.1 q.2⟩
theorem SD.al (h : SD w0 n B x m C cs cm y TV T D w) : Calls Try.prog 63 #[.pointer (some ⟨B, 0, none⟩)] w fun e w' => e = .returned (.tuple #[.agg #[.int .i64 (alS x : Nat), .int .i64 (alG x : Nat)], .bool (alB x)]) ∧ SD w0 n B (alX x) m C cs cm y TV T D w' :=
  (arAlloc_aj h.sm.aj).mono fun _ _ ⟨h1, h2, h3⟩ => ⟨h1, have q := h.sm.arena h2 h3; h.keep q.1 q.2⟩
theorem SD.dr (h : SD w0 n B x m C cs cm y TV T D w) (hm : m < 100000) {k : Int} (hk : IsU k) : Calls Try.prog 80 #[.pointer (some ⟨C, 0, none⟩), .int .u64 k] w fun e w' => e = .returned (.tuple #[.agg #[.int .i64 (imGet y k).1, .int .i64 (imGet y k).2], .bool (imHas y k)]) ∧ SD w0 n B x (m + 1) C cs cm (imDrop y k) TV T D w' := by
  obtain ⟨J, h1, h2⟩ := h.sm.map
  exact (imDrop_ij h1 hm hk).mono fun _ _ ⟨e1, e2, e3⟩ => ⟨e1, have q := h2 _ _ _ e2 e3; h.keep q.1 q.2⟩
theorem SD.pt (h : SD w0 n B x m C cs cm y TV T D w) (hm : m < 100000) {k : Int} (hk : IsU k) (s g : Int) : Calls Try.prog 78 #[.pointer (some ⟨C, 0, none⟩), .int .u64 k, .agg #[.int .i64 s, .int .i64 g]] w fun e w' => e = .returned (.bool (!imHas y k)) ∧ SD w0 n B x (m + 1) C cs cm (imPut y k (s, g)) TV T D w' := by
  obtain ⟨J, h1, h2⟩ := h.sm.map
  exact (imPut_ij h1 hm hk s g).mono fun _ _ ⟨e1, e2, e3⟩ => ⟨e1, have q := h2 _ _ _ e2 e3; h.keep q.1 q.2⟩
end

end Go.Proofs.Ytoaikdnooafjmaa
