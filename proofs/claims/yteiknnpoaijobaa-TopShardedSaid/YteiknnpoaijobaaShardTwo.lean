/- Two maps side by side, and boxes of the law's (TopSharded). -/
import Derived.Test.YteiknnpoaijobaaTopBegins11
namespace Go.Proofs.Yteiknnpoaijobaa
open Go.RowKit

/-- Two maps, and boxes. -/
structure TS (w0 : World) (m B bs : Nat) (bm : Nat → Nat) (n C cs : Nat) (cm : Nat → Nat) (k : Nat) (x y : IX) (D : List (Nat × List Value)) (w : World) : Prop where
  a : IJ w0 m B bs bm n x (fun b => ImM C cs cm k b ∨ BoxC D b) w
  b : IJ w0 m C cs cm k y (fun b => ImM B bs bm n b ∨ BoxC D b) w
  cells : ∀ p ∈ D, ∀ (j : Nat) (v : Value), p.2[j]? = some v → w.cell? ⟨p.1, j, none⟩ = some v
section
variable {w0 w w' : World} {m m' B bs n C cs k : Nat} {bm cm : Nat → Nat} {x y x' y' : IX} {D D' : List (Nat × List Value)}
theorem TS.cells_of (h : TS w0 m B bs bm n C cs cm k x y D w) (hk : KeepI (BoxC D) w w') : ∀ p ∈ D, ∀ (j : Nat) (v : Value), p.2[j]? = some v → w'.cell? ⟨p.1, j, none⟩ = some v :=
  fun p hp j v hv => (World.cell?_of_block (w := w) (hk p.1 ⟨p, hp, rfl⟩)).trans (h.cells p hp j v hv)
theorem TS.more (h : TS w0 m B bs bm n C cs cm k x y D w) (hm : m ≤ m') : TS w0 m' B bs bm n C cs cm k x y D w := ⟨h.a.more hm, h.b.more hm, h.cells⟩
theorem TS.later (h : TS w0 m B bs bm n C cs cm k x y D w) (hb : Below w.heap.size w w') : TS w0 m B bs bm n C cs cm k x y D w' :=
  ⟨h.a.later hb, h.b.later hb, h.cells_of fun b e => hb.block b (h.a.lt (.inr e)).2⟩
theorem TS.sub (h : TS w0 m B bs bm n C cs cm k x y D w) (hs : ∀ p ∈ D', p ∈ D) : TS w0 m B bs bm n C cs cm k x y D' w :=
  ⟨h.a.sub fun _ e => e.imp id fun ⟨p, hp, e⟩ => ⟨p, hs p hp, e⟩, h.b.sub fun _ e => e.imp id fun ⟨p, hp, e⟩ => ⟨p, hs p hp, e⟩, fun p hp => h.cells p (hs p hp)⟩
theorem TS.box (h : TS w0 m B bs bm n C cs cm k x y D w) (vs : List Value) (t : TypeId) : TS w0 m B bs bm n C cs cm k x y ((w.heap.size, vs) :: D) (w.alloc (.cells vs.toArray t)) := by
  have hb := below_new w (.cells vs.toArray t)
  have hh := heap_alloc_last w (.cells vs.toArray t)
  have hJ : ∀ b, BoxC ((w.heap.size, vs) :: D) b → BoxC D b ∨ (w.heap.size ≤ b ∧ b < (w.alloc (.cells vs.toArray t)).heap.size) := fun b e => by
    obtain ⟨p, hp, rfl⟩ := e
    rcases List.mem_cons.1 hp with rfl | hp
    · exact .inr ⟨Nat.le_refl _, by simp⟩
    · exact .inl ⟨p, hp, rfl⟩
  refine ⟨h.a.write (M := fun _ => False) (Chg.of_below hb) (fun _ e => e.elim) (fun b e => ?_), h.b.write (M := fun _ => False) (Chg.of_below hb) (fun _ e => e.elim) (fun b e => ?_), fun p hp j v hv => ?_⟩
  · rcases e with e | e
    · exact .inl (.inl e)
    · exact (hJ b e).imp .inr id
  · rcases e with e | e
    · exact .inl (.inl e)
    · exact (hJ b e).imp .inr id
  · rcases List.mem_cons.1 hp with rfl | hp
    · exact (cell_of_row _ _ j _ t (0, 0) hh).trans (by simpa using hv)
    · have hlt := (h.a.lt (.inr ⟨p, hp, rfl⟩)).2
      exact (hb.cell (p := ⟨p.1, j, none⟩) hlt).trans (h.cells p hp j v hv)
/-- One of the two has been changed. -/
theorem TS.turnA (h : TS w0 m B bs bm n C cs cm k x y D w) (hm : m ≤ m') (hj : IJ w0 m' B bs bm n x' (fun b => ImM C cs cm k b ∨ BoxC D b) w') (hk : KeepI (fun b => ImM C cs cm k b ∨ BoxC D b) w w') : TS w0 m' B bs bm n C cs cm k x' y D w' :=
  ⟨hj, (h.b.more hm).kept hj.bel (fun b e => by
    rcases e with e | e
    · exact hj.mlt e
    · exact (hj.lt (.inr e)).2) (fun b e => hk b (.inl e)), h.cells_of fun b e => hk b (.inr e)⟩
theorem TS.turnB (h : TS w0 m B bs bm n C cs cm k x y D w) (hm : m ≤ m') (hj : IJ w0 m' C cs cm k y' (fun b => ImM B bs bm n b ∨ BoxC D b) w') (hk : KeepI (fun b => ImM B bs bm n b ∨ BoxC D b) w w') : TS w0 m' B bs bm n C cs cm k x y' D w' :=
  ⟨(h.a.more hm).kept hj.bel (fun b e => by
    rcases e with e | e
    · exact hj.mlt e
    · exact (hj.lt (.inr e)).2) (fun b e => hk b (.inl e)), hj, h.cells_of fun b e => hk b (.inr e)⟩
theorem TS.dropA (h : TS w0 m B bs bm n C cs cm k x y D w) (hm : m < 100000) {i : Int} (hi : IsU i) : Calls Try.prog 33 #[.pointer (some ⟨B, 0, none⟩), .int .u64 i] w fun e w' => e = .returned (.tuple #[.agg #[.int .i64 (imGet x i).1, .int .i64 (imGet x i).2], .bool (imHas x i)]) ∧ TS w0 (m + 1) B bs bm n C cs cm k (imDrop x i) y D w' :=
  (imDrop_ij h.a hm hi).mono fun _ _ ⟨h1, h2, h3⟩ => ⟨h1, h.turnA (Nat.le_succ m) h2 h3⟩
theorem TS.dropB (h : TS w0 m B bs bm n C cs cm k x y D w) (hm : m < 100000) {i : Int} (hi : IsU i) : Calls Try.prog 33 #[.pointer (some ⟨C, 0, none⟩), .int .u64 i] w fun e w' => e = .returned (.tuple #[.agg #[.int .i64 (imGet y i).1, .int .i64 (imGet y i).2], .bool (imHas y i)]) ∧ TS w0 (m + 1) B bs bm n C cs cm k x (imDrop y i) D w' :=
  (imDrop_ij h.b hm hi).mono fun _ _ ⟨h1, h2, h3⟩ => ⟨h1, h.turnB (Nat.le_succ m) h2 h3⟩
theorem TS.putA (h : TS w0 m B bs bm n C cs cm k x y D w) (hm : m < 100000) {i : Int} (hi : IsU i) (s g : Int) : Calls Try.prog 31 #[.pointer (some ⟨B, 0, none⟩), .int .u64 i, .agg #[.int .i64 s, .int .i64 g]] w fun e w' => e = .returned (.bool (!imHas x i)) ∧ TS w0 (m + 1) B bs bm n C cs cm k (imPut x i (s, g)) y D w' :=
  (imPut_ij h.a hm hi s g).mono fun _ _ ⟨h1, h2, h3⟩ => ⟨h1, h.turnA (Nat.le_succ m) h2 h3⟩
theorem TS.putB (h : TS w0 m B bs bm n C cs cm k x y D w) (hm : m < 100000) {i : Int} (hi : IsU i) (s g : Int) : Calls Try.prog 31 #[.pointer (some ⟨C, 0, none⟩), .int .u64 i, .agg #[.int .i64 s, .int .i64 g]] w fun e w' => e = .returned (.bool (!imHas y i)) ∧ TS w0 (m + 1) B bs bm n C cs cm k x (imPut y i (s, g)) D w' :=
  (imPut_ij h.b hm hi s g).mono fun _ _ ⟨h1, h2, h3⟩ => ⟨h1, h.turnB (Nat.le_succ m) h2 h3⟩
/-- Two new maps. -/
theorem TS.new {w1 w2 : World} (h1 : IJ w0 0 B bs bm n (imNew n) (fun _ => False) w1) (h2 : IJ w1 0 C cs cm k (imNew k) (fun _ => False) w2) : TS w0 0 B bs bm n C cs cm k (imNew n) (imNew k) [] w2 := by
  have no : ∀ b, ¬ BoxC [] b := fun b ⟨p, hp, _⟩ => by cases hp
  refine ⟨h1.write (M := fun _ => False) (Chg.of_below h2.bel) (fun _ e => e.elim) (fun b e => ?_), ?_, fun p hp => by cases hp⟩
  · rcases e with e | e
    · exact .inr ⟨h2.lo b e, h2.mlt e⟩
    · exact (no b e).elim
  · have h3 := h2.base h1.bel
    refine { h3 with own := fun b e => ?_ }
    rcases e with e | e
    · exact ⟨h1.lo b e, Nat.lt_of_lt_of_le (h1.mlt e) h2.bel.size, fun e2 => by have := h2.lo b e2; have := h1.mlt e; omega⟩
    · exact (no b e).elim
end

end Go.Proofs.Yteiknnpoaijobaa
