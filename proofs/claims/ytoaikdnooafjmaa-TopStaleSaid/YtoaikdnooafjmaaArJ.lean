/- An arena beside blocks that a law itself writes. -/
import Derived.Test.YtoaikdnooafjmaaArAl
namespace Go.Proofs.Ytoaikdnooafjmaa
open Go.RowKit

/-- What Alloc tells, and leaves. -/
def alX (x : AR) : AR := match x.fr.getLast? with | none => x | some s => arAlE x x.fr.dropLast s
def alS (x : AR) : Nat := match x.fr.getLast? with | none => 0 | some s => s
def alG (x : AR) : Nat := match x.fr.getLast? with | none => 0 | some s => x.gn.getD (s - 1) 0
def alB (x : AR) : Bool := x.fr.getLast?.isSome
theorem al_cases (x : AR) : (x.fr = [] ∧ alX x = x ∧ alS x = 0 ∧ alG x = 0 ∧ alB x = false) ∨ ∃ F s, x.fr = F ++ [s] ∧ alX x = arAlE x F s ∧ alS x = s ∧ alG x = x.gn.getD (s - 1) 0 ∧ alB x = true := by
  rcases List.eq_nil_or_concat x.fr with h | ⟨F, s, h⟩
  · exact .inl ⟨h, by simp [alX, h], by simp [alS, h], by simp [alG, h], by simp [alB, h]⟩
  · rw [List.concat_eq_append] at h
    exact .inr ⟨F, s, h, by simp [alX, h], by simp [alS, h], by simp [alG, h], by simp [alB, h]⟩
theorem AFit.al {n : Nat} {x : AR} (h : AFit n x) : AFit n (alX x) := by
  rcases al_cases x with ⟨_, e, _⟩ | ⟨F, s, hf, e, _⟩
  · rw [e]; exact h
  · rw [e]; exact h.alloc hf
theorem arAlloc_any {w : World} {B bs n : Nat} {fv : Value} {x : AR} (h : Ar w B bs fv x) (hf : AFit n x) : Calls Try.prog 63 #[.pointer (some ⟨B, 0, none⟩)] w (ArOut w B bs fv (alX x) (.tuple #[.agg #[.int .i64 (alS x : Nat), .int .i64 (alG x : Nat)], .bool (alB x)])) := by
  rcases al_cases x with ⟨h0, e1, e2, e3, e4⟩ | ⟨F, s, h0, e1, e2, e3, e4⟩
  · rw [e1, e2, e3, e4]
    exact arAlloc_no h hf h0
  · rw [e1, e2, e3, e4]
    exact arAlloc_yes h hf h0

/-- An arena at B, in memory laid since w0; the law's own blocks J beside it. -/
def AJ (w0 : World) (n B : Nat) (x : AR) (J : Nat → Prop) (w : World) : Prop :=
  ∃ bs fv, Ar w B bs fv x ∧ AFit n x ∧ Below w0.heap.size w0 w ∧ (∀ b, ArM B bs fv b → w0.heap.size ≤ b) ∧ ∀ b, J b → w0.heap.size ≤ b ∧ b < w.heap.size ∧ ¬ ArM B bs fv b
/-- The law's own blocks are what they were. -/
def KeepA (J : Nat → Prop) (w w' : World) : Prop := ∀ b, J b → w'.heap[b]? = w.heap[b]?
theorem KeepA.row {J : Nat → Prop} {w w' : World} (h : KeepA J w w') {base : Nat} {e : TypeId} {size n : Nat} {v : Value} {xs : List Value} (hr : w.ownsRow base e size v n xs) (hv : ∀ g, v.ownBlock = some g → J g) : w'.ownsRow base e size v n xs := ownsRow_same hr fun g hg => h g (hv g hg)
section
variable {w0 w w' : World} {n m B : Nat} {x y : AR} {J J' : Nat → Prop}
theorem AJ.below (h : AJ w0 n B x J w) : Below w0.heap.size w0 w := let ⟨_, _, _, _, h3, _⟩ := h; h3
theorem AJ.fit (h : AJ w0 n B x J w) : AFit n x := let ⟨_, _, _, h2, _⟩ := h; h2
theorem AJ.lt (h : AJ w0 n B x J w) {b : Nat} (hb : J b) : w0.heap.size ≤ b ∧ b < w.heap.size := let ⟨_, _, _, _, _, _, h5⟩ := h; ⟨(h5 b hb).1, (h5 b hb).2.1⟩
theorem AJ.more (h : AJ w0 n B x J w) (hm : n ≤ m) : AJ w0 m B x J w := by
  obtain ⟨bs, fv, h1, h2, r⟩ := h
  exact ⟨bs, fv, h1, h2.more hm, r⟩
theorem AJ.sub (h : AJ w0 n B x J w) (hs : ∀ b, J' b → J b) : AJ w0 n B x J' w := by
  obtain ⟨bs, fv, h1, h2, h3, h4, h5⟩ := h
  exact ⟨bs, fv, h1, h2, h3, h4, fun b hb => h5 b (hs b hb)⟩
/-- The law writes blocks of its own, or lays new ones. -/
theorem AJ.write {M : Nat → Prop} (h : AJ w0 n B x J w) (hc : Chg M w w') (hM : ∀ b, M b → J b) (hJ : ∀ b, J' b → J b ∨ (w.heap.size ≤ b ∧ b < w'.heap.size)) : AJ w0 n B x J' w' := by
  obtain ⟨bs, fv, h1, h2, h3, h4, h5⟩ := h
  refine ⟨bs, fv, h1.chg h2.pos hc (fun b hb => (h5 b (hM b hb)).2.2), h2, h3.trans (hc.below (fun b hb => (h5 b (hM b hb)).1) h3.size), h4, fun b hb => ?_⟩
  rcases hJ b hb with e | ⟨e1, e2⟩
  · have := h5 b e
    exact ⟨this.1, Nat.lt_of_lt_of_le this.2.1 hc.size, this.2.2⟩
  · refine ⟨Nat.le_trans h3.size e1, e2, fun e => ?_⟩
    have := h1.mlt h2.pos e
    omega
theorem AJ.later (h : AJ w0 n B x J w) (hb : Below w.heap.size w w') : AJ w0 n B x J w' := h.write (M := fun _ => False) (Chg.of_below hb) (fun _ e => e.elim) (fun _ e => .inl e)
theorem AJ.of_out {bs : Nat} {fv : Value} {r : Value} {e : Ending} (hf : AFit m y) (h3 : Below w0.heap.size w0 w) (_hs : ∀ b, ArM B bs fv b → b < w.heap.size) (h4 : ∀ b, ArM B bs fv b → w0.heap.size ≤ b) (h5 : ∀ b, J b → w0.heap.size ≤ b ∧ b < w.heap.size ∧ ¬ ArM B bs fv b) (h : ArOut w B bs fv y r e w') : e = .returned r ∧ AJ w0 m B y J w' ∧ KeepA J w w' := by
  obtain ⟨h6, fv', h7, h8, h9⟩ := h
  refine ⟨h6, ⟨bs, fv', h7, hf, h3.trans (h8.below h4 h3.size), fun b hb => ?_, fun b hb => ?_⟩, fun b hb => h8.block b (h5 b hb).2.1 (h5 b hb).2.2⟩
  · rcases hb with e | e | e
    · exact h4 b (.inl e)
    · exact h4 b (.inr (.inl e))
    · rcases h9 b e with e2 | e2
      · exact h4 b (.inr (.inr e2))
      · have := h3.size; omega
  · have h6 := h5 b hb
    refine ⟨h6.1, Nat.lt_of_lt_of_le h6.2.1 h8.size, fun e => ?_⟩
    rcases e with e | e | e
    · exact h6.2.2 (.inl e)
    · exact h6.2.2 (.inr (.inl e))
    · rcases h9 b e with e2 | e2
      · exact h6.2.2 (.inr (.inr e2))
      · have := h6.2.1; omega
theorem arNew_aj (k : Nat) (h1 : 1 ≤ k) (h2 : k ≤ 4096) (w : World) : Calls Try.prog 60 #[.int .i64 (k : Int)] w fun e w' => ∃ B, e = .returned (.tuple #[.pointer (some ⟨B, 0, none⟩), .int .i64 0]) ∧ AJ w 0 B (arNew k) (fun _ => False) w' :=
  (arNew_any k h1 h2 w).mono fun _ _ ⟨B, bs, fv, he, g1, g2, g3⟩ => ⟨B, he, bs, fv, g1, AFit.new h1 h2, g2, g3, fun _ hb => hb.elim⟩
theorem arState_aj (h : AJ w0 n B x J w) (v : Int) : Calls Try.prog 68 #[.pointer (some ⟨B, 0, none⟩), .int .i64 v] w fun e w' => e = .returned (.int .i64 (arSt x v)) ∧ w = w' := by
  obtain ⟨bs, fv, h1, h2, _⟩ := h
  exact arState_any h1 rfl h2.few v
theorem arGen_aj (h : AJ w0 n B x J w) (v : Int) : Calls Try.prog 70 #[.pointer (some ⟨B, 0, none⟩), .int .i64 v] w fun e w' => e = .returned (.int .i64 (arGn x v)) ∧ w = w' := by
  obtain ⟨bs, fv, h1, h2, _⟩ := h
  exact arGen_any h1 rfl rfl h2.few v
theorem arCount_aj (h : AJ w0 n B x J w) (v : Int) : Calls Try.prog 72 #[.pointer (some ⟨B, 0, none⟩), .int .i64 v] w fun e w' => e = .returned (.int .i64 (arCnt x v)) ∧ w = w' := by
  obtain ⟨bs, fv, h1, h2, _⟩ := h
  by_cases hv : 0 ≤ v ∧ v < 5
  · obtain ⟨j, rfl⟩ : ∃ j : Nat, v = (j : Int) := ⟨v.toNat, by omega⟩
    unfold arCnt
    rw [if_pos hv, Int.toNat_natCast]
    exact arCount_in h1 (by omega)
  · unfold arCnt
    rw [if_neg hv]
    exact arCount_out B w (by omega)
theorem arMove_aj (h : AJ w0 n B x J w) (v t : Int) : Calls Try.prog 65 #[.pointer (some ⟨B, 0, none⟩), .int .i64 v, .int .i64 t] w fun e w' => e = .returned (.bool (arMvB x v t)) ∧ AJ w0 n B (arMvX x v t) J w' ∧ KeepA J w w' := by
  obtain ⟨bs, fv, h1, h2, h3, h4, h5⟩ := h
  exact (arMove_any h1 h2 v t).mono fun _ _ ho => AJ.of_out (h2.moveX v t) h3 (fun b hb => h1.mlt h2.pos hb) h4 h5 ho
theorem arFree_aj (h : AJ w0 n B x J w) (hn : n < 100000) (v : Int) : Calls Try.prog 67 #[.pointer (some ⟨B, 0, none⟩), .int .i64 v] w fun e w' => e = .returned (.bool (arFrB x v)) ∧ AJ w0 (n + 1) B (arFrX x v) J w' ∧ KeepA J w w' := by
  obtain ⟨bs, fv, h1, h2, h3, h4, h5⟩ := h
  exact (arFree_any h1 h2 hn v).mono fun _ _ ho => AJ.of_out (h2.freeX v) h3 (fun b hb => h1.mlt h2.pos hb) h4 h5 ho
theorem arAlloc_aj (h : AJ w0 n B x J w) : Calls Try.prog 63 #[.pointer (some ⟨B, 0, none⟩)] w fun e w' => e = .returned (.tuple #[.agg #[.int .i64 (alS x : Nat), .int .i64 (alG x : Nat)], .bool (alB x)]) ∧ AJ w0 n B (alX x) J w' ∧ KeepA J w w' := by
  obtain ⟨bs, fv, h1, h2, h3, h4, h5⟩ := h
  exact (arAlloc_any h1 h2).mono fun _ _ ho => AJ.of_out h2.al h3 (fun b hb => h1.mlt h2.pos hb) h4 h5 ho

/-- Boxes of two numbers: which block, and what it holds. -/
def Boxed (L : List (Nat × Int × Int)) (b : Nat) : Prop := ∃ p ∈ L, p.1 = b
def AB (w0 : World) (n B : Nat) (x : AR) (L : List (Nat × Int × Int)) (w : World) : Prop := AJ w0 n B x (Boxed L) w ∧ ∀ p ∈ L, w.cell? ⟨p.1, 0, none⟩ = some (.int .i64 p.2.1) ∧ w.cell? ⟨p.1, 1, none⟩ = some (.int .i64 p.2.2)
variable {L : List (Nat × Int × Int)}
theorem AB.keep (h : AB w0 n B x L w) (hj : AJ w0 m B y (Boxed L) w') (hk : KeepA (Boxed L) w w') : AB w0 m B y L w' :=
  ⟨hj, fun p hp => ⟨(World.cell?_of_block (w := w) (hk p.1 ⟨p, hp, rfl⟩)).trans (h.2 p hp).1, (World.cell?_of_block (w := w) (hk p.1 ⟨p, hp, rfl⟩)).trans (h.2 p hp).2⟩⟩
theorem AB.box (h : AB w0 n B x L w) (v k : Int) (t : TypeId) : AB w0 n B x ((w.heap.size, v, k) :: L) (w.alloc (.cells #[.int .i64 v, .int .i64 k] t)) := by
  have hb := below_new w (.cells #[.int .i64 v, .int .i64 k] t)
  have hh := heap_alloc_last w (.cells #[.int .i64 v, .int .i64 k] t)
  refine ⟨h.1.write (M := fun _ => False) (Chg.of_below hb) (fun _ e => e.elim) (fun b e => ?_), fun p hp => ?_⟩
  · obtain ⟨p, hp, rfl⟩ := e
    rcases List.mem_cons.1 hp with rfl | hp
    · exact .inr ⟨Nat.le_refl _, by simp⟩
    · exact .inl ⟨p, hp, rfl⟩
  · rcases List.mem_cons.1 hp with rfl | hp
    · exact ⟨cell_of_row _ _ 0 _ t (0, 0) hh, cell_of_row _ _ 1 _ t (0, 0) hh⟩
    · have hlt := (h.1.lt ⟨p, hp, rfl⟩).2
      exact ⟨(hb.cell (p := ⟨p.1, 0, none⟩) hlt).trans (h.2 p hp).1, (hb.cell (p := ⟨p.1, 1, none⟩) hlt).trans (h.2 p hp).2⟩
theorem AB.later (h : AB w0 n B x L w) (hb : Below w.heap.size w w') : AB w0 n B x L w' := h.keep (h.1.later hb) fun b e => hb.block b (h.1.lt e).2
end

end Go.Proofs.Ytoaikdnooafjmaa
