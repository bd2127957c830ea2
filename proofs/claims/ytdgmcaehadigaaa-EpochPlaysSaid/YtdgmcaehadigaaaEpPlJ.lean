/- The program's clock and the document's, side by side (EpochPlays). -/
import Derived.Test.YtdgmcaehadigaaaRefEpPin3
import Derived.Test.YtdgmcaehadigaaaRefEpLook
import Derived.Test.YtdgmcaehadigaaaRefEpFree
import Derived.Test.YtdgmcaehadigaaaRefEpNew
import Derived.Test.YtdgmcaehadigaaaEpJ
namespace Go.Proofs.Ytdgmcaehadigaaa
open Go.RowKit

/-- A box that holds a clock of the document's. -/
def BoxV (w : World) (D : Nat) (V : Value) : Prop := ∃ v0 v1 v2 v3 v4, V = .agg #[v0, v1, v2, v3, v4] ∧ Five w D v0 v1 v2 v3 v4
/-- The law's own blocks: the lists of the document's clock, and its box. -/
def JZ (Z : Nat → Prop) (D : Nat) (b : Nat) : Prop := Z b ∨ b = D
/-- A fact stays as long as these blocks do. -/
def Stays (Z : Nat → Prop) (F : World → Prop) : Prop := ∀ W W' : World, KeepJ Z W W' → F W → F W'
/-- The program's clock p holds x, the document's value Vd holds y, the box D holds Vb; F tells of blocks beside them. -/
def JS (w1 : World) (k : Nat) (p : Value) (x : EX) (D : Nat) (Vb Vd : Value) (y : EX) (F G : World → Prop) (w : World) : Prop :=
  ∃ Z, EJ w1 k p x (JZ Z D) w ∧ RC w Z Vd y ∧ BoxV w D Vb ∧ (∀ b, Z b → b ≠ D) ∧ (F w ∧ G w) ∧ Stays Z F ∧ Stays Z G
theorem EJ.lt {w1 w : World} {k : Nat} {p : Value} {x : EX} {J : Nat → Prop} (h : EJ w1 k p x J w) {b : Nat} (hb : J b) : b < w.heap.size := by
  obtain ⟨_, _, _, _, _, _, _, _, _, _, h5⟩ := h
  exact (h5 b hb).2.1
theorem Stays.mono {Z Z' : Nat → Prop} {F : World → Prop} (h : Stays Z F) (hz : ∀ b, Z b → Z' b) : Stays Z' F := fun W W' hk => h W W' fun b hb => hk b (hz b hb)
theorem Stays.true (Z : Nat → Prop) : Stays Z (fun _ => True) := fun _ _ _ h => h
theorem Stays.and {Z : Nat → Prop} {F G : World → Prop} (h : Stays Z F) (h2 : Stays Z G) : Stays Z (fun W => F W ∧ G W) := fun W W' hk hf => ⟨h W W' hk hf.1, h2 W W' hk hf.2⟩
/-- A list of numbers in such a block. -/
def RdIn (A : Option Addr) (L : List Int) (W : World) : Prop := Rd (Value.int .i64) W W.heap.size A L
theorem ne_of_some {α : Type} {L : List α} {j : Nat} {z : α} (h : L[j]? = some z) : L.length ≠ 0 := by
  have := (List.getElem?_eq_some_iff.1 h).1
  omega
theorem lt_of_same {w w' : World} {b : Nat} (h : w'.heap[b]? = w.heap[b]?) (hb : b < w.heap.size) : b < w'.heap.size := by
  rw [Array.getElem?_eq_getElem hb] at h
  exact (Array.getElem?_eq_some_iff.1 h).1
/-- What a clock of the document's reads stays, if its blocks stay. -/
theorem RC.keep {w w' : World} {Z : Nat → Prop} {V : Value} {y : EX} (h : RC w Z V y) (hk : ∀ b, Z b → b < w.heap.size → w'.heap[b]? = w.heap[b]?) : RC w' Z V y := by
  obtain ⟨A1, c1, A2, c2, A3, c3, e, r1, r2, r3, t1, t2, t3⟩ := h
  refine ⟨A1, c1, A2, c2, A3, c3, e, fun j z hj => ?_, fun j z hj => ?_, fun j q hj => ?_, t1, t2, t3⟩
  · obtain ⟨b, off, e1, e2, e3⟩ := r1 j z hj
    have hn := ne_of_some hj
    rw [natI_len] at hn
    exact ⟨b, off, e1, lt_of_same (hk b (t1 hn b off e1) e2) e2, (World.cell?_of_block (w := w) (a := ⟨b, off + j, none⟩) (hk b (t1 hn b off e1) e2)).trans e3⟩
  · obtain ⟨b, off, e1, e2, e3⟩ := r2 j z hj
    have hn := ne_of_some hj
    rw [natI_len] at hn
    exact ⟨b, off, e1, lt_of_same (hk b (t2 hn b off e1) e2) e2, (World.cell?_of_block (w := w) (a := ⟨b, off + j, none⟩) (hk b (t2 hn b off e1) e2)).trans e3⟩
  · obtain ⟨b, off, e1, e2, e3, e4⟩ := r3 j q hj
    have hn := ne_of_some hj
    exact ⟨b, off, e1, lt_of_same (hk b (t3 hn b off e1) e2) e2, (World.cell?_of_block (w := w) (a := ⟨b, off + j * 2, none⟩) (hk b (t3 hn b off e1) e2)).trans e3, (World.cell?_of_block (w := w) (a := ⟨b, off + j * 2 + 1, none⟩) (hk b (t3 hn b off e1) e2)).trans e4⟩
theorem RC.mono {w : World} {Z Z' : Nat → Prop} {V : Value} {y : EX} (h : RC w Z V y) (hz : ∀ b, Z b → Z' b) : RC w Z' V y := by
  obtain ⟨A1, c1, A2, c2, A3, c3, e, r1, r2, r3, t1, t2, t3⟩ := h
  exact ⟨A1, c1, A2, c2, A3, c3, e, r1, r2, r3, fun h0 g o e => hz g (t1 h0 g o e), fun h0 g o e => hz g (t2 h0 g o e), fun h0 g o e => hz g (t3 h0 g o e)⟩
/-- .. and they lie in memory. -/
theorem RC.within {w : World} {Z : Nat → Prop} {V : Value} {y : EX} (h : RC w Z V y) : RC w (fun b => Z b ∧ b < w.heap.size) V y := by
  obtain ⟨A1, c1, A2, c2, A3, c3, e, r1, r2, r3, t1, t2, t3⟩ := h
  have lt : ∀ {A : Option Addr} {L : List Nat}, Rd (Value.int .i64) w w.heap.size A (natI L) → L.length ≠ 0 → ∀ g o, A = some ⟨g, o, none⟩ → g < w.heap.size := fun {A L} hr hn g o ha => by
    obtain ⟨b, off, e1, e2, _⟩ := hr 0 _ (List.getElem?_eq_getElem (by rw [natI_len]; omega))
    rw [ha] at e1
    injection e1 with e1
    injection e1 with e1
    omega
  refine ⟨A1, c1, A2, c2, A3, c3, e, r1, r2, r3, fun hn g o ha => ⟨t1 hn g o ha, lt r1 hn g o ha⟩, fun hn g o ha => ⟨t2 hn g o ha, lt r2 hn g o ha⟩, fun hn g o ha => ⟨t3 hn g o ha, ?_⟩⟩
  obtain ⟨b, off, e1, e2, _⟩ := r3 0 _ (List.getElem?_eq_getElem (by omega))
  rw [ha] at e1
  injection e1 with e1
  injection e1 with e1
  omega
theorem BoxV.below {w w' : World} {D : Nat} {V : Value} (h : BoxV w D V) (hb : Below w.heap.size w w') : BoxV w' D V := by
  obtain ⟨v0, v1, v2, v3, v4, e, hf⟩ := h
  exact ⟨v0, v1, v2, v3, v4, e, hf.below hb⟩
theorem BoxV.keep {w w' : World} {D : Nat} {V : Value} (h : BoxV w D V) (hk : w'.heap[D]? = w.heap[D]?) : BoxV w' D V := by
  obtain ⟨v0, v1, v2, v3, v4, e, hf⟩ := h
  have k := fun j => World.cell?_of_block (w := w) (w' := w') (a := ⟨D, j, none⟩) hk
  have f := fun j => World.frozen?_of_block (w := w) (w' := w') (a := ⟨D, j, none⟩) hk
  exact ⟨v0, v1, v2, v3, v4, e, ⟨lt_of_same hk hf.lt, (k 0).trans hf.c0, (k 1).trans hf.c1, (k 2).trans hf.c2, (k 3).trans hf.c3, (k 4).trans hf.c4, (f 0).trans hf.f0, (f 1).trans hf.f1, (f 2).trans hf.f2, (f 3).trans hf.f3, (f 4).trans hf.f4⟩⟩
section
variable {w1 w w' : World} {k k' : Nat} {p : Value} {x x' y y' : EX} {D : Nat} {Vb Vd V' : Value} {Z : Nat → Prop} {F G : World → Prop}
theorem Stays.rd {A : Option Addr} {L : List Int} (hg : L.length ≠ 0 → ∀ g o, A = some ⟨g, o, none⟩ → Z g) : Stays Z (RdIn A L) := fun W W' hk hr i z hz => by
  obtain ⟨b, off, e1, e2, e3⟩ := hr i z hz
  have h := hk b (hg (ne_of_some hz) b off e1)
  exact ⟨b, off, e1, lt_of_same h e2, (World.cell?_of_block (w := W) (a := ⟨b, off + i, none⟩) h).trans e3⟩
/-- What a call of the document's leaves. -/
theorem JS.doc_all (h : EJ w1 k p x (JZ Z D) w) (hbx : BoxV w D Vb) (hZ : ∀ b, Z b → b ≠ D) (hb : Below w.heap.size w w') (hr : RC w' (ZZ Z w) V' y') (hF : F w' ∧ G w') (hS : Stays (fun b => ZZ Z w b ∧ b < w'.heap.size) F ∧ Stays (fun b => ZZ Z w b ∧ b < w'.heap.size) G) : JS w1 k p x D Vb V' y' F G w' := by
  refine ⟨_, h.write (M := fun _ => False) (Chg.of_below hb) (fun _ e => e.elim) (fun b hJ => ?_), hr.within, hbx.below hb, fun b hz => ?_, hF, hS⟩
  · rcases hJ with ⟨hz | hz, hlt⟩ | rfl
    · exact .inl (.inl hz)
    · exact .inr ⟨hz, hlt⟩
    · exact .inl (.inr rfl)
  · rcases hz.1 with hz | hz
    · exact hZ b hz
    · obtain ⟨_, _, _, _, _, _, hf⟩ := hbx
      have := hf.lt
      omega
theorem JS.doc (h : EJ w1 k p x (JZ Z D) w) (hbx : BoxV w D Vb) (hZ : ∀ b, Z b → b ≠ D) (hF : F w ∧ G w) (hS : Stays Z F ∧ Stays Z G) (hb : Below w.heap.size w w') (hr : RC w' (ZZ Z w) V' y') : JS w1 k p x D Vb V' y' F G w' :=
  have hk : KeepJ Z w w' := fun b hz => hb.block b (h.lt (.inl hz))
  have hm : ∀ b, Z b → ZZ Z w b ∧ b < w'.heap.size := fun b hz => ⟨.inl hz, Nat.lt_of_lt_of_le (h.lt (.inl hz)) hb.size⟩
  JS.doc_all h hbx hZ hb hr ⟨hS.1 w w' hk hF.1, hS.2 w w' hk hF.2⟩ ⟨hS.1.mono hm, hS.2.mono hm⟩
/-- .. that tells a list of numbers, too. -/
theorem JS.docL {A : Option Addr} {L : List Int} (h : EJ w1 k p x (JZ Z D) w) (hbx : BoxV w D Vb) (hZ : ∀ b, Z b → b ≠ D) (hF : F w) (hS : Stays Z F) (hb : Below w.heap.size w w') (hr : RC w' (ZZ Z w) V' y') (hR : Rd (Value.int .i64) w' w'.heap.size A L) (hg : ∀ g o, A = some ⟨g, o, none⟩ → w.heap.size ≤ g) : JS w1 k p x D Vb V' y' F (RdIn A L) w' := by
  have hk : KeepJ Z w w' := fun b hz => hb.block b (h.lt (.inl hz))
  refine JS.doc_all h hbx hZ hb hr ⟨hS w w' hk hF, hR⟩ ⟨hS.mono fun b hz => ⟨.inl hz, Nat.lt_of_lt_of_le (h.lt (.inl hz)) hb.size⟩, Stays.rd fun hn g o e => ⟨.inr (hg g o e), ?_⟩⟩
  obtain ⟨b, off, e1, e2, _⟩ := hR 0 _ (List.getElem?_eq_getElem (by omega))
  rw [e] at e1
  injection e1 with e1
  injection e1 with e1
  omega
/-- What a call of the program's leaves. -/
theorem JS.prog (hr : RC w Z Vd y) (hbx : BoxV w D Vb) (hZ : ∀ b, Z b → b ≠ D) (hF : F w ∧ G w) (hS : Stays Z F ∧ Stays Z G) (h2 : EJ w1 k' p x' (JZ Z D) w') (hk : KeepJ (JZ Z D) w w') : JS w1 k' p x' D Vb Vd y F G w' :=
  ⟨Z, h2, hr.keep (fun b hz _ => hk b (.inl hz)), hbx.keep (hk D (.inr rfl)), hZ, ⟨hS.1 w w' (fun b hz => hk b (.inl hz)) hF.1, hS.2 w w' (fun b hz => hk b (.inl hz)) hF.2⟩, hS⟩
/-- New memory is laid. -/
theorem JS.later (h : JS w1 k p x D Vb Vd y F G w) (hb : Below w.heap.size w w') : JS w1 k p x D Vb Vd y F G w' := by
  obtain ⟨Z, h1, h2, h3, hZ, hF, hS⟩ := h
  have hk : KeepJ Z w w' := fun b hz => hb.block b (h1.lt (.inl hz))
  exact ⟨Z, h1.later hb, h2.keep (fun b _ hlt => hb.block b hlt), h3.below hb, hZ, ⟨hS.1 w w' hk hF.1, hS.2 w w' hk hF.2⟩, hS⟩
theorem JS.more (h : JS w1 k p x D Vb Vd y F G w) (hk : k ≤ k') : JS w1 k' p x D Vb Vd y F G w := by
  obtain ⟨Z, h1, h2, h3, hZ⟩ := h
  exact ⟨Z, h1.more hk, h2, h3, hZ⟩
theorem JS.drop (h : JS w1 k p x D Vb Vd y F G w) : JS w1 k p x D Vb Vd y (fun _ => True) (fun _ => True) w := by
  obtain ⟨Z, h1, h2, h3, hZ, hF, hS⟩ := h
  exact ⟨Z, h1, h2, h3, hZ, ⟨trivial, trivial⟩, Stays.true Z, Stays.true Z⟩
theorem JS.dropG (h : JS w1 k p x D Vb Vd y F G w) : JS w1 k p x D Vb Vd y F (fun _ => True) w := by
  obtain ⟨Z, h1, h2, h3, hZ, hF, hS⟩ := h
  exact ⟨Z, h1, h2, h3, hZ, ⟨hF.1, trivial⟩, hS.1, Stays.true Z⟩
theorem JS.fact (h : JS w1 k p x D Vb Vd y F G w) : F w := by
  obtain ⟨Z, h1, h2, h3, hZ, hF, hS⟩ := h
  exact hF.1
theorem JS.factG (h : JS w1 k p x D Vb Vd y F G w) : G w := by
  obtain ⟨Z, h1, h2, h3, hZ, hF, hS⟩ := h
  exact hF.2
theorem JS.five {v0 v1 v2 v3 v4 : Value} (h : JS w1 k p x D (.agg #[v0, v1, v2, v3, v4]) Vd y F G w) : Five w D v0 v1 v2 v3 v4 := by
  obtain ⟨Z, h1, h2, ⟨u0, u1, u2, u3, u4, e, hf⟩, _⟩ := h
  injection e with e
  injection e with e
  injection e with e0 e
  injection e with e1 e
  injection e with e2 e
  injection e with e3 e
  injection e with e4 _
  subst e0 e1 e2 e3 e4
  exact hf
theorem JS.belowJ (h : JS w1 k p x D Vb Vd y F G w) : Below w1.heap.size w1 w := by
  obtain ⟨Z, h1, _⟩ := h
  exact h1.below
theorem JS.fit (h : JS w1 k p x D Vb Vd y F G w) : EFit k x := by
  obtain ⟨Z, h1, _⟩ := h
  exact h1.fit
/-- The box and the value, by their cells. -/
theorem JS.cells (h : JS w1 k p x D Vb Vd y F G w) : ∃ v0 v1 v2 v3 v4, Vb = .agg #[v0, v1, v2, v3, v4] ∧ Five w D v0 v1 v2 v3 v4 := by
  obtain ⟨Z, h1, h2, h3, _⟩ := h
  exact h3
theorem JS.value (h : JS w1 k p x D Vb Vd y F G w) : ∃ A1 c1 A2 c2 A3 c3, Vd = cV y.e A1 y.ld.length c1 A2 y.rc.length c2 A3 y.lb.length c3 y.lk ∧ Rd (Value.int .i64) w w.heap.size A2 (natI y.rc) ∧ RdR w w.heap.size A3 y.lb := by
  obtain ⟨Z, h1, ⟨A1, c1, A2, c2, A3, c3, e, r1, r2, r3, _⟩, _⟩ := h
  exact ⟨A1, c1, A2, c2, A3, c3, e, r2, r3⟩
theorem JS.has (h : JS w1 k p x D Vb Vd y F G w) : ∃ Z, RC w Z Vd y := by
  obtain ⟨Z, h1, h2, _⟩ := h
  exact ⟨Z, h2⟩
theorem JS.e1 (h : JS w1 k p x D Vb Vd y F G w) : E1 w1 k p x [] w := by
  obtain ⟨Z, h1, _⟩ := h
  exact h1.e1
/-- The document's value is written into the box. -/
theorem JS.box {v0 v1 v2 v3 v4 : Value} (h : JS w1 k p x D Vb (.agg #[v0, v1, v2, v3, v4]) y F G w) : JS w1 k p x D (.agg #[v0, v1, v2, v3, v4]) (.agg #[v0, v1, v2, v3, v4]) y F G (((((w.setCell ⟨D, 0, none⟩ v0).setCell ⟨D, 1, none⟩ v1).setCell ⟨D, 2, none⟩ v2).setCell ⟨D, 3, none⟩ v3).setCell ⟨D, 4, none⟩ v4) := by
  obtain ⟨Z, h1, h2, ⟨_, _, _, _, _, _, hf⟩, hZ, hF, hS⟩ := h
  have hc : Chg (fun b => b = D) w (((((w.setCell ⟨D, 0, none⟩ v0).setCell ⟨D, 1, none⟩ v1).setCell ⟨D, 2, none⟩ v2).setCell ⟨D, 3, none⟩ v3).setCell ⟨D, 4, none⟩ v4) :=
    have c : ∀ {W : World} (o : Nat) (v : Value), Chg (fun b => b = D) w W → Chg (fun b => b = D) w (W.setCell ⟨D, o, none⟩ v) := fun o v h => h.setCell (b := D) (o := o) rfl v
    c 4 v4 (c 3 v3 (c 2 v2 (c 1 v1 (c 0 v0 Chg.refl))))
  exact ⟨Z, h1.write hc (fun b e => .inr e) (fun b e => .inl e), h2.keep (fun b hz hlt => hc.block b hlt (hZ b hz)), ⟨v0, v1, v2, v3, v4, rfl, hf.put v0 v1 v2 v3 v4⟩, hZ, ⟨hS.1 w _ (fun b hz => hc.block b (h1.lt (.inl hz)) (hZ b hz)) hF.1, hS.2 w _ (fun b hz => hc.block b (h1.lt (.inl hz)) (hZ b hz)) hF.2⟩, hS⟩
/-- The start: the document's clock is told behind the program's, and laid into its box. -/
theorem JS.start {wa wb : World} {v0 v1 v2 v3 v4 : Value} (h1 : EJ w1 k p x (fun _ => False) wa) (hb : Below wa.heap.size wa wb) (hr : RC wb (fun b => wa.heap.size ≤ b) (.agg #[v0, v1, v2, v3, v4]) y) (t : TypeId) : JS w1 k p x wb.heap.size (.agg #[v0, v1, v2, v3, v4]) (.agg #[v0, v1, v2, v3, v4]) y (fun _ => True) (fun _ => True) (wb.alloc (.cells #[v0, v1, v2, v3, v4] t)) := by
  have hn := below_new wb (.cells #[v0, v1, v2, v3, v4] t)
  have hb2 : Below wa.heap.size wa (wb.alloc (.cells #[v0, v1, v2, v3, v4] t)) := Below.next hb hn
  refine ⟨fun b => wa.heap.size ≤ b ∧ b < wb.heap.size, h1.write (M := fun _ => False) (Chg.of_below hb2) (fun _ e => e.elim) (fun b hJ => .inr ?_), hr.within.keep (fun b _ hlt => hn.block b hlt), ⟨v0, v1, v2, v3, v4, rfl, Five.new wb v0 v1 v2 v3 v4 t⟩, fun b hz => by omega, ⟨trivial, trivial⟩, Stays.true _, Stays.true _⟩
  rw [World.size_alloc]
  have := hb.size
  rcases hJ with hz | rfl
  · omega
  · omega
/-- A box beside them. -/
def Cells2 (E : Nat) (a b : Value) (W : World) : Prop := W.cell? ⟨E, 0, none⟩ = some a ∧ W.cell? ⟨E, 1, none⟩ = some b
theorem JS.newbox (h : JS w1 k p x D Vb Vd y F G w) (a b : Value) (t : TypeId) : JS w1 k p x D Vb Vd y (Cells2 w.heap.size a b) (fun _ => True) (w.alloc (.cells #[a, b] t)) := by
  obtain ⟨Z, h1, h2, h3, hZ, _, _⟩ := h
  have hn := below_new w (.cells #[a, b] t)
  have hh := heap_alloc_last w (.cells #[a, b] t)
  have hd := h1.lt (b := D) (.inr rfl)
  refine ⟨fun c => Z c ∨ c = w.heap.size, h1.write (M := fun _ => False) (Chg.of_below hn) (fun _ e => e.elim) (fun c hJ => ?_), (h2.keep (fun b _ hlt => hn.block b hlt)).mono (fun b hz => .inl hz), h3.below hn, fun c hz => ?_, ⟨⟨cell_of_row _ _ 0 _ t (0, 0) hh, cell_of_row _ _ 1 _ t (0, 0) hh⟩, trivial⟩, fun W W' hk hc => ?_, Stays.true _⟩
  · rcases hJ with (hz | rfl) | rfl
    · exact .inl (.inl hz)
    · exact .inr ⟨Nat.le_refl _, by simp⟩
    · exact .inl (.inr rfl)
  · rcases hz with hz | rfl
    · exact hZ c hz
    · omega
  · have q := hk w.heap.size (.inr rfl)
    exact ⟨(World.cell?_of_block (w := W) q).trans hc.1, (World.cell?_of_block (w := W) q).trans hc.2⟩
/-- The document's calls. -/
theorem Load_js (h : JS w1 k p x D Vb Vd x F G w) (v : Int) : Calls Try.prog 39 #[Vd, .int .i64 v] w fun r w' => ∃ V', r = .returned (.tuple #[V', .int .i64 (loadV x v : Nat)]) ∧ JS w1 k p x D Vb V' (loadX x v) F G w' := by
  obtain ⟨Z, h1, h2, h3, hZ, hF, hS⟩ := h
  cases hh : hasE x v with
  | false =>
    refine (RLoad_not h2 v hh).mono ?_
    rintro r w' ⟨rfl, hb⟩
    refine ⟨Vd, ?_, ?_⟩
    · unfold loadV
      rw [hh]
      rfl
    · unfold loadX
      rw [hh]
      exact JS.doc h1 h3 hZ hF hS hb ((h2.keep (fun b _ hlt => hb.block b hlt)).mono (fun b hz => .inl hz))
  | true =>
    have hvb := of_decide_eq_true (show decide (0 ≤ v ∧ v < (x.rc.length : Int)) = true from hh)
    obtain ⟨q, rfl⟩ : ∃ q : Nat, v = (q : Int) := ⟨v.toNat, by omega⟩
    refine (RLoad_yes h2 h1.fit q (by omega)).mono ?_
    rintro r w' ⟨V', rfl, hr, hb⟩
    refine ⟨V', ?_, ?_⟩
    · unfold loadV
      rw [hh]
      rfl
    · unfold loadX
      rw [hh]
      exact JS.doc h1 h3 hZ hF hS hb hr
theorem Pin_js (h : JS w1 k p x D Vb Vd x F G w) (hk : k ≤ 100000) (v : Int) : Calls Try.prog 41 #[Vd, .int .i64 v] w fun r w' => ∃ V', r = .returned (.tuple #[V', .bool (pinB x v)]) ∧ JS w1 k p x D Vb V' (pinX x v) F G w' := by
  obtain ⟨Z, h1, h2, h3, hZ, hF, hS⟩ := h
  cases hh : pinB x v with
  | false =>
    refine (RPin_not h2 v hh).mono ?_
    rintro r w' ⟨rfl, hb⟩
    refine ⟨Vd, rfl, ?_⟩
    unfold pinX
    rw [hh]
    exact JS.doc h1 h3 hZ hF hS hb ((h2.keep (fun b _ hlt => hb.block b hlt)).mono (fun b hz => .inl hz))
  | true =>
    unfold pinX
    rw [hh]
    unfold pinB at hh
    rw [Bool.and_eq_true] at hh
    have hvb := of_decide_eq_true (show decide (0 ≤ v ∧ v < (x.rc.length : Int)) = true from hh.1)
    obtain ⟨q, rfl⟩ : ∃ q : Nat, v = (q : Int) := ⟨v.toNat, by omega⟩
    refine (RPin_yes h2 h1.fit hk q (by omega) (by simpa using hh.2)).mono ?_
    rintro r w' ⟨V', rfl, hr, hb⟩
    exact ⟨V', rfl, JS.doc h1 h3 hZ hF hS hb hr⟩
theorem Unpin_js (h : JS w1 k p x D Vb Vd x F G w) (hk : k ≤ 100000) (v : Int) : Calls Try.prog 43 #[Vd, .int .i64 v] w fun r w' => ∃ V', r = .returned (.tuple #[V', .bool (unpinB x v)]) ∧ JS w1 k p x D Vb V' (unpinX x v) F G w' := by
  obtain ⟨Z, h1, h2, h3, hZ, hF, hS⟩ := h
  cases hh : unpinB x v with
  | false =>
    refine (RUnpin_not h2 v hh).mono ?_
    rintro r w' ⟨rfl, hb⟩
    refine ⟨Vd, rfl, ?_⟩
    unfold unpinX
    rw [hh]
    exact JS.doc h1 h3 hZ hF hS hb ((h2.keep (fun b _ hlt => hb.block b hlt)).mono (fun b hz => .inl hz))
  | true =>
    unfold unpinX
    rw [hh]
    unfold unpinB at hh
    rw [Bool.and_eq_true] at hh
    have hvb := of_decide_eq_true (show decide (0 ≤ v ∧ v < (x.rc.length : Int)) = true from hh.1)
    obtain ⟨q, rfl⟩ : ∃ q : Nat, v = (q : Int) := ⟨v.toNat, by omega⟩
    refine (RUnpin_yes h2 h1.fit hk q (by omega) (by simpa using hh.2)).mono ?_
    rintro r w' ⟨V', rfl, hr, hb⟩
    exact ⟨V', rfl, JS.doc h1 h3 hZ hF hS hb hr⟩
theorem Look_js (h : JS w1 k p x D Vb Vd x F G w) (hk : k ≤ 100000) : Calls Try.prog 47 #[Vd] w fun r w' => ∃ V', r = .returned (.tuple #[V', .bool (lookB x)]) ∧ JS w1 k p x D Vb V' (lookE x) F G w' := by
  obtain ⟨Z, h1, h2, h3, hZ, hF, hS⟩ := h
  refine (RLook_any h2 h1.fit hk).mono ?_
  rintro r w' ⟨V', rfl, hr, hb⟩
  exact ⟨V', rfl, JS.doc h1 h3 hZ hF hS hb hr⟩
theorem Free_js (h : JS w1 k p x D Vb Vd x F G w) (hk : k ≤ 100000) {L : List Int} {l : Nat} (hL : (freeL1 x).map (·.1) = L) (hl : L.length = l) : Calls Try.prog 49 #[Vd] w fun r w' => ∃ V' A c, r = .returned (.tuple #[V', .slice A l c]) ∧ JS w1 k p x D Vb V' (freeE x) F (RdIn A L) w' := by
  subst hl hL
  obtain ⟨Z, h1, h2, h3, hZ, hF, hS⟩ := h
  refine (RFree_any h2 h1.fit hk).mono ?_
  rintro r w' ⟨V', A, c, rfl, hr, hR, hb, hg⟩
  exact ⟨V', A, c, by rw [List.length_map], JS.docL h1 h3 hZ hF.1 hS.1 hb hr hR hg⟩
/-- .. and the program's. -/
theorem PLoad_js (h : JS w1 k p x D Vb Vd y F G w) (v : Int) : Calls Try.prog 40 #[p, .int .i64 v] w fun r w' => r = .returned (.int .i64 (loadV x v : Nat)) ∧ JS w1 k p (loadX x v) D Vb Vd y F G w' := by
  obtain ⟨Z, h1, h2, h3, hZ, hF, hS⟩ := h
  refine (ELoad_ej h1 v).mono ?_
  rintro r w' ⟨rfl, h4, h5⟩
  exact ⟨rfl, JS.prog h2 h3 hZ hF hS h4 h5⟩
theorem PPin_js (h : JS w1 k p x D Vb Vd y F G w) (hn : k < 100000) (v : Int) : Calls Try.prog 42 #[p, .int .i64 v] w fun r w' => r = .returned (.bool (pinB x v)) ∧ JS w1 k p (pinX x v) D Vb Vd y F G w' := by
  obtain ⟨Z, h1, h2, h3, hZ, hF, hS⟩ := h
  refine (Pin_ej h1 hn v).mono ?_
  rintro r w' ⟨rfl, h4, h5⟩
  exact ⟨rfl, JS.prog h2 h3 hZ hF hS h4 h5⟩
theorem PUnpin_js (h : JS w1 k p x D Vb Vd y F G w) (v : Int) : Calls Try.prog 44 #[p, .int .i64 v] w fun r w' => r = .returned (.bool (unpinB x v)) ∧ JS w1 k p (unpinX x v) D Vb Vd y F G w' := by
  obtain ⟨Z, h1, h2, h3, hZ, hF, hS⟩ := h
  refine (Unpin_ej h1 v).mono ?_
  rintro r w' ⟨rfl, h4, h5⟩
  exact ⟨rfl, JS.prog h2 h3 hZ hF hS h4 h5⟩
theorem PRetire_js (h : JS w1 k p x D Vb Vd y F G w) (hn : k < 100000) (v : Int) (hv : IsI v) : Calls Try.prog 46 #[p, .int .i64 v] w fun r w' => r = .returned (.bool (!isRet x v)) ∧ JS w1 (k + 1) p (retX x v) D Vb Vd y F G w' := by
  obtain ⟨Z, h1, h2, h3, hZ, hF, hS⟩ := h
  refine (Retire_ej h1 hn v hv).mono ?_
  rintro r w' ⟨rfl, h4, h5⟩
  exact ⟨rfl, JS.prog h2 h3 hZ hF hS h4 h5⟩
theorem PLook_js (h : JS w1 k p x D Vb Vd y F G w) (hn : k < 100000) : Calls Try.prog 48 #[p] w fun r w' => r = .returned (.bool (lookB x)) ∧ JS w1 (k + 1) p (lookE x) D Vb Vd y F G w' := by
  obtain ⟨Z, h1, h2, h3, hZ, hF, hS⟩ := h
  refine (Look_ej h1 hn).mono ?_
  rintro r w' ⟨rfl, h4, h5⟩
  exact ⟨rfl, JS.prog h2 h3 hZ hF hS h4 h5⟩
theorem PFree_js (h : JS w1 k p x D Vb Vd y F G w) (hn : k < 100000) {L : List Int} {l : Nat} (hL : (freeL1 x).map (·.1) = L) (hl : L.length = l) : Calls Try.prog 50 #[p] w fun r w' => ∃ A c, r = .returned (.slice A l c) ∧ Rd (Value.int .i64) w' w'.heap.size A L ∧ JS w1 k p (freeE x) D Vb Vd y F G w' := by
  obtain ⟨Z, h1, h2, h3, hZ, hF, hS⟩ := h
  refine (Free_ej h1 hn hL hl).mono ?_
  rintro r w' ⟨A, c, rfl, hr, h4, h5⟩
  exact ⟨A, c, rfl, hr, JS.prog h2 h3 hZ hF hS h4 h5⟩
end
end Go.Proofs.Ytdgmcaehadigaaa
