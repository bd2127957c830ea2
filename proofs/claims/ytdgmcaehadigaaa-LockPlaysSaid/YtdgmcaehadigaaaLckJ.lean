/- The program's table of mutexes and the document's, side by side (LockPlays). -/
import Derived.Test.YtdgmcaehadigaaaLckL1
import Derived.Test.YtdgmcaehadigaaaRefLck4
namespace Go.Proofs.Ytdgmcaehadigaaa
open Go.RowKit

/-- A fact stays as long as these blocks do. -/
def KeepT (J : Nat → Prop) (w w' : World) : Prop := ∀ b, J b → w'.heap[b]? = w.heap[b]?
def Stays (Z : Nat → Prop) (F : World → Prop) : Prop := ∀ W W' : World, KeepT Z W W' → F W → F W'
theorem Stays.mono {Z Z' : Nat → Prop} {F : World → Prop} (h : Stays Z F) (hz : ∀ b, Z b → Z' b) : Stays Z' F := fun W W' hk => h W W' fun b hb => hk b (hz b hb)
theorem Stays.true (Z : Nat → Prop) : Stays Z (fun _ => True) := fun _ _ _ h => h
/-- A table that p leads to, in memory laid since w0; the law's own blocks J beside it. -/
def LJ (w0 : World) (n : Nat) (p : Value) (x : LX) (J : Nat → Prop) (w : World) : Prop :=
  ∃ B bh bw, p = .pointer (some ⟨B, 0, none⟩) ∧ Tab w B bh bw n x ∧ LFit x ∧ Below w0.heap.size w0 w ∧ (∀ b, TabM B bh bw b → w0.heap.size ≤ b) ∧ (x.hs.length ≤ n ∧ x.ws.length ≤ n) ∧ ∀ b, J b → w0.heap.size ≤ b ∧ b < w.heap.size ∧ ¬ TabM B bh bw b
theorem take_lens (x : LX) (v k : Int) : (takeX x v k).hs.length ≤ x.hs.length + 1 ∧ (takeX x v k).ws.length ≤ x.ws.length + 1 := by
  have hr : (restL x.ws v).length ≤ x.ws.length := List.length_filter_le _ _
  unfold takeX
  split
  · split
    · rw [List.length_append]
      exact ⟨Nat.le_refl _, Nat.le_succ_of_le hr⟩
    · show x.hs.length ≤ _ ∧ (restL x.ws v ++ [(k, v)]).length ≤ _
      rw [List.length_append, List.length_singleton]
      omega
  · omega
theorem give_lens (x : LX) (v k : Int) : (giveX x v k).hs.length ≤ x.hs.length ∧ (giveX x v k).ws.length ≤ x.ws.length := by
  unfold giveX
  split
  · exact ⟨List.length_filter_le _ _, List.length_filter_le _ _⟩
  · omega
section
variable {w0 w w' : World} {n m : Nat} {p : Value} {x y : LX} {J J' : Nat → Prop}
theorem LJ.l1 (h : LJ w0 n p x J w) : L1 w0 n p x [] w := by
  obtain ⟨B, bh, bw, rfl, h1, h2, h3, h4, _⟩ := h
  exact ⟨B, bh, bw, rfl, h1, h2, h3, h4, fun r hr => by cases hr⟩
theorem LJ.new (h : L1 w0 0 p newL [] w) : LJ w0 0 p newL (fun _ => False) w := by
  obtain ⟨B, bh, bw, rfl, h1, h2, h3, h4, _⟩ := h
  exact ⟨B, bh, bw, rfl, h1, h2, h3, h4, ⟨Nat.le_refl _, Nat.le_refl _⟩, fun _ e => e.elim⟩
theorem LJ.lens (h : LJ w0 n p x J w) : x.hs.length ≤ n ∧ x.ws.length ≤ n := by
  obtain ⟨_, _, _, _, _, _, _, _, h5, _⟩ := h
  exact h5
theorem LJ.lt (h : LJ w0 n p x J w) {b : Nat} (hb : J b) : b < w.heap.size := by
  obtain ⟨_, _, _, _, _, _, _, _, _, h6⟩ := h
  exact (h6 b hb).2.1
theorem LJ.below (h : LJ w0 n p x J w) : Below w0.heap.size w0 w := h.l1.below
theorem LJ.fit (h : LJ w0 n p x J w) : LFit x := h.l1.fit
theorem LJ.more (h : LJ w0 n p x J w) (hm : n ≤ m) : LJ w0 m p x J w := by
  obtain ⟨B, bh, bw, rfl, h1, h2, h3, h4, h5, h6⟩ := h
  exact ⟨B, bh, bw, rfl, h1.more hm, h2, h3, h4, ⟨Nat.le_trans h5.1 hm, Nat.le_trans h5.2 hm⟩, h6⟩
/-- The law writes blocks of its own, or lays new ones. -/
theorem LJ.write {M : Nat → Prop} (h : LJ w0 n p x J w) (hc : Chg M w w') (hM : ∀ b, M b → J b) (hJ : ∀ b, J' b → J b ∨ (w.heap.size ≤ b ∧ b < w'.heap.size)) : LJ w0 n p x J' w' := by
  obtain ⟨B, bh, bw, rfl, h1, h2, h3, h4, h5, h6⟩ := h
  refine ⟨B, bh, bw, rfl, h1.chg hc (fun b hb => (h6 b (hM b hb)).2.2) h1.lt, h2, h3.trans (hc.below (fun b hb => (h6 b (hM b hb)).1) h3.size), h4, h5, fun b hb => ?_⟩
  rcases hJ b hb with e | ⟨e1, e2⟩
  · have := h6 b e
    exact ⟨this.1, Nat.lt_of_lt_of_le this.2.1 hc.size, this.2.2⟩
  · refine ⟨Nat.le_trans h3.size e1, e2, fun e => ?_⟩
    have := h1.mlt e
    omega
theorem LJ.later (h : LJ w0 n p x J w) (hb : Below w.heap.size w w') : LJ w0 n p x J w' := h.write (M := fun _ => False) (Chg.of_below hb) (fun _ e => e.elim) (fun _ e => .inl e)
theorem LJ.of_out {B bh bw : Nat} {r : Bool} {e : Ending} (hf : LFit y) (hl : y.hs.length ≤ m ∧ y.ws.length ≤ m) (h3 : Below w0.heap.size w0 w) (h4 : ∀ b, TabM B bh bw b → w0.heap.size ≤ b) (h6 : ∀ b, J b → w0.heap.size ≤ b ∧ b < w.heap.size ∧ ¬ TabM B bh bw b) (h : TabOut w B bh bw m y r e w') : e = .returned (.bool r) ∧ LJ w0 m (.pointer (some ⟨B, 0, none⟩)) y J w' ∧ KeepT J w w' := by
  obtain ⟨g1, g2, g3⟩ := h
  exact ⟨g1, ⟨B, bh, bw, rfl, g2, hf, h3.trans (g3.below h4 h3.size), h4, hl, fun b hb => ⟨(h6 b hb).1, Nat.lt_of_lt_of_le (h6 b hb).2.1 g3.size, (h6 b hb).2.2⟩⟩, fun b hb => g3.block b (h6 b hb).2.1 (h6 b hb).2.2⟩
theorem Take_lj (h : LJ w0 n p x J w) (hn : n < 100000) (v k : Int) (hv : IsI v) (hk : IsI k) :
    Calls Try.prog 26 #[p, .int .i64 v, .int .i64 k] w fun e w' => e = .returned (.bool (takeB x v k)) ∧ LJ w0 (n + 1) p (takeX x v k) J w' ∧ KeepT J w w' := by
  obtain ⟨B, bh, bw, rfl, h1, h2, h3, h4, h5, h6⟩ := h
  have hl := take_lens x v k
  exact (Take_any h1 h2 hn v k hv hk).mono fun e w' ho => LJ.of_out (h2.take v k) ⟨by omega, by omega⟩ h3 h4 h6 ho
theorem Give_lj (h : LJ w0 n p x J w) (v k : Int) (hv : IsI v) (hk : IsI k) :
    Calls Try.prog 24 #[p, .int .i64 v, .int .i64 k] w fun e w' => e = .returned (.bool (giveB x v k)) ∧ LJ w0 n p (giveX x v k) J w' ∧ KeepT J w w' := by
  obtain ⟨B, bh, bw, rfl, h1, h2, h3, h4, h5, h6⟩ := h
  have hl := give_lens x v k
  exact (Give_any h1 v k hv hk).mono fun e w' ho => LJ.of_out (h2.give v k) ⟨by omega, by omega⟩ h3 h4 h6 ho
end
/-- The law's own blocks: the lists of the document's table, and its box. -/
def TZ (Z : Nat → Prop) (D : Nat) (b : Nat) : Prop := Z b ∨ b = D
/-- The program's table p holds x, the document's value .agg Vd holds y, the box D holds Vb; F tells of blocks beside them. -/
def LS (w1 : World) (k : Nat) (p : Value) (x : LX) (D : Nat) (Vb : List Value) (Vd : Value) (y : LX) (F : World → Prop) (w : World) : Prop :=
  ∃ Z, LJ w1 k p x (TZ Z D) w ∧ RT w Z Vd y ∧ Bx w D Vb ∧ (∀ b, Z b → b ≠ D) ∧ F w ∧ Stays Z F
theorem RdP2.keep {w w' : World} {A : Option Addr} {L : List PrT} {Z : Nat → Prop} (h : RdP2 w w.heap.size A L) (hz : L.length ≠ 0 → ∀ g o, A = some ⟨g, o, none⟩ → Z g) (hk : ∀ b, Z b → b < w.heap.size → w'.heap[b]? = w.heap[b]?) : RdP2 w' w'.heap.size A L := fun j q hj => by
  obtain ⟨b, off, e1, e2, e3, e4⟩ := h j q hj
  have hn : L.length ≠ 0 := by
    have := (List.getElem?_eq_some_iff.1 hj).1
    omega
  have hs := hk b (hz hn b off e1) e2
  exact ⟨b, off, e1, lt_of_sameT hs e2, (World.cell?_of_block (w := w) (a := ⟨b, off + j * 2, none⟩) hs).trans e3, (World.cell?_of_block (w := w) (a := ⟨b, off + j * 2 + 1, none⟩) hs).trans e4⟩
theorem RT.keep {w w' : World} {Z : Nat → Prop} {V : Value} {y : LX} (h : RT w Z V y) (hk : ∀ b, Z b → b < w.heap.size → w'.heap[b]? = w.heap[b]?) : RT w' Z V y := by
  obtain ⟨A1, c1, A2, c2, e, r1, r2, t1, t2⟩ := h
  exact ⟨A1, c1, A2, c2, e, r1.keep t1 hk, r2.keep t2 hk, t1, t2⟩
theorem RT.mono {w : World} {Z Z' : Nat → Prop} {V : Value} {y : LX} (h : RT w Z V y) (hz : ∀ b, Z b → Z' b) : RT w Z' V y := by
  obtain ⟨A1, c1, A2, c2, e, r1, r2, t1, t2⟩ := h
  exact ⟨A1, c1, A2, c2, e, r1, r2, fun h0 g o e => hz g (t1 h0 g o e), fun h0 g o e => hz g (t2 h0 g o e)⟩
theorem RdP2.blk {w : World} {A : Option Addr} {L : List PrT} (h : RdP2 w w.heap.size A L) (hn : L.length ≠ 0) {g o : Nat} (e : A = some ⟨g, o, none⟩) : g < w.heap.size := by
  obtain ⟨b, off, e1, e2, _⟩ := h 0 _ (List.getElem?_eq_getElem (by omega))
  rw [e] at e1
  injection e1 with e1
  injection e1 with e1
  omega
theorem RT.within {w : World} {Z : Nat → Prop} {V : Value} {y : LX} (h : RT w Z V y) : RT w (fun b => Z b ∧ b < w.heap.size) V y := by
  obtain ⟨A1, c1, A2, c2, e, r1, r2, t1, t2⟩ := h
  exact ⟨A1, c1, A2, c2, e, r1, r2, fun h0 g o e => ⟨t1 h0 g o e, r1.blk h0 e⟩, fun h0 g o e => ⟨t2 h0 g o e, r2.blk h0 e⟩⟩
section
variable {w1 w w' : World} {k k' : Nat} {p : Value} {x x' y y' : LX} {D : Nat} {Vb : List Value} {Vd V' : Value} {Z : Nat → Prop} {F G : World → Prop}
/-- What a call of the document's leaves. -/
theorem LS.doc (h : LJ w1 k p x (TZ Z D) w) (hbx : Bx w D Vb) (hZ : ∀ b, Z b → b ≠ D) (hF : F w) (hS : Stays Z F) (hb : Below w.heap.size w w') (hr : RT w' (TN Z w) V' y') : LS w1 k p x D Vb V' y' F w' := by
  refine ⟨_, h.write (M := fun _ => False) (Chg.of_below hb) (fun _ e => e.elim) (fun b hJ => ?_), hr.within, hbx.below hb, fun b hz => ?_, hS w w' (fun b hz => hb.block b (h.lt (.inl hz))) hF, hS.mono fun _ hz => ⟨.inl hz, Nat.lt_of_lt_of_le (h.lt (.inl hz)) hb.size⟩⟩
  · rcases hJ with ⟨hz | hz, hlt⟩ | rfl
    · exact .inl (.inl hz)
    · exact .inr ⟨hz, hlt⟩
    · exact .inl (.inr rfl)
  · rcases hz.1 with hz | hz
    · exact hZ b hz
    · have := hbx.lt
      omega
/-- What a call of the program's leaves. -/
theorem LS.prog (hr : RT w Z Vd y) (hbx : Bx w D Vb) (hZ : ∀ b, Z b → b ≠ D) (hF : F w) (hS : Stays Z F) (h2 : LJ w1 k' p x' (TZ Z D) w') (hk : KeepT (TZ Z D) w w') : LS w1 k' p x' D Vb Vd y F w' :=
  ⟨Z, h2, hr.keep (fun b hz _ => hk b (.inl hz)), ⟨lt_of_sameT (hk D (.inr rfl)) hbx.lt, fun j v hj => (World.cell?_of_block (w := w) (a := ⟨D, j, none⟩) (hk D (.inr rfl))).trans (hbx.c j v hj), fun j => (World.frozen?_of_block (w := w) (a := ⟨D, j, none⟩) (hk D (.inr rfl))).trans (hbx.f j)⟩, hZ, hS w w' (fun b hz => hk b (.inl hz)) hF, hS⟩
/-- New memory is laid. -/
theorem LS.later (h : LS w1 k p x D Vb Vd y F w) (hb : Below w.heap.size w w') : LS w1 k p x D Vb Vd y F w' := by
  obtain ⟨Z, h1, h2, h3, hZ, hF, hS⟩ := h
  exact ⟨Z, h1.later hb, h2.keep (fun b _ hlt => hb.block b hlt), h3.below hb, hZ, hS w w' (fun b hz => hb.block b (h1.lt (.inl hz))) hF, hS⟩
theorem LS.more (h : LS w1 k p x D Vb Vd y F w) (hk : k ≤ k') : LS w1 k' p x D Vb Vd y F w := by
  obtain ⟨Z, h1, r⟩ := h
  exact ⟨Z, h1.more hk, r⟩
theorem LS.drop (h : LS w1 k p x D Vb Vd y F w) : LS w1 k p x D Vb Vd y (fun _ => True) w := by
  obtain ⟨Z, h1, h2, h3, hZ, hF, hS⟩ := h
  exact ⟨Z, h1, h2, h3, hZ, trivial, Stays.true Z⟩
theorem LS.fact (h : LS w1 k p x D Vb Vd y F w) : F w := by
  obtain ⟨Z, h1, h2, h3, hZ, hF, hS⟩ := h
  exact hF
theorem LS.lj (h : LS w1 k p x D Vb Vd y F w) : ∃ Z, LJ w1 k p x (TZ Z D) w := by
  obtain ⟨Z, h1, _⟩ := h
  exact ⟨Z, h1⟩
theorem LS.l1 (h : LS w1 k p x D Vb Vd y F w) : L1 w1 k p x [] w := by
  obtain ⟨Z, h1, _⟩ := h
  exact h1.l1
theorem LS.lens (h : LS w1 k p x D Vb Vd y F w) : x.hs.length ≤ k ∧ x.ws.length ≤ k := by
  obtain ⟨Z, h1, _⟩ := h
  exact h1.lens
theorem LS.bx (h : LS w1 k p x D Vb Vd y F w) : Bx w D Vb := by
  obtain ⟨Z, h1, h2, h3, _⟩ := h
  exact h3
theorem LS.has (h : LS w1 k p x D Vb Vd y F w) : ∃ Z, RT w Z Vd y := by
  obtain ⟨Z, h1, h2, _⟩ := h
  exact ⟨Z, h2⟩
/-- The document's value is written into the box. -/
theorem LS.box {v0 v1 v2 u0 u1 u2 : Value} (h : LS w1 k p x D [u0, u1, u2] (.agg #[v0, v1, v2]) y F w) : LS w1 k p x D [v0, v1, v2] (.agg #[v0, v1, v2]) y F (((w.setCell ⟨D, 0, none⟩ v0).setCell ⟨D, 1, none⟩ v1).setCell ⟨D, 2, none⟩ v2) := by
  obtain ⟨Z, h1, h2, h3, hZ, hF, hS⟩ := h
  have hc : Chg (fun b => b = D) w (((w.setCell ⟨D, 0, none⟩ v0).setCell ⟨D, 1, none⟩ v1).setCell ⟨D, 2, none⟩ v2) :=
    have c : ∀ {W : World} (o : Nat) (v : Value), Chg (fun b => b = D) w W → Chg (fun b => b = D) w (W.setCell ⟨D, o, none⟩ v) := fun o v h => h.setCell (b := D) (o := o) rfl v
    c 2 v2 (c 1 v1 (c 0 v0 Chg.refl))
  exact ⟨Z, h1.write hc (fun b e => .inr e) (fun b e => .inl e), h2.keep (fun b hz hlt => hc.block b hlt (hZ b hz)), h3.put3 v0 v1 v2, hZ, hS w _ (fun b hz => hc.block b (h1.lt (.inl hz)) (hZ b hz)) hF, hS⟩
/-- The start: the document's table is empty. -/
theorem LS.start (h1 : LJ w1 k p x (fun _ => False) w) (t : TypeId) : LS w1 k p x w.heap.size [.slice none 0 0, .slice none 0 0, .bool false] (.agg #[.slice none 0 0, .slice none 0 0, .bool false]) newL (fun _ => True) (w.alloc (.cells #[.slice none 0 0, .slice none 0 0, .bool false] t)) := by
  have hn := below_new w (.cells #[.slice none 0 0, .slice none 0 0, .bool false] t)
  refine ⟨fun _ => False, h1.write (M := fun _ => False) (Chg.of_below hn) (fun _ e => e.elim) (fun b hJ => .inr ?_), ⟨none, 0, none, 0, rfl, (fun k z h => by cases h), (fun k z h => by cases h), (fun h => absurd rfl h), (fun h => absurd rfl h)⟩, Bx.new w [.slice none 0 0, .slice none 0 0, .bool false] t, fun b hz => hz.elim, trivial, Stays.true _⟩
  rcases hJ with hz | rfl
  · exact hz.elim
  · rw [World.size_alloc]
    omega
/-- A box beside them. -/
def CellsB (E : Nat) (vs : List Value) (W : World) : Prop := Bx W E vs
theorem LS.newbox (h : LS w1 k p x D Vb Vd y (fun _ => True) w) (vs : List Value) (t : TypeId) : LS w1 k p x D Vb Vd y (CellsB w.heap.size vs) (w.alloc (.cells vs.toArray t)) := by
  obtain ⟨Z, h1, h2, h3, hZ, _, _⟩ := h
  have hn := below_new w (.cells vs.toArray t)
  have hd := h3.lt
  refine ⟨fun c => Z c ∨ c = w.heap.size, h1.write (M := fun _ => False) (Chg.of_below hn) (fun _ e => e.elim) (fun c hJ => ?_), (h2.keep (fun b _ hlt => hn.block b hlt)).mono (fun b hz => .inl hz), h3.below hn, fun c hz => ?_, Bx.new w vs t, fun W W' hk hc => ?_⟩
  · rcases hJ with (hz | rfl) | rfl
    · exact .inl (.inl hz)
    · exact .inr ⟨Nat.le_refl _, by simp⟩
    · exact .inl (.inr rfl)
  · rcases hz with hz | rfl
    · exact hZ c hz
    · omega
  · have q := hk w.heap.size (.inr rfl)
    exact ⟨lt_of_sameT q hc.lt, fun j v hj => (World.cell?_of_block (w := W) (a := ⟨w.heap.size, j, none⟩) q).trans (hc.c j v hj), fun j => (World.frozen?_of_block (w := W) (a := ⟨w.heap.size, j, none⟩) q).trans (hc.f j)⟩
/-- The document's calls, and the program's. -/
theorem Take_ls (h : LS w1 k p x D Vb Vd x F w) (hk : k ≤ 1000) (v n : Int) : Calls Try.prog 25 #[Vd, .int .i64 v, .int .i64 n] w fun r w' => ∃ V', r = .returned (.tuple #[V', .bool (takeB x v n)]) ∧ LS w1 k p x D Vb V' (takeX x v n) F w' := by
  obtain ⟨Z, h1, h2, h3, hZ, hF, hS⟩ := h
  refine (RTake_any h2 h1.fit (Nat.le_trans h1.lens.1 hk) (Nat.le_trans h1.lens.2 hk) v n).mono ?_
  rintro r w' ⟨V', rfl, hr, hb⟩
  exact ⟨V', rfl, LS.doc h1 h3 hZ hF hS hb hr⟩
theorem Give_ls (h : LS w1 k p x D Vb Vd x F w) (hk : k ≤ 1000) (v n : Int) : Calls Try.prog 23 #[Vd, .int .i64 v, .int .i64 n] w fun r w' => ∃ V', r = .returned (.tuple #[V', .bool (giveB x v n)]) ∧ LS w1 k p x D Vb V' (giveX x v n) F w' := by
  obtain ⟨Z, h1, h2, h3, hZ, hF, hS⟩ := h
  refine (RGive_any h2 (Nat.le_trans h1.lens.1 hk) (Nat.le_trans h1.lens.2 hk) v n).mono ?_
  rintro r w' ⟨V', rfl, hr, hb⟩
  exact ⟨V', rfl, LS.doc h1 h3 hZ hF hS hb hr⟩
theorem PTake_ls (h : LS w1 k p x D Vb Vd y F w) (hn : k < 100000) (v n : Int) (hv : IsI v) (hi : IsI n) : Calls Try.prog 26 #[p, .int .i64 v, .int .i64 n] w fun r w' => r = .returned (.bool (takeB x v n)) ∧ LS w1 (k + 1) p (takeX x v n) D Vb Vd y F w' := by
  obtain ⟨Z, h1, h2, h3, hZ, hF, hS⟩ := h
  refine (Take_lj h1 hn v n hv hi).mono ?_
  rintro r w' ⟨rfl, h4, h5⟩
  exact ⟨rfl, LS.prog h2 h3 hZ hF hS h4 h5⟩
theorem PGive_ls (h : LS w1 k p x D Vb Vd y F w) (v n : Int) (hv : IsI v) (hi : IsI n) : Calls Try.prog 24 #[p, .int .i64 v, .int .i64 n] w fun r w' => r = .returned (.bool (giveB x v n)) ∧ LS w1 k p (giveX x v n) D Vb Vd y F w' := by
  obtain ⟨Z, h1, h2, h3, hZ, hF, hS⟩ := h
  refine (Give_lj h1 v n hv hi).mono ?_
  rintro r w' ⟨rfl, h4, h5⟩
  exact ⟨rfl, LS.prog h2 h3 hZ hF hS h4 h5⟩
theorem LS.form (h : LS w1 k p x D Vb Vd y F w) : ∃ A1 n1 c1 A2 n2 c2 b, Vd = .agg #[.slice A1 n1 c1, .slice A2 n2 c2, .bool b] ∧ b = !y.up := by
  obtain ⟨Z, h1, ⟨A1, c1, A2, c2, rfl, _⟩, _⟩ := h
  exact ⟨_, _, _, _, _, _, _, rfl, rfl⟩
theorem LS.holder (h : LS w1 k p x D Vb Vd x F w) (hk : k ≤ 1000) (n : Int) : Calls Try.prog 28 #[Vd, .int .i64 n] w fun e w' => e = .returned (.tuple #[.int .i64 (gotI (hold x.hs n)), .bool (gotB (hold x.hs n))]) ∧ Below w.heap.size w w' := by
  obtain ⟨Z, h1, ⟨A1, c1, A2, c2, rfl, r1, _⟩, _⟩ := h
  exact RHolder_any r1 rfl (by have := h1.lens; omega) n
theorem LS.waits (h : LS w1 k p x D Vb Vd x F w) (hk : k ≤ 1000) (n : Int) : Calls Try.prog 30 #[Vd, .int .i64 n] w fun e w' => e = .returned (.tuple #[.int .i64 (gotI (waitOf x.ws n)), .bool (gotB (waitOf x.ws n))]) ∧ Below w.heap.size w w' := by
  obtain ⟨Z, h1, ⟨A1, c1, A2, c2, rfl, _, r2, _⟩, _⟩ := h
  exact RWaits_any r2 rfl (by have := h1.lens; omega) n
theorem LS.ring (h : LS w1 k p x D Vb Vd x F w) (hk : k ≤ 1000) : Calls Try.prog 33 #[Vd] w (IntsNew (ringP x) w) := by
  obtain ⟨Z, h1, ⟨A1, c1, A2, c2, rfl, r1, r2, _⟩, _⟩ := h
  exact RRing_any h1.fit r1 r2 rfl rfl (by have := h1.lens; omega) (by have := h1.lens; omega)
theorem LS.heldR (h : LS w1 k p x D Vb Vd x F w) (hk : k ≤ 1000) (v : Int) : Calls Try.prog 35 #[Vd, .int .i64 v] w (IntsNew (heldL x.hs v) w) := by
  obtain ⟨Z, h1, ⟨A1, c1, A2, c2, rfl, r1, _⟩, _⟩ := h
  exact RHeld_any r1 rfl (by have := h1.lens; omega) v
end
end Go.Proofs.Ytdgmcaehadigaaa
