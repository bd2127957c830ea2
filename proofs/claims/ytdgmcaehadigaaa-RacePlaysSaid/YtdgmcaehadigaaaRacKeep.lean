/- A watch beside rows that a law itself writes. -/
import Derived.Test.YtdgmcaehadigaaaRacTwo
namespace Go.Proofs.Ytdgmcaehadigaaa
open Go.RowKit

/-- A watch that lies where B says, in memory laid since w0; the blocks of J are the law's own. -/
def W3 (w0 : World) (n B : Nat) (a : AX) (J : Nat → Prop) (w : World) : Prop :=
  ∃ Z ρ X, Rac w Z n ρ X ∧ X.B = B ∧ X.a = a ∧ Below w0.heap.size w0 w ∧ (∀ b, Owned ρ b → w0.heap.size ≤ b) ∧ ∀ b, J b → Z b ∧ ¬ Owned ρ b ∧ w0.heap.size ≤ b
section
variable {w0 w w' : World} {n m B : Nat} {a a' : AX} {J J' : Nat → Prop}
theorem W3.below (h : W3 w0 n B a J w) : Below w0.heap.size w0 w := let ⟨_, _, _, _, _, _, h3, _⟩ := h; h3
theorem W3.lt (h : W3 w0 n B a J w) {b : Nat} (hb : J b) : b < w.heap.size := let ⟨_, _, _, hR, _, _, _, _, h5⟩ := h; hR.zlt b (h5 b hb).1
theorem W3.later (h : W3 w0 n B a J w) (hb : Below w.heap.size w w') : W3 w0 n B a J w' := by
  obtain ⟨Z, ρ, X, hR, h1, h2, h3, h4, h5⟩ := h
  exact ⟨Z, ρ, X, hR.later hb, h1, h2, Below.next h3 hb, h4, h5⟩
theorem W3.more (h : W3 w0 n B a J w) (hm : n ≤ m) : W3 w0 m B a J w := by
  obtain ⟨Z, ρ, X, hR, r⟩ := h
  exact ⟨Z, ρ, X, hR.more hm, r⟩
theorem W3.less (h : W3 w0 n B a J w) (hs : ∀ b, J' b → J b) : W3 w0 n B a J' w := by
  obtain ⟨Z, ρ, X, hR, h1, h2, h3, h4, h5⟩ := h
  exact ⟨Z, ρ, X, hR, h1, h2, h3, h4, fun b hb => h5 b (hs b hb)⟩
/-- New blocks become the law's own. -/
theorem W3.add (h : W3 w0 n B a J w) (hb : Below w.heap.size w w') (hs : ∀ b, J' b → J b ∨ (w.heap.size ≤ b ∧ b < w'.heap.size)) : W3 w0 n B a J' w' := by
  obtain ⟨Z, ρ, X, hR, h1, h2, h3, h4, h5⟩ := h
  have hsz := h3.size
  refine ⟨fun b => Z b ∨ J' b, ρ, X, hR.chg (M := fun _ => False) (Chg.of_below hb) (fun _ e => e.elim) (fun _ e => e.elim) (fun b e => .inl (hR.own b e).2) (fun b e => ?_) (fun b e => ?_), h1, h2, Below.next h3 hb, h4, fun b hb' => ⟨.inr hb', fun e => ?_, ?_⟩⟩
  · rcases e with e | e
    · exact .inl e
    · exact (hs b e).imp (fun e => (h5 b e).1) (fun e => e.1)
  · rcases e with e | e
    · exact Nat.lt_of_lt_of_le (hR.zlt b e) hb.size
    · rcases hs b e with e | e
      · exact Nat.lt_of_lt_of_le (hR.zlt b (h5 b e).1) hb.size
      · exact e.2
  · rcases hs b hb' with e2 | e2
    · exact (h5 b e2).2.1 e
    · have := (hR.own b e).1
      omega
  · rcases hs b hb' with e2 | e2
    · exact (h5 b e2).2.2
    · omega
/-- The law writes into a block of its own. -/
theorem W3.set (h : W3 w0 n B a J w) {b o : Nat} (hb : J b) (v : Value) : W3 w0 n B a J (w.setCell ⟨b, o, none⟩ v) := by
  obtain ⟨Z, ρ, X, hR, h1, h2, h3, h4, h5⟩ := h
  obtain ⟨q1, q2, q3⟩ := h5 b hb
  refine ⟨Z, ρ, X, hR.chg (M := fun c => c = b) (Chg.setCell (M := fun c => c = b) Chg.refl rfl v) (fun c e => by rw [e]; exact q2) (fun c e => .inl (by rw [e]; exact q1)) (fun c e => (hR.own c e).2) (fun c e => .inl e) (fun c e => by rw [World.size_setCell]; exact hR.zlt c e), h1, h2, h3.setCell (p := ⟨b, o, none⟩) q3 v, h4, h5⟩
theorem W3.of_out {Z : Nat → Prop} {ρ : Nat → Int × Int} {X : RX} (hR : Rac w Z n ρ X) (h3 : Below w0.heap.size w0 w) (h4 : ∀ b, Owned ρ b → w0.heap.size ≤ b) (h5 : ∀ b, J b → Z b ∧ ¬ Owned ρ b ∧ w0.heap.size ≤ b) (h : RacOut w Z m ρ X a' w') : W3 w0 m X.B a' J w' ∧ ∀ b, J b → w'.heap[b]? = w.heap[b]? := by
  obtain ⟨ρ', X', h', ha, hB, hc, ho, _⟩ := h
  refine ⟨⟨_, ρ', X', h', hB, ha, h3.trans (hc.below h4 h3.size), fun b hb => (ho b hb).elim (h4 b) (fun h => Nat.le_trans h3.size h), fun b hb => ?_⟩, fun b hb => ?_⟩
  · obtain ⟨q1, q2, q3⟩ := h5 b hb
    refine ⟨.inl q1, fun e => ?_, q3⟩
    rcases ho b e with e | e
    · exact q2 e
    · have := hR.zlt b q1
      omega
  · obtain ⟨q1, q2, _⟩ := h5 b hb
    exact hc.block b (hR.zlt b q1) q2
/-- Blocks of the law's own stay as they are. -/
def Keep (J : Nat → Prop) (w w' : World) : Prop := ∀ b, J b → w'.heap[b]? = w.heap[b]?
theorem Load_w3 (h : W3 w0 n B a J w) (k : Nat) (hk : k < 65) (p : Int) (hp : IsI p) :
    Calls Try.prog 69 #[.pointer (some ⟨B, 0, none⟩), .int .i64 (k : Int), .int .i64 p] w fun e w' => e = .returned (.tuple #[]) ∧ W3 w0 (n + 1) B (loadA a k p) J w' ∧ Keep J w w' := by
  obtain ⟨Z, ρ, X, hR, rfl, rfl, h3, h4, h5⟩ := h
  exact (Load_any hR k hk p hp).mono fun e w' ⟨he, ho⟩ => ⟨he, W3.of_out hR h3 h4 h5 ho⟩
theorem Store_w3 (h : W3 w0 n B a J w) (hn : n < 100000) (k : Nat) (hk : k < 65) (p : Int) (hp : IsI p) :
    Calls Try.prog 68 #[.pointer (some ⟨B, 0, none⟩), .int .i64 (k : Int), .int .i64 p] w fun e w' => e = .returned (.tuple #[]) ∧ W3 w0 (n + 1) B (storeA a k p) J w' ∧ Keep J w w' := by
  obtain ⟨Z, ρ, X, hR, rfl, rfl, h3, h4, h5⟩ := h
  exact (Store_any hR hn k hk p hp).mono fun e w' ⟨he, ho⟩ => ⟨he, W3.of_out hR h3 h4 h5 ho⟩
theorem Swap_w3 (h : W3 w0 n B a J w) (hn : n < 99000) (k : Nat) (hk : k < 65) (p : Int) (hp : IsI p) :
    Calls Try.prog 82 #[.pointer (some ⟨B, 0, none⟩), .int .i64 (k : Int), .int .i64 p] w fun e w' => e = .returned (.tuple #[]) ∧ W3 w0 (n + 1 + 1) B (swapA a k p) J w' ∧ Keep J w w' := by
  obtain ⟨Z, ρ, X, hR, rfl, rfl, h3, h4, h5⟩ := h
  exact (Swap_any hR (by omega) k hk p hp).mono fun e w' ⟨he, ho⟩ => ⟨he, W3.of_out hR h3 h4 h5 ho⟩
theorem Read_w3 (h : W3 w0 n B a J w) (hn : n < 99000) (k : Nat) (hk : k < 65) (d : Int) (hd : IsI d) :
    Calls Try.prog 67 #[.pointer (some ⟨B, 0, none⟩), .int .i64 (k : Int), .int .i64 d] w fun e w' => e = .returned (.bool (!hidW a k d)) ∧ W3 w0 (n + 3) B (readA a k d) J w' ∧ Keep J w w' := by
  obtain ⟨Z, ρ, X, hR, rfl, rfl, h3, h4, h5⟩ := h
  exact (Read_any hR hn k hk d hd).mono fun e w' ⟨he, ho⟩ => ⟨he, W3.of_out hR h3 h4 h5 ho⟩
theorem Write_w3 (h : W3 w0 n B a J w) (hn : n < 99000) (k : Nat) (hk : k < 65) (d : Int) (hd : IsI d) :
    Calls Try.prog 66 #[.pointer (some ⟨B, 0, none⟩), .int .i64 (k : Int), .int .i64 d] w fun e w' => e = .returned (.bool (clashW a k d).isNone) ∧ W3 w0 (n + 3) B (writeA a k d) J w' ∧ Keep J w w' := by
  obtain ⟨Z, ρ, X, hR, rfl, rfl, h3, h4, h5⟩ := h
  exact (Write_any hR hn k hk d hd).mono fun e w' ⟨he, ho⟩ => ⟨he, W3.of_out hR h3 h4 h5 ho⟩
theorem Clash_w3 (h : W3 w0 n B a J w) (hn : n ≤ 100000) {m : Nat} (hm : a.cl.length = m) :
    Calls Try.prog 20 #[.pointer (some ⟨B, 0, none⟩)] w fun e w' => ∃ A c, e = .returned (.slice A m c) ∧ Below w.heap.size w w' := by
  subst hm
  obtain ⟨Z, ρ, X, hR, rfl, rfl, _⟩ := h
  exact (Clashes_any hR hn).mono fun e w' ⟨A, c, he, _, hb⟩ => ⟨A, c, he, hb⟩
theorem Keep.of_below {J : Nat → Prop} (h : ∀ b, J b → b < w.heap.size) (hb : Below w.heap.size w w') : Keep J w w' := fun b e => hb.block b (h b e)
theorem Keep.trans {w'' : World} (h : Keep J w w') (k : Keep J w' w'') : Keep J w w'' := fun b e => (k b e).trans (h b e)

end

end Go.Proofs.Ytdgmcaehadigaaa
