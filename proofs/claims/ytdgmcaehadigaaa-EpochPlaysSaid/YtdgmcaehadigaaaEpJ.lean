/- An epoch clock beside blocks that a law itself writes. -/
import Derived.Test.YtdgmcaehadigaaaEpL1
namespace Go.Proofs.Ytdgmcaehadigaaa
open Go.RowKit

/-- A clock that p leads to, in memory laid since w0; the law's own blocks J beside it. -/
def EJ (w0 : World) (n : Nat) (p : Value) (x : EX) (J : Nat → Prop) (w : World) : Prop :=
  ∃ B bw bm lv, p = .pointer (some ⟨B, 0, none⟩) ∧ Ep w B bw bm n lv x ∧ EFit n x ∧ (∀ q ∈ x.lb, IsI q.1) ∧ Below w0.heap.size w0 w ∧ (∀ b, EpM B bw bm lv b → w0.heap.size ≤ b) ∧ ∀ b, J b → w0.heap.size ≤ b ∧ b < w.heap.size ∧ ¬ EpM B bw bm lv b
/-- The law's own blocks are what they were. -/
def KeepJ (J : Nat → Prop) (w w' : World) : Prop := ∀ b, J b → w'.heap[b]? = w.heap[b]?
theorem KeepJ.row {J : Nat → Prop} {w w' : World} (h : KeepJ J w w') {base : Nat} {e : TypeId} {size n : Nat} {v : Value} {xs : List Value} (hr : w.ownsRow base e size v n xs) (hv : ∀ g, v.ownBlock = some g → J g) : w'.ownsRow base e size v n xs := ownsRow_same hr fun g hg => h g (hv g hg)
section
variable {w0 w w' : World} {n m : Nat} {p : Value} {x y : EX} {J J' : Nat → Prop}
theorem EJ.of_e1 {rs : List ToldT} (h : E1 w0 n p x rs w) : EJ w0 n p x (fun _ => False) w := by
  obtain ⟨B, bw, bm, lv, rfl, h1, h2, hI, h3, h4, _⟩ := h
  exact ⟨B, bw, bm, lv, rfl, h1, h2, hI, h3, h4, fun b e => e.elim⟩
theorem EJ.e1 (h : EJ w0 n p x J w) : E1 w0 n p x [] w := by
  obtain ⟨B, bw, bm, lv, rfl, h1, h2, hI, h3, h4, _⟩ := h
  exact ⟨B, bw, bm, lv, rfl, h1, h2, hI, h3, h4, fun r hr => by cases hr⟩
theorem EJ.below (h : EJ w0 n p x J w) : Below w0.heap.size w0 w := h.e1.below
theorem EJ.fit (h : EJ w0 n p x J w) : EFit n x := h.e1.fit
theorem EJ.more (h : EJ w0 n p x J w) (hm : n ≤ m) : EJ w0 m p x J w := by
  obtain ⟨B, bw, bm, lv, rfl, h1, h2, r⟩ := h
  exact ⟨B, bw, bm, lv, rfl, h1.more hm, h2.more hm, r⟩
theorem EJ.sub (h : EJ w0 n p x J w) (hs : ∀ b, J' b → J b) : EJ w0 n p x J' w := by
  obtain ⟨B, bw, bm, lv, rfl, h1, h2, hI, h3, h4, h5⟩ := h
  exact ⟨B, bw, bm, lv, rfl, h1, h2, hI, h3, h4, fun b hb => h5 b (hs b hb)⟩
/-- The law writes blocks of its own, or lays new ones. -/
theorem EJ.write {M : Nat → Prop} (h : EJ w0 n p x J w) (hc : Chg M w w') (hM : ∀ b, M b → J b) (hJ : ∀ b, J' b → J b ∨ (w.heap.size ≤ b ∧ b < w'.heap.size)) : EJ w0 n p x J' w' := by
  obtain ⟨B, bw, bm, lv, rfl, h1, h2, hI, h3, h4, h5⟩ := h
  refine ⟨B, bw, bm, lv, rfl, h1.chg h2.pos hc (fun b hb => (h5 b (hM b hb)).2.2), h2, hI, h3.trans (hc.below (fun b hb => (h5 b (hM b hb)).1) h3.size), h4, fun b hb => ?_⟩
  rcases hJ b hb with e | ⟨e1, e2⟩
  · have := h5 b e
    exact ⟨this.1, Nat.lt_of_lt_of_le this.2.1 hc.size, this.2.2⟩
  · refine ⟨Nat.le_trans h3.size e1, e2, fun e => ?_⟩
    have := h1.mlt h2.pos e
    omega
theorem EJ.later (h : EJ w0 n p x J w) (hb : Below w.heap.size w w') : EJ w0 n p x J w' := h.write (M := fun _ => False) (Chg.of_below hb) (fun _ e => e.elim) (fun _ e => .inl e)
theorem EJ.of_out {B bw bm : Nat} {lv : Value} {r : Value} {e : Ending} (hf : EFit m y) (hI : ∀ q ∈ y.lb, IsI q.1) (h3 : Below w0.heap.size w0 w) (h4 : ∀ b, EpM B bw bm lv b → w0.heap.size ≤ b) (h5 : ∀ b, J b → w0.heap.size ≤ b ∧ b < w.heap.size ∧ ¬ EpM B bw bm lv b) (h : EpOut w B bw bm m lv y r e w') : e = .returned r ∧ EJ w0 m (.pointer (some ⟨B, 0, none⟩)) y J w' ∧ KeepJ J w w' := by
  obtain ⟨he, B', bw', bm', lv2, e1, k1, k2, kI, k3, k4, _⟩ := E1.of_out (rs := []) hf hI h3 h4 (fun r hr => by cases hr) h
  obtain ⟨h6, lv', h7, h8, h9⟩ := h
  refine ⟨h6, ⟨B, bw, bm, lv', rfl, h7, hf, hI, k3, fun b hb => ?_, fun b hb => ?_⟩, fun b hb => h8.block b (h5 b hb).2.1 (h5 b hb).2.2⟩
  · rcases hb with e | e | e | e
    · exact h4 b (.inl e)
    · exact h4 b (.inr (.inl e))
    · exact h4 b (.inr (.inr (.inl e)))
    · rcases h9 b e with e2 | e2
      · exact h4 b (.inr (.inr (.inr e2)))
      · have := h3.size; omega
  · have h6 := h5 b hb
    refine ⟨h6.1, Nat.lt_of_lt_of_le h6.2.1 h8.size, fun e => ?_⟩
    rcases e with e | e | e | e
    · exact h6.2.2 (.inl e)
    · exact h6.2.2 (.inr (.inl e))
    · exact h6.2.2 (.inr (.inr (.inl e)))
    · rcases h9 b e with e2 | e2
      · exact h6.2.2 (.inr (.inr (.inr e2)))
      · have := h6.2.1; omega
theorem ELoad_ej (h : EJ w0 n p x J w) (v : Int) :
    Calls Try.prog 40 #[p, .int .i64 v] w fun e w' => e = .returned (.int .i64 (loadV x v : Nat)) ∧ EJ w0 n p (loadX x v) J w' ∧ KeepJ J w w' := by
  obtain ⟨B, bw, bm, lv, rfl, h1, h2, hI, h3, h4, h5⟩ := h
  refine (ELoad_any h1 h2 v).mono fun e w' ho => EJ.of_out ?_ ?_ h3 h4 h5 ho
  · unfold loadX; split
    · exact h2.load _
    · exact h2
  · unfold loadX; split <;> exact hI
theorem Pin_ej (h : EJ w0 n p x J w) (hn : n < 100000) (v : Int) :
    Calls Try.prog 42 #[p, .int .i64 v] w fun e w' => e = .returned (.bool (pinB x v)) ∧ EJ w0 n p (pinX x v) J w' ∧ KeepJ J w w' := by
  obtain ⟨B, bw, bm, lv, rfl, h1, h2, hI, h3, h4, h5⟩ := h
  refine (Pin_any h1 h2 hn v).mono fun e w' ho => EJ.of_out ?_ ?_ h3 h4 h5 ho
  · unfold pinX; split
    · exact h2.pin _
    · exact h2
  · unfold pinX; split <;> exact hI
theorem Unpin_ej (h : EJ w0 n p x J w) (v : Int) :
    Calls Try.prog 44 #[p, .int .i64 v] w fun e w' => e = .returned (.bool (unpinB x v)) ∧ EJ w0 n p (unpinX x v) J w' ∧ KeepJ J w w' := by
  obtain ⟨B, bw, bm, lv, rfl, h1, h2, hI, h3, h4, h5⟩ := h
  refine (Unpin_any h1 h2 v).mono fun e w' ho => EJ.of_out ?_ ?_ h3 h4 h5 ho
  · unfold unpinX; split
    · exact h2.unpin _
    · exact h2
  · unfold unpinX; split <;> exact hI
theorem Retire_ej (h : EJ w0 n p x J w) (hn : n < 100000) (s : Int) (hs : IsI s) :
    Calls Try.prog 46 #[p, .int .i64 s] w fun e w' => e = .returned (.bool (!isRet x s)) ∧ EJ w0 (n + 1) p (retX x s) J w' ∧ KeepJ J w w' := by
  obtain ⟨B, bw, bm, lv, rfl, h1, h2, hI, h3, h4, h5⟩ := h
  refine (Retire_any h1 h2 hn s hs).mono fun e w' ho => EJ.of_out ?_ ?_ h3 h4 h5 ho
  · unfold retX
    cases hr : isRet x s with
    | true => exact h2.more (Nat.le_succ n)
    | false => exact h2.ret hr
  · unfold retX; split
    · exact hI
    · intro q hq
      rcases List.mem_append.1 hq with hq | hq
      · exact hI q hq
      · rw [List.mem_singleton.1 hq]; exact hs
theorem Look_ej (h : EJ w0 n p x J w) (hn : n < 100000) :
    Calls Try.prog 48 #[p] w fun e w' => e = .returned (.bool (lookB x)) ∧ EJ w0 (n + 1) p (lookE x) J w' ∧ KeepJ J w w' := by
  obtain ⟨B, bw, bm, lv, rfl, h1, h2, hI, h3, h4, h5⟩ := h
  refine (Look_any h1 h2 hn).mono fun e w' ho => ?_
  obtain ⟨g1, lv', g2, g3, g4⟩ := ho
  refine EJ.of_out h2.look ?_ h3 h4 h5 ⟨g1, lv', g2.more (Nat.le_succ n), g3, g4⟩
  unfold lookE; split
  · exact hI
  · split <;> exact hI
theorem Free_ej (h : EJ w0 n p x J w) (hn : n < 100000) {L : List Int} {l : Nat} (hL : (freeL1 x).map (·.1) = L) (hl : L.length = l) : Calls Try.prog 50 #[p] w fun e w' => ∃ A c, e = .returned (.slice A l c) ∧ Rd (Value.int .i64) w' w'.heap.size A L ∧ EJ w0 n p (freeE x) J w' ∧ KeepJ J w w' := by
  subst hl hL
  obtain ⟨B, bw, bm, lv, rfl, h1, h2, hI, h3, h4, h5⟩ := h
  refine (Free_any h1 h2 hn hI).mono fun e w' ho => ?_
  obtain ⟨A, c, he, hr, lv', g2, g3, g4⟩ := ho
  obtain ⟨_, g6, g7⟩ := EJ.of_out (w' := w') (J := J) (r := .slice A 0 c) (e := .returned (.slice A 0 c)) h2.free (fun q hq => hI q ((drop_sub _ _).subset hq)) h3 h4 h5 ⟨rfl, lv', g2, g3, fun g hg => .inl (g4 g hg)⟩
  exact ⟨A, c, he, fun k z hk => by
    obtain ⟨b, off, e1, _, e3, e4⟩ := hr k z hk
    exact ⟨b, off, e1, e3, e4⟩, g6, g7⟩
theorem Limbo_ej (h : EJ w0 n p x J w) (hn : n < 100000) {l : Nat} (hl : x.lb.length = l) : Calls Try.prog 55 #[p] w fun e w' => ∃ A c, e = .returned (.slice A l c) ∧ RdR w' w'.heap.size A x.lb ∧ Below w.heap.size w w' := Limbo_e1 h.e1 hn hl
end

end Go.Proofs.Ytdgmcaehadigaaa
