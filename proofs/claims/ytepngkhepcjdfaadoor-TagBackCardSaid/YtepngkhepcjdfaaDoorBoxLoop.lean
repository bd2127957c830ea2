/- A loop over an iterator that keeps its state in variables it has captured (boxes at b, b+1, b+2; it writes the one at b): a contract for the iterator, and the law of the loop over it. One element a round; a round goes on, or returns. -/
import Derived.Test.YtepngkhepcjdfaaDoorMem
import Derived.RangeFuncBox
import Derived.RangeFuncBound
import Derived.RangeFuncCalls
namespace Go.Proofs.YtepngkhepcjdfaaDoor
open Go.RowKit

/-- The iterator's three boxes lie as they lay. -/
def KpS (b : Nat) (W W' : World) : Prop := ∀ k, b ≤ k → k < b + 3 → W'.heap[k]? = W.heap[k]?
theorem KpS.refl (b : Nat) (W : World) : KpS b W W := fun _ _ _ => rfl
theorem KpS.trans {b : Nat} {A B C : World} (h : KpS b A B) (k : KpS b B C) : KpS b A C := fun j h1 h2 => (k j h1 h2).trans (h j h1 h2)
theorem KpS.putObj {b l : Nat} (W : World) (o : Obj) (h : b + 3 ≤ l) : KpS b W (W.putObj l o) := fun j _ h2 => World.putObj_heap_other (by omega)

/-- What the iterator may do between two rounds: a draw, a store into its box at b. -/
def AbidesBox {β : Type} (b : Nat) (J : β → World → Prop) : Prop := ∀ s W, J s W → J s W.drew ∧ ∀ v, J s (W.setCell ⟨b, 0, none⟩ v)

/-- The iterator's contract, at later worlds in which its boxes lie as they lay. -/
def SeqBox {α : Type} (m : Nat) (P : Program) (gf : Nat) (lb : Array Value) (enc : α → Value) (b : Nat) (S Sp : List α → Prop) (w : World) : Prop :=
  ∀ (l : Nat) (J Jx : List α → World → Prop) (W : World), KpS b w W → AbidesBox b J → AbidesBox b Jx →
    (∀ pre x W1, J pre W1 → YieldAt Fence.wide (m - 1) P l #[enc x] W1 fun e W' =>
      (e = .returned (.bool true) ∧ J (pre ++ [x]) W' ∧ KpS b W1 W') ∨ (e = .returned (.bool false) ∧ Jx (pre ++ [x]) W')) →
    J [] W →
    CallsIn Fence.wide m P gf (#[.func (.yield l) #[] #[]] ++ lb) W fun e W' => (∃ v, e = .returned v) ∧ ((∃ xs, S xs ∧ J xs W') ∨ (∃ pre, Sp pre ∧ Jx pre W'))

/-- The loop's record and the block for deferred calls. -/
def RecAt (W : World) (l D : Nat) (r : Loop) : Prop := W.heap[l]? = some (.loop r) ∧ W.heap[D]? = some (.deferred (some []))
theorem RecAt.keep {W W' : World} {l D : Nat} {r : Loop} (h : RecAt W l D r) (k : KeepsOthers W W') : RecAt W' l D r := ⟨k.same _ _ h.1 rfl, k.same _ _ h.2 rfl⟩
theorem RecAt.put {W : World} {l D : Nat} {r : Loop} (h : RecAt W l D r) (hne : D ≠ l) (r' : Loop) : RecAt (W.putObj l (.loop r')) l D r' :=
  ⟨World.putObj_heap_same (Array.getElem?_eq_some_iff.1 h.1).1, (World.putObj_heap_other hne).trans h.2⟩
theorem RecAt.box {W : World} {l D : Nat} {r : Loop} (h : RecAt W l D r) (b : Nat) : RecAt W.drew l D r ∧ ∀ v, RecAt (W.setCell ⟨b, 0, none⟩ v) l D r :=
  ⟨h.keep (KeepsOthers.drew W), fun v => h.keep (KeepsOthers.setCell W _ v)⟩

/-- How the body of a round may be left. -/
def SPost (b : Nat) (I Ix : World → Prop) (W : World) : Exit → Act → World → Prop
  | .normal, _, W' => KeepsOthers W W' ∧ KpS b W W' ∧ I W'
  | .ret, _, W' => KeepsOthers W W' ∧ Ix W'
  | _, _, _ => False

/-- What the caller says between two rounds speaks of cells alone. -/
def Puts {β : Type} (w : World) (I : β → World → Prop) : Prop := ∀ s W l o o', w.heap.size ≤ l → W.heap[l]? = some o → o.isCells = false → I s W → I s (W.putObj l o')

theorem range_box {P : Program} {α : Type} {g : Operand} {ps : Array Tmp} {assign body : Code} {Q : Exit → Act → World → Prop} {a : Act} {w : World} {n gf : Nat} {lb : Array Value}
    (hg : a.eval g = .func (.func gf) #[] lb) (eg : ∀ args w, (callFunc gf args).run P w = .ok (.enter gf args) w)
    (enc : α → Value) (b : Nat) {S Sp : List α → Prop} (hseq : SeqBox (n - 1) P gf lb enc b S Sp w) (hb : b + 3 ≤ w.heap.size) (hps : ps.size = 1)
    (I Ix : List α → World → Prop) (hI : AbidesBox b I) (hIx : AbidesBox b Ix) (pI : Puts w I) (pIx : Puts w Ix)
    (h0 : ∀ o o', I [] ((w.alloc o).alloc o')) (a₁ : α → Act)
    (hassign : ∀ (l : Nat) (x : α) (W : World) (K : Act → World → Prop), K (a₁ x) W →
      assign.wpIn (Fence.wide.inRound l) (n - 1 - 1) P (Exit.then K (fun _ _ _ => False)) { tmps := (ps.zip #[enc x]).foldl (fun t (p, v) => t.setIfInBounds p v) a.tmps, defers := [] } W)
    (hbody : ∀ (l : Nat) (pre : List α) (x : α) (W : World), I pre W → body.wpIn (Fence.wide.inRound l) (n - 1 - 1) P (SPost b (I (pre ++ [x])) (Ix (pre ++ [x])) W) (a₁ x) W)
    (hdone : ∀ (D : Nat) (xs : List α) (W : World), w.heap.size ≤ D → S xs → I xs W → W.heap[D]? = some (.deferred (some [])) → Q .normal { a with defers := { target := .collected D, args := #[] } :: a.defers } W)
    (hstop : ∀ (D : Nat) (pre : List α) (W : World), w.heap.size ≤ D → Sp pre → Ix pre W → W.heap[D]? = some (.deferred (some [])) → Code.ret.wpIn Fence.wide n P Q { a with defers := { target := .collected D, args := #[] } :: a.defers } W) :
    (Code.rangeFunc g ps assign body).wpIn Fence.wide n P Q a w := by
  refine wpIn_rangeFunc fun fn hfn => ?_
  obtain ⟨r0, hr0⟩ : ∃ r0 : Loop, r0 = { state := .ready, pending := none, fn, tmps := a.tmps, params := ps, assign, body, defers := w.heap.size } := ⟨_, rfl⟩
  obtain ⟨W1, hW1⟩ : ∃ W1, W1 = (w.alloc (.deferred (some []))).alloc (.loop r0) := ⟨_, rfl⟩
  have hs : (w.alloc (.deferred (some []))).heap.size = w.heap.size + 1 := World.size_alloc _ _
  have hR1 : RecAt W1 (w.heap.size + 1) w.heap.size r0 := by
    subst hW1
    refine ⟨?_, (Below.heap_alloc _ _ _ (by omega)).trans (World.alloc_heap_new w _)⟩
    have := World.alloc_heap_new (w.alloc (.deferred (some []))) (.loop r0)
    rwa [hs] at this
  have hk1 : KpS b w W1 := fun k _ h2 => by
    subst hW1
    exact (Below.heap_alloc _ _ _ (by omega)).trans (Below.heap_alloc _ _ _ (by omega))
  have hi1 : I [] W1 := by subst hW1; exact h0 _ _
  refine ⟨w.heap.size + 1, [{ target := .collected w.heap.size, args := #[] }], W1, { target := .fn (.func gf) lb, args := #[.func (.yield (w.heap.size + 1)) #[] #[]] }, W1, gf,
    #[.func (.yield (w.heap.size + 1)) #[] #[]] ++ lb, W1, ?_, ?_, fun _ _ => trivial, ?_, fun h => (by cases h), ?_⟩
  · rw [hW1, hr0]; exact run_enterLoop_outer _ _ _ _ _
  · simp only [resolve, hg]
    simp [go_sem]
  · simp [invoke, go_sem, eg]
  · refine (hseq (w.heap.size + 1) (fun pre W => I pre W ∧ RecAt W (w.heap.size + 1) w.heap.size r0)
      (fun pre W => Ix pre W ∧ RecAt W (w.heap.size + 1) w.heap.size { r0 with state := .done, pending := some .ret }) W1 hk1
      (fun s W h => ⟨⟨(hI s W h.1).1, (h.2.box b).1⟩, fun v => ⟨(hI s W h.1).2 v, (h.2.box b).2 v⟩⟩)
      (fun s W h => ⟨⟨(hIx s W h.1).1, (h.2.box b).1⟩, fun v => ⟨(hIx s W h.1).2 v, (h.2.box b).2 v⟩⟩) ?_ ⟨hi1, hR1⟩).mono ?_
    · rintro pre x W ⟨hi, hR⟩
      have hy := run_yield (P := P) (args := #[enc x]) hR.1 (by rw [hr0]; simp [hps])
      rw [hr0] at hy
      refine ⟨fn, _, assign, body, hy, roundIn_of_wpIn hfn (hassign _ x W _ ⟨_, run_beginRound hR.1 (by rw [hr0]), ?_⟩)⟩
      have hi2 := pI pre W _ _ (.loop { r0 with state := .busy }) (by omega) hR.1 rfl hi
      have hR2 := hR.put (by omega) { r0 with state := .busy }
      have hK2 : KpS b W (W.putObj (w.heap.size + 1) (.loop { r0 with state := .busy })) := KpS.putObj W _ (by omega)
      refine wpIn_mono (hbody _ pre x _ hi2) ?_
      rintro e a3 W3 hp
      cases e with
      | normal =>
        obtain ⟨hk3, hp3, hi3⟩ := hp
        have hR3 := hR2.keep hk3
        have hR4 := hR3.put (by omega) r0
        refine ⟨_, _, run_endRound none hR3.1, .inl ⟨rfl, ⟨?_, ?_⟩, ?_⟩⟩
        · exact pI _ W3 _ _ _ (by omega) hR3.1 rfl hi3
        · rw [hr0] at hR4 ⊢; exact hR4
        · exact (hK2.trans hp3).trans (KpS.putObj W3 _ (by omega))
      | ret =>
        obtain ⟨hk3, hi3⟩ := hp
        have hR3 := hR2.keep hk3
        have hR4 := hR3.put (by omega) { r0 with state := .done, pending := some .ret }
        exact ⟨_, _, run_endRound (some .ret) hR3.1, .inr ⟨rfl, pIx _ W3 _ _ _ (by omega) hR3.1 rfl hi3, hR4⟩⟩
      | exit id => exact hp.elim
      | goto t => exact hp.elim
      | panic ch => exact hp.elim
      | outgrown => exact hp.elim
    · rintro e W2 ⟨⟨v, rfl⟩, ⟨xs, hS, hi, hR⟩ | ⟨pre, hSp, hi, hR⟩⟩
      · have he := run_endLoop (P := P) hR.1 (by rw [hr0]; simp)
        have hp : r0.pending = none := by rw [hr0]
        rw [hp] at he
        exact ⟨none, _, he, hdone _ xs _ (Nat.le_refl _) hS (pI _ W2 _ _ _ (by omega) hR.1 rfl hi) ((World.putObj_heap_other (by omega)).trans hR.2)⟩
      · have he := run_endLoop (P := P) hR.1 (by simp)
        exact ⟨some .ret, _, he, hstop _ pre _ (Nat.le_refl _) hSp (pIx _ W2 _ _ _ (by omega) hR.1 rfl hi) ((World.putObj_heap_other (by omega)).trans hR.2)⟩

end Go.Proofs.YtepngkhepcjdfaaDoor
