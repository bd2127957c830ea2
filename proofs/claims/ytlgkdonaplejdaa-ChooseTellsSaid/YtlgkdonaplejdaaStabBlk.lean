/- A list in blocks, each in order, each behind the other by its places: what insertion and laying together make of it. -/
import Derived.Test.YtlgkdonaplejdaaStabIns
namespace Go.Proofs.Ytlgkdonaplejdaa
open Go.RowKit Go.Shelf Go.Sort Go.Lib

/-- All of one block stood ahead of all of a later one. -/
def BehB (X Y : List TagC) : Prop := ∀ x ∈ X, ∀ y ∈ Y, x.2 < y.2
theorem BehB.left {X X' Y : List TagC} (h : BehB X Y) (hs : ∀ x ∈ X', x ∈ X) : BehB X' Y := fun x hx y hy => h x (hs x hx) y hy
theorem BehB.right {X Y Y' : List TagC} (h : BehB X Y) (hs : ∀ y ∈ Y', y ∈ Y) : BehB X Y' := fun x hx y hy => h x hx y (hs y hy)
theorem flat_len {F : List (List TagC)} {n : Nat} (h : ∀ X ∈ F, X.length = n) : F.flatten.length = F.length * n := by
  induction F with
  | nil => simp
  | cons X F ih =>
    rw [List.flatten_cons, List.length_append, ih (fun Y hY => h Y (by simp [hY])), h X (by simp), List.length_cons, Nat.add_mul, Nat.one_mul, Nat.add_comm]

/-- Blocks in order, then a rest whose places rise. -/
structure Ins1 (D0 : List TagC) (Done : List (List TagC)) (Rest : List TagC) : Prop where
  full : ∀ X ∈ Done, X.length = 20 ∧ X.Pairwise ltX
  rises : Rises Rest
  apart : (Done ++ [Rest]).Pairwise BehB
  perm : (Done.flatten ++ Rest).Perm D0
/-- Blocks of so many in order, and a shorter last one. -/
structure Blk (bs : Nat) (D0 : List TagC) (Full : List (List TagC)) (Last : List TagC) : Prop where
  full : ∀ X ∈ Full, X.length = bs ∧ X.Pairwise ltX
  last : Last.length < bs ∧ Last.Pairwise ltX
  apart : (Full ++ [Last]).Pairwise BehB
  perm : (Full.flatten ++ Last).Perm D0
/-- In the midst of a pass: blocks of twice as many, blocks of as many, and the last one. -/
structure Pass (bs : Nat) (D0 : List TagC) (Done Todo : List (List TagC)) (Last : List TagC) : Prop where
  done : ∀ X ∈ Done, X.length = 2 * bs ∧ X.Pairwise ltX
  todo : ∀ X ∈ Todo, X.length = bs ∧ X.Pairwise ltX
  last : Last.length < bs ∧ Last.Pairwise ltX
  apart : (Done ++ (Todo ++ [Last])).Pairwise BehB
  perm : (Done.flatten ++ (Todo.flatten ++ Last)).Perm D0

section
variable {D0 : List TagC} {Done Todo Full : List (List TagC)} {Last Rest : List TagC} {bs : Nat}
theorem Ins1.start (h : Rises D0) : Ins1 D0 [] D0 := ⟨by simp, h, by simp, by simp⟩
theorem Ins1.next {X X' R' : List TagC} (h : Ins1 D0 Done (X ++ R')) (hl : X.length = 20) (hp : X'.Perm X) (hs : X'.Pairwise ltX) : Ins1 D0 (Done ++ [X']) R' := by
  have hr := h.rises
  unfold Rises at hr
  rw [List.pairwise_append] at hr
  have ha := h.apart
  rw [List.pairwise_append] at ha
  refine ⟨?_, hr.2.1, ?_, ?_⟩
  · intro Y hY
    rcases List.mem_append.1 hY with e | e
    · exact h.full Y e
    · simp at e
      subst e
      exact ⟨by rw [hp.length_eq, hl], hs⟩
  · rw [List.append_assoc, List.pairwise_append]
    refine ⟨ha.1, ?_, ?_⟩
    · simp only [List.singleton_append, List.pairwise_cons, List.mem_singleton, forall_eq]
      exact ⟨fun x hx y hy => hr.2.2 x (hp.mem_iff.1 hx) y hy, by simp⟩
    · intro A hA B hB
      have h2 := ha.2.2 A hA (X ++ R') (by simp)
      simp at hB
      rcases hB with rfl | rfl
      · exact h2.right (fun y hy => List.mem_append_left _ (hp.mem_iff.1 hy))
      · exact h2.right (fun y hy => List.mem_append_right _ hy)
  · rw [List.flatten_append]
    refine List.Perm.trans ?_ h.perm
    rw [List.append_assoc]
    refine List.Perm.append_left _ ?_
    simp only [List.flatten_cons, List.flatten_nil, List.append_nil]
    exact hp.append_right _
theorem Ins1.done {R' : List TagC} (h : Ins1 D0 Done Rest) (hl : Rest.length < 20) (hp : R'.Perm Rest) (hs : R'.Pairwise ltX) : Blk 20 D0 Done R' := by
  have ha := h.apart
  rw [List.pairwise_append] at ha
  refine ⟨h.full, ⟨by rw [hp.length_eq]; exact hl, hs⟩, ?_, (List.Perm.append_left _ hp).trans h.perm⟩
  rw [List.pairwise_append]
  refine ⟨ha.1, by simp, ?_⟩
  intro A hA B hB
  simp at hB
  subst hB
  exact (ha.2.2 A hA Rest (by simp)).right (fun y hy => hp.mem_iff.1 hy)
theorem Pass.start (h : Blk bs D0 Full Last) : Pass bs D0 [] Full Last := ⟨by simp, h.full, h.last, by simpa using h.apart, by simpa using h.perm⟩
theorem Pass.next {X Y M : List TagC} (h : Pass bs D0 Done (X :: Y :: Todo) Last) (hp : M.Perm (X ++ Y)) (hs : M.Pairwise ltX) : Pass bs D0 (Done ++ [M]) Todo Last := by
  have ha := h.apart
  rw [List.pairwise_append] at ha
  obtain ⟨a1, a2, a3⟩ := ha
  rw [List.cons_append, List.pairwise_cons, List.cons_append, List.pairwise_cons] at a2
  have hX := h.todo X (by simp)
  have hY := h.todo Y (by simp)
  refine ⟨?_, fun Z hZ => h.todo Z (by simp [hZ]), h.last, ?_, ?_⟩
  · intro Z hZ
    rcases List.mem_append.1 hZ with e | e
    · exact h.done Z e
    · simp at e
      subst e
      exact ⟨by rw [hp.length_eq, List.length_append, hX.1, hY.1]; omega, hs⟩
  · rw [List.append_assoc, List.pairwise_append]
    refine ⟨a1, ?_, ?_⟩
    · rw [List.singleton_append, List.pairwise_cons]
      refine ⟨?_, a2.2.2⟩
      intro Z hZ x hx y hy
      rcases List.mem_append.1 (hp.mem_iff.1 hx) with e | e
      · exact a2.1 Z (List.mem_cons_of_mem _ hZ) x e y hy
      · exact a2.2.1 Z hZ x e y hy
    · intro A hA B hB
      rw [List.singleton_append] at hB
      rcases List.mem_cons.1 hB with rfl | hB
      · intro x hx y hy
        rcases List.mem_append.1 (hp.mem_iff.1 hy) with e | e
        · exact a3 A hA X (by simp) x hx y e
        · exact a3 A hA Y (by simp) x hx y e
      · exact a3 A hA B (List.mem_cons_of_mem _ (List.mem_cons_of_mem _ hB))
  · rw [List.flatten_append, List.append_assoc]
    refine List.Perm.trans ?_ h.perm
    refine List.Perm.append_left _ ?_
    simp only [List.flatten_cons, List.flatten_nil, List.append_nil, List.append_assoc]
    rw [← List.append_assoc X]
    exact hp.append_right _
theorem Pass.end0 (h : Pass bs D0 Done [] Last) : Blk (2 * bs) D0 Done Last := ⟨h.done, ⟨by have := h.last.1; omega, h.last.2⟩, by simpa using h.apart, by simpa using h.perm⟩
theorem Pass.end1 {X M : List TagC} (h : Pass bs D0 Done [X] Last) (hp : M.Perm (X ++ Last)) (hs : M.Pairwise ltX) : Blk (2 * bs) D0 Done M := by
  have ha := h.apart
  rw [List.pairwise_append] at ha
  obtain ⟨a1, a2, a3⟩ := ha
  have hX := h.todo X (by simp)
  refine ⟨h.done, ⟨by rw [hp.length_eq, List.length_append, hX.1]; have := h.last.1; omega, hs⟩, ?_, ?_⟩
  · rw [List.pairwise_append]
    refine ⟨a1, by simp, ?_⟩
    intro A hA B hB
    simp at hB
    subst hB
    intro x hx y hy
    rcases List.mem_append.1 (hp.mem_iff.1 hy) with e | e
    · exact a3 A hA X (by simp) x hx y e
    · exact a3 A hA Last (by simp) x hx y e
  · refine List.Perm.trans ?_ h.perm
    refine List.Perm.append_left _ ?_
    simpa using hp
theorem Pass.cross {X Y : List TagC} (h : Pass bs D0 Done (X :: Y :: Todo) Last) : BehB X Y := by
  have ha := h.apart
  rw [List.pairwise_append] at ha
  have a2 := ha.2.1
  rw [List.cons_append, List.pairwise_cons] at a2
  exact a2.1 Y (by simp)
theorem Pass.crossL {X : List TagC} (h : Pass bs D0 Done [X] Last) : BehB X Last := by
  have ha := h.apart
  rw [List.pairwise_append] at ha
  have a2 := ha.2.1
  rw [List.cons_append, List.pairwise_cons] at a2
  exact a2.1 Last (by simp)
theorem Pass.len (h : Pass bs D0 Done Todo Last) : Done.flatten.length + (Todo.length * bs + Last.length) = D0.length := by
  have := h.perm.length_eq
  rw [List.length_append, List.length_append, flat_len (F := Todo) (n := bs) (fun X hX => (h.todo X hX).1)] at this
  exact this
theorem Blk.all (h : Blk bs D0 Full Last) (hb : D0.length ≤ bs) : (Full.flatten ++ Last).Pairwise ltX ∧ (Full.flatten ++ Last).Perm D0 := by
  refine ⟨?_, h.perm⟩
  have hl := h.perm.length_eq
  rw [List.length_append, flat_len (F := Full) (n := bs) (fun X hX => (h.full X hX).1)] at hl
  have hlast := h.last
  match Full, h with
  | [], h => simpa using hlast.2
  | [X], h =>
    have hX := h.full X (by simp)
    have : Last = [] := List.eq_nil_of_length_eq_zero (by simp at hl; omega)
    subst this
    simpa using hX.2
  | X :: Y :: F, h =>
    exfalso
    rw [List.length_cons, List.length_cons, Nat.add_mul, Nat.add_mul] at hl
    have := h.last.1
    omega
end

end Go.Proofs.Ytlgkdonaplejdaa
