/- Plain maths of two sorted lists laid together, where equal ones keep their order. -/
import Derived.Test.YtlgkdonaplejdaaStabSwap
import Derived.Test.YtlgkdonaplejdaaHeapPlain
namespace Go.Proofs.Ytlgkdonaplejdaa
open Go.RowKit Go.Shelf Go.Sort Go.Lib

/-- Ahead: by the spot, and of equal ones by the place. -/
def ltX (x y : TagC) : Prop := ltS x.1.1 y.1.1 = true ∨ (ltS y.1.1 x.1.1 = false ∧ x.2 < y.2)
theorem ltX_trans {x y z : TagC} (h1 : ltX x y) (h2 : ltX y z) : ltX x z := by
  have nt := ordS.nt
  have asym := ordS.asym
  rcases h1 with h1 | ⟨h1, i1⟩ <;> rcases h2 with h2 | ⟨h2, i2⟩
  · left
    cases e : ltS x.1.1 z.1.1
    · have := nt _ _ _ e (asym _ _ h2)
      rw [h1] at this
      cases this
    · rfl
  · left
    cases e : ltS x.1.1 z.1.1
    · have := nt _ _ _ e h2
      rw [h1] at this
      cases this
    · rfl
  · left
    cases e : ltS x.1.1 z.1.1
    · have := nt _ _ _ h1 e
      rw [h2] at this
      cases this
    · rfl
  · exact .inr ⟨nt _ _ _ h2 h1, by omega⟩
theorem ltX_asym {x y : TagC} (h1 : ltX x y) (h2 : ltX y x) : False := by
  have asym := ordS.asym
  rcases h1 with h1 | ⟨h1, i1⟩ <;> rcases h2 with h2 | ⟨h2, i2⟩
  · have := asym _ _ h1; rw [h2] at this; cases this
  · rw [h1] at h2; cases h2
  · rw [h1] at h2; cases h2
  · omega
/-- A later one that is less, and one that is not. -/
theorem ltX_of_less {x y : TagC} (h : cmpC y x < 0) : ltX y x := .inl ((cmpC_lt y x).1 h)
theorem ltX_of_not {x y : TagC} (h : ¬ cmpC y x < 0) (hi : x.2 < y.2) : ltX x y := by
  rw [cmpC_lt] at h
  exact .inr ⟨by simpa using h, hi⟩
theorem sorted_eq {A B : List TagC} (hp : A.Perm B) (hA : A.Pairwise ltX) (hB : B.Pairwise ltX) : A = B :=
  List.Perm.eq_of_pairwise (le := ltX) (fun _ _ _ _ h1 h2 => (ltX_asym h1 h2).elim) hA hB hp
theorem last_le {L : List TagC} {l : TagC} (h : (L ++ [l]).Pairwise ltX) : ∀ x ∈ L ++ [l], x = l ∨ ltX x l := by
  intro x hx
  rw [List.pairwise_append] at h
  rcases List.mem_append.1 hx with e | e
  · exact .inr (h.2.2 x e l (by simp))
  · exact .inl (by simpa using e)
theorem head_le {R : List TagC} {r : TagC} (h : (r :: R).Pairwise ltX) : ∀ y ∈ r :: R, y = r ∨ ltX r y := by
  intro y hy
  rw [List.pairwise_cons] at h
  rcases List.mem_cons.1 hy with e | e
  · exact .inl e
  · exact .inr (h.1 y e)
/-- All of one list ahead of all of another, if the last is ahead of the first. -/
theorem all_ahead {L R : List TagC} {l r : TagC} (hL : (L ++ [l]).Pairwise ltX) (hR : (r :: R).Pairwise ltX) (h : ltX l r) : ∀ x ∈ L ++ [l], ∀ y ∈ r :: R, ltX x y := by
  intro x hx y hy
  rcases last_le hL x hx with rfl | e1 <;> rcases head_le hR y hy with rfl | e2
  · exact h
  · exact ltX_trans h e2
  · exact ltX_trans e1 h
  · exact ltX_trans (ltX_trans e1 h) e2
theorem snoc_of {L : List TagC} (h : L ≠ []) : ∃ L0 l, L = L0 ++ [l] := ⟨L.dropLast, L.getLast h, (List.dropLast_concat_getLast h).symm⟩
/-- The parts of two sorted lists, where both are cut so that nothing of the one's ahead is behind the other's. -/
theorem sym_split (P L R S : List TagC) (a m b s e : Nat) (ha : a = P.length) (hm : m = a + L.length) (hb : b = m + R.length) (h1 : a ≤ s) (h2 : s ≤ m) (h3 : m ≤ e) (h4 : e ≤ b)
    (hL : L.Pairwise ltX) (hR : R.Pairwise ltX) (hi : ∀ x ∈ L, ∀ y ∈ R, x.2 < y.2) (D : Array TagC) (hD : (P ++ (L ++ (R ++ S))).toArray = D)
    (F1 : s = a ∨ e = b ∨ 0 ≤ cmpC D[e]! D[s - 1]!) (F2 : s = m ∨ e = m ∨ cmpC D[e - 1]! D[s]! < 0) :
    ∃ L1 L2 R1 R2, L = L1 ++ L2 ∧ R = R1 ++ R2 ∧ L1.length = s - a ∧ R1.length = e - m ∧ (∀ x ∈ L1 ++ R1, ∀ y ∈ L2 ++ R2, ltX x y) := by
  obtain ⟨L1, L2, hL12, l1⟩ : ∃ L1 L2, L = L1 ++ L2 ∧ L1.length = s - a := ⟨L.take (s - a), L.drop (s - a), (List.take_append_drop _ L).symm, by rw [List.length_take]; omega⟩
  obtain ⟨R1, R2, hR12, r1⟩ : ∃ R1 R2, R = R1 ++ R2 ∧ R1.length = e - m := ⟨R.take (e - m), R.drop (e - m), (List.take_append_drop _ R).symm, by rw [List.length_take]; omega⟩
  have l2 : L2.length = m - s := by have := congrArg List.length hL12; rw [List.length_append] at this; omega
  have r2 : R2.length = b - e := by have := congrArg List.length hR12; rw [List.length_append] at this; omega
  have hLp := hL
  have hRp := hR
  rw [hL12, List.pairwise_append] at hLp
  rw [hR12, List.pairwise_append] at hRp
  refine ⟨L1, L2, R1, R2, hL12, hR12, l1, r1, ?_⟩
  have c1 : ∀ x ∈ L1, ∀ y ∈ R2, ltX x y := by
    by_cases n1 : L1 = []
    · subst n1; simp
    by_cases n2 : R2 = []
    · subst n2; simp
    obtain ⟨L0, l, rfl⟩ := snoc_of n1
    obtain ⟨r, R3, rfl⟩ := List.exists_cons_of_ne_nil n2
    have q1 : ¬ s = a := by simp at l1; omega
    have q2 : ¬ e = b := by simp at r2; omega
    have F := (F1.resolve_left q1).resolve_left q2
    have el : D[s - 1]! = l := by
      rw [← hD, hL12, show P ++ ((L0 ++ [l] ++ L2) ++ (R ++ S)) = (P ++ L0) ++ l :: (L2 ++ (R ++ S)) by simp]
      exact at_mid _ _ _ (by simp at l1 ⊢; omega)
    have er : D[e]! = r := by
      rw [← hD, hR12, show P ++ (L ++ (R1 ++ r :: R3 ++ S)) = (P ++ (L ++ R1)) ++ r :: (R3 ++ S) by simp]
      exact at_mid _ _ _ (by simp; omega)
    rw [el, er] at F
    exact all_ahead hLp.1 hRp.2.1 (ltX_of_not (by omega) (hi l (by rw [hL12]; simp) r (by rw [hR12]; simp)))
  have c2 : ∀ x ∈ R1, ∀ y ∈ L2, ltX x y := by
    by_cases n1 : R1 = []
    · subst n1; simp
    by_cases n2 : L2 = []
    · subst n2; simp
    obtain ⟨R0, r, rfl⟩ := snoc_of n1
    obtain ⟨l, L3, rfl⟩ := List.exists_cons_of_ne_nil n2
    have q1 : ¬ s = m := by simp at l2; omega
    have q2 : ¬ e = m := by simp at r1; omega
    have F := (F2.resolve_left q1).resolve_left q2
    have el : D[s]! = l := by
      rw [← hD, hL12, show P ++ ((L1 ++ l :: L3) ++ (R ++ S)) = (P ++ L1) ++ l :: (L3 ++ (R ++ S)) by simp]
      exact at_mid _ _ _ (by simp; omega)
    have er : D[e - 1]! = r := by
      rw [← hD, hR12, show P ++ (L ++ ((R0 ++ [r]) ++ R2 ++ S)) = (P ++ (L ++ R0)) ++ r :: (R2 ++ S) by simp]
      exact at_mid _ _ _ (by simp at r1 ⊢; omega)
    rw [el, er] at F
    exact all_ahead hRp.1 hLp.2.1 (ltX_of_less F)
  intro x hx y hy
  rcases List.mem_append.1 hx with e1 | e1 <;> rcases List.mem_append.1 hy with e2 | e2
  · exact hLp.2.2 x e1 y e2
  · exact c1 x e1 y e2
  · exact c2 x e1 y e2
  · exact hRp.2.2 x e1 y e2
/-- Two merged parts, one behind the other. -/
theorem sym_join {L1 L2 R1 R2 M1 M2 : List TagC} (p1 : M1.Perm (L1 ++ R1)) (p2 : M2.Perm (L2 ++ R2)) (s1 : M1.Pairwise ltX) (s2 : M2.Pairwise ltX) (h : ∀ x ∈ L1 ++ R1, ∀ y ∈ L2 ++ R2, ltX x y) : (M1 ++ M2).Pairwise ltX ∧ (M1 ++ M2).Perm ((L1 ++ L2) ++ (R1 ++ R2)) := by
  refine ⟨List.pairwise_append.2 ⟨s1, s2, fun x hx y hy => h x (p1.mem_iff.1 hx) y (p2.mem_iff.1 hy)⟩, ?_⟩
  refine (p1.append p2).trans ?_
  rw [List.append_assoc, List.append_assoc]
  refine List.Perm.append_left L1 ?_
  rw [← List.append_assoc, ← List.append_assoc]
  exact List.Perm.append_right R2 List.perm_append_comm

/-- One laid into a sorted list, ahead of it in place. -/
theorem ins_left (P R S : List TagC) (x : TagC) (a i b : Nat) (ha : P.length = a) (hb : a + 1 + R.length = b) (D : List TagC) (hD : P ++ (x :: (R ++ S)) = D) (h1 : a + 1 ≤ i) (_h2 : i ≤ b) (sR : R.Pairwise ltX) (hi : ∀ y ∈ R, x.2 < y.2)
    (F1 : i = a + 1 ∨ cmpC D.toArray[i - 1]! x < 0) (F2 : i = b ∨ 0 ≤ cmpC D.toArray[i]! x) (R1 R2 : List TagC) (hR : R = R1 ++ R2) (hl : R1.length = i - (a + 1)) : (R1 ++ x :: R2).Pairwise ltX ∧ (R1 ++ x :: R2).Perm ([x] ++ R) := by
  have hRp := sR
  rw [hR, List.pairwise_append] at hRp
  have r2 : R2.length = b - i := by have := congrArg List.length hR; rw [List.length_append] at this; omega
  have c1 : ∀ y ∈ R1, ltX y x := by
    by_cases n1 : R1 = []
    · subst n1; simp
    obtain ⟨R0, r, rfl⟩ := snoc_of n1
    have q1 : ¬ i = a + 1 := by simp at hl; omega
    have F := F1.resolve_left q1
    have er : D.toArray[i - 1]! = r := by
      rw [← hD, hR, show P ++ (x :: (R0 ++ [r] ++ R2 ++ S)) = (P ++ (x :: R0)) ++ r :: (R2 ++ S) by simp]
      exact at_mid _ _ _ (by simp at hl ⊢; omega)
    rw [er] at F
    intro y hy
    rcases last_le hRp.1 y hy with rfl | e
    · exact ltX_of_less F
    · exact ltX_trans e (ltX_of_less F)
  have c2 : ∀ y ∈ R2, ltX x y := by
    by_cases n2 : R2 = []
    · subst n2; simp
    obtain ⟨r, R3, rfl⟩ := List.exists_cons_of_ne_nil n2
    have q2 : ¬ i = b := by simp at r2; omega
    have F := F2.resolve_left q2
    have er : D.toArray[i]! = r := by
      rw [← hD, hR, show P ++ (x :: (R1 ++ r :: R3 ++ S)) = (P ++ (x :: R1)) ++ r :: (R3 ++ S) by simp]
      exact at_mid _ _ _ (by simp; omega)
    rw [er] at F
    have hx := ltX_of_not (x := x) (y := r) (by omega) (hi r (by rw [hR]; simp))
    intro y hy
    rcases head_le hRp.2.1 y hy with rfl | e
    · exact hx
    · exact ltX_trans hx e
  refine ⟨List.pairwise_append.2 ⟨hRp.1, List.pairwise_cons.2 ⟨c2, hRp.2.1⟩, ?_⟩, by rw [hR]; exact List.perm_middle⟩
  intro y hy z hz
  rcases List.mem_cons.1 hz with rfl | hz
  · exact c1 y hy
  · exact hRp.2.2 y hy z hz
/-- One laid into a sorted list, behind it in place. -/
theorem ins_right (P L S : List TagC) (x : TagC) (a i m : Nat) (ha : P.length = a) (hm : a + L.length = m) (D : List TagC) (hD : P ++ (L ++ (x :: S)) = D) (h1 : a ≤ i) (h2 : i ≤ m) (sL : L.Pairwise ltX) (hi : ∀ y ∈ L, y.2 < x.2)
    (F1 : i = a ∨ 0 ≤ cmpC x D.toArray[i - 1]!) (F2 : i = m ∨ cmpC x D.toArray[i]! < 0) (L1 L2 : List TagC) (hL : L = L1 ++ L2) (hl : L1.length = i - a) : (L1 ++ x :: L2).Pairwise ltX ∧ (L1 ++ x :: L2).Perm (L ++ [x]) := by
  have hLp := sL
  rw [hL, List.pairwise_append] at hLp
  have r2 : L2.length = m - i := by have := congrArg List.length hL; rw [List.length_append] at this; omega
  have c1 : ∀ y ∈ L1, ltX y x := by
    by_cases n1 : L1 = []
    · subst n1; simp
    obtain ⟨L0, r, rfl⟩ := snoc_of n1
    have q1 : ¬ i = a := by simp at hl; omega
    have F := F1.resolve_left q1
    have er : D.toArray[i - 1]! = r := by
      rw [← hD, hL, show P ++ (L0 ++ [r] ++ L2 ++ (x :: S)) = (P ++ L0) ++ r :: (L2 ++ (x :: S)) by simp]
      exact at_mid _ _ _ (by simp at hl ⊢; omega)
    rw [er] at F
    have hx := ltX_of_not (x := r) (y := x) (by omega) (hi r (by rw [hL]; simp))
    intro y hy
    rcases last_le hLp.1 y hy with rfl | e
    · exact hx
    · exact ltX_trans e hx
  have c2 : ∀ y ∈ L2, ltX x y := by
    by_cases n2 : L2 = []
    · subst n2; simp
    obtain ⟨r, L3, rfl⟩ := List.exists_cons_of_ne_nil n2
    have q2 : ¬ i = m := by simp at r2; omega
    have F := F2.resolve_left q2
    have er : D.toArray[i]! = r := by
      rw [← hD, hL, show P ++ (L1 ++ r :: L3 ++ (x :: S)) = (P ++ L1) ++ r :: (L3 ++ (x :: S)) by simp]
      exact at_mid _ _ _ (by simp; omega)
    rw [er] at F
    intro y hy
    rcases head_le hLp.2.1 y hy with rfl | e
    · exact ltX_of_less F
    · exact ltX_trans (ltX_of_less F) e
  refine ⟨List.pairwise_append.2 ⟨hLp.1, List.pairwise_cons.2 ⟨c2, hLp.2.1⟩, ?_⟩, by rw [hL]; exact List.perm_middle.trans (List.perm_append_singleton _ _).symm⟩
  intro y hy z hz
  rcases List.mem_cons.1 hz with rfl | hz
  · exact c1 y hy
  · exact hLp.2.2 y hy z hz

end Go.Proofs.Ytlgkdonaplejdaa
