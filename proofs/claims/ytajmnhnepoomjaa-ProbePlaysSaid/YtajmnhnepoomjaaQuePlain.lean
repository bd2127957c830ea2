/- A queue and a best list: plain maths of what a heap holds. -/
import Derived.Test.YtajmnhnepoomjaaQueBest
namespace Go.Proofs.Ytajmnhnepoomjaa
open Go.RowKit Go.Shelf Go.Sort

theorem sort_two {X Y Z : List SpotT} (hp : (X ++ Y).Perm Z) (h : ∀ x ∈ X, ∀ y ∈ Y, leS x y = true) : sortS Z = sortS X ++ sortS Y := by
  refine sortS_eq (((sortS_perm X).append (sortS_perm Y)).trans hp) ?_
  rw [List.pairwise_append]
  exact ⟨sortS_sorted X, sortS_sorted Y, fun x hx y hy => h x ((sortS_perm X).mem_iff.1 hx) y ((sortS_perm Y).mem_iff.1 hy)⟩
theorem take_two {X Y Z : List SpotT} (hp : (X ++ Y).Perm Z) (h : ∀ x ∈ X, ∀ y ∈ Y, leS x y = true) : (sortS Z).take X.length = sortS X := by
  rw [sort_two hp h, ← sortS_len X, List.take_left']
  rfl

theorem spAt_mem {M : List SpotT} {j : Nat} (h : j < M.length) : spAt M j ∈ M := by
  rw [spAt_get h]
  exact List.getElem_mem h
theorem mem_spAt {M : List SpotT} {x : SpotT} (h : x ∈ M) : ∃ j, j < M.length ∧ spAt M j = x := by
  obtain ⟨j, hj, e⟩ := List.getElem_of_mem h
  exact ⟨j, hj, by rw [spAt_get hj, e]⟩
/-- The one at the top is not behind any. -/
theorem top_least {M : List SpotT} (h : HeapOK ltS M) {x : SpotT} (hx : x ∈ M) : leS (spAt M 0) x = true := by
  obtain ⟨j, hj, rfl⟩ := mem_spAt hx
  exact (leS_iff _ _).2 (h.least ordS j hj)
theorem top_most {M : List SpotT} (h : HeapOK gtS M) {x : SpotT} (hx : x ∈ M) : leS x (spAt M 0) = true := by
  obtain ⟨j, hj, rfl⟩ := mem_spAt hx
  exact (leS_iff _ _).2 (h.least ordG j hj)

theorem dropS_perm (x : SpotT) (t : List SpotT) : (dropS (x :: t)).Perm t := by
  rcases List.eq_nil_or_concat t with rfl | ⟨t', z, rfl⟩
  · simp [dropS]
  · have hz : spAt (x :: (t' ++ [z])) (t'.length + 1) = z := by simp [spAt]
    have e : dropS (x :: (t'.concat z)) = z :: t' := by
      unfold dropS
      rw [List.concat_eq_append]
      simp only [List.length_cons, List.length_append, List.length_nil, Nat.zero_add, Nat.add_sub_cancel]
      rw [hz]
      simp
    rw [e, List.concat_eq_append]
    exact (List.perm_append_singleton z t').symm
theorem pop_heap {M X : List SpotT} {x : SpotT} (hp : M.Perm (x :: X)) (hs : (x :: X).Pairwise (fun x y => leS x y = true)) (hh : HeapOK ltS M) : spAt M 0 = x ∧ (dropS M).Perm X := by
  cases M with
  | nil => exact absurd hp.symm.eq_nil (by simp)
  | cons y t =>
    have h1 : leS y x = true := top_least hh (hp.symm.subset (List.mem_cons_self ..))
    have h2 : leS x y = true := by
      rcases List.mem_cons.1 (hp.subset (List.mem_cons_self ..)) with e | e
      · rw [e]; exact (leS_iff _ _).2 (ordS.irr _)
      · exact (List.pairwise_cons.1 hs).1 y e
    have e : y = x := leS_anti _ _ h1 h2
    subst e
    exact ⟨rfl, (dropS_perm y t).trans (List.Perm.cons_inv hp)⟩

/-- The first ones of all. -/
def keepS (m : Nat) (L : List SpotT) : List SpotT := (sortS L).take m
theorem keepS_len (m : Nat) (L : List SpotT) : (keepS m L).length = min m L.length := by simp [keepS, sortS_len]
theorem keepS_sorted (m : Nat) (L : List SpotT) : (keepS m L).Pairwise (fun x y => leS x y = true) := (sortS_sorted L).sublist (List.take_sublist _ _)
theorem set_head_perm (x s : SpotT) (t : List SpotT) : ((x :: t).set 0 s).Perm (s :: t) := by simp

theorem offer_keep {m : Nat} {M L : List SpotT} {s : SpotT} (hp : M.Perm (keepS m L)) (hh : HeapOK gtS M) : (offL m M s).Perm (keepS m (L ++ [s])) := by
  have hl : M.length = min m L.length := by rw [hp.length_eq, keepS_len]
  have hD : (M ++ (sortS L).drop m).Perm L := (hp.append_right _).trans (by unfold keepS; rw [List.take_append_drop]; exact sortS_perm L)
  have hMD : ∀ x ∈ M, ∀ y ∈ (sortS L).drop m, leS x y = true := fun x hx y hy => by
    have h1 := sortS_sorted L
    rw [← List.take_append_drop m (sortS L), List.pairwise_append] at h1
    exact h1.2.2 x (hp.subset hx) y hy
  unfold offL
  by_cases h1 : M.length < m
  · rw [if_pos h1]
    have hm : L.length < m := by omega
    have hd : (sortS L).drop m = [] := List.drop_eq_nil_of_le (by rw [sortS_len]; omega)
    rw [hd, List.append_nil] at hD
    unfold keepS
    rw [List.take_of_length_le (by rw [sortS_len]; simp; omega)]
    exact (hD.append_right _).trans (sortS_perm _).symm
  · rw [if_neg h1]
    have hmm : M.length = m := by omega
    by_cases h2 : 0 < M.length ∧ ltS s (spAt M 0) = true
    · rw [if_pos h2]
      cases M with
      | nil => exact absurd h2.1 (by simp)
      | cons w t =>
        have hw : ltS s w = true := h2.2
        have hX : ((s :: t) ++ (w :: (sortS L).drop m)).Perm (L ++ [s]) := by
          have e1 : ((s :: t) ++ (w :: (sortS L).drop m)).Perm (s :: (w :: t ++ (sortS L).drop m)) := by
            simp only [List.cons_append]
            exact List.Perm.cons _ List.perm_middle
          exact e1.trans ((List.Perm.cons _ hD).trans (List.perm_append_singleton s L).symm)
        have hle : ∀ x ∈ (s :: t), ∀ y ∈ (w :: (sortS L).drop m), leS x y = true := by
          have hsw := leS_of_lt hw
          intro x hx y hy
          have hxw : leS x w = true := by
            rcases List.mem_cons.1 hx with e | e
            · rw [e]; exact hsw
            · exact top_most hh (List.mem_cons_of_mem _ e)
          rcases List.mem_cons.1 hy with e | e
          · rw [e]; exact hxw
          · exact leS_trans _ _ _ hxw (hMD w (List.mem_cons_self ..) y e)
        have ht := take_two hX hle
        rw [show (s :: t).length = m by simpa using hmm] at ht
        unfold keepS
        rw [ht]
        exact (set_head_perm w s t).trans (sortS_perm _).symm
    · rw [if_neg h2]
      have hX : (M ++ (s :: (sortS L).drop m)).Perm (L ++ [s]) :=
        (List.perm_middle).trans ((List.Perm.cons _ hD).trans (List.perm_append_singleton s L).symm)
      have hle : ∀ x ∈ M, ∀ y ∈ (s :: (sortS L).drop m), leS x y = true := by
        intro x hx y hy
        rcases List.mem_cons.1 hy with e | e
        · rw [e]
          have h0 : 0 < M.length := List.length_pos_of_mem hx
          have h3 : ltS s (spAt M 0) = false := by
            cases e2 : ltS s (spAt M 0)
            · rfl
            · exact absurd ⟨h0, e2⟩ h2
          exact leS_trans _ _ _ (top_most hh hx) ((leS_iff _ _).2 h3)
        · exact hMD x hx y e
      have ht := take_two hX hle
      rw [hmm] at ht
      unfold keepS
      rw [ht]
      exact (sortS_perm _).symm

end Go.Proofs.Ytajmnhnepoomjaa
