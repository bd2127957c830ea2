/- What a best list has behind an offer: plain maths, and the document's answer. -/
import Derived.Test.YtajmnhnepoomjaaQueFam
import Derived.Test.YtajmnhnepoomjaaPartsPlain
namespace Go.Proofs.Ytajmnhnepoomjaa
open Go.RowKit Go.Shelf Go.Sort

theorem keep_least (m : Nat) (L : List SpotT) : leastS L (m : Int) = keepS m L := by
  unfold leastS keepS firstN
  rw [show (min (max (m : Int) 0) (L.length : Int)).toNat = min m L.length by omega]
  by_cases h : m ≤ L.length
  · rw [Nat.min_eq_left h]
  · rw [Nat.min_eq_right (by omega), List.take_of_length_le (by rw [sortS_len]; omega), List.take_of_length_le (by rw [sortS_len]; omega)]
theorem keep_sorted_le {m : Nat} {L : List SpotT} {x : SpotT} (h0 : 0 < (keepS m L).length) (hx : x ∈ keepS m L) : leS x (spAt (keepS m L) ((keepS m L).length - 1)) = true := by
  obtain ⟨j, hj, rfl⟩ := mem_spAt hx
  by_cases hjl : j = (keepS m L).length - 1
  · rw [← hjl]
    exact (leS_iff _ _).2 (ordS.irr _)
  · rw [spAt_get hj, spAt_get (by omega)]
    exact (List.pairwise_iff_getElem.1 (keepS_sorted m L)) j _ hj (by omega) (by omega)
theorem keep_not {m : Nat} {L : List SpotT} {s : SpotT} (h : (keepS m L).length = m) (h2 : ∀ x ∈ keepS m L, leS x s = true) : keepS m (L ++ [s]) = keepS m L := by
  have hD : (keepS m L ++ (sortS L).drop m).Perm L := by unfold keepS; rw [List.take_append_drop]; exact sortS_perm L
  have hX : (keepS m L ++ (s :: (sortS L).drop m)).Perm (L ++ [s]) := (List.perm_middle).trans ((List.Perm.cons _ hD).trans (List.perm_append_singleton s L).symm)
  have hle : ∀ x ∈ keepS m L, ∀ y ∈ (s :: (sortS L).drop m), leS x y = true := by
    intro x hx y hy
    rcases List.mem_cons.1 hy with e | e
    · rw [e]; exact h2 x hx
    · have h1 := sortS_sorted L
      rw [← List.take_append_drop m (sortS L), List.pairwise_append] at h1
      exact h1.2.2 x hx y e
  have ht := take_two hX hle
  rw [h, sortS_keep] at ht
  exact ht
theorem keep_more {m : Nat} (L : List SpotT) (s : SpotT) (h0 : 0 < m) : keepS m (keepS m L ++ [s]) = keepS m (L ++ [s]) := by
  have h1 : leastS [s] (m : Int) = [s] := by
    rw [keep_least]
    unfold keepS
    rw [show sortS [s] = [s] from sortS_eq (List.Perm.refl _) (by simp)]
    exact List.take_of_length_le (by simp; omega)
  have := least_parts L [s] (m : Int)
  rw [h1, keep_least, keep_least, keep_least] at this
  exact this.symm
theorem off_not {m : Nat} {L : List SpotT} {s : SpotT} (h : offQ m L s = false) : keepS m (L ++ [s]) = keepS m L := by
  unfold offQ at h
  rw [Bool.or_eq_false_iff, decide_eq_false_iff_not] at h
  obtain ⟨h1, h2⟩ := h
  have hm : (keepS m L).length = m := by
    have := keepS_len m L
    omega
  refine keep_not hm ?_
  intro x hx
  have h0 : 0 < (keepS m L).length := List.length_pos_of_mem hx
  rw [decide_eq_true h0, Bool.true_and] at h2
  exact leS_trans _ _ _ (keep_sorted_le h0 hx) ((leS_iff _ _).2 h2)
/-- The document's best list behind an offer. -/
theorem off_yes {m : Nat} {L : List SpotT} {s : SpotT} (h : offQ m L s = true) : leastS (sortS (keepS m L ++ [s])) (m : Int) = keepS m (L ++ [s]) := by
  have h0 : 0 < m := by
    unfold offQ at h
    have := keepS_len m L
    rcases Nat.eq_zero_or_pos m with rfl | h0
    · have hl : (keepS 0 L).length = 0 := by omega
      rw [hl] at h
      simp at h
    · exact h0
  rw [keep_least, ← keep_more L s h0]
  unfold keepS
  rw [sortS_perm_eq (sortS_perm _)]

end Go.Proofs.Ytajmnhnepoomjaa
