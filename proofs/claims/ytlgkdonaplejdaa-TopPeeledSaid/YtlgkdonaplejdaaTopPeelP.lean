/- Plain maths of the last one, left out again and again. -/
import Derived.Test.YtlgkdonaplejdaaTopApartP
import Derived.Test.YtlgkdonaplejdaaEdFarL
namespace Go.Proofs.Ytlgkdonaplejdaa
open Go.RowKit Go.Shelf Go.Sort Go.Lib

/-- The spot of a number's item, seen from v. -/
def peelS (v : List Int) (its : List ItT) (m : Int) : SpotT := spotOf v m (itAt its (m - 1).toNat)
def restL (its : List ItT) (l : List Int) : List ItT := l.map fun m => itAt its (m - 1).toNat
theorem restL_len (its : List ItT) (l : List Int) : (restL its l).length = l.length := by simp [restL]
theorem restL_at (its : List ItT) (l : List Int) (k : Nat) (h : k < l.length) : itAt (restL its l) k = itAt its (l[k] - 1).toNat := by
  have h2 : (restL its l)[k]? = some (itAt (restL its l) k) := itAt_lt (by rw [restL_len]; exact h)
  unfold restL at h2 ⊢
  rw [List.getElem?_map, List.getElem?_eq_getElem h] at h2
  simpa using h2.symm
theorem lt_other {x y : SpotT} (h : ¬ x.2 = y.2) (h2 : ltS x y = false) : ltS y x = true := by
  cases e : ltS y x
  · exact absurd (congrArg (·.2) (leS_anti x y ((leS_iff x y).2 e) ((leS_iff y x).2 h2))) h
  · rfl
theorem farTo_at (v : List Int) (its : List ItT) (l : List Int) (hn : l.Nodup) : ∀ k, k < l.length → ∃ (j : Nat) (hj : j < l.length), j ≤ k ∧ farTo v l (restL its l) (k + 1) = peelS v its l[j] ∧ ∀ (i : Nat) (hi : i < l.length), i ≤ k → i ≠ j → ltS (peelS v its l[i]) (peelS v its l[j]) = true
  | 0, h => by
    refine ⟨0, h, Nat.le_refl _, ?_, fun i _ h1 h2 => absurd (by omega) h2⟩
    unfold farTo
    rw [if_pos rfl, restL_at its l 0 h]
    have hx := numAt_lt h
    rw [List.getElem?_eq_getElem h] at hx
    injection hx with hx
    rw [← hx]
    rfl
  | k + 1, h => by
    obtain ⟨j, hj, hjk, e1, e2⟩ := farTo_at v its l hn k (by omega)
    have hx := numAt_lt h
    rw [List.getElem?_eq_getElem h] at hx
    injection hx with hx
    have hs : spotOf v (numAt l (k + 1)) (itAt (restL its l) (k + 1)) = peelS v its l[k + 1] := by
      rw [restL_at its l (k + 1) h, ← hx]
      rfl
    have hne : ∀ (i : Nat) (hi : i < l.length), i ≤ k → ¬ (peelS v its l[i]).2 = (peelS v its l[k + 1]).2 := fun i hi hik e => by
      have e3 : l[i] = l[k + 1] := e
      have := (List.getElem_inj hn).1 e3
      omega
    rw [farTo, if_neg (by omega), e1, hs]
    unfold later
    by_cases hlt : ltS (peelS v its l[j]) (peelS v its l[k + 1]) = true
    · rw [if_pos hlt]
      refine ⟨k + 1, h, Nat.le_refl _, rfl, ?_⟩
      intro i hi hik hij
      by_cases hji : i = j
      · subst hji; exact hlt
      · exact swoS.trans _ _ _ (e2 i hi (by omega) hji) hlt
    · rw [if_neg hlt]
      refine ⟨j, hj, by omega, rfl, ?_⟩
      intro i hi hik hij
      by_cases hik2 : i = k + 1
      · subst hik2
        exact lt_other (hne j hj hjk) (by simpa using hlt)
      · exact e2 i hi (by omega) hij
/-- The last one of a list of unlike numbers: it is one of them, and all others are ahead of it. -/
theorem far_last (v : List Int) (its : List ItT) (l : List Int) (hn : l.Nodup) (h0 : 0 < l.length) : ∃ m ∈ l, farS v l (restL its l) = peelS v its m ∧ ∀ m' ∈ l, m' ≠ m → ltS (peelS v its m') (peelS v its m) = true := by
  obtain ⟨j, hj, _, e1, e2⟩ := farTo_at v its l hn (l.length - 1) (by omega)
  refine ⟨l[j], List.getElem_mem hj, ?_, ?_⟩
  · unfold farS
    rw [← e1, show l.length - 1 + 1 = l.length by omega]
  · intro m' hm' hne
    obtain ⟨i, hi, rfl⟩ := List.getElem_of_mem hm'
    exact e2 i hi (by omega) (fun e => hne (by subst e; rfl))
theorem without_len {l : List Int} {m : Int} (hn : l.Nodup) (hm : m ∈ l) : (l.filter fun z => decide (¬ z = m)).length + 1 = l.length := by
  induction l with
  | nil => simp at hm
  | cons x l ih =>
    rw [List.nodup_cons] at hn
    by_cases hx : x = m
    · subst hx
      have : (l.filter fun z => decide (¬ z = x)) = l := List.filter_eq_self.2 (fun z hz => by simp; rintro rfl; exact hn.1 hz)
      have e : (List.filter (fun z => decide (¬ z = x)) (x :: l)) = List.filter (fun z => decide (¬ z = x)) l := by rw [List.filter_cons]; simp
      rw [e, this]
      rfl
    · have hm2 : m ∈ l := by
        rcases List.mem_cons.1 hm with e | e
        · exact absurd e.symm hx
        · exact e
      have := ih hn.2 hm2
      simp [hx]
      simpa using this

end Go.Proofs.Ytlgkdonaplejdaa
