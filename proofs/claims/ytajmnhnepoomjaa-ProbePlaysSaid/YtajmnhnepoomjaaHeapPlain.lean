/- A heap: plain maths. -/
import Derived.Test.YtajmnhnepoomjaaRankIns
namespace Go.Proofs.Ytajmnhnepoomjaa
open Go.RowKit Go.Shelf Go.Sort

/-- An order of spots, as a heap asks it. -/
structure Ord (lt : SpotT → SpotT → Bool) : Prop where
  asym : ∀ x y, lt x y = true → lt y x = false
  nt : ∀ x y z, lt x y = false → lt y z = false → lt x z = false
  irr : ∀ x, lt x x = false
theorem ordS : Ord ltS where
  asym x y h := by
    cases e : ltS y x
    · rfl
    · have := swoS.trans _ _ _ h e
      rw [swoS.irrefl] at this
      cases this
  nt x y z h1 h2 := swoS.ntrans _ _ _ h1 h2
  irr x := swoS.irrefl x
/-- The other way round. -/
def gtS (x y : SpotT) : Bool := ltS y x
theorem ordG : Ord gtS where
  asym x y h := ordS.asym y x h
  nt x y z h1 h2 := ordS.nt z y x h2 h1
  irr x := ordS.irr x

/-- The spots at two places change them. -/
def swap2 (M : List SpotT) (i k : Nat) : List SpotT := (M.set i (spAt M k)).set k (spAt M i)
theorem swap2_len (M : List SpotT) (i k : Nat) : (swap2 M i k).length = M.length := by simp [swap2]
theorem swap2_at (M : List SpotT) (i k p : Nat) (hi : i < M.length) (hk : k < M.length) : spAt (swap2 M i k) p = if p = k then spAt M i else if p = i then spAt M k else spAt M p := by
  unfold swap2
  rw [spAt_set _ _ _ _ (by simpa using hk), spAt_set _ _ _ _ hi]
theorem swap2_perm (M : List SpotT) (i k : Nat) (hi : i < M.length) (hk : k < M.length) : (swap2 M i k).Perm M := by
  have h := (Array.swap_perm (xs := M.toArray) (i := i) (j := k) (by simpa using hi) (by simpa using hk)).toList
  have e : (M.toArray.swap i k (by simpa using hi) (by simpa using hk)).toList = swap2 M i k := by
    unfold swap2
    rw [spAt_get hi, spAt_get hk]
    simp [Array.swap]
  rw [e] at h
  simpa using h

section
variable {lt : SpotT → SpotT → Bool} {M : List SpotT} {i c : Nat}
/-- None is ahead of the one above it. -/
def HeapOK (lt : SpotT → SpotT → Bool) (M : List SpotT) : Prop := ∀ j, 0 < j → j < M.length → lt (spAt M j) (spAt M ((j - 1) / 2)) = false
/-- A heap, but for the one at i, which may be ahead of the one above. -/
def UpBut (lt : SpotT → SpotT → Bool) (M : List SpotT) (i : Nat) : Prop :=
  (∀ j, 0 < j → j < M.length → j ≠ i → lt (spAt M j) (spAt M ((j - 1) / 2)) = false) ∧ ∀ j, 0 < j → j < M.length → (j - 1) / 2 = i → 0 < i → lt (spAt M j) (spAt M ((i - 1) / 2)) = false
/-- A heap, but for the one at i, which may be behind those below. -/
def DownBut (lt : SpotT → SpotT → Bool) (M : List SpotT) (i : Nat) : Prop :=
  (∀ j, 0 < j → j < M.length → (j - 1) / 2 ≠ i → lt (spAt M j) (spAt M ((j - 1) / 2)) = false) ∧ ∀ j, 0 < j → j < M.length → (j - 1) / 2 = i → 0 < i → lt (spAt M j) (spAt M ((i - 1) / 2)) = false

theorem UpBut.stop (h : UpBut lt M i) (hs : i = 0 ∨ lt (spAt M i) (spAt M ((i - 1) / 2)) = false) : HeapOK lt M := fun j h0 hj => by
  by_cases e : j = i
  · subst e
    rcases hs with rfl | hs
    · omega
    · exact hs
  · exact h.1 j h0 hj e
theorem UpBut.step (hO : Ord lt) (h : UpBut lt M i) (h0 : 0 < i) (hi : i < M.length) (hlt : lt (spAt M i) (spAt M ((i - 1) / 2)) = true) : UpBut lt (swap2 M i ((i - 1) / 2)) ((i - 1) / 2) := by
  have sp := fun p => swap2_at M i ((i - 1) / 2) p hi (by omega)
  have hl := swap2_len M i ((i - 1) / 2)
  have ha := hO.asym _ _ hlt
  generalize hp : (i - 1) / 2 = p at *
  refine ⟨fun j j0 hj hne => ?_, fun j j0 hj hpj hp0 => ?_⟩
  · rw [hl] at hj
    rw [sp j, if_neg hne, sp ((j - 1) / 2)]
    by_cases e : j = i
    · subst e
      rw [if_pos rfl, hp, if_pos rfl]
      exact ha
    · rw [if_neg e]
      by_cases e2 : (j - 1) / 2 = p
      · rw [if_pos e2]
        have h1 := h.1 j j0 hj e
        rw [e2] at h1
        exact hO.nt _ _ _ h1 ha
      · rw [if_neg e2]
        by_cases e3 : (j - 1) / 2 = i
        · rw [if_pos e3]
          have h1 := h.2 j j0 hj e3 h0
          rw [hp] at h1
          exact h1
        · rw [if_neg e3]
          exact h.1 j j0 hj e
  · rw [hl] at hj
    have e1 : spAt (swap2 M i p) j = if j = i then spAt M p else spAt M j := by rw [sp j, if_neg (by omega)]
    have e2 : spAt (swap2 M i p) ((p - 1) / 2) = spAt M ((p - 1) / 2) := by rw [sp ((p - 1) / 2), if_neg (by omega), if_neg (by omega)]
    rw [e1, e2]
    have h1 := h.1 p hp0 (by omega) (by omega)
    by_cases e : j = i
    · rw [if_pos e]
      exact h1
    · rw [if_neg e]
      have h2 := h.1 j j0 hj e
      rw [hpj] at h2
      exact hO.nt _ _ _ h2 h1
theorem spAt_app (M : List SpotT) (x : SpotT) (j : Nat) (h : j < M.length) : spAt (M ++ [x]) j = spAt M j := by
  unfold spAt
  rw [List.getD_eq_getElem?_getD, List.getD_eq_getElem?_getD, List.getElem?_append_left h]
theorem UpBut.start (h : HeapOK lt M) (x : SpotT) : UpBut lt (M ++ [x]) M.length := by
  refine ⟨fun j j0 hj hne => ?_, fun j j0 hj hp h0 => ?_⟩
  · rw [List.length_append] at hj
    simp at hj
    rw [spAt_app _ _ _ (by omega), spAt_app _ _ _ (by omega)]
    exact h j j0 (by omega)
  · rw [List.length_append] at hj
    simp at hj
    omega

/-- c is the foremost of those below i. -/
def Fore (lt : SpotT → SpotT → Bool) (M : List SpotT) (i c : Nat) : Prop := 0 < c ∧ c < M.length ∧ (c - 1) / 2 = i ∧ ∀ j, 0 < j → j < M.length → (j - 1) / 2 = i → lt (spAt M j) (spAt M c) = false
theorem DownBut.none (h : DownBut lt M i) (hs : M.length ≤ 2 * i + 1) : HeapOK lt M := fun j h0 hj => h.1 j h0 hj (by omega)
theorem DownBut.stop (hO : Ord lt) (h : DownBut lt M i) (hf : Fore lt M i c) (hs : lt (spAt M c) (spAt M i) = false) : HeapOK lt M := fun j h0 hj => by
  by_cases e : (j - 1) / 2 = i
  · rw [e]
    exact hO.nt _ _ _ (hf.2.2.2 j h0 hj e) hs
  · exact h.1 j h0 hj e
theorem DownBut.step (hO : Ord lt) (h : DownBut lt M i) (hf : Fore lt M i c) (hlt : lt (spAt M c) (spAt M i) = true) : DownBut lt (swap2 M i c) c := by
  obtain ⟨c0, hc, hpc, hmin⟩ := hf
  have hic : i < c := by omega
  have sp := fun p => swap2_at M i c p (by omega) hc
  have hl := swap2_len M i c
  have ha := hO.asym _ _ hlt
  refine ⟨fun j j0 hj hne => ?_, fun j j0 hj hpj _ => ?_⟩
  · rw [hl] at hj
    rw [sp j, sp ((j - 1) / 2), if_neg hne]
    by_cases e : (j - 1) / 2 = i
    · rw [if_pos e]
      by_cases e2 : j = c
      · rw [if_pos e2]
        exact ha
      · rw [if_neg e2, if_neg (by omega)]
        exact hmin j j0 hj e
    · rw [if_neg e]
      by_cases e2 : j = c
      · subst e2
        exact absurd hpc e
      · rw [if_neg e2]
        by_cases e3 : j = i
        · subst e3
          rw [if_pos rfl]
          exact h.2 c c0 hc hpc (by omega)
        · rw [if_neg e3]
          exact h.1 j j0 hj e
  · rw [hl] at hj
    have e1 : spAt (swap2 M i c) j = spAt M j := by rw [sp j, if_neg (by omega), if_neg (by omega)]
    have e2 : spAt (swap2 M i c) i = spAt M c := by rw [sp i, if_neg (by omega), if_pos rfl]
    rw [hpc, e1, e2]
    have h1 := h.1 j j0 hj (by omega)
    rw [hpj] at h1
    exact h1
theorem DownBut.start {M' : List SpotT} (h : HeapOK lt M) (hl : M'.length ≤ M.length) (hs : ∀ j, 0 < j → j < M'.length → spAt M' j = spAt M j) : DownBut lt M' 0 := by
  refine ⟨fun j j0 hj hne => ?_, fun j _ _ _ h0 => by omega⟩
  rw [hs j j0 hj, hs ((j - 1) / 2) (by omega) (by omega)]
  exact h j j0 (by omega)
theorem HeapOK.least (hO : Ord lt) (h : HeapOK lt M) : ∀ j, j < M.length → lt (spAt M j) (spAt M 0) = false := by
  intro j
  induction j using Nat.strongRecOn with
  | ind j ih =>
    intro hj
    by_cases h0 : j = 0
    · subst h0
      exact hO.irr _
    · exact hO.nt _ _ _ (h j (by omega) hj) (ih ((j - 1) / 2) (by omega) (by omega))
theorem HeapOK.nil : HeapOK lt [] := fun j _ h => by simp at h
end

end Go.Proofs.Ytajmnhnepoomjaa
