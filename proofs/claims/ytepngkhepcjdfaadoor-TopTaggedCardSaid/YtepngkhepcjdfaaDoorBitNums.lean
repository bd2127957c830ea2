/- Plain: the numbers of a set of words, rising, up to a bound. -/
import Derived.Test.YtepngkhepcjdfaaDoorBitTz
namespace Go.Proofs.YtepngkhepcjdfaaDoor
open Go.RowKit

theorem has_range {zs : List Int} {m : Int} (h : hasB zs m = true) : 0 ≤ m ∧ m < 4096 := by
  unfold hasB at h
  simp only [Bool.and_eq_true, decide_eq_true_eq] at h
  exact h.1

theorem has_at (zs : List Int) (i j X : Nat) (hi : i < 64) (hj : j < 64) (hX : zs.getD i 0 = (X : Int)) : hasB zs ((i : Int) * 64 + (j : Int)) = decide (X / 2 ^ j % 2 = 1) := by
  unfold hasB
  rw [decide_eq_true (by omega : (0 : Int) ≤ (i : Int) * 64 + (j : Int)), decide_eq_true (by omega : (i : Int) * 64 + (j : Int) < 4096), show (((i : Int) * 64 + (j : Int)) / 64).toNat = i from by omega,
    show (((i : Int) * 64 + (j : Int)) % 64).toNat = j from by omega, hX, pow_cast, ← Int.natCast_ediv]
  have h2 : X / 2 ^ j % 2 < 2 := Nat.mod_lt _ (by decide)
  generalize X / 2 ^ j = q at *
  by_cases h : q % 2 = 1
  · rw [decide_eq_true h]
    have : ((q : Int) % 2 == 1) = true := by rw [beq_iff_eq]; omega
    simp [this]
  · rw [decide_eq_false h]
    have : ((q : Int) % 2 == 1) = false := by rw [beq_eq_false_iff_ne]; omega
    simp [this]

theorem has_past (zs : List Int) (m : Int) (h : ((zs.take 64).length : Int) * 64 ≤ m) : hasB zs m = false := by
  rw [List.length_take] at h
  unfold hasB
  by_cases h4 : m < 4096
  · by_cases h0 : 0 ≤ m
    · have : zs.getD (m / 64).toNat 0 = 0 := by rw [List.getD_eq_getElem?_getD, List.getElem?_eq_none (by omega)]; rfl
      rw [this]
      simp
    · simp [h0]
  · simp [h4]

/-- L has, rising, the numbers below b that are in the words. -/
def Part (zs : List Int) (b : Int) (L : List Int) : Prop := L.Pairwise (· < ·) ∧ ∀ m, m ∈ L ↔ (hasB zs m = true ∧ m < b)

theorem Part.start (zs : List Int) : Part zs 0 [] := ⟨List.Pairwise.nil, fun m => by
  constructor
  · intro h; cases h
  · rintro ⟨h, hm⟩; have := has_range h; omega⟩

theorem Part.step {zs L : List Int} {b m : Int} (h : Part zs b L) (hb : b ≤ m) (hm : hasB zs m = true) (hno : ∀ j, b ≤ j → j < m → hasB zs j = false) : Part zs (m + 1) (L ++ [m]) := by
  refine ⟨?_, fun j => ?_⟩
  · rw [List.pairwise_append]
    refine ⟨h.1, List.pairwise_singleton _ _, fun a ha c hc => ?_⟩
    have h1 := (h.2 a).1 ha
    have h2 := List.mem_singleton.1 hc
    omega
  · rw [List.mem_append, List.mem_singleton, h.2 j]
    constructor
    · rintro (⟨h1, h2⟩ | rfl)
      · exact ⟨h1, by omega⟩
      · exact ⟨hm, by omega⟩
    · rintro ⟨h1, h2⟩
      rcases Int.lt_or_le j b with h3 | h3
      · exact .inl ⟨h1, h3⟩
      · rcases Int.lt_or_le j m with h4 | h4
        · rw [hno j h3 h4] at h1; cases h1
        · exact .inr (by omega)

theorem Part.skip {zs L : List Int} {b b' : Int} (h : Part zs b L) (hb : b ≤ b') (hno : ∀ j, b ≤ j → j < b' → hasB zs j = false) : Part zs b' L := by
  refine ⟨h.1, fun j => ?_⟩
  rw [h.2 j]
  constructor
  · rintro ⟨h1, h2⟩; exact ⟨h1, by omega⟩
  · rintro ⟨h1, h2⟩
    rcases Int.lt_or_le j b with h3 | h3
    · exact ⟨h1, h3⟩
    · rw [hno j h3 h2] at h1; cases h1

/-- Rising whole numbers from a on, below c, are at most c - a. -/
theorem rising_len (L : List Int) (a c : Int) (h : L.Pairwise (· < ·)) (hr : ∀ m ∈ L, a ≤ m ∧ m < c) : (L.length : Int) ≤ max (c - a) 0 := by
  induction L generalizing a with
  | nil => simp; omega
  | cons m r ih =>
    rw [List.pairwise_cons] at h
    have hm := hr m (List.mem_cons_self ..)
    have := ih (m + 1) h.2 (fun j hj => ⟨by have := h.1 j hj; omega, (hr j (List.mem_cons_of_mem _ hj)).2⟩)
    simp only [List.length_cons]
    omega

theorem Part.len {zs L : List Int} {b : Int} (h : Part zs b L) : L.length ≤ 4096 := by
  have := rising_len L 0 4096 h.1 (fun m hm => has_range ((h.2 m).1 hm).1)
  omega

theorem rising_eq (L M : List Int) (h : L.Pairwise (· < ·)) (h' : M.Pairwise (· < ·)) (hm : ∀ j, j ∈ L ↔ j ∈ M) : L = M := by
  induction L generalizing M with
  | nil =>
    cases M with
    | nil => rfl
    | cons m r => have := (hm m).2 (List.mem_cons_self ..); cases this
  | cons l r ih =>
    cases M with
    | nil => have := (hm l).1 (List.mem_cons_self ..); cases this
    | cons m s =>
      rw [List.pairwise_cons] at h h'
      have e : l = m := by
        rcases List.mem_cons.1 ((hm l).1 (List.mem_cons_self ..)) with h1 | h1
        · exact h1
        · rcases List.mem_cons.1 ((hm m).2 (List.mem_cons_self ..)) with h2 | h2
          · exact h2.symm
          · have a := h'.1 l h1
            have b := h.1 m h2
            omega
      subst e
      rw [ih s h.2 h'.2 (fun j => ?_)]
      have hj := hm j
      rw [List.mem_cons, List.mem_cons] at hj
      constructor
      · intro hj1
        rcases hj.1 (.inr hj1) with e | e
        · have := h.1 j hj1; omega
        · exact e
      · intro hj1
        rcases hj.2 (.inr hj1) with e | e
        · have := h'.1 j hj1; omega
        · exact e

theorem Part.uniq {zs L M : List Int} {b : Int} (h : Part zs b L) (h' : Part zs b M) : L = M := rising_eq L M h.1 h'.1 (fun j => (h.2 j).trans (h'.2 j).symm)

/-- The numbers of the words, all of them. -/
def Nums (zs L : List Int) : Prop := L.Pairwise (· < ·) ∧ ∀ m, m ∈ L ↔ hasB zs m = true
theorem Part.all {zs L : List Int} {b : Int} (h : Part zs b L) (hb : ((zs.take 64).length : Int) * 64 ≤ b) : Nums zs L := by
  refine ⟨h.1, fun m => ?_⟩
  rw [h.2 m]
  constructor
  · exact fun h1 => h1.1
  · intro h1
    refine ⟨h1, ?_⟩
    rcases Int.lt_or_le m b with h2 | h2
    · exact h2
    · rw [has_past zs m (by omega)] at h1; cases h1
theorem Nums.uniq {zs L M : List Int} (h : Nums zs L) (h' : Nums zs M) : L = M := rising_eq L M h.1 h'.1 (fun j => (h.2 j).trans (h'.2 j).symm)
theorem Nums.len {zs L : List Int} (h : Nums zs L) : L.length ≤ 4096 := by
  have := rising_len L 0 4096 h.1 (fun m hm => has_range ((h.2 m).1 hm))
  omega

end Go.Proofs.YtepngkhepcjdfaaDoor
