/- Plain mathematics of vectors that are moved, and of the middle of two. -/
import Derived.Test.YtnfcmkmjahplpaaVecLives
namespace Go.Proofs.Ytnfcmkmjahplpaa
open Go.RowKit Go.Shelf

/-- A vector moved by another one, up to place k. -/
def movS (n : Nat) (a v : List Int) (k : Nat) : List Int := (List.range n).map fun i => if i < k then cpt a i + cpt v i else 0
theorem movS_length (n : Nat) (a v : List Int) (k : Nat) : (movS n a v k).length = n := by simp [movS]
theorem movS_zero (n : Nat) (a v : List Int) : movS n a v 0 = List.replicate n 0 := by
  refine List.ext_getElem (by simp [movS]) fun k h1 h2 => ?_
  simp [movS]
theorem movS_cpt (n : Nat) (a v : List Int) (k i : Nat) (h : i < n) : cpt (movS n a v k) i = if i < k then cpt a i + cpt v i else 0 := by
  rw [cpt, List.getD_eq_getElem?_getD, movS, List.getElem?_map, List.getElem?_range h]; rfl
theorem movS_succ (n : Nat) (a v : List Int) (k : Nat) (h : k < n) : (movS n a v k).set k (cpt a k + cpt v k) = movS n a v (k + 1) := by
  refine cpt_eq (by rw [List.length_set, movS_length, movS_length]) fun i hi => ?_
  rw [List.length_set, movS_length] at hi
  rw [cpt_set _ _ _ _ (by rw [movS_length]; exact h), movS_cpt _ _ _ _ _ hi, movS_cpt _ _ _ _ _ hi]
  by_cases e : k = i
  · subst e; rw [if_pos rfl, if_pos (by omega)]
  · rw [if_neg e]
    by_cases e2 : i < k
    · rw [if_pos e2, if_pos (by omega)]
    · rw [if_neg e2, if_neg (by omega)]
theorem movS_all {n k : Nat} {a v : List Int} (ha : ∀ i, -16777216 ≤ cpt a i ∧ cpt a i ≤ 16777216) (hv : ∀ i, -16777216 ≤ cpt v i ∧ cpt v i ≤ 16777216) : ∀ z ∈ movS n a v k, -2147483648 ≤ z ∧ z ≤ 2147483647 := by
  intro z hz
  obtain ⟨i, _, rfl⟩ := List.mem_map.1 hz
  have h1 := ha i
  have h2 := hv i
  split <;> omega
theorem moved_dist (n : Nat) (a b v : List Int) : distN (movS n a v n) (movS n b v n) n = distN a b n := by
  refine distN_congr _ _ _ _ n fun k hk => ?_
  rw [movS_cpt _ _ _ _ _ hk, movS_cpt _ _ _ _ _ hk, if_pos hk, if_pos hk]
  have : (sqZ (cpt a k + cpt v k) (cpt b k + cpt v k) : Int) = sqZ (cpt a k) (cpt b k) := by
    rw [sqZ_int, sqZ_int, show cpt a k + cpt v k - (cpt b k + cpt v k) = cpt a k - cpt b k from by omega]
  omega

theorem mid_sq (a b : Int) : sqZ ((a + b) / 2) a + sqZ ((a + b) / 2) b ≤ sqZ a b + 1 := by
  obtain ⟨m, hm⟩ : ∃ m, (a + b) / 2 = m := ⟨_, rfl⟩
  rw [hm]
  have e1 := sqZ_int m a
  have e2 := sqZ_int m b
  have e3 := sqZ_int a b
  obtain ⟨p, hp⟩ : ∃ p, m - a = p := ⟨_, rfl⟩
  obtain ⟨r, hr⟩ : ∃ r, m - b = r := ⟨_, rfl⟩
  have hpr : r = -p ∨ r = -1 - p := by omega
  have hd : a - b = r - p := by omega
  rw [hp] at e1
  rw [hr] at e2
  rw [hd] at e3
  have e4 : (r - p) * (r - p) = r * r + p * p - 2 * (p * r) := by
    rw [Int.sub_mul, Int.mul_sub, Int.mul_sub, Int.mul_comm r p]; omega
  have e5 : p * r ≤ 0 := by
    rcases hpr with h | h
    · have : 0 ≤ p * p := by
        rcases Int.le_total 0 p with h' | h'
        · exact Int.mul_nonneg h' h'
        · exact Int.mul_nonneg_of_nonpos_of_nonpos h' h'
      rw [h, Int.mul_neg]; omega
    · have h2 : 0 ≤ p * (p + 1) := by
        rcases Int.lt_or_le p 0 with h' | h'
        · exact Int.mul_nonneg_of_nonpos_of_nonpos (by omega) (by omega)
        · exact Int.mul_nonneg h' (by omega)
      rw [h, show (-1 - p : Int) = -(p + 1) from by omega, Int.mul_neg]; omega
  rw [e4] at e3
  generalize p * r = x at *
  generalize p * p = y at *
  generalize r * r = z at *
  omega

theorem mean2_cpt {n : Nat} {a b : List Int} (ha : ∀ i, -16777216 ≤ cpt a i ∧ cpt a i ≤ 16777216) (hb : ∀ i, -16777216 ≤ cpt b i ∧ cpt b i ≤ 16777216) (i : Nat) (h : i < n) : cpt (meanL n [a, b]) i = (cpt a i + cpt b i) / 2 := by
  have h1 := ha i
  have h2 := hb i
  rw [meanL_cpt _ _ _ h]
  have e : colS [a, b] i = cpt a i + cpt b i := by
    show wrap64 (wrap64 (0 + cpt a i) + cpt b i) = _
    unfold wrap64; omega
  rw [e]
  show wrap32 ((cpt a i + cpt b i) / 2) = _
  unfold wrap32; omega
theorem mean2_dist (n : Nat) (a b : List Int) (ha : ∀ i, -16777216 ≤ cpt a i ∧ cpt a i ≤ 16777216) (hb : ∀ i, -16777216 ≤ cpt b i ∧ cpt b i ≤ 16777216) (k : Nat) (hk : k ≤ n) : distN (meanL n [a, b]) a k + distN (meanL n [a, b]) b k ≤ distN a b k + k := by
  induction k with
  | zero => exact Nat.le_refl _
  | succ k ih =>
    have := ih (by omega)
    rw [distN, distN, distN, mean2_cpt ha hb k (by omega)]
    have := mid_sq (cpt a k) (cpt b k)
    omega

/-- The numbers of the law. -/
theorem moved_nums (a b v : List Int) (h1 : okV a a.length) (h2 : okV b a.length) (_ : okV v a.length) :
    ∃ q qa qb : Nat, satN (distN a b (max a.length a.length)) = q ∧ satN (distN (movS a.length a v a.length) (movS a.length b v a.length) (max a.length a.length)) = q ∧
      satN (distN (meanL a.length [a, b]) a (max a.length a.length)) = qa ∧ satN (distN (meanL a.length [a, b]) b (max a.length a.length)) = qb ∧
      decide (IntKind.u64.wrap ((qa : Int) + (qb : Int)) ≤ IntKind.u64.wrap ((q : Int) + (a.length : Int))) = true := by
  have hn : a.length ≤ 4096 := by have := h1.2.1; omega
  have d1 := ok_dist h1 h2 a.length hn
  have d2 := mean2_dist a.length a b (ok_bounds h1) (ok_bounds h2) a.length (Nat.le_refl _)
  rw [Nat.max_self, moved_dist, sat_small (n := distN a b a.length) (by omega), sat_small (n := distN (meanL a.length [a, b]) a a.length) (by omega), sat_small (n := distN (meanL a.length [a, b]) b a.length) (by omega)]
  refine ⟨_, _, _, rfl, rfl, rfl, rfl, ?_⟩
  rw [IntKind.wrap_u64, IntKind.wrap_u64, decide_eq_true_iff]
  omega

end Go.Proofs.Ytnfcmkmjahplpaa
