/- Plain mathematics of means: sums by components, quotients rounded down; and arrays that lie in one block. -/
import Derived.Test.YtnfcmkmjahplpaaVecIter2
namespace Go.Proofs.Ytnfcmkmjahplpaa
open Go.RowKit Go.Shelf

/-- A list, some of its places turned by what stands there. -/
def updF {n : Nat} (g : Int → Nat → Int) (s : List Int) (pre : List (Pl n)) : List Int := pre.foldl (fun s x => s.set x.1 (g (cpt s x.1) x.1)) s
theorem updF_snoc {n : Nat} (g : Int → Nat → Int) (s : List Int) (pre : List (Pl n)) (x : Pl n) : updF g s (pre ++ [x]) = (updF g s pre).set x.1 (g (cpt (updF g s pre) x.1) x.1) := by
  simp [updF]
theorem updF_length {n : Nat} (g : Int → Nat → Int) (s : List Int) (pre : List (Pl n)) : (updF g s pre).length = s.length := by
  unfold updF
  induction pre generalizing s with
  | nil => rfl
  | cons x pre ih => rw [List.foldl_cons, ih, List.length_set]
theorem UpTo.unsnoc {n k : Nat} {pre : List (Pl n)} (h : UpTo (k + 1) pre) : ∃ (pre' : List (Pl n)) (hk : k < n), pre = pre' ++ [⟨k, hk⟩] ∧ UpTo k pre' := by
  rcases List.eq_nil_or_concat pre with rfl | ⟨pre', x, rfl⟩
  · have := h.len; simp at this
  · rw [List.concat_eq_append] at h ⊢
    rw [UpTo, List.map_append, List.range_succ] at h
    obtain ⟨h1, h2⟩ := List.append_inj' h rfl
    simp at h2
    obtain ⟨j, hj⟩ := x
    simp at h2
    subst h2
    exact ⟨pre', hj, rfl, h1⟩
theorem cpt_set (s : List Int) (i j : Nat) (z : Int) (hi : i < s.length) : cpt (s.set i z) j = if i = j then z else cpt s j := by
  rw [cpt, cpt, List.getD_eq_getElem?_getD, List.getD_eq_getElem?_getD, List.getElem?_set]
  by_cases e : i = j
  · subst e; rw [if_pos rfl, if_pos hi, if_pos rfl]; rfl
  · rw [if_neg e, if_neg e]
theorem updF_cpt {n : Nat} (g : Int → Nat → Int) (s : List Int) (pre : List (Pl n)) (k : Nat) (hU : UpTo k pre) (hs : n ≤ s.length) (i : Nat) : cpt (updF g s pre) i = if i < k then g (cpt s i) i else cpt s i := by
  induction k generalizing pre i with
  | zero =>
    have := hU.len
    obtain rfl : pre = [] := List.length_eq_zero_iff.1 this
    simp [updF]
  | succ k ih =>
    obtain ⟨pre', hk, rfl, hU'⟩ := hU.unsnoc
    rw [updF_snoc, cpt_set _ _ _ _ (by rw [updF_length]; show k < s.length; omega)]
    simp only [ih pre' hU']
    rw [if_neg (Nat.lt_irrefl k)]
    by_cases e : k = i
    · subst e; rw [if_pos rfl, if_pos (by omega)]
    · rw [if_neg e]
      by_cases e2 : i < k
      · rw [if_pos e2, if_pos (by omega)]
      · rw [if_neg e2, if_neg (by omega)]

/-- The sum of a component over some vectors, one after another, as 64 bits hold it. -/
def colS (rows : List (List Int)) (i : Nat) : Int := rows.foldl (fun s r => wrap64 (s + cpt r i)) 0
theorem colS_snoc (rows : List (List Int)) (r : List Int) (i : Nat) : colS (rows ++ [r]) i = wrap64 (colS rows i + cpt r i) := by simp [colS]
/-- The sums of all components. -/
def sumsL (n : Nat) (rows : List (List Int)) : List Int := (List.range n).map (colS rows)
theorem sumsL_length (n : Nat) (rows : List (List Int)) : (sumsL n rows).length = n := by simp [sumsL]
theorem sumsL_cpt (n : Nat) (rows : List (List Int)) (i : Nat) (h : i < n) : cpt (sumsL n rows) i = colS rows i := by
  rw [cpt, List.getD_eq_getElem?_getD, sumsL, List.getElem?_map, List.getElem?_range h]; rfl
theorem sumsL_zero (n : Nat) : sumsL n [] = List.replicate n 0 := by
  refine List.ext_getElem (by simp [sumsL]) fun k h1 h2 => ?_
  simp [sumsL, colS]
/-- Behind one vector more. -/
theorem sumsL_snoc {n : Nat} (rows : List (List Int)) (r : List Int) (hr : r.length = n) (pre : List (Pl r.length)) (hU : UpTo r.length pre) :
    updF (fun c i => wrap64 (c + cpt r i)) (sumsL n rows) pre = sumsL n (rows ++ [r]) := by
  subst hr
  refine cpt_eq (by rw [updF_length, sumsL_length, sumsL_length]) fun i hi => ?_
  rw [updF_length, sumsL_length] at hi
  rw [updF_cpt _ _ _ _ hU (by rw [sumsL_length]; exact Nat.le_refl _), if_pos hi, sumsL_cpt _ _ _ hi, sumsL_cpt _ _ _ hi, colS_snoc]

/-- The mean of so many vectors of n components. -/
def meanL (n : Nat) (rows : List (List Int)) : List Int := (List.range n).map fun i => wrap32 (colS rows i / (rows.length : Int))
theorem meanL_length (n : Nat) (rows : List (List Int)) : (meanL n rows).length = n := by simp [meanL]
theorem meanL_cpt (n : Nat) (rows : List (List Int)) (i : Nat) (h : i < n) : cpt (meanL n rows) i = wrap32 (colS rows i / (rows.length : Int)) := by
  rw [cpt, List.getD_eq_getElem?_getD, meanL, List.getElem?_map, List.getElem?_range h]; rfl
theorem meanL_upd (n : Nat) (rows : List (List Int)) (s : List Int) (hs : s = sumsL n rows) (pre : List (Pl s.length)) (hU : UpTo s.length pre) :
    updF (fun _ i => wrap32 (cpt s i / (rows.length : Int))) (List.replicate n 0) pre = meanL n rows := by
  have hl : s.length = n := by rw [hs, sumsL_length]
  refine cpt_eq (by rw [updF_length, meanL_length, List.length_replicate]) fun i hi => ?_
  rw [updF_length, List.length_replicate] at hi
  rw [updF_cpt _ _ _ _ hU (by rw [List.length_replicate, hl]; exact Nat.le_refl _), if_pos (by omega), meanL_cpt _ _ _ hi]
  have : cpt s i = colS rows i := by rw [hs]; exact sumsL_cpt _ _ _ hi
  rw [this]
theorem wrap32_bounds (z : Int) : -2147483648 ≤ wrap32 z ∧ wrap32 z ≤ 2147483647 := by unfold wrap32; omega
theorem meanL_all (n : Nat) (rows : List (List Int)) : ∀ z ∈ meanL n rows, -2147483648 ≤ z ∧ z ≤ 2147483647 := by
  intro z hz
  obtain ⟨i, _, rfl⟩ := List.mem_map.1 hz
  exact wrap32_bounds _
theorem wrap64_bounds (z : Int) : -9223372036854775808 ≤ wrap64 z ∧ wrap64 z ≤ 9223372036854775807 := by unfold wrap64; omega
theorem colS_bounds (rows : List (List Int)) (i : Nat) : -9223372036854775808 ≤ colS rows i ∧ colS rows i ≤ 9223372036854775807 := by
  rcases List.eq_nil_or_concat rows with rfl | ⟨r, x, rfl⟩
  · show -9223372036854775808 ≤ (0 : Int) ∧ (0 : Int) ≤ 9223372036854775807
    decide
  · rw [List.concat_eq_append, colS_snoc]; exact wrap64_bounds _

/-- A quotient, rounded down, as the language comes to it. -/
theorem floor_pos {n m : Int} (hm : 0 < m) (h : Int.tmod n m < 0) : n / m = Int.tdiv n m - 1 := by
  have h1 := Int.tmod_add_mul_tdiv n m
  have h2 := Int.tmod_lt_of_pos n hm
  have h3 : -m < Int.tmod n m := by
    have := Int.lt_tmod_of_pos n hm
    omega
  refine ((Int.ediv_emod_unique (a := n) (r := Int.tmod n m + m) (q := Int.tdiv n m - 1) hm).2 ⟨?_, by omega, by omega⟩).1
  rw [Int.mul_sub]; omega
theorem floor_nonneg {n m : Int} (hm : 0 < m) (h : 0 ≤ Int.tmod n m) : n / m = Int.tdiv n m := by
  have h1 := Int.tmod_add_mul_tdiv n m
  have h2 := Int.tmod_lt_of_pos n hm
  exact ((Int.ediv_emod_unique (a := n) (r := Int.tmod n m) (q := Int.tdiv n m) hm).2 ⟨h1, h, h2⟩).1

/-- Numbers lie in block b, from its beginning on, and may be written. -/
def Arr (f : Int → Value) (w : World) (b : Nat) (S : List Int) : Prop := ∀ j z, S[j]? = some z → w.cell? ⟨b, j, none⟩ = some (f z) ∧ w.frozen? ⟨b, j, none⟩ = false
theorem Arr.of_own {f : Int → Value} {w : World} {base b n c : Nat} {e : TypeId} {S : List Int} (h : w.ownsRow base e 1 (.slice (some ⟨b, 0, none⟩) n c) n (S.map f)) : Arr f w b S := by
  intro j z hj
  have hjl : j < S.length := (List.getElem?_eq_some_iff.1 hj).1
  have hl : S.length = n := by simpa using h.1
  refine ⟨?_, h.frozenAt j⟩
  rw [h.cellAt j (by omega), List.getElem?_map, hj]
  rfl
theorem Arr.store {f : Int → Value} {w : World} {b : Nat} {S : List Int} (h : Arr f w b S) (q : Nat) (z : Int) : Arr f (w.setCell ⟨b, q, none⟩ (f z)) b (S.set q z) := by
  intro j x hj
  rw [List.getElem?_set] at hj
  by_cases e : q = j
  · subst e
    rw [if_pos rfl] at hj
    by_cases hl : q < S.length
    · rw [if_pos hl] at hj
      injection hj with hj
      subst hj
      obtain ⟨h1, h2⟩ := h q _ (List.getElem?_eq_getElem hl)
      exact ⟨World.cell?_setCell_same _ _ _ h1, by simpa using h2⟩
    · rw [if_neg hl] at hj
      cases hj
  · rw [if_neg e] at hj
    obtain ⟨h1, h2⟩ := h j x hj
    exact ⟨(World.cell?_setCell_other _ _ _ _ (fun h => e (by cases h; rfl))).trans h1, by simpa using h2⟩
theorem Arr.below {f : Int → Value} {w w' : World} {B b : Nat} {S : List Int} (h : Arr f w b S) (hb : Below B w w') (hlt : b < B) : Arr f w' b S := fun j z hj => by
  obtain ⟨h1, h2⟩ := h j z hj
  have hcell := hb.cell (p := ⟨b, j, none⟩) hlt
  refine ⟨hcell.trans h1, ?_⟩
  rw [← h2]
  exact hb.frozen (p := ⟨b, j, none⟩) hlt
theorem Arr.rd {f : Int → Value} {w : World} {b B : Nat} {S : List Int} (h : Arr f w b S) (hb : b < B) : Rd f w B (some ⟨b, 0, none⟩) S := fun j z hj => ⟨b, 0, rfl, hb, by rw [Nat.zero_add]; exact (h j z hj).1⟩
theorem Arr.kept {f : Int → Value} {A B : World} {row : Option Nat} {b : Nat} {S : List Int} (h : Arr f A b S) (hg : A.grownBy B row) (hr : ∀ r, row = some r → ∃ o : Obj, A.heap[r]? = some o ∧ o.isCells = false) : Arr f B b S := fun j z hj => by
  obtain ⟨h1, h2⟩ := h j z hj
  exact ⟨cell_kept h1 hg hr, (frozen_kept h1 hg hr).trans h2⟩

end Go.Proofs.Ytnfcmkmjahplpaa
