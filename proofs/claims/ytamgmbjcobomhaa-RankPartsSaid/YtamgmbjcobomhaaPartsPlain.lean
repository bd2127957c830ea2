/- In parts: plain maths of the least, and of hits put together. -/
import Derived.Test.YtamgmbjcobomhaaRefMerge
namespace Go.Proofs.Ytamgmbjcobomhaa
open Go.RowKit Go.Shelf Go.Sort Go.Lib

/-- The first ones of two lists laid together hang on the first ones of each alone. -/
theorem take_merge : ∀ (K m n : Nat) (s t : List SpotT), K ≤ m → K ≤ n → (List.merge s t leS).take K = (List.merge (s.take m) (t.take n) leS).take K
  | 0, _, _, _, _, _, _ => by simp
  | K + 1, m + 1, n + 1, [], t, _, hn => by
    simp only [List.take_nil, List.nil_merge, List.take_take]
    rw [Nat.min_eq_left (by omega)]
  | K + 1, m + 1, n + 1, a :: s, [], hm, _ => by
    simp only [List.take_nil, List.merge_right, List.take_take]
    rw [Nat.min_eq_left (by omega)]
  | K + 1, m + 1, n + 1, a :: s, b :: t, hm, hn => by
    rw [List.take_succ_cons, List.take_succ_cons, List.cons_merge_cons, List.cons_merge_cons]
    split
    · rw [List.take_succ_cons, List.take_succ_cons, take_merge K m (n + 1) s (b :: t) (by omega) (by omega), List.take_succ_cons]
    · rw [List.take_succ_cons, List.take_succ_cons, take_merge K (m + 1) n (a :: s) t (by omega) (by omega), List.take_succ_cons]
theorem sort_merge {x y s t : List SpotT} (hs : s.Perm x) (ht : t.Perm y) (h1 : s.Pairwise (fun x y => leS x y = true)) (h2 : t.Pairwise (fun x y => leS x y = true)) : sortS (x ++ y) = List.merge s t leS :=
  sortS_eq ((List.merge_perm_append leS).trans (hs.append ht)) (List.pairwise_merge leS_trans leS_total s t h1 h2)
theorem leastS_take (l : List SpotT) (k : Int) : leastS l k = (sortS l).take (max k 0).toNat := by
  unfold leastS firstN
  have hl := sortS_len l
  by_cases h : (max k 0).toNat ≤ l.length
  · congr 1
    omega
  · rw [List.take_of_length_le (by omega), List.take_of_length_le (by omega)]
/-- The least of two lists are the least of the least of each. -/
theorem least_parts (a b : List SpotT) (k : Int) : leastS (a ++ b) k = leastS (leastS a k ++ leastS b k) k := by
  rw [leastS_take, leastS_take (leastS a k ++ leastS b k), leastS_take a, leastS_take b]
  generalize (max k 0).toNat = K
  have sa := sortS_sorted a
  have sb := sortS_sorted b
  rw [sort_merge (sortS_perm a) (sortS_perm b) sa sb, sort_merge (List.Perm.refl _) (List.Perm.refl _) (sa.sublist (List.take_sublist _ _)) (sb.sublist (List.take_sublist _ _))]
  exact take_merge K K K _ _ (Nat.le_refl _) (Nat.le_refl _)

theorem mrg_mem (L : List SpotT) : ∀ k, k ≤ L.length → ∀ h, h ∈ mrg L k ↔ ∃ j, j < k ∧ (spAt L j).1 = h
  | 0, _, h => by simp [mrg_zero]
  | 1, hk, h => by
    rw [mrg_one L hk]
    simp only [List.mem_singleton]
    constructor
    · rintro rfl; exact ⟨0, by omega, rfl⟩
    · rintro ⟨j, hj, rfl⟩
      have : j = 0 := by omega
      rw [this]
  | k + 1 + 1, hk, h => by
    have ih := mrg_mem L (k + 1) (by omega) h
    by_cases e : (spAt L (k + 1)).1 = (spAt L k).1
    · rw [mrg_same L k (by omega) e, ih]
      constructor
      · rintro ⟨j, hj, hh⟩; exact ⟨j, by omega, hh⟩
      · rintro ⟨j, hj, hh⟩
        by_cases hjk : j = k + 1
        · subst hjk; exact ⟨k, by omega, e ▸ hh⟩
        · exact ⟨j, by omega, hh⟩
    · rw [mrg_more L k (by omega) e, List.mem_append, ih, List.mem_singleton]
      constructor
      · rintro (⟨j, hj, hh⟩ | rfl)
        · exact ⟨j, by omega, hh⟩
        · exact ⟨k + 1, by omega, rfl⟩
      · rintro ⟨j, hj, hh⟩
        by_cases hjk : j = k + 1
        · subst hjk; exact .inr hh.symm
        · exact .inl ⟨j, by omega, hh⟩
theorem merge_mem (xs ys : List HitT) (h : HitT) : h ∈ mergeH xs ys ↔ h ∈ xs ++ ys := by
  rw [← mrg_all, mrg_mem _ _ (Nat.le_refl _)]
  have hp : ∀ z, z ∈ sortS ((xs ++ ys).map up) ↔ z ∈ (xs ++ ys).map up := fun z => (sortS_perm ((xs ++ ys).map up)).mem_iff
  constructor
  · rintro ⟨j, hj, rfl⟩
    have hm : spAt (sortS ((xs ++ ys).map up)) j ∈ sortS ((xs ++ ys).map up) := by rw [spAt_get hj]; exact List.getElem_mem hj
    obtain ⟨z, hz, he⟩ := List.mem_map.1 ((hp _).1 hm)
    rw [← he]
    exact hz
  · intro hm
    have hm2 : up h ∈ sortS ((xs ++ ys).map up) := (hp _).2 (List.mem_map.2 ⟨h, hm, rfl⟩)
    obtain ⟨j, hj, he⟩ := List.mem_iff_getElem.1 hm2
    exact ⟨j, hj, by rw [spAt_get hj, he]; rfl⟩
theorem ltH_of_leH {x y z : HitT} (h1 : leH x y = true) (h2 : ltH y z = true) : ltH x z = true := by
  rw [leH_iff] at h1
  have a1 : ¬ ltH y x = true := by rw [h1]; decide
  rw [ltH_iff] at a1
  have a2 := (ltH_iff y z).1 h2
  exact (ltH_iff x z).2 (by omega)
theorem leH_fst {x y : SpotT} (h : leS x y = true) : leH x.1 y.1 = true := by
  rw [leS_iff] at h
  rw [leH_iff]
  cases e : ltH y.1 x.1
  · rfl
  · have h1 := (ltH_iff _ _).1 e
    have h2 : ltS y x = true := (ltS_iff y x).2 (by omega)
    rw [h] at h2
    cases h2
theorem ltH_of_ne {x y : HitT} (h1 : leH x y = true) (h2 : ¬ y = x) : ltH x y = true := by
  cases e : ltH x y
  · rw [leH_iff] at h1
    exact absurd (oneH x y e h1).symm h2
  · rfl
theorem mrg_rise {L : List SpotT} (hs : L.Pairwise (fun x y => leS x y = true)) : ∀ k, k ≤ L.length → (mrg L k).Pairwise (fun x y => ltH x y = true)
  | 0, _ => by rw [mrg_zero]; exact List.Pairwise.nil
  | 1, hk => by rw [mrg_one L hk]; simp
  | k + 1 + 1, hk => by
    have ih := mrg_rise hs (k + 1) (by omega)
    by_cases e : (spAt L (k + 1)).1 = (spAt L k).1
    · rw [mrg_same L k (by omega) e]; exact ih
    · rw [mrg_more L k (by omega) e, List.pairwise_append]
      refine ⟨ih, by simp, fun h hh y hy => ?_⟩
      simp at hy
      subst hy
      obtain ⟨j, hj, rfl⟩ := (mrg_mem L (k + 1) (by omega) h).1 hh
      have le : ∀ p q, p < q → q < L.length → leS (spAt L p) (spAt L q) = true := fun p q h1 h2 => by
        rw [spAt_get h2, spAt_get (by omega)]
        exact List.pairwise_iff_getElem.1 hs p q (by omega) h2 h1
      have h1 : ltH (spAt L k).1 (spAt L (k + 1)).1 = true := ltH_of_ne (leH_fst (le k (k + 1) (by omega) (by omega))) e
      by_cases hjk : j = k
      · subst hjk; exact h1
      · exact ltH_of_leH (leH_fst (le j k (by omega) (by omega))) h1
theorem rise_of {zs : List HitT} (h : zs.Pairwise (fun x y => ltH x y = true)) : ∀ m k, k + m + 1 ≤ zs.length → riseFrom zs m k = true
  | 0, _, _ => rfl
  | m + 1, k, hk => by
    rw [riseFrom, rise_of h m (k + 1) (by omega), Bool.and_true, List.getD_eq_getElem?_getD, List.getD_eq_getElem?_getD, List.getElem?_eq_getElem (by omega : k < zs.length), List.getElem?_eq_getElem (by omega : k + 1 < zs.length)]
    exact List.pairwise_iff_getElem.1 h k (k + 1) (by omega) (by omega) (by omega)
theorem merge_rise (xs ys : List HitT) : riseH (mergeH xs ys) = true := by
  have h := mrg_rise (sortS_sorted ((xs ++ ys).map up)) _ (Nat.le_refl _)
  rw [mrg_all] at h
  unfold riseH
  by_cases h0 : (mergeH xs ys).length = 0
  · rw [h0]; rfl
  · exact rise_of h _ _ (by omega)
theorem merge_comm (xs ys : List HitT) : mergeH xs ys = mergeH ys xs := by
  unfold mergeH
  rw [sortH_eq ((sortH_perm (ys ++ xs)).trans List.perm_append_comm) (sortH_sorted (ys ++ xs))]
theorem merge_len (xs ys : List HitT) : (mergeH xs ys).length ≤ xs.length + ys.length := by
  rw [← mrg_all]
  have h1 := mrg_len (sortS ((xs ++ ys).map up)) (sortS ((xs ++ ys).map up)).length
  have h2 := sortS_len ((xs ++ ys).map up)
  rw [List.length_map, List.length_append] at h2
  omega
theorem leastS_len (l : List SpotT) (k : Int) : (leastS l k).length ≤ l.length := by
  unfold leastS
  rw [List.length_take, sortS_len]
  omega

end Go.Proofs.Ytamgmbjcobomhaa
