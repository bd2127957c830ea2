/- Plain maths of exact: hits in order; how many are ahead of one, and how many are near enough. -/
import Derived.Test.YtajmnhnepoomjaaEdSpot
import Derived.Test.YtajmnhnepoomjaaRankPlain
namespace Go.Proofs.Ytajmnhnepoomjaa
open Go.RowKit Go.Shelf Go.Sort Go.Lib

def leH (x y : HitT) : Bool := !(ltOf cmpH) y x
def sortH (l : List HitT) : List HitT := l.mergeSort leH
theorem sortH_len (l : List HitT) : (sortH l).length = l.length := List.length_mergeSort l
theorem leH_iff (x y : HitT) : leH x y = true ↔ ltH y x = false := by
  show (!ltH y x) = true ↔ _
  cases ltH y x <;> simp
theorem leH_trans (x y z : HitT) (h1 : leH x y = true) (h2 : leH y z = true) : leH x z = true := by
  rw [leH_iff] at *
  exact swoH.ntrans _ _ _ h2 h1
theorem leH_total (x y : HitT) : (leH x y || leH y x) = true := by
  cases e : leH x y
  · have h1 : ltH y x = true := by
      have : (!ltH y x) = false := e
      simpa using this
    rw [Bool.false_or, leH_iff]
    cases e2 : ltH x y
    · rfl
    · have := swoH.trans _ _ _ e2 h1
      rw [swoH.irrefl] at this
      cases this
  · rfl
theorem leH_anti (x y : HitT) (h1 : leH x y = true) (h2 : leH y x = true) : x = y := oneH x y ((leH_iff _ _).1 h2) ((leH_iff _ _).1 h1)
theorem sortH_perm (l : List HitT) : (sortH l).Perm l := List.mergeSort_perm l _
theorem sortH_sorted (l : List HitT) : (sortH l).Pairwise (fun x y => leH x y = true) := List.pairwise_mergeSort leH_trans leH_total l
theorem sortH_eq {l L : List HitT} (hp : L.Perm l) (hs : L.Pairwise (fun x y => leH x y = true)) : sortH l = L :=
  List.Perm.eq_of_pairwise (le := fun x y => leH x y = true) (fun a b _ _ h1 h2 => leH_anti a b h1 h2) (sortH_sorted l) hs ((sortH_perm l).trans hp.symm)
theorem sortH_of_perm {l l' : List HitT} (hp : l.Perm l') : sortH l = sortH l' := sortH_eq ((sortH_perm l').trans hp.symm) (sortH_sorted l')
theorem sortH_filter (l : List HitT) (p : HitT → Bool) : sortH (l.filter p) = (sortH l).filter p :=
  sortH_eq ((sortH_perm l).filter p) ((sortH_sorted l).sublist List.filter_sublist)
theorem sortH_nil : sortH [] = [] := List.mergeSort_nil

/-- What holds of one holds of all ahead of it: just the first ones have it. -/
theorem count_first {α : Type} (p : α → Bool) : ∀ (L : List α), (∀ i j (hj : j < L.length) (hi : i < j), p L[j] = true → p (L[i]'(by omega)) = true) → ∀ i (h : i < L.length), (p L[i] = true ↔ i < L.countP p)
  | [], _ => fun i h => by simp at h
  | a :: L, hc => by
    have hc2 : ∀ i j (hj : j < L.length) (hi : i < j), p L[j] = true → p (L[i]'(by omega)) = true := fun i j hj hi h => hc (i + 1) (j + 1) (by simpa using hj) (by omega) (by simpa using h)
    have ih := count_first p L hc2
    by_cases ha : p a = true
    · intro i h
      rw [List.countP_cons_of_pos ha]
      match i, h with
      | 0, _ => simp [ha]
      | i + 1, h =>
        have := ih i (by simpa using h)
        simp only [List.getElem_cons_succ]
        rw [this]
        omega
    · have hz : ∀ x ∈ L, ¬ p x = true := fun x hx hp => by
        obtain ⟨j, hj, rfl⟩ := List.getElem_of_mem hx
        exact ha (hc 0 (j + 1) (by simpa using hj) (by omega) (by simpa using hp))
      intro i h
      rw [List.countP_cons_of_neg ha, List.countP_eq_zero.2 hz]
      match i, h with
      | 0, _ => simp [ha]
      | i + 1, h =>
        simp only [List.getElem_cons_succ]
        exact ⟨fun hp => absurd hp (hz _ (List.getElem_mem _)), fun h => by omega⟩
theorem filter_first {α : Type} (p : α → Bool) : ∀ (L : List α), (∀ i j (hj : j < L.length) (hi : i < j), p L[j] = true → p (L[i]'(by omega)) = true) → L.filter p = L.take (L.countP p)
  | [], _ => by simp
  | a :: L, hc => by
    have hc2 : ∀ i j (hj : j < L.length) (hi : i < j), p L[j] = true → p (L[i]'(by omega)) = true := fun i j hj hi h => hc (i + 1) (j + 1) (by simpa using hj) (by omega) (by simpa using h)
    have ih := filter_first p L hc2
    by_cases ha : p a = true
    · rw [List.filter_cons_of_pos ha, List.countP_cons_of_pos ha, List.take_succ_cons, ih]
    · have hz : ∀ x ∈ L, ¬ p x = true := fun x hx hp => by
        obtain ⟨j, hj, rfl⟩ := List.getElem_of_mem hx
        exact ha (hc 0 (j + 1) (by simpa using hj) (by omega) (by simpa using hp))
      rw [List.filter_cons_of_neg ha, List.countP_cons_of_neg ha, List.countP_eq_zero.2 hz, List.filter_eq_nil_iff.2 hz]
      simp

/-- An item's hit, and whether it counts. -/
def hitOf (q : List Int) (z : ItT) : HitT := (distI q z, z.id)
def tagsOk (m : Int) (z : ItT) : Bool := bits .and .u64 z.tags m == m
def hitsL (q : List Int) (m : Int) (its : List ItT) : List HitT := (its.filter (tagsOk m)).map (hitOf q)
theorem hitsL_le (q : List Int) (m : Int) (its : List ItT) : (hitsL q m its).length ≤ its.length := by
  unfold hitsL
  rw [List.length_map]
  exact List.length_filter_le _ _
def ordH (q : List Int) (m : Int) (its : List ItT) : List HitT := sortH (hitsL q m its)
def searchL (q : List Int) (m : Int) (its : List ItT) (k : Int) : List HitT := (ordH q m its).take k.toNat
def withinL (q : List Int) (m : Int) (its : List ItT) (most : Int) : List HitT := (ordH q m its).filter fun h => decide (h.1 ≤ most)
def placeN (q : List Int) (m : Int) (its : List ItT) (h : HitT) : Nat := (hitsL q m its).countP fun y => ltH y h
theorem ordH_len (q : List Int) (m : Int) (its : List ItT) : (ordH q m its).length ≤ its.length := by
  unfold ordH
  rw [sortH_len]
  exact hitsL_le q m its
theorem ordH_le (q : List Int) (m : Int) (its : List ItT) (i j : Nat) (hj : j < (ordH q m its).length) (hi : i < j) : ltH (ordH q m its)[j] ((ordH q m its)[i]'(by omega)) = false :=
  (leH_iff _ _).1 ((List.pairwise_iff_getElem.1 (sortH_sorted (hitsL q m its))) i j (by have h2 : j < (sortH (hitsL q m its)).length := hj; omega) hj hi)
theorem placeN_ord (q : List Int) (m : Int) (its : List ItT) (h : HitT) : placeN q m its h = (ordH q m its).countP fun y => ltH y h := ((sortH_perm (hitsL q m its)).countP_eq _).symm
theorem ahead_first (q : List Int) (m : Int) (its : List ItT) (x : HitT) : ∀ i (h : i < (ordH q m its).length), (ltH (ordH q m its)[i] x = true ↔ i < placeN q m its x) := by
  rw [placeN_ord]
  refine count_first (fun y => ltH y x) (ordH q m its) (fun i j hj hi h => ?_)
  have h2 := ordH_le q m its i j hj hi
  cases e : ltH ((ordH q m its)[i]'(by omega)) x
  · have := swoH.ntrans _ _ _ h2 e
    rw [show (ltOf cmpH) (ordH q m its)[j] x = ltH (ordH q m its)[j] x from rfl, h] at this
    cases this
  · rfl
theorem dist_first (q : List Int) (m : Int) (its : List ItT) (most : Int) (i j : Nat) (hj : j < (ordH q m its).length) (hi : i < j) (h : decide ((ordH q m its)[j].1 ≤ most) = true) : decide (((ordH q m its)[i]'(by omega)).1 ≤ most) = true := by
  have h2 := ordH_le q m its i j hj hi
  have h3 : ((ordH q m its)[i]'(by omega)).1 ≤ (ordH q m its)[j].1 := by
    cases e : decide ((ordH q m its)[j].1 < ((ordH q m its)[i]'(by omega)).1)
    · have := of_decide_eq_false e
      omega
    · have := (ltH_iff (ordH q m its)[j] ((ordH q m its)[i]'(by omega))).2 (.inl (of_decide_eq_true e))
      rw [this] at h2
      cases h2
  have := of_decide_eq_true h
  exact decide_eq_true (by omega)
/-- Those that are near enough are the first ones. -/
theorem withinL_take (q : List Int) (m : Int) (its : List ItT) (most : Int) : ∃ c, withinL q m its most = (ordH q m its).take c ∧ ∀ i (h : i < (ordH q m its).length), ((ordH q m its)[i].1 ≤ most ↔ i < c) := by
  refine ⟨(ordH q m its).countP fun h : HitT => decide (h.1 ≤ most), filter_first (fun h : HitT => decide (h.1 ≤ most)) _ (fun i j hj hi h => dist_first q m its most i j hj hi h), fun i h => ?_⟩
  have := count_first (fun h : HitT => decide (h.1 ≤ most)) (ordH q m its) (fun i j hj hi h => dist_first q m its most i j hj hi h) i h
  rw [← this]
  simp
theorem withinL_sort (q : List Int) (m : Int) (its : List ItT) (most : Int) : withinL q m its most = sortH ((hitsL q m its).filter fun h => decide (h.1 ≤ most)) := by
  rw [sortH_filter]
  rfl
/-- A hit's place: it stands no earlier than its like. -/
theorem place_at (q : List Int) (m : Int) (its : List ItT) (k : Nat) (hk : k < (ordH q m its).length) : placeN q m its (ordH q m its)[k] ≤ k := by
  by_cases h : placeN q m its (ordH q m its)[k] ≤ k
  · exact h
  · have := (ahead_first q m its (ordH q m its)[k] k hk).2 (by omega)
    have e : (ltOf cmpH) (ordH q m its)[k] (ordH q m its)[k] = true := this
    rw [swoH.irrefl] at e
    cases e
theorem place_same (q : List Int) (m : Int) (its : List ItT) (k j : Nat) (hk : k < (ordH q m its).length) (hp : placeN q m its (ordH q m its)[k] ≤ j) (hj : j ≤ k) : (ordH q m its)[j]'(by omega) = (ordH q m its)[k] := by
  rcases Nat.lt_or_ge j k with h | h
  · refine leH_anti _ _ ((leH_iff _ _).2 (ordH_le q m its j k hk h)) ((leH_iff _ _).2 ?_)
    cases e : ltH ((ordH q m its)[j]'(by omega)) (ordH q m its)[k]
    · rfl
    · have := (ahead_first q m its (ordH q m its)[k] j (by omega)).1 e
      omega
  · obtain rfl : j = k := by omega
    rfl

end Go.Proofs.Ytajmnhnepoomjaa
