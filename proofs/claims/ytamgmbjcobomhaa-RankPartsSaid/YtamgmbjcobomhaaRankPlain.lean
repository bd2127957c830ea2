/- Plain maths of rank: the order's list is one; hits put together. -/
import Derived.Test.YtamgmbjcobomhaaRankSame
namespace Go.Proofs.Ytamgmbjcobomhaa
open Go.RowKit Go.Shelf Go.Sort Go.Lib

theorem leS_iff (x y : SpotT) : leS x y = true ↔ ltS y x = false := by
  show (!ltS y x) = true ↔ _
  cases ltS y x <;> simp
theorem leS_trans (x y z : SpotT) (h1 : leS x y = true) (h2 : leS y z = true) : leS x z = true := by
  rw [leS_iff] at *
  exact swoS.ntrans _ _ _ h2 h1
theorem leS_total (x y : SpotT) : (leS x y || leS y x) = true := by
  cases e : leS x y
  · have h1 : ltS y x = true := by
      have : (!ltS y x) = false := e
      simpa using this
    rw [Bool.false_or, leS_iff]
    cases e2 : ltS x y
    · rfl
    · have := swoS.trans _ _ _ e2 h1
      rw [swoS.irrefl] at this
      cases this
  · rfl
theorem leS_anti (x y : SpotT) (h1 : leS x y = true) (h2 : leS y x = true) : x = y := oneS x y ((leS_iff _ _).1 h2) ((leS_iff _ _).1 h1)

theorem sortS_perm (l : List SpotT) : (sortS l).Perm l := List.mergeSort_perm l _
theorem sortS_sorted (l : List SpotT) : (sortS l).Pairwise (fun x y => leS x y = true) := List.pairwise_mergeSort leS_trans leS_total l
/-- The list in order is one. -/
theorem sortS_eq {l L : List SpotT} (hp : L.Perm l) (hs : L.Pairwise (fun x y => leS x y = true)) : sortS l = L :=
  List.Perm.eq_of_pairwise (le := fun x y => leS x y = true) (fun a b _ _ h1 h2 => leS_anti a b h1 h2) (sortS_sorted l) hs ((sortS_perm l).trans hp.symm)

theorem leH_iff (x y : HitT) : leH x y = true ↔ ltH y x = false := by
  show (!ltH y x) = true ↔ _
  cases ltH y x <;> simp
theorem leH_trans (x y z : HitT) (h1 : leH x y = true) (h2 : leH y z = true) : leH x z = true := by
  rw [leH_iff] at *
  exact swoH.ntrans _ _ _ h2 h1
theorem leH_total (x y : HitT) : (leH x y || leH y x) = true := by
  cases e : leH x y
  · have h1 : ltH y x = true := by
      have : (!ltH y x) = false := e
      simpa using this
    rw [Bool.false_or, leH_iff]
    cases e2 : ltH x y
    · rfl
    · have := swoH.trans _ _ _ e2 h1
      rw [swoH.irrefl] at this
      cases this
  · rfl
theorem leH_anti (x y : HitT) (h1 : leH x y = true) (h2 : leH y x = true) : x = y := oneH x y ((leH_iff _ _).1 h2) ((leH_iff _ _).1 h1)
theorem sortH_perm (l : List HitT) : (sortH l).Perm l := List.mergeSort_perm l _
theorem sortH_sorted (l : List HitT) : (sortH l).Pairwise (fun x y => leH x y = true) := List.pairwise_mergeSort leH_trans leH_total l
theorem sortH_eq {l L : List HitT} (hp : L.Perm l) (hs : L.Pairwise (fun x y => leH x y = true)) : sortH l = L :=
  List.Perm.eq_of_pairwise (le := fun x y => leH x y = true) (fun a b _ _ h1 h2 => leH_anti a b h1 h2) (sortH_sorted l) hs ((sortH_perm l).trans hp.symm)

abbrev Ls : List SpotT := [((1, 5), 3), ((1, 5), 4), ((1, 5), 4)]
abbrev Ms : List HitT := [(1, 5), (2, 9), (3, 2)]
theorem lit_sort : sortS [((1, 5), 4), ((1, 5), 3), ((1, 5), 4)] = Ls := sortS_eq (by decide +kernel) (by decide +kernel)
theorem lit_sorted : sortS Ls = Ls := sortS_eq (List.Perm.refl _) (by decide +kernel)
theorem lit_merge : mergeH [(1, 5), (3, 2)] [(1, 5), (2, 9)] = Ms := by
  have h : sortH [(1, 5), (3, 2), (1, 5), (2, 9)] = [(1, 5), (1, 5), (2, 9), (3, 2)] := sortH_eq (by decide +kernel) (by decide +kernel)
  show compact (sortH [(1, 5), (3, 2), (1, 5), (2, 9)]) = _
  rw [h]
  decide +kernel
theorem lit_rank : leastS Ls 1 = [((1, 5), 3)] ∧ leastS Ls (-1) = [] ∧ leastS Ls 9 = Ls ∧ riseH Ms = true ∧ riseH [(0, 0), (0, 0)] = false ∧
    ltS ((1, 5), 3) ((1, 5), 4) = true ∧ ltH (1, 5) (1, 5) = false := by
  unfold leastS
  rw [lit_sorted]
  decide +kernel

end Go.Proofs.Ytamgmbjcobomhaa
