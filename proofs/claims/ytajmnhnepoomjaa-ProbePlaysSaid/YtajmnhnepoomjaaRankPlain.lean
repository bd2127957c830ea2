/- Plain maths of rank: the order's list is one; hits put together. -/
import Derived.Test.YtajmnhnepoomjaaRankSame
namespace Go.Proofs.Ytajmnhnepoomjaa
open Go.RowKit Go.Shelf Go.Sort Go.Lib

theorem leS_iff (x y : SpotT) : leS x y = true ↔ ltS y x = false := by
  show (!ltS y x) = true ↔ _
  cases ltS y x <;> simp
theorem leS_trans (x y z : SpotT) (h1 : leS x y = true) (h2 : leS y z = true) : leS x z = true := by
  rw [leS_iff] at *
  exact swoS.ntrans _ _ _ h2 h1
theorem leS_total (x y : SpotT) : (leS x y || leS y x) = true := by
  cases e : leS x y
  · have h1 : ltS y x = true := by
      have : (!ltS y x) = false := e
      simpa using this
    rw [Bool.false_or, leS_iff]
    cases e2 : ltS x y
    · rfl
    · have := swoS.trans _ _ _ e2 h1
      rw [swoS.irrefl] at this
      cases this
  · rfl
theorem leS_anti (x y : SpotT) (h1 : leS x y = true) (h2 : leS y x = true) : x = y := oneS x y ((leS_iff _ _).1 h2) ((leS_iff _ _).1 h1)

theorem sortS_perm (l : List SpotT) : (sortS l).Perm l := List.mergeSort_perm l _
theorem sortS_sorted (l : List SpotT) : (sortS l).Pairwise (fun x y => leS x y = true) := List.pairwise_mergeSort leS_trans leS_total l
/-- The list in order is one. -/
theorem sortS_eq {l L : List SpotT} (hp : L.Perm l) (hs : L.Pairwise (fun x y => leS x y = true)) : sortS l = L :=
  List.Perm.eq_of_pairwise (le := fun x y => leS x y = true) (fun a b _ _ h1 h2 => leS_anti a b h1 h2) (sortS_sorted l) hs ((sortS_perm l).trans hp.symm)

end Go.Proofs.Ytajmnhnepoomjaa
