/- In parts: plain maths of the least, and of hits put together. -/
import Derived.Test.YtajmnhnepoomjaaRefMerge
namespace Go.Proofs.Ytajmnhnepoomjaa
open Go.RowKit Go.Shelf Go.Sort Go.Lib

/-- The first ones of two lists laid together hang on the first ones of each alone. -/
theorem take_merge : ∀ (K m n : Nat) (s t : List SpotT), K ≤ m → K ≤ n → (List.merge s t leS).take K = (List.merge (s.take m) (t.take n) leS).take K
  | 0, _, _, _, _, _, _ => by simp
  | K + 1, m + 1, n + 1, [], t, _, hn => by
    simp only [List.take_nil, List.nil_merge, List.take_take]
    rw [Nat.min_eq_left (by omega)]
  | K + 1, m + 1, n + 1, a :: s, [], hm, _ => by
    simp only [List.take_nil, List.merge_right, List.take_take]
    rw [Nat.min_eq_left (by omega)]
  | K + 1, m + 1, n + 1, a :: s, b :: t, hm, hn => by
    rw [List.take_succ_cons, List.take_succ_cons, List.cons_merge_cons, List.cons_merge_cons]
    split
    · rw [List.take_succ_cons, List.take_succ_cons, take_merge K m (n + 1) s (b :: t) (by omega) (by omega), List.take_succ_cons]
    · rw [List.take_succ_cons, List.take_succ_cons, take_merge K (m + 1) n (a :: s) t (by omega) (by omega), List.take_succ_cons]
theorem sort_merge {x y s t : List SpotT} (hs : s.Perm x) (ht : t.Perm y) (h1 : s.Pairwise (fun x y => leS x y = true)) (h2 : t.Pairwise (fun x y => leS x y = true)) : sortS (x ++ y) = List.merge s t leS :=
  sortS_eq ((List.merge_perm_append leS).trans (hs.append ht)) (List.pairwise_merge leS_trans leS_total s t h1 h2)
theorem leastS_take (l : List SpotT) (k : Int) : leastS l k = (sortS l).take (max k 0).toNat := by
  unfold leastS firstN
  have hl := sortS_len l
  by_cases h : (max k 0).toNat ≤ l.length
  · congr 1
    omega
  · rw [List.take_of_length_le (by omega), List.take_of_length_le (by omega)]
/-- The least of two lists are the least of the least of each. -/
theorem least_parts (a b : List SpotT) (k : Int) : leastS (a ++ b) k = leastS (leastS a k ++ leastS b k) k := by
  rw [leastS_take, leastS_take (leastS a k ++ leastS b k), leastS_take a, leastS_take b]
  generalize (max k 0).toNat = K
  have sa := sortS_sorted a
  have sb := sortS_sorted b
  rw [sort_merge (sortS_perm a) (sortS_perm b) sa sb, sort_merge (List.Perm.refl _) (List.Perm.refl _) (sa.sublist (List.take_sublist _ _)) (sb.sublist (List.take_sublist _ _))]
  exact take_merge K K K _ _ (Nat.le_refl _) (Nat.le_refl _)

end Go.Proofs.Ytajmnhnepoomjaa
