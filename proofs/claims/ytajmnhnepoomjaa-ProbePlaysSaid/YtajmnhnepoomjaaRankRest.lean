/- rank.Merge, Least, Rising by contract. -/
import Derived.Test.YtajmnhnepoomjaaRankSort
import Derived.Shelf.SlSortCmp.QuietGrown
import Derived.Handy
namespace Go.Proofs.Ytajmnhnepoomjaa
open Go.RowKit Go.Shelf Go.Sort Go.Lib

/-- How many of n are the first k. -/
def firstN (k : Int) (n : Nat) : Nat := (min (max k 0) (n : Int)).toNat
def leastS (l : List SpotT) (k : Int) : List SpotT := (sortS l).take (firstN k l.length)

set_option maxHeartbeats 1000000 in
theorem Least_any (A : Option Addr) (zs : List SpotT) (ca : Nat) (k : Int) (hl : zs.length ≤ 1000000) (w : World) (hA : RdS w w.heap.size A zs) :
    Calls Try.prog 33 #[.slice A zs.length ca, .int .i64 k] w (SpotsOut (leastS zs k) w) := by
  go_enter Try.func33, Try.ntmps33
  go_wp2_with fail
  refine (Sort_any A zs ca (by omega) _ hA).mono ?_
  rintro e w1 ⟨A1, c1, rfl, hr, hc, hm, hb⟩
  rw [sortS_len] at hc ⊢
  have hn := sortS_len zs
  have hf : firstN k zs.length ≤ zs.length := by unfold firstN; omega
  have HL : Hid ((leastS zs k).length = firstN k zs.length) := by rw [Hid, leastS, List.length_take, hn]; omega
  have HT : Hid (RdS w1 w1.heap.size A1 (leastS zs k)) := fun j z hj => by
    rw [leastS, List.getElem?_take] at hj
    split at hj
    · exact hr j z hj
    · cases hj
  have hci : ((zs.length : Nat) : Int) ≤ (c1 : Int) := by omega
  clear hr hn
  go_wp2
  go_ret
  exact ⟨A1, c1, by rw [HL.out]; rfl, HT.out, by rw [HL.out]; omega, hm, hb⟩

end Go.Proofs.Ytajmnhnepoomjaa
