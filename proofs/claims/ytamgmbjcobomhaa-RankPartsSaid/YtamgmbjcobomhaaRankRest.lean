/- rank.Merge, Least, Rising by contract. -/
import Derived.Test.YtamgmbjcobomhaaRankCompact
import Derived.Shelf.SlSortCmp.QuietGrown
import Derived.Handy
namespace Go.Proofs.Ytamgmbjcobomhaa
open Go.RowKit Go.Shelf Go.Sort Go.Lib

/-- Hits that a call leaves, in memory of its own. -/
def HitsOut (L : List HitT) (w : World) (e : Ending) (w' : World) : Prop :=
  ∃ A c, e = .returned (.slice A L.length c) ∧ RdH w' w'.heap.size A L ∧ Below w.heap.size w w'
/-- The hits of two lists in order, each one once. -/
def mergeH (xs ys : List HitT) : List HitT := compact (sortH (xs ++ ys))

theorem Compact_none (A : Option Addr) (cap : Nat) (w : World) :
    Calls Try.prog 69 #[.slice A 0 cap] w fun e w' => e = .returned (.slice A 0 cap) ∧ w = w' := by
  go_enter Try.func69, Try.ntmps69
  go_wp2
  go_ret
  exact ⟨rfl, rfl⟩

set_option maxHeartbeats 1000000 in
theorem Merge_any (A B : Option Addr) (xs ys : List HitT) (ca cb : Nat) (w : World) (hA : RdH w w.heap.size A xs) (hB : RdH w w.heap.size B ys) (hx : xs.length ≤ 100000) (hy : ys.length ≤ 100000) (hcA : A = none → ca = 0) (hcB : B = none → cb = 0) :
    Calls Try.prog 19 #[.slice A xs.length ca, .slice B ys.length cb] w (HitsOut (mergeH xs ys) w) := by
  have hb0 : Below w.heap.size w (w.alloc (.cells #[.slice A xs.length ca, .slice B ys.length cb] 23)) := (Below.refl _ w).alloc (Nat.le_refl _) _
  have HC := Lib.hid (Concat_any A B xs ys ca cb w.heap.size (w.alloc (.cells #[.slice A xs.length ca, .slice B ys.length cb] 23)) ((hA.below hb0).more (by simp)) ((hB.below hb0).more (by simp)) hx hy hcA hcB (by simp) (by go_cell) (by go_cell))
  go_enter Try.func19, Try.ntmps19
  go_wp2_with fail
  refine HC.out.mono ?_
  rintro e w1 ⟨⟨v, rfl, hown⟩, hb⟩
  have hb1 : Below w.heap.size w w1 := hb0.trans (hb.mono (by simp))
  have hsz1 : w.heap.size + 1 ≤ w1.heap.size := by have := hb.size; simpa using this
  rw [← List.length_append] at hown
  have hl : (xs ++ ys).length ≤ 200000 := by rw [List.length_append]; omega
  have HM : Hid (mergeH xs ys = compact (sortH (xs ++ ys))) := rfl
  generalize xs ++ ys = zs at *
  obtain ⟨A1, c1, rfl, hc1, hm1⟩ := ownSlice hown
  by_cases h0 : zs.length = 0
  · obtain rfl := List.eq_nil_of_length_eq_zero h0
    have HM2 : Hid (mergeH xs ys = []) := by rw [Hid, HM.out, show sortH [] = [] from List.mergeSort_nil]; rfl
    go_wp2_with fail
    refine (SortHits_none _ _ _ _).mono ?_
    rintro e w2 ⟨rfl, rfl⟩
    go_wp2_with fail
    refine (Compact_none _ _ _).mono ?_
    rintro e w2 ⟨rfl, rfl⟩
    go_wp2
    go_ret
    exact ⟨A1, c1, by rw [HM2.out]; rfl, by rw [HM2.out]; exact RdH.nil, hb1⟩
  · obtain ⟨g, rfl, hg, hgw⟩ := ownPos hown (by omega)
    have hgb : w.heap.size ≤ g := by simp at hg; omega
    have hH := holds_ownH hown rfl
    have hS := SortHits_any g 0 c1 zs.toArray w1 hH hgw (by simp; omega)
    rw [show zs.toArray.size = zs.length by simp] at hS
    have HS := Lib.hid hS
    have HH := Lib.hid hH
    clear hS hH hown
    go_wp2_with fail
    refine HS.out.mono ?_
    rintro e w2 ⟨rfl, n, os, hw2⟩
    have hK : HoldsK encH 2 w2 g 0 (sortH zs).toArray := by
      rw [hw2]
      exact holdsK_sortWorldK_c encH 2 w1 g 0 zs.toArray _ n os HH.out hgw (by simp [sortH_len])
    have hb2 : Below w.heap.size w1 w2 := by rw [hw2]; exact sortWorldH_below hgb hgw
    have hgw2 : g < w2.heap.size := Nat.lt_of_lt_of_le hgw hb2.size
    clear hw2 HS HH
    have hCp := Compact_any g c1 (sortH zs).toArray w2 (M2.of_holds hK) hgw2 (by simp [sortH_len]; omega) (by simp [sortH_len]; exact hc1) hm1
    rw [show (sortH zs).toArray.size = zs.length by simp [sortH_len]] at hCp
    have HCp := Lib.hid hCp
    clear hCp hK
    go_wp2_with fail
    refine HCp.out.mono ?_
    rintro e w3 ⟨rfl, hr, hb3⟩
    have hm : mergeH xs ys = compactUpTo (sortH zs).toArray zs.length := by
      rw [HM.out]; unfold compact; rw [sortH_len]
    have HMm := Lib.hid hm
    rw [← hm] at hr ⊢
    clear hm HCp
    go_wp2
    go_ret
    exact ⟨some ⟨g, 0, none⟩, c1, rfl, hr, (hb1.trans hb2).trans (hb3.mono hgb)⟩

/-- How many of n are the first k. -/
def firstN (k : Int) (n : Nat) : Nat := (min (max k 0) (n : Int)).toNat
def leastS (l : List SpotT) (k : Int) : List SpotT := (sortS l).take (firstN k l.length)

set_option maxHeartbeats 1000000 in
theorem Least_any (A : Option Addr) (zs : List SpotT) (ca : Nat) (k : Int) (hl : zs.length ≤ 1000000) (w : World) (hA : RdS w w.heap.size A zs) :
    Calls Try.prog 16 #[.slice A zs.length ca, .int .i64 k] w (SpotsOut (leastS zs k) w) := by
  go_enter Try.func16, Try.ntmps16
  go_wp2_with fail
  refine (Sort_any A zs ca (by omega) _ hA).mono ?_
  rintro e w1 ⟨A1, c1, rfl, hr, hc, hm, hb⟩
  rw [sortS_len] at hc ⊢
  have hn := sortS_len zs
  have hf : firstN k zs.length ≤ zs.length := by unfold firstN; omega
  have HL : Hid ((leastS zs k).length = firstN k zs.length) := by rw [Hid, leastS, List.length_take, hn]; omega
  have HT : Hid (RdS w1 w1.heap.size A1 (leastS zs k)) := fun j z hj => by
    rw [leastS, List.getElem?_take] at hj
    split at hj
    · exact hr j z hj
    · cases hj
  have hci : ((zs.length : Nat) : Int) ≤ (c1 : Int) := by omega
  clear hr hn
  go_wp2
  go_ret
  exact ⟨A1, c1, by rw [HL.out]; rfl, HT.out, by rw [HL.out]; omega, hm, hb⟩

end Go.Proofs.Ytamgmbjcobomhaa
