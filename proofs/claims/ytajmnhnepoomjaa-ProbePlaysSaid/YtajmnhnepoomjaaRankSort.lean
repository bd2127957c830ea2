/- rank.Sort by contract: the spots in order, in memory of the call's own. -/
import Derived.Test.YtajmnhnepoomjaaRankAppend
namespace Go.Proofs.Ytajmnhnepoomjaa
open Go.RowKit Go.Shelf Go.Sort

/-- In order. -/
def leS (x y : SpotT) : Bool := !(ltOf cmpS) y x
def sortS (l : List SpotT) : List SpotT := l.mergeSort leS
theorem sortS_nil : sortS [] = [] := List.mergeSort_nil
theorem sortS_len (l : List SpotT) : (sortS l).length = l.length := List.length_mergeSort l

theorem cellsS_get : ∀ (zs : List SpotT) (k c : Nat) (h : k < zs.length), c < 3 → (cellsS zs)[k * 3 + c]? = some ((encS zs[k])[c]!)
  | z :: r, 0, c, _, hc => by
    have e : cellsS (z :: r) = encS z ++ cellsS r := rfl
    rw [e, List.getElem?_append_left (by show 0 * 3 + c < 3; omega)]
    match c, hc with
    | 0, _ => rfl
    | 1, _ => rfl
    | 2, _ => rfl
  | z :: r, k + 1, c, h, hc => by
    have e : cellsS (z :: r) = encS z ++ cellsS r := rfl
    have hl : (encS z).length = 3 := rfl
    rw [e, List.getElem?_append_right (by rw [hl]; omega), hl, show (k + 1) * 3 + c - 3 = k * 3 + c by omega]
    exact cellsS_get r k c (by simpa using h) hc

theorem holds_own {w : World} {base g cap n : Nat} {zs : List SpotT} (h : w.ownsRow base 62 3 (.slice (some ⟨g, 0, none⟩) n cap) n (cellsS zs)) (hn : zs.length = n) : HoldsK encS 3 w g 0 zs.toArray := by
  intro j hj
  have hsz : (flatK encS 3 zs.toArray).size = zs.length * 3 := by simp
  rw [hsz] at hj
  have hk : j / 3 < zs.length := by omega
  have hc : j % 3 < 3 := by omega
  have e : j = j / 3 * 3 + j % 3 := by omega
  have hx := cellsS_get zs (j / 3) (j % 3) hk hc
  rw [← e] at hx
  rcases h.2 with ⟨hv, _⟩ | ⟨g', cap', cur, hv, _, hb, _⟩
  · cases hv
  · injection hv with h1 h2 h3
    injection h1 with h1
    injection h1 with h1
    subst h1
    refine ⟨?_, ?_⟩
    · rw [Nat.zero_add, h.cellAt j (by omega), hx, get_flatK _ _ _ _ (by simpa using hj)]
      simp [hk]
    · simp [World.frozen?, hb]

theorem sortWorld_below {enc : SpotT → List Value} {k B blk off n : Nat} {w : World} {d : Array SpotT} {os : Array Obj} (hB : B ≤ blk) (hblk : blk < w.heap.size) : Below B w (sortWorldK enc k w blk off n d os) := by
  refine ⟨rfl, rfl, rfl, ?_, fun j hj => ?_⟩
  · show w.heap.size ≤ (w.heap.modify blk _ ++ os).size
    rw [Array.size_append, Array.size_modify]
    omega
  · show (w.heap.modify blk _ ++ os)[j]? = _
    rw [Array.getElem?_append_left (by rw [Array.size_modify]; omega), Array.getElem?_modify, if_neg (by omega)]

/-- Spots that a call leaves, in memory of its own. -/
def SpotsOut (L : List SpotT) (w : World) (e : Ending) (w' : World) : Prop :=
  ∃ A c, e = .returned (.slice A L.length c) ∧ RdS w' w'.heap.size A L ∧ L.length ≤ c ∧ c ≤ 9223372036854775807 ∧ Below w.heap.size w w'

theorem cmpLaysS (blk off size : Nat) (w : World) : CmpLays Try.prog 88 #[] encS 3 cmpS blk off size w :=
  fun _ _ _ _ x y => (compareSpots_any x y _).mono fun _ _ ⟨he, hg⟩ => ⟨he, hg⟩

theorem SortSpots_any (blk off cap : Nat) (d : Array SpotT) (w : World) (hH : HoldsK encS 3 w blk off d) (hblk : blk < w.heap.size) (hsz : d.size < 4611686018427387904) :
    Calls Try.prog 126 #[.slice (some ⟨blk, off, none⟩) d.size cap, .func (.func 88) #[] #[]] w fun e w' =>
      e = .returned (.tuple #[]) ∧ ∃ n os, w' = sortWorldK encS 3 w blk off n (sortS d.toList).toArray os :=
  AnyQ.slices_SortFunc_total Try.sortSpot 3 Try.isAgg62 Try.sizeOf62 encS (fun _ => rfl) (fun x v hv => by simp [encS] at hv; rcases hv with rfl | rfl | rfl <;> rfl) cmpS swoS 88 #[] blk off cap d w
    (enters_of Try.func88 (by kernel_rfl) rfl) (cmpLaysS blk off d.size w) hH hblk hsz oneS
theorem SortSpots_none (p : Option Addr) (cap : Nat) (fv : Value) (w : World) :
    Calls Try.prog 126 #[.slice p 0 cap, fv] w fun e w' => e = .returned (.tuple #[]) ∧ w' = w :=
  AnyF.slices_SortFunc_none { Try.sortSpot with } p cap fv w

set_option maxHeartbeats 1000000 in
theorem SortedFunc_any (Bs : Nat) (A : Option Addr) (zs : List SpotT) (ca : Nat) (hl : zs.length ≤ 1000000000000) (w : World) (hlB : Bs < w.heap.size) (hA : RdS w w.heap.size A zs) (hBs : w.cell? ⟨Bs, 0, none⟩ = some (.slice A zs.length ca)) :
    Calls Try.prog 86 #[.func (.func 127) #[] #[.pointer (some ⟨Bs, 0, none⟩)], .func (.func 88) #[] #[]] w (SpotsOut (sortS zs) w) := by
  go_enter Try.func86, Try.ntmps86
  go_wp2_with fail
  refine (Collect_any Bs A zs ca hl _ hlB hA hBs).mono ?_
  rintro e w1 ⟨⟨v, rfl, hown⟩, hb⟩
  obtain ⟨A1, c1, rfl, hc1, hm1⟩ := ownSlice hown
  by_cases h0 : zs.length = 0
  · obtain rfl := List.eq_nil_of_length_eq_zero h0
    go_wp2_with fail
    refine (SortSpots_none _ _ _ _).mono ?_
    rintro e w2 ⟨rfl, rfl⟩
    go_wp2
    go_ret
    rw [sortS_nil]
    exact ⟨A1, c1, rfl, RdS.nil, Nat.zero_le _, hm1, hb⟩
  · obtain ⟨g, rfl, hg, hgw⟩ := ownPos hown (by omega)
    have hH := holds_own hown rfl
    have hS := SortSpots_any g 0 c1 zs.toArray w1 hH hgw (by simp; omega)
    rw [show zs.toArray.size = zs.length by simp] at hS
    have HS := Lib.hid hS
    have HH := Lib.hid hH
    clear hS hH hown
    go_wp2_with fail
    refine HS.out.mono ?_
    rintro e w2 ⟨rfl, n, os, hw2⟩
    have hK : HoldsK encS 3 w2 g 0 (sortS zs).toArray := by
      rw [hw2]
      exact holdsK_sortWorldK_c encS 3 w1 g 0 zs.toArray _ n os HH.out hgw (by simp [sortS_len])
    have hb2 : Below w.heap.size w1 w2 := by rw [hw2]; exact sortWorld_below hg hgw
    have hgw2 : g < w2.heap.size := Nat.lt_of_lt_of_le hgw hb2.size
    clear hw2 HS HH
    go_wp2
    go_ret
    refine ⟨some ⟨g, 0, none⟩, c1, by rw [sortS_len]; rfl, ?_, by rw [sortS_len]; exact hc1, hm1, hb.trans hb2⟩
    intro k z hz
    obtain ⟨hk, rfl⟩ := List.getElem?_eq_some_iff.1 hz
    have q := fun c hc => (hK.cell (i := k) (c := c) (by simpa using hk) hc).1
    refine ⟨g, 0, rfl, hgw2, ?_, ?_, ?_⟩
    · have := q 0 (by decide); simpa [hk, encS] using this
    · have := q 1 (by decide); simpa [hk, encS] using this
    · have := q 2 (by decide); simpa [hk, encS] using this

set_option maxHeartbeats 1000000 in
theorem Sort_any (A : Option Addr) (zs : List SpotT) (ca : Nat) (hl : zs.length ≤ 1000000000000) (w : World) (hA : RdS w w.heap.size A zs) :
    Calls Try.prog 34 #[.slice A zs.length ca] w (SpotsOut (sortS zs) w) := by
  have hb0 : Below w.heap.size w (w.alloc (.cells #[.slice A zs.length ca] 44)) := (Below.refl _ w).alloc (Nat.le_refl _) _
  have HA := Lib.hid ((hA.below hb0).more (B' := (w.alloc (.cells #[.slice A zs.length ca] 44)).heap.size) (by simp))
  have b0 := Lib.hid (Boxed.new w 44 (.slice A zs.length ca))
  go_enter Try.func34, Try.ntmps34
  go_wp2_with fail
  refine (valuesS_any _ _ _ _).mono ?_
  rintro e w1 ⟨rfl, rfl⟩
  go_wp2_with fail
  refine (SortedFunc_any w.heap.size A zs ca hl _ (by simp) HA.out b0.out.cell).mono ?_
  rintro e w2 ⟨A2, c2, rfl, h1, h2, h3, hb⟩
  go_wp2
  go_ret
  exact ⟨A2, c2, rfl, h1, h2, h3, hb0.trans (hb.mono (by simp))⟩

end Go.Proofs.Ytajmnhnepoomjaa
