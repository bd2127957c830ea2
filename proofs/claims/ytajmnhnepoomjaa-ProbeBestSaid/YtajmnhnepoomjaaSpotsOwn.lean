/- Spots in order in a row of the call's own: what Sort and List tell, told more. -/
import Derived.Test.YtajmnhnepoomjaaQueUse
namespace Go.Proofs.Ytajmnhnepoomjaa
open Go.RowKit Go.Shelf Go.Sort

theorem own_of_rd {w : World} {base g c B : Nat} {L : List SpotT} {cur : Array Value} (hg : w.heap[g]? = some (.cells cur 62 (0, 0))) (hb : base ≤ g) (hs : cur.size = c * 3) (hn : L.length ≤ c) (hm : c ≤ maxLen) (h : RdS w B (some ⟨g, 0, none⟩) L) :
    w.ownsRow base 62 3 (.slice (some ⟨g, 0, none⟩) L.length c) L.length (cellsS L) := by
  refine ⟨cellsS_len L, .inr ⟨g, c, cur, rfl, hb, hg, hn, hm, hs, ?_⟩⟩
  apply List.ext_getElem?
  intro j
  by_cases hj : j < (cellsS L).length
  · have hc := h.news j _ (List.getElem?_eq_getElem hj)
    rw [List.getElem?_eq_getElem hj, ← hc, List.getElem?_take, if_pos (by rw [cellsS_len] at hj; exact hj)]
    rw [show Addr.add ⟨g, 0, none⟩ j = ⟨g, j, none⟩ from by by_cases h0 : j = 0 <;> simp [Addr.add, h0]]
    simp [World.cell?, hg]
  · rw [List.getElem?_eq_none (l := cellsS L) (by omega), List.getElem?_eq_none]
    rw [List.length_take]
    rw [cellsS_len] at hj
    omega
theorem sort_block {k g off n e : Nat} {fr : Nat × Nat} {w : World} {cur : Array Value} {d : Array SpotT} {os : Array Obj} (h : w.heap[g]? = some (.cells cur e fr)) :
    ∃ cur', (sortWorldK encS k w g off n d os).heap[g]? = some (.cells cur' e fr) ∧ cur'.size = cur.size := by
  have hl := (Array.getElem?_eq_some_iff.1 h).1
  refine ⟨putCells id off (flatK encS k d) cur, ?_, by simp [putCells]⟩
  show (w.heap.modify g _ ++ os)[g]? = _
  rw [Array.getElem?_append_left (by rw [Array.size_modify]; exact hl), Array.getElem?_modify, if_pos rfl, h]
  rfl

set_option maxHeartbeats 1000000 in
theorem SortedFunc_own (Bs : Nat) (A : Option Addr) (zs : List SpotT) (ca : Nat) (hl : zs.length ≤ 1000000000000) (w : World) (hlB : Bs < w.heap.size) (hA : RdS w w.heap.size A zs) (hBs : w.cell? ⟨Bs, 0, none⟩ = some (.slice A zs.length ca)) :
    Calls Try.prog 86 #[.func (.func 127) #[] #[.pointer (some ⟨Bs, 0, none⟩)], .func (.func 88) #[] #[]] w (SpotsOwn (sortS zs) w) := by
  go_enter Try.func86, Try.ntmps86
  go_wp2_with fail
  refine (Collect_any Bs A zs ca hl _ hlB hA hBs).mono ?_
  rintro e w1 ⟨⟨v, rfl, hown⟩, hb⟩
  obtain ⟨A1, c1, rfl, hc1, hm1⟩ := ownSlice hown
  by_cases h0 : zs.length = 0
  · obtain rfl := List.eq_nil_of_length_eq_zero h0
    have HO := Lib.hid hown
    clear hown
    go_wp2_with fail
    refine (SortSpots_none _ _ _ _).mono ?_
    rintro e w2 ⟨rfl, rfl⟩
    go_wp2
    go_ret
    rw [sortS_nil]
    exact ⟨A1, c1, rfl, HO.out, hb⟩
  · obtain ⟨g, rfl, hg, hgw⟩ := ownPos hown (by omega)
    have hH := holds_own hown rfl
    have hS := SortSpots_any g 0 c1 zs.toArray w1 hH hgw (by simp; omega)
    rw [show zs.toArray.size = zs.length by simp] at hS
    have HS := Lib.hid hS
    have HH := Lib.hid hH
    have HO := Lib.hid hown
    clear hS hH hown
    go_wp2_with fail
    refine HS.out.mono ?_
    rintro e w2 ⟨rfl, n, os, hw2⟩
    have hK : HoldsK encS 3 w2 g 0 (sortS zs).toArray := by
      rw [hw2]
      exact holdsK_sortWorldK_c encS 3 w1 g 0 zs.toArray _ n os HH.out hgw (by simp [sortS_len])
    have hb2 : Below w.heap.size w1 w2 := by rw [hw2]; exact sortWorld_below hg hgw
    have hgw2 : g < w2.heap.size := Nat.lt_of_lt_of_le hgw hb2.size
    obtain ⟨cur, hcur, hcs, hcm⟩ : ∃ cur, w2.heap[g]? = some (.cells cur 62 (0, 0)) ∧ cur.size = c1 * 3 ∧ c1 ≤ maxLen := by
      rcases HO.out.2 with ⟨hv, _⟩ | ⟨g', cap', cur, hv, _, hgg, _, hm, hsz, _⟩
      · cases hv
      · injection hv with e1 e2 e3
        injection e1 with e1
        injection e1 with e1
        subst e1 e3
        obtain ⟨cur', h1, h2⟩ := sort_block (k := 3) (off := 0) (n := n) (d := (sortS zs).toArray) (os := os) hgg
        exact ⟨cur', by rw [hw2]; exact h1, by rw [h2, hsz], hm⟩
    clear hw2 HS HH HO
    go_wp2
    go_ret
    have hr : RdS w2 w2.heap.size (some ⟨g, 0, none⟩) (sortS zs) := by
      intro k z hz
      obtain ⟨hk, rfl⟩ := List.getElem?_eq_some_iff.1 hz
      have q := fun c hc => (hK.cell (i := k) (c := c) (by simpa using hk) hc).1
      refine ⟨g, 0, rfl, hgw2, ?_, ?_, ?_⟩
      · have := q 0 (by decide); simpa [hk, encS] using this
      · have := q 1 (by decide); simpa [hk, encS] using this
      · have := q 2 (by decide); simpa [hk, encS] using this
    exact ⟨some ⟨g, 0, none⟩, c1, by rw [sortS_len]; rfl, own_of_rd hcur hg hcs (by rw [sortS_len]; exact hc1) hcm hr, hb.trans hb2⟩

set_option maxHeartbeats 1000000 in
theorem Sort_own (A : Option Addr) (zs : List SpotT) (ca : Nat) (hl : zs.length ≤ 1000000000000) (w : World) (hA : RdS w w.heap.size A zs) :
    Calls Try.prog 34 #[.slice A zs.length ca] w (SpotsOwn (sortS zs) w) := by
  have hb0 : Below w.heap.size w (w.alloc (.cells #[.slice A zs.length ca] 44)) := (Below.refl _ w).alloc (Nat.le_refl _) _
  have HA := Lib.hid ((hA.below hb0).more (B' := (w.alloc (.cells #[.slice A zs.length ca] 44)).heap.size) (by simp))
  have b0 := Lib.hid (Boxed.new w 44 (.slice A zs.length ca))
  go_enter Try.func34, Try.ntmps34
  go_wp2_with fail
  refine (valuesS_any _ _ _ _).mono ?_
  rintro e w1 ⟨rfl, rfl⟩
  go_wp2_with fail
  refine (SortedFunc_own w.heap.size A zs ca hl _ (by simp) HA.out b0.out.cell).mono ?_
  rintro e w2 ⟨A2, c2, rfl, h1, hb⟩
  go_wp2
  go_ret
  exact ⟨A2, c2, rfl, own_mono h1 (by simp), hb0.trans (hb.mono (by simp))⟩

theorem bList_own {b : Nat} {fv : Value} {A : Option Addr} {c : Nat} {M : List SpotT} {W : World} (h : HeapAt W b fv A c M) (hn : M.length ≤ 100000) :
    Calls Try.prog 85 #[.pointer (some ⟨b, 0, none⟩)] W (SpotsOwn (sortS M) W) := by
  have c0 := h.h0
  have HR := Lib.hid (rdS_own h.row)
  clear h
  go_enter Try.func85, Try.ntmps85
  go_wp2_with fail
  refine (Sort_own A M c (by omega) W HR.out).mono ?_
  rintro e w1 ⟨A1, c1, rfl, hr, hb⟩
  go_wp2
  go_ret
  exact ⟨A1, c1, rfl, hr, hb⟩
theorem Fam.listO {P : Nat → Prop} {X W : World} {ss : List HSp} {i b m : Nat} {L : List SpotT} (h : Fam P X W ss) (hi : ss[i]? = some ⟨b, some m, L⟩) (hn : L.length ≤ 100000) : Calls Try.prog 85 #[.pointer (some ⟨b, 0, none⟩)] W (SpotsOwn (keepS m L) W) := by
  obtain ⟨F, h⟩ := h
  obtain ⟨A, c, M, hF, h1, h2, h3, h4⟩ : BH (F i) W b m L := h.at_ i _ hi
  have := bList_own h1 (by rw [h3.length_eq, keepS_len]; omega)
  rw [sortS_perm_eq h3, sortS_keep] at this
  exact this

end Go.Proofs.Ytajmnhnepoomjaa
