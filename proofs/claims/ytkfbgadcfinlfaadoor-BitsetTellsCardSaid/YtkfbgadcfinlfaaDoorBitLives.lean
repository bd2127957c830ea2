/- The law's own question of the answers that the document gives (lives), for package bitset: the answer is 'true'. -/
import Derived.Test.YtkfbgadcfinlfaaDoorBitList
import Derived.Test.YtkfbgadcfinlfaaDoorBitUnion
import Derived.Test.YtkfbgadcfinlfaaDoorBitMeet
import Derived.Test.YtkfbgadcfinlfaaDoorSame
import Derived.Test.YtkfbgadcfinlfaaDoorSameInts
namespace Go.Proofs.YtkfbgadcfinlfaaDoor
open Go.RowKit

theorem Rd.one {α : Type} {f : α → Value} {w : World} {B b : Nat} {x : α} (hb : b < B) (h0 : w.cell? ⟨b, 0, none⟩ = some (f x)) : Rd f w B (some ⟨b, 0, none⟩) [x] := by
  intro k z hz
  match k, hz with
  | 0, hz => simp at hz; subst hz; exact ⟨b, 0, rfl, hb, h0⟩

theorem Rd.two {α : Type} {f : α → Value} {w : World} {B b : Nat} {x y : α} (hb : b < B) (h0 : w.cell? ⟨b, 0, none⟩ = some (f x)) (h1 : w.cell? ⟨b, 1, none⟩ = some (f y)) :
    Rd f w B (some ⟨b, 0, none⟩) [x, y] := by
  intro k z hz
  match k, hz with
  | 0, hz => simp at hz; subst hz; exact ⟨b, 0, rfl, hb, h0⟩
  | 1, hz => simp at hz; subst hz; exact ⟨b, 0, rfl, hb, h1⟩

theorem Rd.three {α : Type} {f : α → Value} {w : World} {B b : Nat} {x y z : α} (hb : b < B) (h0 : w.cell? ⟨b, 0, none⟩ = some (f x)) (h1 : w.cell? ⟨b, 1, none⟩ = some (f y)) (h2 : w.cell? ⟨b, 2, none⟩ = some (f z)) :
    Rd f w B (some ⟨b, 0, none⟩) [x, y, z] := by
  intro k u hu
  match k, hu with
  | 0, hu => simp at hu; subst hu; exact ⟨b, 0, rfl, hb, h0⟩
  | 1, hu => simp at hu; subst hu; exact ⟨b, 0, rfl, hb, h1⟩
  | 2, hu => simp at hu; subst hu; exact ⟨b, 0, rfl, hb, h2⟩

theorem has_twelve (m : Int) : hasB [1, 2] m = true ↔ m = 0 ∨ m = 65 := by
  have h : ∀ k : Fin 128, hasB [1, 2] (k.val : Int) = (k.val == 0 || k.val == 65) := by decide +kernel
  constructor
  · intro hm
    have hr := has_range hm
    have hlt : m < 128 := by
      rcases Int.lt_or_le m 128 with h1 | h1
      · exact h1
      · rw [has_past [1, 2] m h1] at hm; cases hm
    obtain ⟨k, rfl⟩ := Int.eq_ofNat_of_zero_le hr.1
    have := h ⟨k, by omega⟩
    rw [hm] at this
    simp at this
    omega
  · rintro (rfl | rfl) <;> decide

theorem nums_twelve : Nums [1, 2] [0, 65] := ⟨by decide, fun m => by rw [has_twelve]; simp⟩
theorem words_twelve : Words [1, 2] := by intro z hz; simp at hz; omega
theorem cnt_twelve : cntS [1, 2] = 2 := by
  show onesSum [1, 2] = 2
  unfold onesSum
  simp only [List.map_cons, List.map_nil, List.sum_cons, List.sum_nil, ones_eq]
  decide

set_option maxRecDepth 100000 in
set_option maxHeartbeats 4000000 in
theorem lives_any (w : World) (hT : Tab w) : Calls Tryd.prog 6 #[] w fun e w' => e = .returned (.bool true) ∧ Below w.heap.size w w' := by
  have o1 := Lib.hid (show ofL [0, 65, -1] = [1, 2] from by decide)
  have o2 := Lib.hid (show ofL [0] = [1] from by decide)
  have o3 := Lib.hid (show ofL [1] = [2] from by decide)
  have z1 := Lib.hid (show trimR (zipL andNotF [1, 2] [1, 2]) = [] from by decide)
  have z2 := Lib.hid (show trimR (zipL andF [1, 2] [1]) = [1] from by decide)
  have z3 := Lib.hid (show trimR (zipL orF [1, 2] [2]) = [3, 2] from by decide)
  have HT := Lib.hid hT
  clear hT
  go_enter Tryd.func6, Tryd.ntmps6
  go_wp2_with fail
  refine Calls.mono (Of_any _ [0, 65, -1] _ _ (Rd.three (by go_size) (by go_cell) (by go_cell) (by go_cell)) (by simp)) ?_
  rintro e w1 ⟨S, sc, rfl, hs1, hc, hc2, hb⟩
  rw [o1.out] at hs1 hc ⊢
  have hB1 : Below w.heap.size w w1 := Below.next (by go_grown) hb
  clear hb
  go_wp2_with fail
  refine Calls.mono (Next_any S [1, 2] sc 1 _ hs1 words_twelve hc hc2 (HT.out.below hB1) (by omega)) ?_
  rintro e w' ⟨rfl, hn⟩
  obtain rfl : e = .returned (.tuple #[.int .i64 65, .bool true]) := by
    rcases hn with ⟨m, he, hm, h1, h2⟩ | ⟨_, h2⟩
    · rcases (has_twelve m).1 hm with rfl | rfl
      · omega
      · exact he
    · have := h2 65 (by omega)
      rw [(has_twelve 65).2 (.inr rfl)] at this
      cases this
  clear hn
  go_wp2_with fail
  refine Calls.mono (Next_any S [1, 2] sc 66 _ hs1 words_twelve hc hc2 (HT.out.below hB1) (by omega)) ?_
  rintro e w' ⟨rfl, hn⟩
  obtain rfl : e = .returned (.tuple #[.int .i64 0, .bool false]) := by
    rcases hn with ⟨m, he, hm, h1, h2⟩ | ⟨he, _⟩
    · rcases (has_twelve m).1 hm with rfl | rfl <;> omega
    · exact he
  clear hn
  go_wp2_with fail
  refine Calls.mono (Same_refl S _ [1, 2] _ _ _ ((hs1.below (by go_grown)).more (by go_size)) (Rd.two (by go_size) (by go_cell) (by go_cell)) (by simp)) ?_
  rintro e w2 ⟨rfl, hd⟩
  have K2 : Below w1.heap.size w1 w2 := Below.next (by go_grown) (hd.below _)
  have hs2 := (hs1.below K2).more K2.size
  have hB2 := Below.next hB1 K2
  clear hd K2 hs1 hB1
  go_wp2_with fail
  refine Calls.mono (Has_any S [1, 2] sc 65 _ hs2 words_twelve) ?_
  rintro e w' ⟨rfl, rfl⟩
  rw [show hasB [1, 2] 65 = true from by decide]
  go_wp2_with fail
  refine Calls.mono (Has_any S [1, 2] sc 64 _ hs2 words_twelve) ?_
  rintro e w' ⟨rfl, rfl⟩
  rw [show hasB [1, 2] 64 = false from by decide]
  go_wp2_with fail
  refine Calls.mono (List_any S [1, 2] sc _ hs2 words_twelve hc hc2 (HT.out.below hB2)) ?_
  rintro e w3 ⟨L, LA, lc, rfl, hrl, hnl, hb⟩
  have hL : L = [0, 65] := hnl.uniq nums_twelve
  subst hL
  have hs3 := (hs2.below hb).more hb.size
  have hB3 := Below.next hB2 hb
  clear hb hs2 hB2 hnl
  go_wp2_with fail
  refine Calls.mono (SameInts_refl LA _ [0, 65] _ _ _ ((hrl.below (by go_grown)).more (by go_size)) (Rd.two (by go_size) (by go_cell) (by go_cell)) (by simp)) ?_
  rintro e w4 ⟨rfl, hd⟩
  have K4 : Below w3.heap.size w3 w4 := Below.next (by go_grown) (hd.below _)
  have hs4 := (hs3.below K4).more K4.size
  have hB4 := Below.next hB3 K4
  clear hd K4 hs3 hB3 hrl
  go_wp2_with fail
  refine Calls.mono (Count_any S [1, 2] sc _ hs4 words_twelve hc hc2) ?_
  rintro e w' ⟨rfl, rfl⟩
  rw [cnt_twelve]
  go_wp2_with fail
  refine Calls.mono (Less_any S S [1, 2] [1, 2] sc sc _ hs4 hs4 words_twelve words_twelve hc hc2 hc hc2) ?_
  rintro e w5 ⟨A5, c5, rfl, _, _, _, hb⟩
  rw [z1.out]
  have hs5 := (hs4.below hb).more hb.size
  have hB5 := Below.next hB4 hb
  clear hb hs4 hB4
  go_wp2_with fail
  refine Calls.mono (Of_any _ [0] _ _ (Rd.one (by go_size) (by go_cell)) (by simp)) ?_
  rintro e w6 ⟨A6, c6, rfl, hr6, h61, h62, hb⟩
  rw [o2.out] at hr6 h61 ⊢
  have K6 : Below w5.heap.size w5 w6 := Below.next (by go_grown) hb
  have hs6 := (hs5.below K6).more K6.size
  have hB6 := Below.next hB5 K6
  clear hb K6 hs5 hB5
  go_wp2_with fail
  refine Calls.mono (Meet_any S A6 [1, 2] [1] sc c6 _ hs6 hr6 words_twelve (by intro z hz; simp at hz; omega) hc hc2 h61 h62) ?_
  rintro e w7 ⟨A7, c7, rfl, hr7, _, _, hb⟩
  rw [z2.out] at hr7 ⊢
  have hs7 := (hs6.below hb).more hb.size
  have hB7 := Below.next hB6 hb
  clear hb hs6 hB6 hr6 h61 h62
  go_wp2_with fail
  refine Calls.mono (Same_refl A7 _ [1] _ _ _ ((hr7.below (by go_grown)).more (by go_size)) (Rd.one (by go_size) (by go_cell)) (by simp)) ?_
  rintro e w8 ⟨rfl, hd⟩
  have K8 : Below w7.heap.size w7 w8 := Below.next (by go_grown) (hd.below _)
  have hs8 := (hs7.below K8).more K8.size
  have hB8 := Below.next hB7 K8
  clear hd K8 hs7 hB7 hr7
  go_wp2_with fail
  refine Calls.mono (Of_any _ [1] _ _ (Rd.one (by go_size) (by go_cell)) (by simp)) ?_
  rintro e w9 ⟨A9, c9, rfl, hr9, h91, h92, hb⟩
  rw [o3.out] at hr9 h91 ⊢
  have K9 : Below w8.heap.size w8 w9 := Below.next (by go_grown) hb
  have hs9 := (hs8.below K9).more K9.size
  have hB9 := Below.next hB8 K9
  clear hb K9 hs8 hB8
  go_wp2_with fail
  refine Calls.mono (Union_any S A9 [1, 2] [2] sc c9 _ hs9 hr9 words_twelve (by intro z hz; simp at hz; omega) hc hc2 h91 h92) ?_
  rintro e w10 ⟨A10, c10, rfl, hr10, _, _, hb⟩
  rw [z3.out] at hr10 ⊢
  have hB10 := Below.next hB9 hb
  clear hb hs9 hB9 hr9 h91 h92
  go_wp2_with fail
  refine Calls.mono (Same_refl A10 _ [3, 2] _ _ _ ((hr10.below (by go_grown)).more (by go_size)) (Rd.two (by go_size) (by go_cell) (by go_cell)) (by simp)) ?_
  rintro e w11 ⟨rfl, hd⟩
  have hB11 : Below w.heap.size w w11 := Below.next hB10 (Below.next (by go_grown) (hd.below _))
  go_wp2
  go_ret
  exact ⟨rfl, hB11⟩

end Go.Proofs.YtkfbgadcfinlfaaDoor
