/- ring's Locks, by contract. -/
import Derived.Test.YtkoelbdmpnelhaaRingList
import Derived.Test.YtkoelbdmpnelhaaShelf
import Derived.Sort.OwnSortedInts
import Derived.Lib.OwnBridge
import Derived.Shelf.SortG.Plain
import Derived.Shelf.SlicesG.CompactI
import Derived.Shelf.SlicesE.DeleteFunc
namespace Go.Proofs.Ytkoelbdmpnelhaa
open Go.RowKit Go.Shelf Go.Sort Go.Lib

theorem holds_prefix {w : World} {b o : Nat} {X Y : List Int} (h : Holds (Value.int .i64) w b o (X ++ Y).toArray) : Holds (Value.int .i64) w b o X.toArray := fun j hj => by
  have hj' : j < X.length := by simpa using hj
  have := h j (by simp; omega)
  rw [getElem!_pos _ j (by simp; omega)] at this
  rw [getElem!_pos _ j hj]
  simpa [List.getElem_append_left hj'] using this
theorem holds_rd {w : World} {b : Nat} {L : List Int} (h : Holds (Value.int .i64) w b 0 L.toArray) (hb : b < w.heap.size) : Rd (Value.int .i64) w w.heap.size (some ⟨b, 0, none⟩) L := fun k z hz => by
  have hk := (List.getElem?_eq_some_iff.1 hz).1
  have := (h k (by simpa using hk)).1
  rw [getElem!_pos _ k (by simpa using hk)] at this
  refine ⟨b, 0, rfl, hb, this.trans ?_⟩
  obtain ⟨_, e⟩ := List.getElem?_eq_some_iff.1 hz
  simp [e]
/-- Is a number below 0? -/
def negB (x : Int) : Bool := decide (x < 0)
theorem neg_any (x : Int) (W : World) : Calls Try.prog 136 #[.int .i64 x] W fun e w' => e = .returned (.bool (negB x)) ∧ W = w' := by
  unfold negB
  go_enter Try.func136, Try.ntmps136
  go_wp2
  go_ret
  exact ⟨rfl, rfl⟩
theorem neg_gives (x : Int) (W : World) : FnGives Try.prog 136 #[] #[Value.int .i64 x] (.bool (negB x)) W :=
  (neg_any x W).mono fun _ _ ⟨he, hw⟩ => ⟨he, 0, hw.symm⟩
/-- The row D, as it reads behind the call, and what lay below it stands. -/
def RowAt (D : Nat) (L : List Int) (w w' : World) : Prop := Holds (Value.int .i64) w' D 0 L.toArray ∧ D < w'.heap.size ∧ Below D w w'
def keptI (L : List Int) : List Int := L.filter fun x => !negB x
theorem del_row {W : World} {D cap : Nat} {L : List Int} (hH : Holds (Value.int .i64) W D 0 L.toArray) (hD : D < W.heap.size) (hl : L.length ≤ 100) (hc : L.length ≤ cap) :
    Calls Try.prog 135 #[.slice (some ⟨D, 0, none⟩) L.length cap, .func (.func 136) #[] #[]] W fun e w' => e = .returned (.slice (some ⟨D, 0, none⟩) (keptI L).length cap) ∧ RowAt D (keptI L) W w' := by
  have h := AnyE.slices_DeleteFunc Try.deleteInts (Value.int .i64) (by intro _; rfl) negB 136 #[] (enters_of Try.func136 (by kernel_rfl) rfl) 0 Try.zeroValue3 D 0 cap L.toArray W (fun W' x _ => neg_gives x W') (fun _ _ _ x _ => neg_gives x _) hH (by simp; omega) (by simpa using hc)
  refine Calls.mono h ?_
  rintro e w' ⟨he, q, rfl⟩
  have hk : (keptI L).length ≤ L.length := List.length_filter_le _ _
  refine ⟨he, holds_prefix (Y := List.replicate (L.toArray.size - (keptI L).length) 0) ?_, by simpa using hD, below_putRow (Below.refl _ _) (Nat.le_refl _)⟩
  exact holds_putRow (Value.int .i64) (Sort.ahead W q) D 0 L.toArray _ hH (by simp [keptI] at hk ⊢; omega)
def sortI (L : List Int) : List Int := L.mergeSort fun x y => decide (x ≤ y)
theorem sortI_len (L : List Int) : (sortI L).length = L.length := List.length_mergeSort _
theorem keptI_len (L : List Int) : (keptI L).length ≤ L.length := List.length_filter_le _ _
theorem RowAt.trans {D : Nat} {L L' : List Int} {w w1 w2 : World} (h : RowAt D L w w1) (k : RowAt D L' w1 w2) : RowAt D L' w w2 := ⟨k.1, k.2.1, h.2.2.trans k.2.2⟩
theorem sort_row {W : World} {D cap : Nat} {L : List Int} (hH : Holds (Value.int .i64) W D 0 L.toArray) (hD : D < W.heap.size) (hl : L.length ≤ 100) :
    Calls Try.prog 115 #[.slice (some ⟨D, 0, none⟩) L.length cap] W fun e w' => e = .returned (.tuple #[]) ∧ RowAt D (sortI L) W w' := by
  refine Calls.mono (AnyG.slices_Sort_int Try.sortInts D 0 cap L W hH hD (by omega)) ?_
  rintro e w' ⟨he, n, os, rfl⟩
  refine ⟨he, ?_, ?_, (Below.refl D W).grown (grownBy_sortedI (g := D) (n := n) (os := os) (sortI L).toArray) (Nat.le_of_lt hD) (fun g hg => by injection hg with hg; omega)⟩
  · have h1 : Holds (Value.int .i64) (putRow (Value.int .i64) (Sort.ahead W n) D 0 (sortI L).toArray) D 0 (sortI L).toArray := holds_putRow (Value.int .i64) (Sort.ahead W n) D 0 L.toArray _ hH (by simp [sortI])
    intro j hj
    obtain ⟨e1, e2⟩ := h1 j hj
    have hlt : D < (putRow (Value.int .i64) (Sort.ahead W n) D 0 (sortI L).toArray).heap.size := by simpa using hD
    exact ⟨(cell?_grow _ os ⟨D, 0 + j, none⟩ hlt).trans e1, (frozen?_grow _ os ⟨D, 0 + j, none⟩ hlt).trans e2⟩
  · have := (grownBy_sortedI (w := W) (g := D) (n := n) (os := os) (sortI L).toArray).size
    unfold sortI at this
    omega
theorem compact_row {W : World} {D cap : Nat} {L : List Int} (hH : Holds (Value.int .i64) W D 0 L.toArray) (hD : D < W.heap.size) (hl : L.length ≤ 100) (hc : L.length ≤ cap) :
    Calls Try.prog 137 #[.slice (some ⟨D, 0, none⟩) L.length cap] W fun e w' => e = .returned (.slice (some ⟨D, 0, none⟩) (Lib.compact L).length cap) ∧ RowAt D (Lib.compact L) W w' := by
  refine Calls.mono (AnyG.slices_Compact_int Try.compactInts D 0 cap L W hH (by omega) hc) ?_
  rintro e w' ⟨he, q, rfl⟩
  have hk := compact_length_le L
  refine ⟨he, holds_prefix (Y := List.replicate (L.length - (Lib.compact L).length) 0) ?_, by simpa using hD, below_putRow (Below.refl _ _) (Nat.le_refl _)⟩
  exact holds_putRow (Value.int .i64) (Sort.ahead W q) D 0 L.toArray _ hH (by simp; omega)

/-- Rising lists of the same numbers are one. -/
theorem rise_eq : ∀ (A B : List Int), A.Pairwise (· < ·) → B.Pairwise (· < ·) → (∀ x, x ∈ A ↔ x ∈ B) → A = B
  | [], [], _, _, _ => rfl
  | [], b :: B, _, _, h => by have := (h b).2 (by simp); cases this
  | a :: A, [], _, _, h => by have := (h a).1 (by simp); cases this
  | a :: A, b :: B, ha, hb, h => by
    have ha' := List.pairwise_cons.1 ha
    have hb' := List.pairwise_cons.1 hb
    have e : a = b := by
      have h1 := (h a).1 (by simp)
      have h2 := (h b).2 (by simp)
      rcases List.mem_cons.1 h1 with e | e
      · exact e
      · rcases List.mem_cons.1 h2 with e2 | e2
        · exact e2.symm
        · have := hb'.1 a e
          have := ha'.1 b e2
          omega
    subst e
    congr 1
    refine rise_eq A B ha'.2 hb'.2 (fun x => ⟨fun hx => ?_, fun hx => ?_⟩)
    · rcases List.mem_cons.1 ((h x).1 (List.mem_cons_of_mem _ hx)) with e | e
      · have := ha'.1 x hx; omega
      · exact e
    · rcases List.mem_cons.1 ((h x).2 (List.mem_cons_of_mem _ hx)) with e | e
      · have := hb'.1 x hx; omega
      · exact e
theorem compact_upto (d : Array Int) (hs : ∀ i j, i ≤ j → j < d.size → d[i]! ≤ d[j]!) : ∀ m, m ≤ d.size → (compactUpTo d m).Pairwise (· < ·) ∧ ∀ x, x ∈ compactUpTo d m ↔ ∃ j, j < m ∧ d[j]! = x
  | 0, _ => by simp [compactUpTo]
  | m + 1, hm => by
    obtain ⟨h1, h2⟩ := compact_upto d hs m (by omega)
    rw [compactUpTo_succ]
    by_cases hk : keeps d m = true
    · rw [if_pos hk]
      have hk' := of_decide_eq_true hk
      refine ⟨?_, fun x => ?_⟩
      · rw [List.pairwise_append]
        refine ⟨h1, by simp, fun a ha b hb => ?_⟩
        obtain ⟨j, hj, e⟩ := (h2 a).1 ha
        simp only [List.mem_singleton] at hb
        subst hb e
        have := hs j (m - 1) (by omega) (by omega)
        have := hs (m - 1) m (by omega) (by omega)
        rcases hk' with e | e
        · omega
        · omega
      · rw [List.mem_append, h2]
        simp only [List.mem_singleton]
        constructor
        · rintro (⟨j, hj, e⟩ | e)
          · exact ⟨j, by omega, e⟩
          · exact ⟨m, by omega, e.symm⟩
        · rintro ⟨j, hj, e⟩
          by_cases ej : j = m
          · subst ej; exact .inr e.symm
          · exact .inl ⟨j, by omega, e⟩
    · rw [if_neg hk, List.append_nil]
      have hk2 : ¬ (m = 0 ∨ d[m]! ≠ d[m - 1]!) := fun e => hk (decide_eq_true e)
      refine ⟨h1, fun x => ?_⟩
      rw [h2]
      constructor
      · rintro ⟨j, hj, e⟩; exact ⟨j, by omega, e⟩
      · rintro ⟨j, hj, e⟩
        by_cases ej : j = m
        · subst ej
          refine ⟨j - 1, by omega, ?_⟩
          have : d[j]! = d[j - 1]! := Classical.not_not.1 (fun e2 => hk2 (.inr e2))
          rw [← this]; exact e
        · exact ⟨j, by omega, e⟩
theorem compact_sort (L : List Int) : (Lib.compact (sortI L)).Pairwise (· < ·) ∧ ∀ x, x ∈ Lib.compact (sortI L) ↔ x ∈ L := by
  have hsort : (sortI L).Pairwise (fun x y => decide (x ≤ y) = true) := List.pairwise_mergeSort (fun a b c h1 h2 => by simp at *; omega) (fun a b => by simp; omega) L
  have hS : ∀ i j, i ≤ j → j < (sortI L).toArray.size → (sortI L).toArray[i]! ≤ (sortI L).toArray[j]! := fun i j hij hj => by
    have hj' : j < (sortI L).length := by simpa using hj
    rw [getElem!_pos _ j hj, getElem!_pos _ i (by omega)]
    simp only [List.getElem_toArray]
    by_cases e : i = j
    · subst e; exact Int.le_refl _
    · have := List.pairwise_iff_getElem.1 hsort i j (by omega) hj' (by omega)
      simpa using this
  obtain ⟨h1, h2⟩ := compact_upto (sortI L).toArray hS (sortI L).length (by simp)
  refine ⟨h1, fun x => ?_⟩
  unfold Lib.compact
  rw [h2]
  have hm : x ∈ sortI L ↔ x ∈ L := List.mem_mergeSort
  rw [← hm]
  constructor
  · rintro ⟨j, hj, e⟩
    rw [getElem!_pos _ j (by simpa using hj)] at e
    rw [← e]
    simp
  · intro hx
    obtain ⟨j, hj, e⟩ := List.mem_iff_getElem.1 hx
    exact ⟨j, hj, by rw [getElem!_pos _ j (by simpa using hj)]; simpa using e⟩
theorem range_rise (n : Nat) : ((List.range n).map fun (i : Nat) => (i : Int)).Pairwise (· < ·) := by
  rw [List.pairwise_map]
  exact List.pairwise_lt_range.imp (fun h => by omega)
theorem locks_eq {s a b : Int} (hs : 0 < s) : Lib.compact (sortI (keptI [0, s, a, b])) = locksL s a b := by
  obtain ⟨h1, h2⟩ := compact_sort (keptI [0, s, a, b])
  refine rise_eq _ _ h1 (List.Pairwise.filter _ (range_rise _)) (fun x => ?_)
  rw [h2]
  unfold keptI locksL negB
  simp only [List.mem_filter, List.mem_map, List.mem_range, List.mem_cons, List.not_mem_nil, or_false, Bool.not_eq_true', decide_eq_false_iff_not, decide_eq_true_eq]
  constructor
  · rintro ⟨h3, h4⟩
    exact ⟨⟨x.toNat, by omega, by omega⟩, h3⟩
  · rintro ⟨⟨i, _, e⟩, h3⟩
    exact ⟨h3, by omega⟩

set_option maxRecDepth 100000 in
set_option maxHeartbeats 4000000 in
theorem rLocks_c {ws : List Int} {c : Nat} {A : Option Addr} {w : World} (hT : AtC ws c A w) (s : Int) : Calls Try.prog 73 #[.slice A ws.length c, .int .i64 s] w (IntsNew (locksW ws s) w) := by
  have HT := Lib.hid hT
  clear hT
  obtain ⟨n, p, en, ep, hn, hp, HC⟩ := HT.out w (Below.refl _ _) s
  obtain ⟨n0, p0, en0, ep0, hn0, hp0, _⟩ := HT.out w (Below.refl _ _) 0
  have H0 : Hid (∀ W, Below w.heap.size w W → Calls Try.prog 59 #[.slice A ws.length c, .int .i64 0] W fun e w' => e = .returned (.tuple #[.int .i64 n0, .int .i64 p0]) ∧ Below W.heap.size W w') := Lib.hid fun W hW => by
    obtain ⟨a', b', ea, eb, _, _, h⟩ := HT.out W hW 0
    rw [← en0, ← ep0, ea, eb]
    exact h
  have HH := Lib.hid (fun W => rHas_any ws.length c A s W)
  have HJ : Hid (locksW ws s = if s ≤ 0 ∨ ¬ s < ws.length then [] else if n < 0 then locksL s n0 (-1) else locksL s n p) := Lib.hid (by
    unfold locksW lockNP
    rw [en, ep, en0]
    by_cases h : n < 0
    · simp only [if_pos h]
    · simp only [if_neg h])
  have HC0 := Lib.hid HC
  clear en ep en0 ep0 HC HT
  generalize locksW ws s = J at *
  generalize ws.length = len at *
  by_cases hbad : s ≤ 0 ∨ ¬ s < (len : Int)
  · have HJ2 : Hid (J = []) := Lib.hid (by rw [HJ.out, if_pos hbad])
    have hnil : ∀ w' : World, Below w.heap.size w w' → IntsNew [] w (.returned (.slice none 0 0)) w' := fun w' hb => ⟨none, 0, rfl, fun k z h => by simp at h, hb⟩
    have HN := Lib.hid hnil
    clear HJ H0 hnil
    by_cases h1 : s ≤ 0
    · clear HH hbad
      go_enter Try.func73, Try.ntmps73
      go_wp2
      go_ret
      rw [HJ2.out]
      exact HN.out _ (Below.refl _ _)
    · have hd : decide (0 ≤ s ∧ s < (len : Int)) = false := decide_eq_false (by omega)
      rw [hd] at HH
      clear hd hbad
      go_enter Try.func73, Try.ntmps73
      go_wp2_with fail
      refine (HH.out _).mono ?_
      rintro e w1 ⟨rfl, rfl⟩
      go_wp2
      go_ret
      rw [HJ2.out]
      exact HN.out _ (Below.refl _ _)
  · have hd : decide (0 ≤ s ∧ s < (len : Int)) = true := decide_eq_true (by omega)
    rw [hd] at HH
    have h1 : 0 < s := by omega
    rw [if_neg hbad] at HJ
    clear hd hbad
    have HTAIL : Hid (∀ (a b : Int) (W : World), J = locksL s a b → Below w.heap.size w W →
        Holds (Value.int .i64) (W.alloc (.cells #[.int .i64 0, .int .i64 s, .int .i64 a, .int .i64 b] 3)) W.heap.size 0 [0, s, a, b].toArray ∧ ∀ w4, RowAt W.heap.size (Lib.compact (sortI (keptI [0, s, a, b]))) (W.alloc (.cells #[.int .i64 0, .int .i64 s, .int .i64 a, .int .i64 b] 3)) w4 → IntsNew J w (.returned (.slice (some ⟨W.heap.size, 0, none⟩) (Lib.compact (sortI (keptI [0, s, a, b]))).length 4)) w4) := Lib.hid (by
      intro a b W hJ hW
      refine ⟨fun j hj => ?_, fun w4 hw4 => ?_⟩
      · have hh := heap_alloc_last W (.cells #[.int .i64 0, .int .i64 s, .int .i64 a, .int .i64 b] 3)
        have hj4 : j < 4 := by simpa using hj
        rw [Nat.zero_add]
        refine ⟨(cell_of_row _ _ j _ _ (0, 0) hh).trans ?_, by simp only [World.frozen?]; rw [hh]; simp⟩
        match j, hj4 with
        | 0, _ => rfl
        | 1, _ => rfl
        | 2, _ => rfl
        | 3, _ => rfl
      · obtain ⟨h2, h3, h4⟩ := hw4
        rw [hJ, ← locks_eq h1]
        have hbw : Below w.heap.size w w4 := (hW.alloc hW.size _).trans (h4.mono hW.size)
        refine ⟨_, 4, rfl, fun k z hz => ?_, hbw⟩
        obtain ⟨b', off, e1, e2, e3⟩ := holds_rd h2 h3 k z hz
        injection e1 with e1
        injection e1 with e1 e4
        subst e1 e4
        exact ⟨_, _, rfl, hW.size, h3, e3⟩)
    by_cases hneg : n < 0
    · rw [if_pos hneg] at HJ
      go_enter Try.func73, Try.ntmps73
      go_wp2_with fail
      refine (HH.out _).mono ?_
      rintro e w1 ⟨rfl, rfl⟩
      go_wp2_with fail
      refine HC0.out.mono ?_
      rintro e w1 ⟨rfl, hb1⟩
      go_wp2_with fail
      refine (H0.out _ hb1).mono ?_
      rintro e W ⟨rfl, hb2⟩
      obtain ⟨k1, k2⟩ := HTAIL.out n0 (-1) W HJ.out (Below.next hb1 hb2)
      have HK := Lib.hid k2
      have HD := Lib.hid (del_row (cap := 4) k1 (by simp) (by simp) (by simp))
      clear k1 k2 hb1 hb2 HTAIL HH HC0 H0
      go_wp2_with fail
      refine HD.out.mono ?_
      rintro e w2 ⟨rfl, hr2⟩
      have hkl := keptI_len [0, s, n0, -1]
      generalize keptI [0, s, n0, -1] = K at *
      have HS := Lib.hid (sort_row (cap := 4) hr2.1 hr2.2.1 (Nat.le_trans hkl (by simp)))
      have HR2 := Lib.hid hr2
      clear hr2 HD
      go_wp2_with fail
      refine HS.out.mono ?_
      rintro e w3 ⟨rfl, hr3⟩
      have HCo := Lib.hid (compact_row (cap := 4) hr3.1 hr3.2.1 (by rw [sortI_len]; exact Nat.le_trans hkl (by simp)) (by rw [sortI_len]; exact hkl))
      rw [sortI_len] at HCo
      have HR3 := Lib.hid (RowAt.trans HR2.out hr3)
      clear hr3 HR2 HS
      go_wp2_with fail
      refine HCo.out.mono ?_
      rintro e w4 ⟨rfl, hr4⟩
      have HO := Lib.hid (HK.out _ (RowAt.trans HR3.out hr4))
      clear hr4 HR3 HCo HK hkl
      go_wp2
      go_ret
      exact HO.out
    · rw [if_neg hneg] at HJ
      go_enter Try.func73, Try.ntmps73
      go_wp2_with fail
      refine (HH.out _).mono ?_
      rintro e w1 ⟨rfl, rfl⟩
      go_wp2_with fail
      refine HC0.out.mono ?_
      rintro e W ⟨rfl, hb1⟩
      obtain ⟨k1, k2⟩ := HTAIL.out n p W HJ.out hb1
      have HK := Lib.hid k2
      have HD := Lib.hid (del_row (cap := 4) k1 (by simp) (by simp) (by simp))
      clear k1 k2 hb1 HTAIL HH HC0 H0
      go_wp2_with fail
      refine HD.out.mono ?_
      rintro e w2 ⟨rfl, hr2⟩
      have hkl := keptI_len [0, s, n, p]
      generalize keptI [0, s, n, p] = K at *
      have HS := Lib.hid (sort_row (cap := 4) hr2.1 hr2.2.1 (Nat.le_trans hkl (by simp)))
      have HR2 := Lib.hid hr2
      clear hr2 HD
      go_wp2_with fail
      refine HS.out.mono ?_
      rintro e w3 ⟨rfl, hr3⟩
      have HCo := Lib.hid (compact_row (cap := 4) hr3.1 hr3.2.1 (by rw [sortI_len]; exact Nat.le_trans hkl (by simp)) (by rw [sortI_len]; exact hkl))
      rw [sortI_len] at HCo
      have HR3 := Lib.hid (RowAt.trans HR2.out hr3)
      clear hr3 HR2 HS
      go_wp2_with fail
      refine HCo.out.mono ?_
      rintro e w4 ⟨rfl, hr4⟩
      have HO := Lib.hid (HK.out _ (RowAt.trans HR3.out hr4))
      clear hr4 HR3 HCo HK hkl
      go_wp2
      go_ret
      exact HO.out
end Go.Proofs.Ytkoelbdmpnelhaa
