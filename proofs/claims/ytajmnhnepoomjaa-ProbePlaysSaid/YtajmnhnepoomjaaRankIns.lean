/- Insertion by exchanges: plain maths, and a row of spots in a block. -/
import Derived.Test.YtajmnhnepoomjaaRankPlain
import Derived.RangeFuncRecord
namespace Go.Proofs.Ytajmnhnepoomjaa
open Go.RowKit Go.Shelf Go.Sort

/-- The spots at k - 1 and k change places. -/
def swapAt (M : List SpotT) (k : Nat) : List SpotT := (M.set k (spAt M (k - 1))).set (k - 1) (spAt M k)
theorem swapAt_len (M : List SpotT) (k : Nat) : (swapAt M k).length = M.length := by simp [swapAt]
theorem spAt_get {M : List SpotT} {k : Nat} (h : k < M.length) : spAt M k = M[k] := by
  have := spAt_lt h
  rw [List.getElem?_eq_getElem h] at this
  injection this with this
  exact this.symm
theorem spAt_set (M : List SpotT) (k p : Nat) (x : SpotT) (h : k < M.length) : spAt (M.set k x) p = if p = k then x else spAt M p := by
  unfold spAt
  rw [List.getD_eq_getElem?_getD, List.getD_eq_getElem?_getD, List.getElem?_set]
  by_cases hp : k = p
  · subst hp
    rw [if_pos rfl, if_pos rfl, if_pos h]
    rfl
  · rw [if_neg hp, if_neg (fun e => hp e.symm)]
theorem spAt_swap (M : List SpotT) (k p : Nat) (h : k < M.length) (h0 : 0 < k) : spAt (swapAt M k) p = if p = k - 1 then spAt M k else if p = k then spAt M (k - 1) else spAt M p := by
  unfold swapAt
  rw [spAt_set _ _ _ _ (by simp; omega), spAt_set _ _ _ _ h]
theorem swapAt_perm (M : List SpotT) (k : Nat) (h : k < M.length) (h0 : 0 < k) : (swapAt M k).Perm M := by
  obtain ⟨m, rfl⟩ : ∃ m, k = m + 1 := ⟨k - 1, by omega⟩
  have e : M = M.take m ++ M[m] :: M[m + 1] :: M.drop (m + 2) := by
    rw [List.getElem_cons_drop h, List.getElem_cons_drop (by omega), List.take_append_drop]
  have hs : swapAt M (m + 1) = M.take m ++ M[m + 1] :: M[m] :: M.drop (m + 2) := by
    have hl : (M.take m).length = m := by rw [List.length_take]; omega
    unfold swapAt
    rw [Nat.add_sub_cancel, spAt_get h, spAt_get (by omega)]
    generalize M[m + 1] = x at *
    generalize M[m] = a at *
    generalize M.take m = T at *
    generalize M.drop (m + 2) = D at *
    subst e
    rw [List.set_append_right _ _ (by omega), hl, Nat.add_sub_cancel_left, List.set_append_right _ _ (by omega), hl, Nat.sub_self]
    rfl
  rw [hs]
  refine (List.Perm.append_left _ (List.Perm.swap _ _ _)).trans ?_
  rw [← e]

/-- In order up to i. -/
def SortedTo (M : List SpotT) (i : Nat) : Prop := ∀ p q, p < q → q < i → leS (spAt M p) (spAt M q) = true
/-- In order up to i, but for the one at k, which is ahead of all behind it. -/
def Ins (M : List SpotT) (i k : Nat) : Prop := (∀ p q, p < q → q ≤ i → p ≠ k → q ≠ k → leS (spAt M p) (spAt M q) = true) ∧ ∀ q, k < q → q ≤ i → leS (spAt M k) (spAt M q) = true
theorem SortedTo.one (M : List SpotT) : SortedTo M 1 := fun p q h1 h2 => by omega
theorem Ins.start {M : List SpotT} {i : Nat} (h : SortedTo M i) : Ins M i i := ⟨fun p q h1 h2 h3 h4 => h p q h1 (by omega), fun q h1 h2 => by omega⟩
theorem leS_of_lt {x y : SpotT} (h : ltS x y = true) : leS x y = true := by
  rw [leS_iff]
  cases e : ltS y x
  · rfl
  · have := swoS.trans _ _ _ h e
    rw [swoS.irrefl] at this
    cases this
theorem Ins.step {M : List SpotT} {i k : Nat} (h : Ins M i k) (hk : k ≤ i) (h0 : 0 < k) (hi : i < M.length) (hlt : ltS (spAt M k) (spAt M (k - 1)) = true) : Ins (swapAt M k) i (k - 1) := by
  have sp := fun p => spAt_swap M k p (by omega) h0
  refine ⟨fun p q h1 h2 h3 h4 => ?_, fun q h1 h2 => ?_⟩
  · rw [sp p, sp q, if_neg h3, if_neg h4]
    by_cases hp : p = k
    · subst hp
      rw [if_pos rfl, if_neg (by omega)]
      exact h.1 _ _ (by omega) h2 (by omega) (by omega)
    · rw [if_neg hp]
      by_cases hq : q = k
      · subst hq
        rw [if_pos rfl]
        exact h.1 _ _ (by omega) (by omega) hp (by omega)
      · rw [if_neg hq]
        exact h.1 _ _ h1 h2 hp hq
  · rw [sp (k - 1), if_pos rfl, sp q, if_neg (by omega)]
    by_cases hq : q = k
    · subst hq
      rw [if_pos rfl]
      exact leS_of_lt hlt
    · rw [if_neg hq]
      exact h.2 q (by omega) h2
theorem Ins.stop {M : List SpotT} {i k : Nat} (h : Ins M i k) (hs : k = 0 ∨ ltS (spAt M k) (spAt M (k - 1)) = false) : SortedTo M (i + 1) := by
  intro p q h1 h2
  by_cases hp : p = k
  · subst hp
    exact h.2 q h1 (by omega)
  · by_cases hq : q = k
    · subst hq
      rcases hs with rfl | hs
      · omega
      · have h3 : leS (spAt M (q - 1)) (spAt M q) = true := (leS_iff _ _).2 hs
        by_cases hp2 : p = q - 1
        · rw [hp2]; exact h3
        · exact leS_trans _ _ _ (h.1 p (q - 1) (by omega) (by omega) hp (by omega)) h3
    · exact h.1 p q h1 (by omega) hp hq
theorem SortedTo.whole {M : List SpotT} (h : SortedTo M M.length) : M.Pairwise (fun x y => leS x y = true) := by
  rw [List.pairwise_iff_getElem]
  intro i j hi hj hij
  rw [← spAt_get hi, ← spAt_get hj]
  exact h i j hij hj

/-- A block whose row is these spots. -/
structure ArrS (W : World) (g n : Nat) (M : List SpotT) : Prop where
  len : M.length = n
  c0 : ∀ p, p < n → W.cell? ⟨g, p * 3, none⟩ = some (.int .u64 (spAt M p).1.1)
  c1 : ∀ p, p < n → W.cell? ⟨g, p * 3 + 1, none⟩ = some (.int .u64 (spAt M p).1.2)
  c2 : ∀ p, p < n → W.cell? ⟨g, p * 3 + 2, none⟩ = some (.int .i64 (spAt M p).2)
  fr : ∀ j, j < n * 3 → W.frozen? ⟨g, j, none⟩ = false
section
variable {W W' : World} {g n : Nat} {M : List SpotT}
theorem ArrS.below {B : Nat} (h : ArrS W g n M) (hb : Below B W W') (hg : g < B) : ArrS W' g n M :=
  ⟨h.len, fun p hp => (hb.cell (p := ⟨g, p * 3, none⟩) hg).trans (h.c0 p hp), fun p hp => (hb.cell (p := ⟨g, p * 3 + 1, none⟩) hg).trans (h.c1 p hp), fun p hp => (hb.cell (p := ⟨g, p * 3 + 2, none⟩) hg).trans (h.c2 p hp), fun j hj => (hb.frozen (p := ⟨g, j, none⟩) hg).trans (h.fr j hj)⟩
theorem ArrS.lt (h : ArrS W g n M) (hn : 0 < n) : g < W.heap.size := World.block_lt_of_cell? _ _ (h.c0 0 hn)
theorem ArrS.rd (h : ArrS W g n M) (hn : 0 < n) : RdS W W.heap.size (some ⟨g, 0, none⟩) M := fun k z hz => by
  obtain ⟨hk, rfl⟩ := List.getElem?_eq_some_iff.1 hz
  have hl := h.len
  rw [← spAt_get hk]
  exact ⟨g, 0, rfl, h.lt hn, by rw [Nat.zero_add]; exact h.c0 k (by omega), by rw [Nat.zero_add]; exact h.c1 k (by omega), by rw [Nat.zero_add]; exact h.c2 k (by omega)⟩
theorem ArrS.set (h : ArrS W g n M) {k : Nat} (hk : k < n) (x : SpotT) :
    ArrS (((W.setCell ⟨g, k * 3, none⟩ (.int .u64 x.1.1)).setCell ⟨g, k * 3 + 1, none⟩ (.int .u64 x.1.2)).setCell ⟨g, k * 3 + 2, none⟩ (.int .i64 x.2)) g n (M.set k x) := by
  have hl := h.len
  have far : ∀ o v (p : Nat) (V : World), p ≠ o → (V.setCell ⟨g, o, none⟩ v).cell? ⟨g, p, none⟩ = V.cell? ⟨g, p, none⟩ := fun o v p V hne => World.cell?_setCell_other _ _ _ _ (by intro e; injection e with _ e; exact hne e.symm)
  refine ⟨by simp [hl], fun p hp => ?_, fun p hp => ?_, fun p hp => ?_, fun j hj => ?_⟩
  · rw [spAt_set _ _ _ _ (by omega), far _ _ _ _ (by omega), far _ _ _ _ (by omega)]
    by_cases e : p = k
    · subst e
      rw [if_pos rfl]
      exact World.cell?_setCell_same _ _ _ (h.c0 p hp)
    · rw [if_neg e, far _ _ _ _ (by omega)]
      exact h.c0 p hp
  · rw [spAt_set _ _ _ _ (by omega), far _ _ _ _ (by omega)]
    by_cases e : p = k
    · subst e
      rw [if_pos rfl]
      exact World.cell?_setCell_same _ _ _ ((far _ _ _ _ (by omega)).trans (h.c1 p hp))
    · rw [if_neg e, far _ _ _ _ (by omega), far _ _ _ _ (by omega)]
      exact h.c1 p hp
  · rw [spAt_set _ _ _ _ (by omega)]
    by_cases e : p = k
    · subst e
      rw [if_pos rfl]
      exact World.cell?_setCell_same _ _ _ ((far _ _ _ _ (by omega)).trans ((far _ _ _ _ (by omega)).trans (h.c2 p hp)))
    · rw [if_neg e, far _ _ _ _ (by omega), far _ _ _ _ (by omega), far _ _ _ _ (by omega)]
      exact h.c2 p hp
  · simp only [World.frozen?_setCell]
    exact h.fr j hj
theorem ArrS.of_own {base c : Nat} (h : W.ownsRow base 62 3 (.slice (some ⟨g, 0, none⟩) M.length c) M.length (cellsS M)) : ArrS W g M.length M := by
  have hH := holds_own h rfl
  have q := fun (k c : Nat) (hk : k < M.length) (hc : c < 3) => hH.cell (i := k) (c := c) (by simpa using hk) hc
  refine ⟨rfl, fun p hp => ?_, fun p hp => ?_, fun p hp => ?_, fun j hj => ?_⟩
  · rw [spAt_get hp]; have := (q p 0 hp (by decide)).1; simpa [hp, encS] using this
  · rw [spAt_get hp]; have := (q p 1 hp (by decide)).1; simpa [hp, encS] using this
  · rw [spAt_get hp]; have := (q p 2 hp (by decide)).1; simpa [hp, encS] using this
  · have h1 := (q (j / 3) (j % 3) (by omega) (by omega)).2
    have e : 0 + j / 3 * 3 + j % 3 = j := by omega
    rw [e] at h1
    exact h1
end

end Go.Proofs.Ytajmnhnepoomjaa
