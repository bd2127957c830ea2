/- Plain mathematics of clocks: the numbers that a list says, short lists, ticks, joins, how two stand to each other. -/
import Derived.Test.YtdgmcaehadigaaaMem
namespace Go.Proofs.Ytdgmcaehadigaaa

/-- The number of worker k. -/
def atN (zs : List Int) (k : Nat) : Int := if k < 65 then max (zs.getD k 0) 0 else 0
/-- All workers' numbers. -/
def numL (zs : List Int) : List Int := (List.range 65).map (atN zs)
/-- The number of whatever is named. -/
def atZ (zs : List Int) (w : Int) : Int := if 0 ≤ w ∧ w ≤ 64 then (numL zs).getD w.toNat 0 else 0
def IsNum (N : List Int) : Prop := N.length = 65 ∧ ∀ k, 0 ≤ N.getD k 0

theorem range_getD {α : Type} (f : Nat → α) (n k : Nat) (d : α) (h : k < n) : ((List.range n).map f).getD k d = f k := by
  rw [List.getD_eq_getElem?_getD, List.getElem?_map, List.getElem?_range h]; rfl
theorem range_getD_out {α : Type} (f : Nat → α) (n k : Nat) (d : α) (h : n ≤ k) : ((List.range n).map f).getD k d = d := by
  rw [List.getD_eq_getElem?_getD, List.getElem?_eq_none (by simpa using h)]; rfl
theorem num_ext {M N : List Int} (hM : M.length = 65) (hN : N.length = 65) (h : ∀ k, k < 65 → M.getD k 0 = N.getD k 0) : M = N := by
  refine List.ext_getElem (by omega) fun k h1 h2 => ?_
  have := h k (by omega)
  rw [List.getD_eq_getElem?_getD, List.getD_eq_getElem?_getD, List.getElem?_eq_getElem h1, List.getElem?_eq_getElem h2] at this
  exact this
theorem numL_len (zs : List Int) : (numL zs).length = 65 := by simp [numL]
theorem numL_at (zs : List Int) (k : Nat) : (numL zs).getD k 0 = atN zs k := by
  by_cases h : k < 65
  · exact range_getD _ _ _ _ h
  · rw [numL, range_getD_out _ _ _ _ (by omega), atN, if_neg h]
theorem atN_nonneg (zs : List Int) (k : Nat) : 0 ≤ atN zs k := by
  unfold atN
  split <;> omega
theorem numL_num (zs : List Int) : IsNum (numL zs) := ⟨numL_len zs, fun k => by rw [numL_at]; exact atN_nonneg zs k⟩
theorem IsNum.out {N : List Int} (h : IsNum N) {k : Nat} (hk : 65 ≤ k) : N.getD k 0 = 0 := by
  rw [List.getD_eq_getElem?_getD, List.getElem?_eq_none (by rw [h.1]; exact hk)]; rfl
theorem numL_is {N : List Int} (h : IsNum N) : numL N = N := num_ext (numL_len _) h.1 fun k hk => by
  rw [numL_at, atN, if_pos hk]
  have := h.2 k
  omega

/-- Where the last number that is not 0, of the first e, ends. -/
def endN (N : List Int) : Nat → Nat
  | 0 => 0
  | e + 1 => if N.getD e 0 = 0 then endN N e else e + 1
theorem endN_le (N : List Int) : ∀ e, endN N e ≤ e
  | 0 => Nat.le_refl _
  | e + 1 => by
    unfold endN
    split
    · exact Nat.le_succ_of_le (endN_le N e)
    · exact Nat.le_refl _
theorem endN_zero (N : List Int) : ∀ e k, endN N e ≤ k → k < e → N.getD k 0 = 0
  | 0, _, _, h => absurd h (Nat.not_lt_zero _)
  | e + 1, k, h, hk => by
    unfold endN at h
    split at h
    · rename_i h0
      rcases Nat.lt_succ_iff_lt_or_eq.1 hk with h1 | rfl
      · exact endN_zero N e k h h1
      · exact h0
    · omega
theorem endN_step {N : List Int} {e : Nat} (h : N.getD e 0 = 0) : endN N (e + 1) = endN N e := if_pos h
theorem endN_stop {N : List Int} {e : Nat} (h : ¬ N.getD e 0 = 0) : endN N (e + 1) = e + 1 := if_neg h
theorem endN_more (N : List Int) (m : Nat) : ∀ d, (∀ k, m ≤ k → N.getD k 0 = 0) → endN N (m + d) = endN N m
  | 0, _ => rfl
  | d + 1, h => by rw [← Nat.add_assoc, endN_step (h _ (by omega))]; exact endN_more N m d h
def shortL (N : List Int) : List Int := N.take (endN N 65)
theorem shortL_len {N : List Int} (h : IsNum N) : (shortL N).length = endN N 65 := by
  rw [shortL, List.length_take, h.1]
  have := endN_le N 65
  omega
theorem shortL_le (N : List Int) : (shortL N).length ≤ 65 := by
  rw [shortL, List.length_take]
  have := endN_le N 65
  omega
theorem take_getD (N : List Int) (m k : Nat) : (N.take m).getD k 0 = if k < m then N.getD k 0 else 0 := by
  rw [List.getD_eq_getElem?_getD, List.getElem?_take]
  split
  · rw [← List.getD_eq_getElem?_getD]
  · rfl
theorem numL_short {N : List Int} (h : IsNum N) : numL (shortL N) = N := num_ext (numL_len _) h.1 fun k hk => by
  rw [numL_at, atN, if_pos hk, shortL, take_getD]
  split
  · have := h.2 k; omega
  · rw [endN_zero N 65 k (by omega) hk]; rfl
/-- A list that is not long says as much as its beginning. -/
theorem numL_out (zs : List Int) (k : Nat) (h : zs.length ≤ k) : (numL zs).getD k 0 = 0 := by
  rw [numL_at]
  unfold atN
  split
  · rw [List.getD_eq_getElem?_getD, List.getElem?_eq_none h]; rfl
  · rfl
theorem short_min (zs : List Int) : shortL (numL zs) = (numL zs).take (endN (numL zs) (min 65 zs.length)) := by
  rw [shortL]
  have h := endN_more (numL zs) (min 65 zs.length) (65 - min 65 zs.length) fun k hk => by
    rcases Nat.lt_or_ge k 65 with h1 | h1
    · exact numL_out zs k (by omega)
    · exact (numL_num zs).out h1
  rw [show min 65 zs.length + (65 - min 65 zs.length) = 65 by omega] at h
  rw [h]

/-- A worker's step. -/
def tickN (N : List Int) (w : Int) : List Int := if (0 ≤ w ∧ w ≤ 64) ∧ N.getD w.toNat 0 < 4611686018427387904 then N.set w.toNat (N.getD w.toNat 0 + 1) else N
theorem set_getD (N : List Int) (i k : Nat) (z : Int) (hi : i < N.length) : (N.set i z).getD k 0 = if i = k then z else N.getD k 0 := by
  rw [List.getD_eq_getElem?_getD, List.getElem?_set]
  by_cases e : i = k
  · subst e; rw [if_pos rfl, if_pos hi, if_pos rfl]; rfl
  · rw [if_neg e, if_neg e, ← List.getD_eq_getElem?_getD]
theorem tickN_num {N : List Int} (h : IsNum N) (w : Int) : IsNum (tickN N w) := by
  unfold tickN
  split
  · rename_i hw
    refine ⟨by rw [List.length_set]; exact h.1, fun k => ?_⟩
    rw [set_getD _ _ _ _ (by rw [h.1]; omega)]
    have := h.2 k
    have := h.2 w.toNat
    split <;> omega
  · exact h

/-- Of each worker the greater number. -/
def joinN (M N : List Int) : List Int := (List.range 65).map fun k => max (M.getD k 0) (N.getD k 0)
theorem joinN_len (M N : List Int) : (joinN M N).length = 65 := by simp [joinN]
theorem joinN_at (M N : List Int) {k : Nat} (h : k < 65) : (joinN M N).getD k 0 = max (M.getD k 0) (N.getD k 0) := range_getD _ _ _ _ h
theorem joinN_num {M N : List Int} (hM : IsNum M) : IsNum (joinN M N) := ⟨joinN_len _ _, fun k => by
  rcases Nat.lt_or_ge k 65 with h | h
  · rw [joinN_at _ _ h]; have := hM.2 k; omega
  · rw [joinN, range_getD_out _ _ _ _ h]; exact Int.le_refl _⟩
theorem joinN_le {M N : List Int} (hN : N.length = 65) : joinN M N = N ↔ ∀ k, k < 65 → M.getD k 0 ≤ N.getD k 0 := by
  constructor
  · intro e k hk
    have := congrArg (fun L => List.getD L k 0) e
    simp only [joinN_at _ _ hk] at this
    omega
  · intro h
    exact num_ext (joinN_len _ _) hN fun k hk => by rw [joinN_at _ _ hk]; have := h k hk; omega
theorem joinN_comm (M N : List Int) : joinN M N = joinN N M := num_ext (joinN_len _ _) (joinN_len _ _) fun k hk => by rw [joinN_at _ _ hk, joinN_at _ _ hk]; omega
theorem joinN_assoc (L M N : List Int) : joinN (joinN L M) N = joinN L (joinN M N) := num_ext (joinN_len _ _) (joinN_len _ _) fun k hk => by
  rw [joinN_at _ _ hk, joinN_at _ _ hk, joinN_at _ _ hk, joinN_at _ _ hk]; omega
theorem joinN_self {M : List Int} (h : M.length = 65) : joinN M M = M := (joinN_le h).2 fun _ _ => Int.le_refl _

/-- How two stand to each other. -/
def cmpN (M N : List Int) : Int := if M = N then 0 else if joinN M N = N then -1 else if joinN M N = M then 1 else 2
/-- No greater than another one. -/
def leN (M N : List Int) : Bool := decide (joinN M N = N)
theorem leN_iff {M N : List Int} (hN : N.length = 65) : leN M N = true ↔ ∀ k, k < 65 → M.getD k 0 ≤ N.getD k 0 := by
  rw [leN, decide_eq_true_iff]; exact joinN_le hN
theorem cmpN_up {M N : List Int} (hN : N.length = 65) : (cmpN M N = -1 ∨ cmpN M N = 0) ↔ leN M N = true := by
  rw [leN, decide_eq_true_iff]
  unfold cmpN
  by_cases h1 : M = N
  · subst h1
    rw [if_pos rfl]
    exact ⟨fun _ => joinN_self hN, fun _ => .inr rfl⟩
  · rw [if_neg h1]
    by_cases h2 : joinN M N = N
    · rw [if_pos h2]
      exact ⟨fun _ => h2, fun _ => .inl rfl⟩
    · rw [if_neg h2]
      by_cases h3 : joinN M N = M
      · rw [if_pos h3]
        exact ⟨fun h => by omega, fun h => absurd h h2⟩
      · rw [if_neg h3]
        exact ⟨fun h => by omega, fun h => absurd h h2⟩
theorem cmpN_flip (M N : List Int) : (cmpN M N = 0 ∧ cmpN N M = 0) ∨ (cmpN M N = 2 ∧ cmpN N M = 2) ∨ (cmpN M N = -1 ∧ cmpN N M = 1) ∨ (cmpN M N = 1 ∧ cmpN N M = -1) := by
  unfold cmpN
  rw [joinN_comm N M]
  by_cases h1 : M = N
  · subst h1
    simp
  · have h1' : ¬ N = M := fun e => h1 e.symm
    rw [if_neg h1, if_neg h1']
    by_cases h2 : joinN M N = N
    · have h3 : ¬ joinN M N = M := fun e => h1 (e.symm.trans h2)
      rw [if_pos h2, if_neg h3, if_pos h2]
      simp
    · by_cases h3 : joinN M N = M
      · rw [if_neg h2, if_pos h3, if_pos h3]
        simp
      · rw [if_neg h2, if_neg h3, if_neg h3, if_neg h2]
        simp
theorem le_join_left {M N : List Int} : leN M (joinN M N) = true := (leN_iff (joinN_len _ _)).2 fun k hk => by rw [joinN_at _ _ hk]; omega
theorem le_join_right {M N : List Int} : leN N (joinN M N) = true := (leN_iff (joinN_len _ _)).2 fun k hk => by rw [joinN_at _ _ hk]; omega
theorem join_least {L M N : List Int} (hN : N.length = 65) (h1 : leN L N = true) (h2 : leN M N = true) : leN (joinN L M) N = true := by
  rw [leN_iff hN] at *
  intro k hk
  have := h1 k hk
  have := h2 k hk
  rw [joinN_at _ _ hk]; omega
theorem tick_cmp {N : List Int} (h : IsNum N) (w : Int) (hw : (0 ≤ w ∧ w ≤ 64) ∧ N.getD w.toNat 0 < 4611686018427387904) : cmpN N (tickN N w) = -1 ∧ (tickN N w).getD w.toNat 0 = N.getD w.toNat 0 + 1 := by
  have hl : w.toNat < N.length := by rw [h.1]; omega
  have he : (tickN N w).getD w.toNat 0 = N.getD w.toNat 0 + 1 := by
    rw [tickN, if_pos hw, set_getD _ _ _ _ hl, if_pos rfl]
  refine ⟨?_, he⟩
  have hne : ¬ N = tickN N w := fun e => by
    rw [← e] at he
    omega
  rw [cmpN, if_neg hne, if_pos]
  refine (joinN_le (tickN_num h w).1).2 fun k hk => ?_
  rw [tickN, if_pos hw, set_getD _ _ _ _ hl]
  split
  · rename_i e; subst e; omega
  · omega
theorem tick_none {N : List Int} {w : Int} (hw : ¬ ((0 ≤ w ∧ w ≤ 64) ∧ N.getD w.toNat 0 < 4611686018427387904)) : tickN N w = N := if_neg hw
theorem cmpN_self (N : List Int) : cmpN N N = 0 := if_pos rfl

end Go.Proofs.Ytdgmcaehadigaaa
