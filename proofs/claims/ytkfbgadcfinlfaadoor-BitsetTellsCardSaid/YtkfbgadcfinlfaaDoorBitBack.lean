/- Plain: the words of a set's numbers are the set; there are as many as are counted. -/
import Derived.Test.YtkfbgadcfinlfaaDoorBitAlg2
namespace Go.Proofs.YtkfbgadcfinlfaaDoor
open Go.RowKit

theorem two_bit (k j : Nat) (hk : k < 64) : (W (IntKind.u64.wrap (2 ^ k))).getLsbD j = decide (k = j) := by
  have hlt : 2 ^ k < 2 ^ 64 := Nat.pow_lt_pow_right (by decide) hk
  have hp : (2 : Int) ^ k = ((2 ^ k : Nat) : Int) := by simp
  have h64 : 2 ^ 64 = 18446744073709551616 := by decide
  have e : IntKind.u64.wrap (2 ^ k) = ((2 ^ k : Nat) : Int) := by
    rw [hp, IntKind.wrap_u64]
    generalize 2 ^ k = p at *
    omega
  unfold W
  rw [e, BitVec.ofInt_natCast, BitVec.getLsbD_ofNat, Nat.testBit_two_pow]
  by_cases h : k = j
  · subst h; simp [hk]
  · simp [h]

theorem orBit_bit (x : Int) (k j : Nat) (hk : k < 64) (h : 0 ≤ x ∧ x ≤ 18446744073709551615) : (W (orBit x k)).getLsbD j = ((W x).getLsbD j || decide (k = j)) := by
  rw [← or_bit_int x k hk h.1 h.2]
  show (W (orF x (IntKind.u64.wrap (2 ^ k)))).getLsbD j = _
  rw [orF_eq, W_of, BitVec.getLsbD_or, two_bit k j hk]

theorem orBit_ne (x : Int) (k : Nat) (h : 0 ≤ x) : orBit x k ≠ 0 := by
  have hp := two_pow_pos k
  unfold orBit
  split
  · rename_i h1
    intro h0
    rw [h0, Int.zero_ediv] at h1
    cases h1
  · omega

theorem padTo_getD (ws : List Int) (m i : Nat) : (padTo ws m).getD i 0 = ws.getD i 0 := by
  unfold padTo
  rw [List.getD_eq_getElem?_getD, List.getD_eq_getElem?_getD]
  rcases Nat.lt_or_ge i ws.length with h | h
  · rw [List.getElem?_append_left h]
  · rw [List.getElem?_append_right h, List.getElem?_eq_none h, List.getElem?_replicate]
    split <;> rfl

theorem set_getD (ws : List Int) (q i : Nat) (v : Int) (hq : q < ws.length) : (ws.set q v).getD i 0 = if i = q then v else ws.getD i 0 := by
  rw [List.getD_eq_getElem?_getD, List.getD_eq_getElem?_getD]
  split
  · rename_i h
    subst h
    rw [List.getElem?_set_self hq]
    rfl
  · rename_i h
    rw [List.getElem?_set_ne (fun e => h e.symm)]

theorem step_getD (ws : List Int) (n : Int) (hn : ¬ (n < 0 ∨ 4096 ≤ n)) (i : Nat) :
    (ofStep ws n).getD i 0 = if i = (n / 64).toNat then orBit (ws.getD (n / 64).toNat 0) (n % 64).toNat else ws.getD i 0 := by
  unfold ofStep
  rw [if_neg hn, set_getD _ _ _ _ (by rw [padTo_length]; omega), padTo_getD, padTo_getD]

theorem has_step (ws : List Int) (hw : Words ws) (n m : Int) : hasB (ofStep ws n) m = (hasB ws m || (decide (m = n) && decide (0 ≤ m) && decide (m < 4096))) := by
  by_cases hn : n < 0 ∨ 4096 ≤ n
  · have e : ofStep ws n = ws := by unfold ofStep; rw [if_pos hn]
    rw [e]
    by_cases hm : m = n
    · subst hm
      have : (decide (0 ≤ m) && decide (m < 4096)) = false := by
        rcases hn with h | h
        · rw [decide_eq_false (by omega)]; rfl
        · rw [decide_eq_false (by omega : ¬ m < 4096)]; simp
      rw [Bool.and_assoc, this]
      simp
    · rw [decide_eq_false hm]
      simp
  · rw [has_word _ (ofStep_words ws n hw), has_word ws hw, step_getD ws n hn]
    by_cases h1 : 0 ≤ m
    · by_cases h2 : m < 4096
      · rw [decide_eq_true h1, decide_eq_true h2]
        simp only [Bool.true_and, Bool.and_true]
        split
        · rename_i hq
          rw [orBit_bit _ _ _ (by omega) (hw.getD _), hq]
          congr 1
          by_cases hm : m = n
          · subst hm; simp
          · rw [decide_eq_false hm, decide_eq_false (by omega)]
        · rename_i hq
          rw [decide_eq_false (by rintro rfl; exact hq rfl), Bool.or_false]
      · rw [decide_eq_false h2]; simp
    · rw [decide_eq_false h1]; simp

theorem has_fold (l : List Int) : ∀ (ws : List Int), Words ws → ∀ m, hasB (l.foldl ofStep ws) m = (hasB ws m || (decide (m ∈ l) && decide (0 ≤ m) && decide (m < 4096))) := by
  induction l with
  | nil => intro ws _ m; simp
  | cons n r ih =>
    intro ws hw m
    rw [List.foldl_cons, ih _ (ofStep_words ws n hw), has_step ws hw]
    by_cases h : m = n
    · subst h
      simp
      intro _ h1 h2
      exact .inr ⟨h1, h2⟩
    · simp [h]

theorem has_nil (m : Int) : hasB [] m = false := by unfold hasB; simp
theorem has_of (l : List Int) (m : Int) : hasB (ofL l) m = (decide (m ∈ l) && decide (0 ≤ m) && decide (m < 4096)) := by
  unfold ofL
  rw [has_fold l [] (by intro z hz; cases hz), has_nil, Bool.false_or]

/-- Words without a nought at their end. -/
def Short (ws : List Int) : Prop := trimR ws = ws
theorem short_last (ws : List Int) (h : ws = [] ∨ ws.getD (ws.length - 1) 0 ≠ 0) : Short ws := by
  induction ws using rev_ind with
  | start => rfl
  | snoc l z _ =>
    rcases h with h | h
    · simp at h
    · have e : (l ++ [z]).length - 1 = l.length := by simp
      rw [e, last_getD] at h
      exact trimR_ne l z h

theorem last_short (ws : List Int) (h : Short ws) : ws = [] ∨ ws.getD (ws.length - 1) 0 ≠ 0 := by
  rcases trim_form ws with e | ⟨r, z, e, hz⟩
  · exact .inl (h.symm.trans e)
  · rw [h] at e
    refine .inr ?_
    have e2 : ws.length - 1 = r.length := by rw [e]; simp
    rw [e2, e, last_getD]
    exact hz

theorem short_step (ws : List Int) (n : Int) (hw : Words ws) (h : Short ws) : Short (ofStep ws n) := by
  by_cases hn : n < 0 ∨ 4096 ≤ n
  · have e : ofStep ws n = ws := by unfold ofStep; rw [if_pos hn]
    rw [e]; exact h
  · refine short_last _ (.inr ?_)
    have hl : (ofStep ws n).length = max ws.length ((n / 64).toNat + 1) := by unfold ofStep; rw [if_neg hn, List.length_set, padTo_length]
    rw [step_getD ws n hn, hl]
    split
    · exact orBit_ne _ _ (hw.getD _).1
    · rename_i hq
      rcases last_short ws h with e | e
      · subst e
        simp at hq
      · rw [show max ws.length ((n / 64).toNat + 1) - 1 = ws.length - 1 from by omega]
        exact e

theorem short_fold (l : List Int) : ∀ ws, Words ws → Short ws → Short (l.foldl ofStep ws) := by
  induction l with
  | nil => intro ws _ h; exact h
  | cons n r ih => intro ws hw h; exact ih _ (ofStep_words ws n hw) (short_step ws n hw h)
theorem short_of (l : List Int) : Short (ofL l) := short_fold l [] (by intro z hz; cases hz) rfl

/-- Sets of words that have the same numbers are, without noughts at their ends, one. -/
theorem same_has (xs ys : List Int) (hx : Words xs) (hy : Words ys) (lx : xs.length ≤ 64) (ly : ys.length ≤ 64) (h : ∀ m, hasB xs m = hasB ys m) : trimR xs = trimR ys := by
  refine trim_ext _ _ (fun i => ?_)
  rcases Nat.lt_or_ge i 64 with hi | hi
  · rw [← W_toNat _ (hx.getD i).1 (hx.getD i).2, ← W_toNat _ (hy.getD i).1 (hy.getD i).2]
    congr 2
    apply BitVec.eq_of_getLsbD_eq
    intro k hk
    have := h ((i : Int) * 64 + k)
    rw [has_word _ hx, has_word _ hy, decide_eq_true (by omega : (0 : Int) ≤ (i : Int) * 64 + k), decide_eq_true (by omega : (i : Int) * 64 + k < 4096), show (((i : Int) * 64 + k) / 64).toNat = i from by omega, show (((i : Int) * 64 + k) % 64).toNat = k from by omega] at this
    simpa using this
  · rw [List.getD_eq_getElem?_getD, List.getD_eq_getElem?_getD, List.getElem?_eq_none (by omega), List.getElem?_eq_none (by omega)]

theorem zip_len (f : Int → Int → Int) (xs ys : List Int) : (zipL f xs ys).length ≤ 64 := by
  rw [zipL_length, List.length_take, List.length_take]
  omega

theorem trim_trim (l : List Int) : trimR (trimR l) = trimR l := trim_ext _ _ (fun i => getD_trim l i)

theorem trim_le (l : List Int) : (trimR l).length ≤ l.length := by
  induction l using rev_ind with
  | start => exact Nat.le_refl _
  | snoc l z ih =>
    by_cases hz : z = 0
    · subst hz; rw [trimR_zero]; simp; omega
    · rw [trimR_ne _ _ hz]; exact Nat.le_refl _

/-- The words of whatever numbers, against two sets put together: if they have the same numbers they are one. -/
theorem of_zip (f : Int → Int → Int) (hf : ∀ x y, 0 ≤ f x y ∧ f x y ≤ 18446744073709551615) (xs ys l : List Int) (h : ∀ m, hasB (ofL l) m = hasB (trimR (zipL f xs ys)) m) : ofL l = trimR (zipL f xs ys) := by
  have e := same_has (ofL l) (trimR (zipL f xs ys)) (ofL_words l) (words_zip f hf xs ys) (ofL_len l) (by have := trim_le (zipL f xs ys); have := zip_len f xs ys; omega) h
  rw [trim_trim] at e
  rw [← e]
  exact (short_of l).symm

theorem of_nums (zs L : List Int) (hw : Words zs) (h : Nums zs L) : ofL L = trimR (zipL orF zs []) := by
  refine of_zip orF orF_range zs [] L (fun m => ?_)
  rw [has_of, has_or zs [] hw (by intro z hz; cases hz), has_nil, Bool.or_false]
  by_cases hm : hasB zs m = true
  · have hr := has_range hm
    rw [hm, decide_eq_true ((h.2 m).2 hm), decide_eq_true hr.1, decide_eq_true hr.2]
    rfl
  · rw [decide_eq_false (fun h1 => hm ((h.2 m).1 h1))]
    simp at hm
    rw [hm]
    rfl

/-- The numbers below a bound, as a list. -/
def below (zs : List Int) (n : Nat) : List Int := ((List.range n).filter fun m : Nat => hasB zs (m : Int)).map Int.ofNat
theorem below_succ (zs : List Int) (n : Nat) : below zs (n + 1) = below zs n ++ (if hasB zs (n : Int) then [(n : Int)] else []) := by
  unfold below
  rw [List.range_succ, List.filter_append, List.map_append]
  refine congrArg (fun t => List.map Int.ofNat (List.filter (fun m : Nat => hasB zs (m : Int)) (List.range n)) ++ t) ?_
  by_cases h : hasB zs (n : Int) = true
  · rw [if_pos h]; simp [h]
  · rw [if_neg h]; simp only [Bool.not_eq_true] at h; simp [h]

theorem below_part (zs : List Int) (n : Nat) : Part zs (n : Int) (below zs n) := by
  induction n with
  | zero => exact Part.start zs
  | succ n ih =>
    rw [below_succ]
    by_cases h : hasB zs (n : Int) = true
    · rw [if_pos h]
      exact ih.step (Int.le_refl _) h (fun j h1 h2 => by omega)
    · rw [if_neg h, List.append_nil]
      refine ih.skip (by omega) (fun j h1 h2 => ?_)
      have : j = (n : Int) := by omega
      subst this
      simpa using h

theorem below_count (zs : List Int) (hw : Words zs) (i j : Nat) (hi : i < 64) (hj : j ≤ 64) : (below zs (i * 64 + j)).length = (below zs (i * 64)).length + pop j (zs.getD i 0).toNat := by
  induction j with
  | zero => rfl
  | succ j ih =>
    have hr := hw.getD i
    have hX : zs.getD i 0 = ((zs.getD i 0).toNat : Int) := by omega
    have hh := has_at zs i j (zs.getD i 0).toNat hi (by omega) hX
    have h2 : (zs.getD i 0).toNat / 2 ^ j % 2 < 2 := Nat.mod_lt _ (by decide)
    rw [show i * 64 + (j + 1) = (i * 64 + j) + 1 from rfl, below_succ, List.length_append, ih (by omega), pop_succ, show ((i * 64 + j : Nat) : Int) = (i : Int) * 64 + (j : Int) from by omega, hh]
    generalize (zs.getD i 0).toNat / 2 ^ j % 2 = q at *
    by_cases h : q = 1
    · rw [decide_eq_true h, if_pos rfl, List.length_singleton]; omega
    · rw [decide_eq_false h, if_neg (by decide), List.length_nil]; omega

theorem below_sum (zs : List Int) (hw : Words zs) (i : Nat) (hi : i ≤ 64) : (below zs (i * 64)).length = sumTo zs i := by
  induction i with
  | zero => rfl
  | succ i ih =>
    rw [show (i + 1) * 64 = i * 64 + 64 from by omega, below_count zs hw i 64 (by omega) (Nat.le_refl _), ih (by omega), sumTo, ones_eq]

theorem nums_count (zs L : List Int) (hw : Words zs) (h : Nums zs L) : L.length = cntS zs := by
  have hb := below_part zs 4096
  have hn : Nums zs (below zs 4096) := hb.all (by rw [List.length_take]; omega)
  rw [h.uniq hn, cnt_sum]
  exact below_sum zs hw 64 (Nat.le_refl _)

end Go.Proofs.YtkfbgadcfinlfaaDoor
