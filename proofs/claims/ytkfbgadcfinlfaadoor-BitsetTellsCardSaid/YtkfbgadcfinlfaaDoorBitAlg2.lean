/- Plain, second part: what has a number, and how many there are, in sets put together; which of them are one. -/
import Derived.Test.YtkfbgadcfinlfaaDoorBitAlg
namespace Go.Proofs.YtkfbgadcfinlfaaDoor
open Go.RowKit

theorem words_trim (l : List Int) (h : Words l) : Words (trimR l) := by
  induction l using rev_ind with
  | start => exact h
  | snoc l z ih =>
    by_cases hz : z = 0
    · subst hz
      rw [trimR_zero]
      exact ih (fun u hu => h u (List.mem_append_left _ hu))
    · rw [trimR_ne _ _ hz]; exact h

theorem words_zip (f : Int → Int → Int) (hf : ∀ x y, 0 ≤ f x y ∧ f x y ≤ 18446744073709551615) (xs ys : List Int) : Words (trimR (zipL f xs ys)) := by
  refine words_trim _ (fun z hz => ?_)
  unfold zipL at hz
  obtain ⟨i, _, rfl⟩ := List.mem_map.1 hz
  exact hf _ _

theorem orF_range (x y : Int) : 0 ≤ orF x y ∧ orF x y ≤ 18446744073709551615 := by rw [orF_eq]; exact word_range _
theorem andF_range (x y : Int) : 0 ≤ andF x y ∧ andF x y ≤ 18446744073709551615 := by rw [andF_eq]; exact word_range _
theorem andNotF_range (x y : Int) : 0 ≤ andNotF x y ∧ andNotF x y ≤ 18446744073709551615 := by rw [andNotF_eq]; exact word_range _
theorem orF_zero : orF 0 0 = 0 := by decide
theorem andF_zero : andF 0 0 = 0 := by decide
theorem andNotF_zero : andNotF 0 0 = 0 := by decide

theorem word_bit (x : Int) (k : Nat) (h : 0 ≤ x ∧ x ≤ 18446744073709551615) : (x / 2 ^ k % 2 == 1) = (W x).getLsbD k := by
  have := bit_of (W x) k
  rwa [W_toNat x h.1 h.2] at this

theorem has_word (zs : List Int) (hw : Words zs) (n : Int) : hasB zs n = (decide (0 ≤ n) && decide (n < 4096) && (W (zs.getD (n / 64).toNat 0)).getLsbD (n % 64).toNat) := by
  unfold hasB
  rw [word_bit _ _ (hw.getD _)]

theorem has_zip (f : Int → Int → Int) (g : Bool → Bool → Bool) (h0 : f 0 0 = 0) (hf : ∀ x y, 0 ≤ f x y ∧ f x y ≤ 18446744073709551615) (hg : ∀ x y k, k < 64 → (W (f x y)).getLsbD k = g ((W x).getLsbD k) ((W y).getLsbD k))
    (hff : g false false = false) (xs ys : List Int) (hx : Words xs) (hy : Words ys) (n : Int) : hasB (trimR (zipL f xs ys)) n = g (hasB xs n) (hasB ys n) := by
  rw [has_word _ (words_zip f hf xs ys), has_word xs hx, has_word ys hy, getD_trim, getD_zip f h0]
  by_cases h1 : 0 ≤ n
  · by_cases h2 : n < 4096
    · rw [decide_eq_true h1, decide_eq_true h2, if_pos (by omega), hg _ _ _ (by omega)]
      simp
    · rw [decide_eq_false h2]
      simp [hff]
  · rw [decide_eq_false h1]
    simp [hff]

theorem has_or (xs ys : List Int) (hx : Words xs) (hy : Words ys) (n : Int) : hasB (trimR (zipL orF xs ys)) n = (hasB xs n || hasB ys n) :=
  has_zip orF (· || ·) orF_zero orF_range (fun x y k _ => by rw [orF_eq, W_of, BitVec.getLsbD_or]) rfl xs ys hx hy n
theorem has_and (xs ys : List Int) (hx : Words xs) (hy : Words ys) (n : Int) : hasB (trimR (zipL andF xs ys)) n = (hasB xs n && hasB ys n) :=
  has_zip andF (· && ·) andF_zero andF_range (fun x y k _ => by rw [andF_eq, W_of, BitVec.getLsbD_and]) rfl xs ys hx hy n
theorem has_andNot (xs ys : List Int) (hx : Words xs) (hy : Words ys) (n : Int) : hasB (trimR (zipL andNotF xs ys)) n = (hasB xs n && !hasB ys n) :=
  has_zip andNotF (fun a b => a && !b) andNotF_zero andNotF_range (fun x y k hk => by rw [andNotF_eq, W_of, BitVec.getLsbD_and, BitVec.getLsbD_not, decide_eq_true hk, Bool.true_and]) rfl xs ys hx hy n

/-- How many, word by word. -/
def sumTo (zs : List Int) : Nat → Nat
  | 0 => 0
  | n + 1 => sumTo zs n + ones (zs.getD n 0)

theorem sum_take (zs : List Int) (n : Nat) : onesSum (zs.take n) = sumTo zs n := by
  induction n with
  | zero => rfl
  | succ n ih =>
    rw [sumTo, ← ih]
    rcases Nat.lt_or_ge n zs.length with h | h
    · rw [cnt_step zs n h, List.getD_eq_getElem?_getD, List.getElem?_eq_getElem h]
      rfl
    · rw [List.take_of_length_le (by omega), List.take_of_length_le h, List.getD_eq_getElem?_getD, List.getElem?_eq_none h]
      have : ones 0 = 0 := by rw [ones_eq]; decide
      simp [this]

theorem cnt_sum (zs : List Int) : cntS zs = sumTo zs 64 := sum_take zs 64

theorem pop_succ (k X : Nat) : pop (k + 1) X = pop k X + X / 2 ^ k % 2 := by
  rw [pop_add k 1 X, pop]
  simp [pop]

theorem bit_num (v : BitVec 64) (k : Nat) : v.toNat / 2 ^ k % 2 = (v.getLsbD k).toNat := by
  have h : v.getLsbD k = decide (v.toNat / 2 ^ k % 2 = 1) := by
    rw [BitVec.getLsbD, Nat.testBit_eq_decide_div_mod_eq]
  have h2 : v.toNat / 2 ^ k % 2 < 2 := Nat.mod_lt _ (by decide)
  rw [h]
  by_cases hq : v.toNat / 2 ^ k % 2 = 1
  · rw [decide_eq_true hq, hq]; rfl
  · rw [decide_eq_false hq]; show _ = 0; omega

theorem pop_parts (v u : BitVec 64) (n : Nat) (hn : n ≤ 64) : pop n (v ||| u).toNat = pop n (v &&& u).toNat + pop n (v &&& ~~~u).toNat + pop n (u &&& ~~~v).toNat := by
  induction n with
  | zero => rfl
  | succ n ih =>
    rw [pop_succ, pop_succ, pop_succ, pop_succ, ih (by omega), bit_num, bit_num, bit_num, bit_num, BitVec.getLsbD_or, BitVec.getLsbD_and, BitVec.getLsbD_and, BitVec.getLsbD_and, BitVec.getLsbD_not, BitVec.getLsbD_not, decide_eq_true (by omega : n < 64)]
    cases v.getLsbD n <;> cases u.getLsbD n <;> simp <;> omega

theorem ones_parts (x y : Int) : ones (orF x y) = ones (andF x y) + ones (andNotF x y) + ones (andNotF y x) := by
  rw [ones_eq, ones_eq, ones_eq, ones_eq, orF_eq, andF_eq, andNotF_eq, andNotF_eq]
  simp only [Int.toNat_natCast]
  exact pop_parts (W x) (W y) 64 (Nat.le_refl _)

theorem sum_parts (xs ys : List Int) (n : Nat) (hn : n ≤ 64) :
    sumTo (trimR (zipL orF xs ys)) n = sumTo (trimR (zipL andF xs ys)) n + sumTo (trimR (zipL andNotF xs ys)) n + sumTo (trimR (zipL andNotF ys xs)) n := by
  induction n with
  | zero => rfl
  | succ n ih =>
    simp only [sumTo]
    rw [ih (by omega), getD_trim, getD_trim, getD_trim, getD_trim, getD_zip orF orF_zero, getD_zip andF andF_zero, getD_zip andNotF andNotF_zero, getD_zip andNotF andNotF_zero, if_pos (by omega), if_pos (by omega), if_pos (by omega), if_pos (by omega), ones_parts]
    omega

theorem cnt_parts (xs ys : List Int) : cntS (trimR (zipL orF xs ys)) = cntS (trimR (zipL andF xs ys)) + cntS (trimR (zipL andNotF xs ys)) + cntS (trimR (zipL andNotF ys xs)) := by
  rw [cnt_sum, cnt_sum, cnt_sum, cnt_sum]
  exact sum_parts xs ys 64 (Nat.le_refl _)

theorem cnt_small (zs : List Int) : cntS zs ≤ 4096 := by
  have := cnt_le (zs.take 64)
  have : (zs.take 64).length ≤ 64 := List.length_take_le _ _
  unfold cntS
  omega

/-- What is in both, and what is in the first alone, is the first. -/
theorem parts_whole (xs ys : List Int) (hx : Words xs) : trimR (zipL orF (trimR (zipL andF xs ys)) (trimR (zipL andNotF xs ys))) = trimR (zipL orF xs []) := by
  refine trim_ext _ _ (fun i => ?_)
  rw [getD_zip orF orF_zero, getD_zip orF orF_zero]
  split
  · rename_i hi
    rw [getD_trim, getD_trim, getD_zip andF andF_zero, getD_zip andNotF andNotF_zero, if_pos hi, if_pos hi]
    have hr := hx.getD i
    generalize xs.getD i 0 = x at *
    generalize ys.getD i 0 = y at *
    show orF (andF x y) (andNotF x y) = orF x 0
    rw [orF_eq, orF_eq, andF_eq, andNotF_eq, W_of, W_of]
    congr 2
    apply BitVec.eq_of_getLsbD_eq
    intro k hk
    rw [BitVec.getLsbD_or, BitVec.getLsbD_or, BitVec.getLsbD_and, BitVec.getLsbD_and, BitVec.getLsbD_not, decide_eq_true hk, show (W 0).getLsbD k = false from by show (BitVec.ofInt 64 0).getLsbD k = false; rw [ofInt_zero64]; simp]
    cases (W x).getLsbD k <;> cases (W y).getLsbD k <;> rfl
  · rfl

theorem or_comm' (xs ys : List Int) : trimR (zipL orF xs ys) = trimR (zipL orF ys xs) := by
  refine trim_ext _ _ (fun i => ?_)
  rw [getD_zip orF orF_zero, getD_zip orF orF_zero, orF_eq, orF_eq, BitVec.or_comm]

theorem apart_none (xs ys : List Int) : trimR (zipL andF (trimR (zipL andNotF xs ys)) ys) = [] := by
  refine trim_zeros _ (fun i => ?_)
  rw [getD_zip andF andF_zero]
  split
  · rename_i hi
    rw [getD_trim, getD_zip andNotF andNotF_zero, if_pos hi]
    generalize xs.getD i 0 = x at *
    generalize ys.getD i 0 = y at *
    rw [andF_eq, andNotF_eq, W_of]
    have e : (W x &&& ~~~W y) &&& W y = 0#64 := by
      apply BitVec.eq_of_getLsbD_eq
      intro k hk
      rw [BitVec.getLsbD_and, BitVec.getLsbD_and, BitVec.getLsbD_not, BitVec.getLsbD_zero]
      cases (W x).getLsbD k <;> cases (W y).getLsbD k <;> simp
    rw [e]
    rfl
  · rfl

end Go.Proofs.YtkfbgadcfinlfaaDoor
