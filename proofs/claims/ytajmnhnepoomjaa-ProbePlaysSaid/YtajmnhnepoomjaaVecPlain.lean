/- Plain mathematics of vec: components, sums of squares and of products, means. Nothing of the program stands here. -/
import Derived.Test.YtajmnhnepoomjaaMem
namespace Go.Proofs.Ytajmnhnepoomjaa

/-- A component; behind the last one all are 0. -/
def cpt (a : List Int) (k : Nat) : Int := a.getD k 0
theorem cpt_lt {a : List Int} {k : Nat} (h : k < a.length) : a[k]? = some (cpt a k) := by
  rw [cpt, List.getD_eq_getElem?_getD, List.getElem?_eq_getElem h]; rfl
theorem cpt_ge {a : List Int} {k : Nat} (h : a.length ≤ k) : cpt a k = 0 := by
  rw [cpt, List.getD_eq_getElem?_getD, List.getElem?_eq_none h]; rfl
theorem cpt_mem {a : List Int} {k : Nat} (h : k < a.length) : cpt a k ∈ a := List.mem_of_getElem? (cpt_lt h)
theorem cpt_nil (k : Nat) : cpt [] k = 0 := cpt_ge (Nat.zero_le _)
theorem cpt_all {a : List Int} {lo hi : Int} (h : ∀ z ∈ a, lo ≤ z ∧ z ≤ hi) (h0 : lo ≤ 0) (h1 : 0 ≤ hi) (k : Nat) : lo ≤ cpt a k ∧ cpt a k ≤ hi := by
  by_cases hk : k < a.length
  · exact h _ (cpt_mem hk)
  · rw [cpt_ge (by omega)]; exact ⟨h0, h1⟩
theorem cpt_take (a : List Int) (n k : Nat) (h : k < n) : cpt (a.take n) k = cpt a k := by
  rw [cpt, cpt, List.getD_eq_getElem?_getD, List.getD_eq_getElem?_getD, List.getElem?_take, if_pos h]
theorem cpt_drop (a : List Int) (n k : Nat) : cpt (a.drop n) k = cpt a (n + k) := by
  rw [cpt, cpt, List.getD_eq_getElem?_getD, List.getD_eq_getElem?_getD, List.getElem?_drop]
theorem cpt_eq {a b : List Int} (hl : a.length = b.length) (h : ∀ k, k < a.length → cpt a k = cpt b k) : a = b := by
  refine List.ext_getElem hl fun k h1 h2 => ?_
  have := h k h1
  rw [cpt, cpt, List.getD_eq_getElem?_getD, List.getD_eq_getElem?_getD, List.getElem?_eq_getElem h1, List.getElem?_eq_getElem h2] at this
  simpa using this

/-- The square of what two numbers differ by. -/
def sqZ (x y : Int) : Nat := ((x - y) * (x - y)).toNat
theorem sqZ_int (x y : Int) : (sqZ x y : Int) = (x - y) * (x - y) := by
  rw [sqZ, Int.toNat_of_nonneg]
  rcases Int.le_total 0 (x - y) with h | h
  · exact Int.mul_nonneg h h
  · exact Int.mul_nonneg_of_nonpos_of_nonpos h h
theorem sqZ_comm (x y : Int) : sqZ x y = sqZ y x := by
  have : (sqZ x y : Int) = sqZ y x := by rw [sqZ_int, sqZ_int, ← Int.neg_sub y x, Int.neg_mul_neg]
  omega
theorem sqZ_self (x : Int) : sqZ x x = 0 := by rw [sqZ, Int.sub_self]; rfl
theorem mul_self_le {d m : Int} (h0 : -m ≤ d) (h1 : d ≤ m) : d * d ≤ m * m := by
  have hm : 0 ≤ m := by omega
  rcases Int.le_total 0 d with h | h
  · exact Int.mul_le_mul h1 h1 h hm
  · have := Int.mul_le_mul (a := -d) (c := m) (b := -d) (d := m) (by omega) (by omega) (by omega) hm
    rwa [Int.neg_mul_neg] at this
theorem sqZ_le {x y m : Int} (h0 : -m ≤ x - y) (h1 : x - y ≤ m) : (sqZ x y : Int) ≤ m * m := by
  rw [sqZ_int]; exact mul_self_le h0 h1
theorem sqZ_zero {x y : Int} (h : sqZ x y = 0) : x = y := by
  have e := sqZ_int x y
  rw [h] at e
  rcases Int.mul_eq_zero.1 e.symm with h | h <;> omega

/-- The sum of the squares of the first k components' differences. -/
def distN (a b : List Int) : Nat → Nat
  | 0 => 0
  | k + 1 => distN a b k + sqZ (cpt a k) (cpt b k)
/-- The sum of the products of the first k components. -/
def dotZ (a b : List Int) : Nat → Int
  | 0 => 0
  | k + 1 => dotZ a b k + cpt a k * cpt b k
/-- A number, held at the greatest of 64 bits. -/
def satN (n : Nat) : Nat := if n < 18446744073709551616 then n else 18446744073709551615

theorem distN_comm (a b : List Int) (n : Nat) : distN a b n = distN b a n := by
  induction n with
  | zero => rfl
  | succ n ih => rw [distN, distN, ih, sqZ_comm]
theorem distN_self (a : List Int) (n : Nat) : distN a a n = 0 := by
  induction n with
  | zero => rfl
  | succ n ih => rw [distN, ih, sqZ_self]
theorem distN_mono (a b : List Int) {k n : Nat} (h : k ≤ n) : distN a b k ≤ distN a b n := by
  induction n with
  | zero => obtain rfl : k = 0 := by omega
            exact Nat.le_refl _
  | succ n ih =>
    rcases Nat.lt_or_ge k (n + 1) with h' | h'
    · exact Nat.le_trans (ih (by omega)) (Nat.le_add_right _ _)
    · obtain rfl : k = n + 1 := by omega
      exact Nat.le_refl _
theorem distN_le (a b : List Int) (m : Nat) (n : Nat) (h : ∀ k, k < n → sqZ (cpt a k) (cpt b k) ≤ m) : distN a b n ≤ n * m := by
  induction n with
  | zero => exact Nat.zero_le _
  | succ n ih =>
    have h1 := ih fun k hk => h k (by omega)
    have h2 := h n (by omega)
    rw [distN, Nat.succ_mul]
    omega
theorem distN_zero (a b : List Int) (n : Nat) (h : distN a b n = 0) : ∀ k, k < n → cpt a k = cpt b k := by
  induction n with
  | zero => intro k hk; omega
  | succ n ih =>
    rw [distN] at h
    intro k hk
    rcases Nat.lt_or_ge k n with h' | h'
    · exact ih (by omega) k h'
    · obtain rfl : k = n := by omega
      exact sqZ_zero (by omega)
theorem distN_congr (a b c d : List Int) (n : Nat) (h : ∀ k, k < n → sqZ (cpt a k) (cpt b k) = sqZ (cpt c k) (cpt d k)) : distN a b n = distN c d n := by
  induction n with
  | zero => rfl
  | succ n ih => rw [distN, distN, ih fun k hk => h k (by omega), h n (by omega)]
theorem distN_behind (a b : List Int) (n m : Nat) : distN a b (n + m) = distN a b n + distN (a.drop n) (b.drop n) m := by
  induction m with
  | zero => rfl
  | succ m ih => rw [← Nat.add_assoc, distN, distN, ih, cpt_drop, cpt_drop, Nat.add_assoc]
theorem distN_front (a b : List Int) (n : Nat) : distN (a.take n) (b.take n) n = distN a b n :=
  distN_congr _ _ _ _ n fun k hk => by rw [cpt_take a n k hk, cpt_take b n k hk]
theorem distN_past (a b : List Int) (n k : Nat) (ha : a.length ≤ n) (hb : b.length ≤ n) : distN a b (n + k) = distN a b n := by
  induction k with
  | zero => rfl
  | succ k ih => rw [← Nat.add_assoc, distN, ih, cpt_ge (by omega), cpt_ge (by omega), sqZ_self]; rfl

theorem dotZ_congr (a b c d : List Int) (n : Nat) (h : ∀ k, k < n → cpt a k * cpt b k = cpt c k * cpt d k) : dotZ a b n = dotZ c d n := by
  induction n with
  | zero => rfl
  | succ n ih => rw [dotZ, dotZ, ih fun k hk => h k (by omega), h n (by omega)]
theorem dotZ_behind (a b : List Int) (n m : Nat) : dotZ a b (n + m) = dotZ a b n + dotZ (a.drop n) (b.drop n) m := by
  induction m with
  | zero => simp [dotZ]
  | succ m ih => rw [← Nat.add_assoc, dotZ, dotZ, ih, cpt_drop, cpt_drop, Int.add_assoc]
theorem dotZ_front (a b : List Int) (n : Nat) : dotZ (a.take n) (b.take n) n = dotZ a b n :=
  dotZ_congr _ _ _ _ n fun k hk => by rw [cpt_take a n k hk, cpt_take b n k hk]
/-- The distance is that of each to nothing, together, less twice the product. -/
theorem dist_dot (a b : List Int) (n : Nat) : (distN a b n : Int) = distN a [] n + distN b [] n - 2 * dotZ a b n := by
  induction n with
  | zero => rfl
  | succ n ih =>
    rw [distN, distN, distN, dotZ]
    have e1 := sqZ_int (cpt a n) (cpt b n)
    have e2 := sqZ_int (cpt a n) (cpt [] n)
    have e3 := sqZ_int (cpt b n) (cpt [] n)
    rw [cpt_nil] at e2 e3 ⊢
    rw [Int.sub_zero] at e2 e3
    have e4 : (cpt a n - cpt b n) * (cpt a n - cpt b n) = cpt a n * cpt a n + cpt b n * cpt b n - 2 * (cpt a n * cpt b n) := by
      rw [Int.sub_mul, Int.mul_sub, Int.mul_sub, Int.mul_comm (cpt b n) (cpt a n)]; omega
    generalize cpt a n * cpt b n = p at *
    generalize cpt a n * cpt a n = q at *
    generalize cpt b n * cpt b n = r at *
    generalize (cpt a n - cpt b n) * (cpt a n - cpt b n) = s at *
    omega
theorem dotZ_le (a b : List Int) (m : Int) (n : Nat) (hm : 0 ≤ m) (h : ∀ k, -m ≤ cpt a k ∧ cpt a k ≤ m) (h' : ∀ k, -m ≤ cpt b k ∧ cpt b k ≤ m) : -(n * (m * m)) ≤ dotZ a b n ∧ dotZ a b n ≤ n * (m * m) := by
  induction n with
  | zero => simp [dotZ]
  | succ n ih =>
    have hp : -(m * m) ≤ cpt a n * cpt b n ∧ cpt a n * cpt b n ≤ m * m := by
      have h1 := h n
      have h2 := h' n
      generalize cpt a n = x at *
      generalize cpt b n = y at *
      have p1 : (x * y).natAbs ≤ m.natAbs * m.natAbs := by
        rw [Int.natAbs_mul]
        exact Nat.mul_le_mul (by omega) (by omega)
      have p2 : ((m.natAbs * m.natAbs : Nat) : Int) = m * m := by rw [← Int.natAbs_mul, Int.natAbs_of_nonneg (Int.mul_nonneg hm hm)]
      generalize x * y = p at *
      omega
    rw [dotZ, show ((n + 1 : Nat) : Int) * (m * m) = n * (m * m) + m * m from by rw [Int.natCast_add, Int.add_mul]; simp]
    generalize cpt a n * cpt b n = p at *
    generalize (n : Int) * (m * m) = q at *
    generalize m * m = r at *
    omega

/-- Is a vector right for so many components? -/
def okV (a : List Int) (dim : Int) : Prop := 1 ≤ dim ∧ dim ≤ 4096 ∧ (a.length : Int) = dim ∧ ∀ z ∈ a, -16777216 ≤ z ∧ z ≤ 16777216
instance (a : List Int) (dim : Int) : Decidable (okV a dim) := by unfold okV; infer_instance
def chkN (a : List Int) (dim : Int) : Int := if okV a dim then 0 else 1

theorem ok_bounds {a : List Int} {dim : Int} (h : okV a dim) (k : Nat) : -16777216 ≤ cpt a k ∧ cpt a k ≤ 16777216 := cpt_all h.2.2.2 (by decide) (by decide) k
theorem ok_sq {a b : List Int} {d e : Int} (ha : okV a d) (hb : okV b e) (k : Nat) : sqZ (cpt a k) (cpt b k) ≤ 1125899906842624 := by
  have h1 := ok_bounds ha k
  have h2 := ok_bounds hb k
  have := sqZ_le (x := cpt a k) (y := cpt b k) (m := 33554432) (by omega) (by omega)
  omega
theorem ok_dist {a b : List Int} {d e : Int} (ha : okV a d) (hb : okV b e) (n : Nat) (hn : n ≤ 4096) : distN a b n ≤ 4611686018427387904 := by
  have := distN_le a b 1125899906842624 n fun k _ => ok_sq ha hb k
  have h2 : n * 1125899906842624 ≤ 4096 * 1125899906842624 := Nat.mul_le_mul hn (Nat.le_refl _)
  omega
theorem ok_norm {a : List Int} {d : Int} (ha : okV a d) (n : Nat) (hn : n ≤ 4096) : distN a [] n ≤ 1152921504606846976 := by
  have h3 : ∀ k, sqZ (cpt a k) (cpt [] k) ≤ 281474976710656 := fun k => by
    have h1 := ok_bounds ha k
    rw [cpt_nil]
    have := sqZ_le (x := cpt a k) (y := 0) (m := 16777216) (by omega) (by omega)
    omega
  have := distN_le a [] 281474976710656 n fun k _ => h3 k
  have h2 : n * 281474976710656 ≤ 4096 * 281474976710656 := Nat.mul_le_mul hn (Nat.le_refl _)
  omega
theorem ok_dot {a b : List Int} {d e : Int} (ha : okV a d) (hb : okV b e) (n : Nat) (hn : n ≤ 4096) : -1152921504606846976 ≤ dotZ a b n ∧ dotZ a b n ≤ 1152921504606846976 := by
  have h := dotZ_le a b 16777216 n (by decide) (ok_bounds ha) (ok_bounds hb)
  have h2 : (n : Int) * (16777216 * 16777216) ≤ 4096 * (16777216 * 16777216) := Int.mul_le_mul_of_nonneg_right (by omega) (by decide)
  omega
theorem sat_small {n : Nat} (h : n ≤ 9223372036854775808) : satN n = n := by rw [satN, if_pos (by omega)]
theorem sat_big {k n : Nat} (h : k ≤ n) (hk : 18446744073709551616 ≤ k) : satN n = 18446744073709551615 := by rw [satN, if_neg (by omega)]
theorem sat_le (n : Nat) : satN n ≤ 18446744073709551615 := by unfold satN; split <;> omega

end Go.Proofs.Ytajmnhnepoomjaa
