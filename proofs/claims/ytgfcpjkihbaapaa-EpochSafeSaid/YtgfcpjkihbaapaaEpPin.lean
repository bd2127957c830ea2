/- Plain mathematics of a pin: as long as it lasts the epoch grows by one at most; once nobody is pinned it grows with each round of looks. -/
import Derived.Test.YtgfcpjkihbaapaaEpPlain
namespace Go.Proofs.Ytgfcpjkihbaapaa

/-- Worker k has been pinned since the epoch was e0. -/
structure PinI (x : EX) (k e0 : Nat) : Prop where
  lt : k < x.rc.length
  rec0 : x.rc.getD k 0 ≠ 0
  rec1 : x.rc.getD k 0 ≤ e0 + 1
  lo : e0 ≤ x.e
  hi : x.e ≤ e0 + 1
  at_ : x.e = e0 + 1 → x.lk ≤ k
theorem blocks_iff (x : EX) : blocksE x = true ↔ x.rc.getD x.lk 0 ≠ 0 ∧ x.rc.getD x.lk 0 ≠ x.e + 1 := by
  unfold blocksE
  rw [Bool.and_eq_true, Bool.not_eq_true', Bool.not_eq_true', beq_eq_false_iff_ne, beq_eq_false_iff_ne]
theorem PinI.look {x : EX} {k e0 : Nat} (h : PinI x k e0) : PinI (lookE x) k e0 := by
  unfold lookE
  split
  · exact ⟨h.lt, h.rec0, h.rec1, h.lo, h.hi, fun _ => Nat.zero_le _⟩
  · rename_i hb
    have hne : x.e = e0 + 1 → x.lk ≠ k := fun he hk => hb ((blocks_iff x).2 (by
      rw [hk]
      have := h.rec1
      exact ⟨h.rec0, by omega⟩))
    split
    · rename_i hl
      refine ⟨h.lt, h.rec0, h.rec1, h.lo, h.hi, fun he => ?_⟩
      have := h.at_ he
      have := hne he
      show x.lk + 1 ≤ k
      omega
    · rename_i hl
      have hlt := h.lt
      have he : x.e = e0 := by
        have := h.lo
        have := h.hi
        by_cases he : x.e = e0 + 1
        · have := h.at_ he
          have := hne he
          omega
        · omega
      refine ⟨h.lt, h.rec0, h.rec1, ?_, ?_, fun _ => Nat.zero_le _⟩
      · show e0 ≤ x.e + 1
        omega
      · show x.e + 1 ≤ e0 + 1
        omega
theorem PinI.start {n : Nat} {x : EX} (hf : EFit n x) {k : Nat} (hk : k < x.rc.length) : PinI (pinE x k) k x.e := by
  have hl : (x.rc.set k (x.ld.getD k 0 + 1)).length = x.rc.length := List.length_set
  have hg : (x.rc.set k (x.ld.getD k 0 + 1)).getD k 0 = x.ld.getD k 0 + 1 := by rw [getD_set, if_pos ⟨rfl, hk⟩]
  have hld := hf.ld k
  refine ⟨by rw [pinE, hl]; exact hk, ?_, ?_, Nat.le_refl _, Nat.le_succ _, fun h => ?_⟩
  · show (x.rc.set k _).getD k 0 ≠ 0
    rw [hg]; omega
  · show (x.rc.set k _).getD k 0 ≤ _
    rw [hg]; omega
  · exact absurd h (by show ¬ x.e = x.e + 1; omega)
theorem PinI.same {x y : EX} {k e0 : Nat} (h : PinI x k e0) (h1 : y.rc.length = x.rc.length) (h2 : y.rc.getD k 0 = x.rc.getD k 0) (h3 : y.e = x.e) (h4 : y.lk = x.lk) : PinI y k e0 :=
  ⟨by rw [h1]; exact h.lt, by rw [h2]; exact h.rec0, by rw [h2]; exact h.rec1, by rw [h3]; exact h.lo, by rw [h3]; exact h.hi, by rw [h3, h4]; exact h.at_⟩
theorem PinI.not_ripe {x : EX} {k e0 : Nat} (h : PinI x k e0) {p : Int × Nat} (hp : e0 ≤ p.2) : ripe x.e p = false := by
  have := h.hi
  unfold ripe
  rw [decide_eq_false_iff_not]
  omega
theorem freeE_none {x : EX} (h : ∀ p ∈ x.lb, ripe x.e p = false) : freeL1 x = [] ∧ freeE x = x := by
  have h1 : freeL1 x = [] := by
    unfold freeL1
    cases hx : x.lb with
    | nil => rfl
    | cons a r => rw [List.takeWhile_cons_of_neg]; rw [h a (by rw [hx]; simp)]; decide
  refine ⟨h1, ?_⟩
  have h2 := free_parts x
  rw [h1, List.nil_append] at h2
  unfold freeE at h2 ⊢
  simp only at h2
  rw [h2]
theorem freeE_all {x : EX} (h : ∀ p ∈ x.lb, ripe x.e p = true) : freeL1 x = x.lb ∧ (freeE x).lb = [] := by
  have h1 : freeL1 x = x.lb := by
    unfold freeL1
    have : ∀ l : List (Int × Nat), (∀ p ∈ l, ripe x.e p = true) → l.takeWhile (ripe x.e) = l := fun l => by
      induction l with
      | nil => intro _; rfl
      | cons a r ih =>
        intro hl
        rw [List.takeWhile_cons_of_pos (hl a (by simp)), ih (fun p hp => hl p (by simp [hp]))]
    exact this _ h
  refine ⟨h1, ?_⟩
  have h2 := free_parts x
  rw [h1] at h2
  exact List.append_right_eq_self.1 h2
/-- Nobody is pinned. -/
def NoPin (x : EX) : Prop := ∀ k, x.rc.getD k 0 = 0
theorem NoPin.new (n : Nat) : NoPin (newE n) := fun k => getD_rep n k
theorem NoPin.look {x : EX} (h : NoPin x) : NoPin (lookE x) := by
  unfold lookE
  split
  · exact h
  · split <;> exact h
/-- How far a clock has looked, in all. -/
def farE (x : EX) : Nat := x.e * x.rc.length + x.lk
theorem look_len (x : EX) : (lookE x).rc.length = x.rc.length := by
  unfold lookE
  split
  · rfl
  · split <;> rfl
theorem look_lb (x : EX) : (lookE x).lb = x.lb := by
  unfold lookE
  split
  · rfl
  · split <;> rfl
theorem look_rc (x : EX) : (lookE x).rc = x.rc := by
  unfold lookE
  split
  · rfl
  · split <;> rfl
theorem NoPin.far {x : EX} (h : NoPin x) (hl : x.lk < x.rc.length) : farE (lookE x) = farE x + 1 := by
  have hb : blocksE x = false := by
    cases hb : blocksE x
    · rfl
    · exact absurd (h x.lk) ((blocks_iff x).1 hb).1
  unfold farE
  rw [look_len]
  unfold lookE
  rw [hb, if_neg (by decide)]
  split
  · show x.e * x.rc.length + (x.lk + 1) = _
    omega
  · show (x.e + 1) * x.rc.length + 0 = _
    rw [Nat.succ_mul]
    omega
/-- Behind four rounds of looks the epoch is four more. -/
theorem far_four {x y : EX} (hl : y.rc.length = x.rc.length) (hy : y.lk < y.rc.length) (h : farE y = farE x + 4 * x.rc.length) : x.e + 4 ≤ y.e := by
  unfold farE at h
  rw [hl] at h hy
  rcases Nat.lt_or_ge y.e (x.e + 4) with h1 | h1
  · exfalso
    have h2 : y.e * x.rc.length ≤ (x.e + 3) * x.rc.length := Nat.mul_le_mul_right _ (by omega)
    rw [Nat.add_mul] at h2
    omega
  · exact h1

end Go.Proofs.Ytgfcpjkihbaapaa
