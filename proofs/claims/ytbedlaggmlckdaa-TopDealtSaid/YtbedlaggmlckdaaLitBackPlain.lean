/- Bytes that are read are those of what is read; and how long what is written may be. -/
import Derived.Test.YtbedlaggmlckdaaLitList
namespace Go.Proofs.Ytbedlaggmlckdaa

theorem numGo_err (l : List UInt8) (acc m k : Nat) (h : numGo l 10 acc = (m, k, 0)) : False := by
  cases l with
  | nil => simp [numGo] at h
  | cons c r => simp [numGo] at h

theorem ofNat_self (c : UInt8) (n : Nat) (h : n = c.toNat) : UInt8.ofNat n = c := by rw [h]; simp

theorem numGo_back : ∀ (l : List UInt8) (i acc m k : Nat), i ≤ 9 → numGo l i acc = (m, k, 0) →
    ∃ n, m = acc + n * 2 ^ (7 * i) ∧ k = i + (bytesF (9 - i) n).length ∧ l.take (bytesF (9 - i) n).length = bytesF (9 - i) n ∧ (1 ≤ n ∨ i = 0) := by
  intro l
  induction l with
  | nil => intro i acc m k _ h; simp [numGo] at h
  | cons c r ih =>
    intro i acc m k hi h
    have hc := c.toNat_lt
    unfold numGo at h
    split at h
    · simp at h
    · rename_i h9
      split at h
      · rename_i h128
        have hi9 : i ≠ 9 := fun e => by
          subst e
          exact numGo_err _ _ _ _ h
        obtain ⟨n, h1, h2, h3, h4⟩ := ih (i + 1) _ m k (by omega) h
        have hn1 : 1 ≤ n := by omega
        have hf : 9 - i = (9 - (i + 1)) + 1 := by omega
        have hb : bytesF (9 - i) (c.toNat % 128 + 128 * n) = c :: bytesF (9 - (i + 1)) n := by
          rw [hf, bytesF, if_pos (by omega), show (c.toNat % 128 + 128 * n) / 128 = n from by omega, ofNat_self c _ (by omega)]
        refine ⟨c.toNat % 128 + 128 * n, ?_, ?_, ?_, .inl (by omega)⟩
        · rw [h1, Nat.add_mul, Nat.add_assoc, show 7 * (i + 1) = 7 + 7 * i from by omega, Nat.pow_add, show (2 : Nat) ^ 7 = 128 from rfl, ← Nat.mul_assoc, Nat.mul_comm n 128]
        · rw [hb, List.length_cons]; omega
        · rw [hb, List.length_cons, List.take_succ_cons, h3]
      · rename_i h128
        split at h
        · simp at h
        · rename_i h0
          simp only [Prod.mk.injEq, and_true] at h
          obtain ⟨h1, h2⟩ := h
          have hb : bytesF (9 - i) c.toNat = [c] := by
            cases e : 9 - i with
            | zero => rw [bytesF, ofNat_self c _ rfl]
            | succ f => rw [bytesF, if_neg h128, ofNat_self c _ rfl]
          refine ⟨c.toNat, ?_, ?_, ?_, by omega⟩
          · rw [← h1, Nat.mod_eq_of_lt (by omega)]
          · rw [hb]; simpa using h2.symm
          · rw [hb]; rfl
theorem numL_back (l : List UInt8) (m k : Nat) (h : numL l = (m, k, 0)) : bytesN m = l.take k ∧ k = (bytesN m).length ∧ k ≤ l.length := by
  obtain ⟨n, h1, h2, h3, _⟩ := numGo_back l 0 0 m k (by omega) h
  have hm : m = n := by simpa using h1
  subst hm
  have hk : k = (bytesN m).length := by simpa [bytesN] using h2
  have ht : l.take k = bytesN m := by rw [hk]; exact h3
  refine ⟨ht.symm, hk, ?_⟩
  have := congrArg List.length ht
  rw [List.length_take] at this
  omega

theorem numsB_length (l : List Nat) : (numsB l).length ≤ 10 * l.length := by
  induction l with
  | nil => simp [numsB]
  | cons a l ih =>
    have := bytesF_length 9 a
    simp only [numsB, List.length_append, List.length_cons, bytesN]
    omega
theorem textsB_length (l : List ByteArray) (h : ∀ t ∈ l, t.size ≤ 1000) : (textsB l).length ≤ 1010 * l.length := by
  induction l with
  | nil => simp [textsB]
  | cons a l ih =>
    have h1 := bytesF_length 9 a.data.toList.length
    have h2 := h a (List.mem_cons_self ..)
    have h3 := ih (fun t ht => h t (List.mem_cons_of_mem _ ht))
    have h4 : a.data.toList.length = a.size := Array.length_toList
    simp only [textsB, List.length_append, List.length_cons, bytesN]
    omega

end Go.Proofs.Ytbedlaggmlckdaa
