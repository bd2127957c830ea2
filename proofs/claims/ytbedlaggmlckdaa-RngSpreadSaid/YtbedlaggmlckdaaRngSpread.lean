/- RngSpread, the walk of the law: what is below a number grows with what it is of; a level is the first draw that is not 0. -/
import Derived.Test.YtbedlaggmlckdaaRngLives
namespace Go.Proofs.Ytbedlaggmlckdaa
open Go.RowKit

theorem levF_spec (d : BitVec 64) (m : Nat) : ∀ n l, (levF d m n l ≤ l + n) ∧ (∀ j, l ≤ j → j < levF d m n l → belN d j m = 0) ∧ (levF d m n l = l + n ∨ belN d (levF d m n l) m ≠ 0) := by
  intro n
  induction n with
  | zero => intro l; exact ⟨by simp [levF], fun j h1 h2 => by simp [levF] at h2; omega, .inl (by simp [levF])⟩
  | succ n ih =>
    intro l
    unfold levF
    split
    · rename_i h
      obtain ⟨h1, h2, h3⟩ := ih (l + 1)
      refine ⟨by omega, fun j hj hj2 => ?_, by rcases h3 with h3 | h3; exact .inl (by omega); exact .inr h3⟩
      rcases Nat.eq_or_lt_of_le hj with rfl | hj
      · exact h
      · exact h2 j hj hj2
    · rename_i h
      exact ⟨by omega, fun j h1 h2 => by omega, .inr h⟩
theorem levN_spec (d : BitVec 64) (m : Nat) : levN d m ≤ 7 ∧ (∀ j, j < levN d m → belN d j m = 0) ∧ (levN d m = 7 ∨ belN d (levN d m) m ≠ 0) := by
  have h := levF_spec d m 7 0
  exact ⟨by simpa [levN] using h.1, fun j hj => h.2.1 j (Nat.zero_le _) hj, by simpa [levN] using h.2.2⟩

theorem below_mono (a b n : Nat) (h : a ≤ b) : a * n / 18446744073709551616 ≤ b * n / 18446744073709551616 := Nat.div_le_div_right (Nat.mul_le_mul_right _ h)

set_option maxHeartbeats 1000000 in
theorem RngSpread_walk (x y n : BitVec 64) (links : Int) (w : World) :
    Calls Try.prog 5 #[.int .u64 x.toNat, .int .u64 y.toNat, .int .u64 n.toNat, .int .i64 links] w fun e w' => e = .returned (.bool true) ∧ Below w.heap.size w w' := by
  have hx := Lib.hid x.isLt
  have hy := Lib.hid y.isLt
  have hn := Lib.hid n.isLt
  obtain ⟨lo, hi, hlh, hloN, hhiN, hord⟩ : ∃ lo hi : Nat, lo ≤ hi ∧ Hid (lo < 18446744073709551616) ∧ Hid (hi < 18446744073709551616) ∧ (((x.toNat : Int) < y.toNat ∧ lo = x.toNat ∧ hi = y.toNat) ∨ ((y.toNat : Int) < x.toNat ∧ lo = y.toNat ∧ hi = x.toNat) ∨ (x = y ∧ lo = x.toNat ∧ hi = x.toNat)) := by
    rcases Nat.lt_trichotomy y.toNat x.toNat with h | h | h
    · exact ⟨_, _, Nat.le_of_lt h, hy, hx, .inr (.inl ⟨by omega, rfl, rfl⟩)⟩
    · exact ⟨_, _, Nat.le_refl _, hx, hx, .inr (.inr ⟨(BitVec.eq_of_toNat_eq h).symm, rfl, rfl⟩)⟩
    · exact ⟨_, _, Nat.le_of_lt h, hx, hy, .inl ⟨by omega, rfl, rfl⟩⟩
  have hab := below_mono lo hi n.toNat hlh
  have HL := Lib.hid (fun w => Below_any lo n.toNat w hloN.out hn.out)
  have HH := Lib.hid (fun w => Below_any hi n.toNat w hhiN.out hn.out)
  generalize lo * n.toNat / 18446744073709551616 = a at *
  generalize hi * n.toNat / 18446744073709551616 = b at *
  have hab' : (a : Int) ≤ (b : Int) := by omega
  clear hab
  obtain ⟨m, hm0, hm1, HC, hcase⟩ : ∃ m : Nat, 2 ≤ m ∧ m ≤ 32 ∧ clampN links = m ∧ ((links < 2 ∧ m = 2) ∨ (links = (m : Int)) ∨ (32 < links ∧ m = 32)) := by
    unfold clampN
    by_cases h2 : links < 2
    · exact ⟨2, by omega, by omega, by rw [if_pos h2], .inl ⟨h2, rfl⟩⟩
    · by_cases h3 : 32 < links
      · exact ⟨32, by omega, by omega, by rw [if_neg h2, if_pos h3], .inr (.inr ⟨h3, rfl⟩)⟩
      · exact ⟨links.toNat, by omega, by omega, by rw [if_neg h2, if_neg h3], .inr (.inl (by omega))⟩
  have hlev := fun w => Level_any x links w
  rw [HC] at hlev
  clear HC
  have hs := levN_spec x m
  generalize levN x m = K at *
  have HLev := Lib.hid hlev
  clear hlev
  have hmm : m < 18446744073709551616 := by omega
  have HM := Lib.hid hmm
  clear hmm
  obtain ⟨h7, h2, h3⟩ := hs
  have H2 := Lib.hid h2
  have H3 := Lib.hid h3
  clear h2 h3
  have hK0 : (0 : Int) ≤ (K : Int) := by omega
  have hK7 : (K : Int) ≤ 7 := by omega
  have d0 : decide ((K : Int) < 0) = false := decide_eq_false (by omega)
  have d7 : decide (7 < (K : Int)) = false := decide_eq_false (by omega)
  have d8 : decide (b < a) = false := decide_eq_false (by omega)
  go_enter Try.func5, Try.ntmps5
  go_wp2_with fail
  refine (rng_lives_any _).mono ?_
  rintro e w1 ⟨rfl, hb1⟩
  rcases hord with ⟨ho, rfl, rfl⟩ | ⟨ho, rfl, rfl⟩ | ⟨rfl, rfl, rfl⟩
  all_goals
    go_wp2_with fail
    refine (HL.out _).mono ?_
    rintro e w' ⟨rfl, rfl⟩
    go_wp2_with fail
    refine (HH.out _).mono ?_
    rintro e w' ⟨rfl, rfl⟩
    go_wp2_with fail
    refine (HLev.out _).mono ?_
    rintro e w' ⟨rfl, rfl⟩
    rcases hcase with ⟨hc, rfl⟩ | rfl | ⟨hc, rfl⟩
    all_goals
      go_wp2
      go_loop [13] (fun i => ∃ l : Nat, l ≤ K ∧ i = .int .i64 l) (fun i => 7 - (intOf i).toNat)
      case atStart => exact ⟨0, by omega, rfl⟩
      case round =>
        obtain ⟨l, hl, rfl⟩ := hrel
        by_cases hlt : l < K
        · have hb := bne0' (H2.out l hlt)
          have hli : (l : Int) < (K : Int) := by omega
          go_wp2_with fail
          refine (At_num x l _ (by omega)).mono ?_
          rintro e w' ⟨rfl, rfl⟩
          go_wp2_with fail
          refine (Below_at x l _ _ HM.out).mono ?_
          rintro e w' ⟨rfl, rfl⟩
          go_wp2
          go_round
          case rel => exact ⟨l + 1, by omega, by go_num⟩
          case measure => simp [intOf]; omega
        · obtain rfl : l = K := by omega
          rcases H3.out with hk | hk
          · have hke : ((l : Int) == 7) = true := by simp [hk]
            clear hk
            go_wp2
            go_ret
            exact ⟨rfl, hb1⟩
          · have hb := beq0' hk
            clear hk
            by_cases hk7 : l = 7
            · have hke : ((l : Int) == 7) = true := by simp [hk7]
              clear hk7
              go_wp2
              go_ret
              exact ⟨rfl, hb1⟩
            · have hke : ((l : Int) == 7) = false := by simp; omega
              clear hk7
              go_wp2_with fail
              refine (At_num x l _ (by omega)).mono ?_
              rintro e w' ⟨rfl, rfl⟩
              go_wp2_with fail
              refine (Below_at x l _ _ HM.out).mono ?_
              rintro e w' ⟨rfl, rfl⟩
              go_wp2
              go_ret
              exact ⟨rfl, hb1⟩

end Go.Proofs.Ytbedlaggmlckdaa
