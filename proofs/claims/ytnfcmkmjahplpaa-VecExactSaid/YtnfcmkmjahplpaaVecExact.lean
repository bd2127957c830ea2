/- VecExact, the walk of the law: distances of right vectors are exact, the same from both sides; an order is an order. -/
import Derived.Test.YtnfcmkmjahplpaaVecLives
namespace Go.Proofs.Ytnfcmkmjahplpaa
open Go.RowKit Go.Shelf

/-- How two vectors stand to each other, and a third one. -/
theorem stands (a b c : List Int) : ∃ x y z t s : Bool, decide (cmpL a b < 0) = x ∧ decide (cmpL b a < 0) = y ∧ decide (cmpL b c < 0) = z ∧ decide (cmpL a c < 0) = t ∧ decide (a = b) = s ∧
    ((x = true ∧ y = false ∧ z = true ∧ t = true ∧ s = false) ∨ (x = true ∧ y = false ∧ z = false ∧ s = false) ∨ (x = false ∧ y = true ∧ s = false) ∨ (x = false ∧ y = false ∧ s = true)) := by
  refine ⟨_, _, _, _, _, rfl, rfl, rfl, rfl, rfl, ?_⟩
  have hs := cmpL_swap a b
  have hz := cmpL_zero a b
  rcases (show cmpL a b < 0 ∨ 0 < cmpL a b ∨ cmpL a b = 0 by omega) with h | h | h
  · have hne : ¬ a = b := fun e => by have := hz.2 e; omega
    by_cases h2 : cmpL b c < 0
    · have h3 := cmpL_trans a b c h h2
      exact .inl ⟨decide_eq_true h, decide_eq_false (by omega), decide_eq_true h2, decide_eq_true h3, decide_eq_false hne⟩
    · exact .inr (.inl ⟨decide_eq_true h, decide_eq_false (by omega), decide_eq_false h2, decide_eq_false hne⟩)
  · have hne : ¬ a = b := fun e => by have := hz.2 e; omega
    exact .inr (.inr (.inl ⟨decide_eq_false (by omega), decide_eq_true (by omega), decide_eq_false hne⟩))
  · exact .inr (.inr (.inr ⟨decide_eq_false (by omega), decide_eq_false (by omega), decide_eq_true (hz.1 h)⟩))

/-- The numbers of two right vectors. -/
theorem exact_nums (a b : List Int) (h1 : okV a a.length) (h2 : okV b a.length) :
    ∃ q na nb : Nat, ∃ p : Int, satN (distN a b (max a.length b.length)) = q ∧ satN (distN a [] (max a.length 0)) = na ∧ satN (distN b [] (max b.length 0)) = nb ∧ wrap64 (dotZ a b (max a.length b.length)) = p ∧
      IntKind.u64.wrap (IntKind.u64.wrap ((na : Int) + (nb : Int)) - IntKind.u64.wrap (2 * IntKind.u64.wrap p)) = (q : Int) ∧ (q : Int) ≤ 4611686018427387904 ∧ ((q : Int) == 0) = decide (a = b) := by
  have hl : b.length = a.length := by have := h2.2.2.1; omega
  have hn : a.length ≤ 4096 := by have := h1.2.1; omega
  have d1 := ok_dist h1 h2 a.length hn
  have d2 := ok_norm h1 a.length hn
  have d3 := ok_norm h2 a.length hn
  have d4 := ok_dot h1 h2 a.length hn
  have e := dist_dot a b a.length
  rw [hl, Nat.max_self, Nat.max_eq_left (Nat.zero_le _), sat_small (n := distN a b a.length) (by omega), sat_small (n := distN a [] a.length) (by omega), sat_small (n := distN b [] a.length) (by omega)]
  refine ⟨_, _, _, _, rfl, rfl, rfl, rfl, ?_, by omega, ?_⟩
  · rw [Go.IntWalk.wrap64_in _ (by omega)]
    simp only [IntKind.wrap_u64]
    omega
  · rw [Bool.eq_iff_iff, beq_iff_eq, decide_eq_true_iff]
    constructor
    · intro h
      exact cpt_eq hl.symm (distN_zero a b a.length (by omega))
    · intro h
      subst h
      rw [distN_self]; rfl

set_option maxRecDepth 100000 in
set_option maxHeartbeats 2000000 in
theorem VecExact_walk (A : Option Addr) (a : List Int) (ca : Nat) (B : Option Addr) (b : List Int) (cb : Nat) (C : Option Addr) (c : List Int) (cc : Nat) (w : World) (hA : Vec w A a) (_ : a.length ≤ ca) (_ : ca ≤ 9223372036854775807) (hB : Vec w B b) (_ : b.length ≤ cb) (_ : cb ≤ 9223372036854775807)
    (hC : Vec w C c) (_ : c.length ≤ cc) (_ : cc ≤ 9223372036854775807) :
    Calls Try.prog 4 #[.slice A a.length ca, .slice B b.length cb, .slice C c.length cc] w fun e w' => e = .returned (.bool true) ∧ Below w.heap.size w w' := by
  obtain ⟨x, y, z, t, s, hx, hy, hz, ht, hs, hcase⟩ := stands a b c
  have Lab := Lib.hid fun w' hb => Less_v (w' := w') hA hB hb ca cb
  have Lba := Lib.hid fun w' hb => Less_v (w' := w') hB hA hb cb ca
  have Lbc := Lib.hid fun w' hb => Less_v (w' := w') hB hC hb cb cc
  have Lac := Lib.hid fun w' hb => Less_v (w' := w') hA hC hb ca cc
  have Sab := Lib.hid fun w' hb => Same_v (w' := w') hA hB hb ca cb
  rw [hx] at Lab
  rw [hy] at Lba
  rw [hz] at Lbc
  rw [ht] at Lac
  rw [hs] at Sab
  have Dab := Lib.hid fun w' hb => Dist_v (w' := w') hA hB hb a.length b.length ca cb rfl rfl
  have Dba := Lib.hid fun w' hb => Dist_v (w' := w') hB hA hb b.length a.length cb ca rfl rfl
  have Daa := Lib.hid fun w' hb => Dist_v (w' := w') hA hA hb a.length a.length ca ca rfl rfl
  rw [distN_comm, Nat.max_comm] at Dba
  rw [distN_self, show satN 0 = 0 from by decide] at Daa
  have C1 := Lib.hid fun w' hb => Check_v (w' := w') hA hb ca a.length
  have C2 := Lib.hid fun w' hb => Check_v (w' := w') hB hb cb a.length
  have hsd : a.length = a.length := rfl
  by_cases h1 : okV a a.length
  · by_cases h2 : okV b a.length
    · rw [show chkN a a.length = 0 from by rw [chkN, if_pos h1]] at C1
      rw [show chkN b a.length = 0 from by rw [chkN, if_pos h2]] at C2
      obtain ⟨q, na, nb, p, hq, hna, hnb, hp, e1, e2, e3⟩ := exact_nums a b h1 h2
      have Dan := Lib.hid fun w' hb => Dist_v (w' := w') hA (Vec.nil (A := none)) hb a.length 0 ca 0 rfl rfl
      have Dbn := Lib.hid fun w' hb => Dist_v (w' := w') hB (Vec.nil (A := none)) hb b.length 0 cb 0 rfl rfl
      have Pab := Lib.hid fun w' hb => Dot_v (w' := w') hA hB hb a.length b.length ca cb rfl rfl
      rw [hq] at Dab Dba
      rw [hna] at Dan
      rw [hnb] at Dbn
      rw [hp] at Pab
      rw [hs] at e3
      clear h1 h2 hq hna hnb hp hA hB hC hx hy hz ht hs hsd
      generalize a.length = la at *
      generalize b.length = lb at *
      generalize c.length = lc at *
      go_enter Try.func4, Try.ntmps4
      go_wp2_with fail
      refine (vec_lives_any _).mono ?_
      rintro e w1 ⟨rfl, hb⟩
      rcases hcase with ⟨rfl, rfl, rfl, rfl, rfl⟩ | ⟨rfl, rfl, rfl, rfl⟩ | ⟨rfl, rfl, rfl⟩ | ⟨rfl, rfl, rfl⟩
      all_goals
        go_wp2_with (first
          | (go_at_call 11; (first | with_reducible refine Calls.mono (Dab.out _ (by assumption)) ?_ | with_reducible refine Calls.mono (Dba.out _ (by assumption)) ?_ | with_reducible refine Calls.mono (Daa.out _ (by assumption)) ?_ | with_reducible refine Calls.mono (Dan.out _ (by assumption)) ?_ | with_reducible refine Calls.mono (Dbn.out _ (by assumption)) ?_); rintro e w1 ⟨rfl, hb⟩)
          | (go_at_call 12; (first | with_reducible refine Calls.mono (Lab.out _ (by assumption)) ?_ | with_reducible refine Calls.mono (Lba.out _ (by assumption)) ?_ | with_reducible refine Calls.mono (Lbc.out _ (by assumption)) ?_ | with_reducible refine Calls.mono (Lac.out _ (by assumption)) ?_); rintro e w1 ⟨rfl, rfl⟩)
          | (go_at_call 13; with_reducible refine Calls.mono (Sab.out _ (by assumption)) ?_; rintro e w1 ⟨rfl, hd⟩; have hb := Below.next (by assumption) (hd.below _))
          | (go_at_call 14; (first | with_reducible refine Calls.mono (C1.out _ (by assumption)) ?_ | with_reducible refine Calls.mono (C2.out _ (by assumption)) ?_); rintro e w1 ⟨rfl, hb⟩)
          | (go_at_call 15; with_reducible refine Calls.mono (Pab.out _ (by assumption)) ?_; rintro e w1 ⟨rfl, hb⟩))
        go_ret
        exact ⟨rfl, by assumption⟩
    · rw [show chkN a a.length = 0 from by rw [chkN, if_pos h1]] at C1
      rw [show chkN b a.length = 1 from by rw [chkN, if_neg h2]] at C2
      obtain ⟨q, hq⟩ : ∃ q, satN (distN a b (max a.length b.length)) = q := ⟨_, rfl⟩
      rw [hq] at Dab Dba
      clear h1 h2 hq hA hB hC hx hy hz ht hs hsd
      generalize a.length = la at *
      generalize b.length = lb at *
      generalize c.length = lc at *
      go_enter Try.func4, Try.ntmps4
      go_wp2_with fail
      refine (vec_lives_any _).mono ?_
      rintro e w1 ⟨rfl, hb⟩
      rcases hcase with ⟨rfl, rfl, rfl, rfl, rfl⟩ | ⟨rfl, rfl, rfl, rfl⟩ | ⟨rfl, rfl, rfl⟩ | ⟨rfl, rfl, rfl⟩
      all_goals
        go_wp2_with (first
          | (go_at_call 11; (first | with_reducible refine Calls.mono (Dab.out _ (by assumption)) ?_ | with_reducible refine Calls.mono (Dba.out _ (by assumption)) ?_ | with_reducible refine Calls.mono (Daa.out _ (by assumption)) ?_); rintro e w1 ⟨rfl, hb⟩)
          | (go_at_call 12; (first | with_reducible refine Calls.mono (Lab.out _ (by assumption)) ?_ | with_reducible refine Calls.mono (Lba.out _ (by assumption)) ?_ | with_reducible refine Calls.mono (Lbc.out _ (by assumption)) ?_ | with_reducible refine Calls.mono (Lac.out _ (by assumption)) ?_); rintro e w1 ⟨rfl, rfl⟩)
          | (go_at_call 13; with_reducible refine Calls.mono (Sab.out _ (by assumption)) ?_; rintro e w1 ⟨rfl, hd⟩; have hb := Below.next (by assumption) (hd.below _))
          | (go_at_call 14; (first | with_reducible refine Calls.mono (C1.out _ (by assumption)) ?_ | with_reducible refine Calls.mono (C2.out _ (by assumption)) ?_); rintro e w1 ⟨rfl, hb⟩))
        go_ret
        exact ⟨rfl, by assumption⟩
  · rw [show chkN a a.length = 1 from by rw [chkN, if_neg h1]] at C1
    obtain ⟨q, hq⟩ : ∃ q, satN (distN a b (max a.length b.length)) = q := ⟨_, rfl⟩
    rw [hq] at Dab Dba
    clear h1 C2 hq hA hB hC hx hy hz ht hs hsd
    generalize a.length = la at *
    generalize b.length = lb at *
    generalize c.length = lc at *
    go_enter Try.func4, Try.ntmps4
    go_wp2_with fail
    refine (vec_lives_any _).mono ?_
    rintro e w1 ⟨rfl, hb⟩
    rcases hcase with ⟨rfl, rfl, rfl, rfl, rfl⟩ | ⟨rfl, rfl, rfl, rfl⟩ | ⟨rfl, rfl, rfl⟩ | ⟨rfl, rfl, rfl⟩
    all_goals
      go_wp2_with (first
        | (go_at_call 11; (first | with_reducible refine Calls.mono (Dab.out _ (by assumption)) ?_ | with_reducible refine Calls.mono (Dba.out _ (by assumption)) ?_ | with_reducible refine Calls.mono (Daa.out _ (by assumption)) ?_); rintro e w1 ⟨rfl, hb⟩)
        | (go_at_call 12; (first | with_reducible refine Calls.mono (Lab.out _ (by assumption)) ?_ | with_reducible refine Calls.mono (Lba.out _ (by assumption)) ?_ | with_reducible refine Calls.mono (Lbc.out _ (by assumption)) ?_ | with_reducible refine Calls.mono (Lac.out _ (by assumption)) ?_); rintro e w1 ⟨rfl, rfl⟩)
        | (go_at_call 13; with_reducible refine Calls.mono (Sab.out _ (by assumption)) ?_; rintro e w1 ⟨rfl, hd⟩; have hb := Below.next (by assumption) (hd.below _))
        | (go_at_call 14; (first | with_reducible refine Calls.mono (C1.out _ (by assumption)) ?_); rintro e w1 ⟨rfl, hb⟩))
      go_ret
      exact ⟨rfl, by assumption⟩

end Go.Proofs.Ytnfcmkmjahplpaa
