/- A slot in one of its generations is told once at most: the plain side. -/
import Derived.Test.YtoaikdnooafjmaaArJ
import Derived.Test.YtoaikdnooafjmaaEpMem
namespace Go.Proofs.Ytoaikdnooafjmaa
open Go.RowKit

/-- What was told: each in an elder generation, or in this one, and then in use. -/
def ToldA (x : AR) (T : List (Int × Nat)) : Prop := ∀ p ∈ T, ∃ k : Nat, p.1 = (k : Int) + 1 ∧ k < x.st.length ∧ (p.2 < x.gn.getD k 0 ∨ (p.2 = x.gn.getD k 0 ∧ x.st.getD k 0 ≠ 0))
section
variable {n : Nat} {x : AR} {T : List (Int × Nat)}
theorem ToldA.nil (x : AR) : ToldA x [] := fun p hp => by cases hp
theorem alS_in (h : AFit n x) (hb : alB x = true) : ∃ k, alS x = k + 1 ∧ k < x.st.length ∧ x.st.getD k 0 = 0 ∧ alG x = x.gn.getD k 0 ∧ alX x = arAlE x x.fr.dropLast (k + 1) := by
  rcases al_cases x with ⟨_, _, _, _, e⟩ | ⟨F, s, hf, e1, e2, e3, _⟩
  · rw [e] at hb; cases hb
  · have hs := h.fin s (by rw [hf]; simp)
    refine ⟨s - 1, by omega, by omega, hs.2.2, e3, ?_⟩
    rw [e1, hf, List.dropLast_concat, Nat.sub_add_cancel hs.1]
theorem ToldA.fresh (h : ToldA x T) (hf : AFit n x) (hb : alB x = true) : ∀ p ∈ T, ¬ (p.1 = (alS x : Nat) ∧ p.2 = alG x) := by
  obtain ⟨k, e1, hk, h0, e2, _⟩ := alS_in hf hb
  intro p hp ⟨q1, q2⟩
  obtain ⟨j, r1, r2, r3⟩ := h p hp
  obtain rfl : j = k := by omega
  rcases r3 with r3 | ⟨_, r3⟩
  · omega
  · exact r3 h0
theorem ToldA.alloc (h : ToldA x T) (hf : AFit n x) (hb : alB x = true) : ToldA (alX x) (T ++ [(((alS x : Nat) : Int), alG x)]) := by
  obtain ⟨k, e1, hk, h0, e2, e3⟩ := alS_in hf hb
  rw [e1, e2, e3]
  intro p hp
  simp only [arAlE, Nat.add_sub_cancel, List.length_set]
  rcases List.mem_append.1 hp with hp | hp
  · obtain ⟨j, r1, r2, r3⟩ := h p hp
    refine ⟨j, r1, r2, ?_⟩
    rw [getD_set]
    rcases r3 with r3 | ⟨r3, r4⟩
    · exact .inl r3
    · refine .inr ⟨r3, ?_⟩
      split
      · decide
      · exact r4
  · rw [List.mem_singleton.1 hp]
    refine ⟨k, by simp, hk, .inr ⟨rfl, ?_⟩⟩
    rw [getD_set, if_pos ⟨rfl, hk⟩]
    decide
theorem ToldA.noAlloc (h : ToldA x T) (hb : alB x = false) : ToldA (alX x) T := by
  rcases al_cases x with ⟨_, e, _⟩ | ⟨F, s, _, _, _, _, e⟩
  · rw [e]; exact h
  · rw [e] at hb; cases hb
theorem ToldA.move (h : ToldA x T) (v t : Int) : ToldA (arMvX x v t) T := by
  cases hb : arMvB x v t with
  | false => unfold arMvX; rw [hb]; exact h
  | true =>
    obtain ⟨k, s, rfl, hk, rfl, h2, h4, hg, hx⟩ := arMv_nat hb
    rw [hx]
    intro p hp
    obtain ⟨j, r1, r2, r3⟩ := h p hp
    simp only [List.length_set]
    refine ⟨j, r1, r2, r3.imp id fun ⟨r3, r4⟩ => ⟨r3, ?_⟩⟩
    rw [getD_set]
    split
    · omega
    · exact r4
theorem ToldA.free (h : ToldA x T) (hf : AFit n x) (v : Int) : ToldA (arFrX x v) T := by
  cases hb : arFrB x v with
  | false => unfold arFrX; rw [hb]; exact h
  | true =>
    obtain ⟨k, rfl, hk, hg, hx⟩ := arFr_nat hb
    rw [hx]
    intro p hp
    obtain ⟨j, r1, r2, r3⟩ := h p hp
    simp only [arFrE, List.length_set]
    refine ⟨j, r1, r2, ?_⟩
    rw [getD_set, getD_set]
    by_cases e : j = k
    · subst e
      rw [if_pos ⟨rfl, by rw [hf.len]; exact hk⟩, if_pos ⟨rfl, hk⟩]
      left
      rcases r3 with r3 | ⟨r3, _⟩ <;> omega
    · rw [if_neg (fun h => e h.1), if_neg (fun h => e h.1)]
      exact r3
/-- All states together. -/
def csum (st : List Nat) : Nat → Nat
  | 0 => 0
  | j + 1 => csum st j + st.count j
theorem csum_cons (a : Nat) (r : List Nat) : ∀ j, csum (a :: r) j = csum r j + if a < j then 1 else 0
  | 0 => by simp [csum]
  | j + 1 => by
    simp only [csum]
    rw [csum_cons a r j, List.count_cons]
    simp only [beq_iff_eq]
    split <;> split <;> split <;> omega
theorem csum_all : ∀ (st : List Nat), (∀ s ∈ st, s ≤ 4) → csum st 5 = st.length
  | [], _ => rfl
  | a :: r, h => by
    rw [csum_cons, csum_all r (fun s hs => h s (List.mem_cons_of_mem _ hs)), if_pos (by have := h a List.mem_cons_self; omega)]
    rfl
theorem AFit.csum (h : AFit n x) : csum x.st 5 = x.st.length := csum_all _ fun s hs => by
  obtain ⟨k, hk, rfl⟩ := List.mem_iff_getElem.1 hs
  have := h.s4 k
  rw [List.getD_eq_getElem?_getD, List.getElem?_eq_getElem hk] at this
  exact this
theorem csum_le (st : List Nat) (j : Nat) : csum st j ≤ st.length := by
  induction st generalizing j with
  | nil => induction j with
    | zero => exact Nat.le_refl _
    | succ j ih => simp only [_root_.Go.Proofs.Ytoaikdnooafjmaa.csum, List.count_nil]; exact ih
  | cons a r ih =>
    rw [csum_cons, List.length_cons]
    have := ih j
    split <;> omega
theorem alX_len (x : AR) : (alX x).st.length = x.st.length := by
  rcases al_cases x with ⟨_, e, _⟩ | ⟨F, s, _, e, _⟩ <;> rw [e]
  simp [arAlE]
theorem arMv_len (x : AR) (v t : Int) : (arMvX x v t).st.length = x.st.length := by unfold arMvX; split <;> simp
theorem arFr_len (x : AR) (v : Int) : (arFrX x v).st.length = x.st.length := by unfold arFrX; split <;> simp [arFrE]
/-- What Alloc tells of how many are free. -/
theorem al_free (h : AFit n x) : alB x = decide (0 < arCnt x 0) ∧ (alB x = true → arSt (alX x) (alS x : Nat) = 1 ∧ arGn (alX x) (alS x : Nat) = (alG x : Nat) ∧ arCnt (alX x) 0 = arCnt x 0 - 1) := by
  have hc : ∀ y : AR, arCnt y 0 = ((y.st.count 0 : Nat) : Int) := fun y => rfl
  have hcn := h.cn
  rcases al_cases x with ⟨e0, _, _, _, e⟩ | ⟨F, s, hf, e1, e2, e3, e4⟩
  · rw [e, hc, ← hcn, e0]
    exact ⟨rfl, fun h => by cases h⟩
  · have hal := (h.alloc hf).cn
    have hs := h.fin s (by rw [hf]; simp)
    rw [e4, e1, e2, e3, hc, hc, ← hcn, ← hal, hf]
    obtain ⟨k, rfl⟩ : ∃ k, s = k + 1 := ⟨s - 1, by omega⟩
    have hk : k < (arAlE x F (k + 1)).st.length := by simp only [arAlE, List.length_set]; omega
    refine ⟨(decide_eq_true (by rw [List.length_append, List.length_singleton]; omega)).symm, fun _ => ⟨?_, ?_, ?_⟩⟩
    · rw [show ((k + 1 : Nat) : Int) = (k : Int) + 1 by omega, arSt_in hk]
      simp only [arAlE, Nat.add_sub_cancel]
      rw [getD_set, if_pos ⟨rfl, by omega⟩]
      rfl
    · rw [show ((k + 1 : Nat) : Int) = (k : Int) + 1 by omega, arGn_in hk]
      rfl
    · simp only [arAlE, List.length_append, List.length_singleton]
      omega
/-- What Move and Free tell. -/
theorem mv_told {v t : Int} (hb : arMvB x v t = true) : arSt (arMvX x v t) v = t ∧ t = arSt x v + 1 := by
  obtain ⟨k, s, rfl, hk, rfl, h2, h4, hg, hx⟩ := arMv_nat hb
  rw [hx, arSt_in (by simpa using hk), arSt_in hk]
  simp only
  rw [getD_set, if_pos ⟨rfl, hk⟩]
  exact ⟨rfl, by omega⟩
theorem fr_told {v : Int} (h : AFit n x) (hb : arFrB x v = true) : arSt (arFrX x v) v = 0 ∧ arGn (arFrX x v) v = arGn x v + 1 := by
  obtain ⟨k, rfl, hk, hg, hx⟩ := arFr_nat hb
  rw [hx, arSt_in (by simpa [arFrE] using hk), arGn_in (by simpa [arFrE] using hk), arGn_in hk]
  simp only [arFrE]
  rw [getD_set, getD_set, if_pos ⟨rfl, hk⟩, if_pos ⟨rfl, by rw [h.len]; exact hk⟩]
  exact ⟨rfl, by omega⟩
theorem csum_i (j : Nat) : (csum x.st (j + 1) : Int) = (csum x.st j : Int) + ((x.st.count j : Nat) : Int) := by simp only [_root_.Go.Proofs.Ytoaikdnooafjmaa.csum]; omega
theorem arCnt_in {j : Nat} (hj : j < 5) : arCnt x (j : Int) = ((x.st.count j : Nat) : Int) := by
  unfold arCnt
  rw [if_pos ⟨by omega, by omega⟩, Int.toNat_natCast]
end

end Go.Proofs.Ytoaikdnooafjmaa
