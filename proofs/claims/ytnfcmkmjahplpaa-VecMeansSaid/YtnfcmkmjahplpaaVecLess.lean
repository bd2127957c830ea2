/- The contracts of vec.Same and vec.Less, and of the document's own Same. -/
import Derived.Test.YtnfcmkmjahplpaaVecTop
namespace Go.Proofs.Ytnfcmkmjahplpaa
open Go.RowKit Go.Shelf

/-- How two vectors stand to each other: below 0, 0, above 0. -/
def cmpL : List Int → List Int → Int
  | [], [] => 0
  | [], _ :: _ => -1
  | _ :: _, [] => 1
  | x :: xs, y :: ys => if x < y then -1 else if y < x then 1 else cmpL xs ys

theorem cmpL_swap (xs ys : List Int) : cmpL ys xs = -cmpL xs ys := by
  induction xs generalizing ys with
  | nil => cases ys <;> simp [cmpL]
  | cons x xs ih =>
    cases ys with
    | nil => simp [cmpL]
    | cons y ys =>
      simp only [cmpL]
      split
      · rw [if_neg (by omega)]
      · split
        · simp
        · exact ih ys
theorem cmpL_zero (xs ys : List Int) : cmpL xs ys = 0 ↔ xs = ys := by
  induction xs generalizing ys with
  | nil => cases ys <;> simp [cmpL]
  | cons x xs ih =>
    cases ys with
    | nil => simp [cmpL]
    | cons y ys =>
      simp only [cmpL]
      split
      · simp; omega
      · split
        · simp; omega
        · rw [ih ys]; simp; omega
theorem cmpL_trans (xs ys zs : List Int) (h : cmpL xs ys < 0) (h' : cmpL ys zs < 0) : cmpL xs zs < 0 := by
  induction xs generalizing ys zs with
  | nil =>
    cases ys with
    | nil => simp [cmpL] at h
    | cons y ys =>
      cases zs with
      | nil => simp [cmpL] at h'
      | cons z zs => simp [cmpL]
  | cons x xs ih =>
    cases ys with
    | nil => simp [cmpL] at h
    | cons y ys =>
      cases zs with
      | nil => simp [cmpL] at h'
      | cons z zs =>
        simp only [cmpL] at h h' ⊢
        split at h
        · split at h'
          · rw [if_pos (by omega)]; omega
          · split at h'
            · omega
            · rw [if_pos (by omega)]; omega
        · split at h
          · omega
          · split at h'
            · rw [if_pos (by omega)]; omega
            · split at h'
              · omega
              · rw [if_neg (by omega), if_neg (by omega)]
                exact ih ys zs h h'
theorem cmpL_drop (xs ys : List Int) (k : Nat) (h1 : k < xs.length) (h2 : k < ys.length) :
    cmpL (xs.drop k) (ys.drop k) = if cpt xs k < cpt ys k then -1 else if cpt ys k < cpt xs k then 1 else cmpL (xs.drop (k + 1)) (ys.drop (k + 1)) := by
  rw [List.drop_eq_getElem_cons h1, List.drop_eq_getElem_cons h2, cmpL]
  rw [cpt, cpt, List.getD_eq_getElem?_getD, List.getD_eq_getElem?_getD, List.getElem?_eq_getElem h1, List.getElem?_eq_getElem h2]
  rfl

set_option maxHeartbeats 400000 in
theorem isNaN_any (z : Int) (w : World) : Calls Try.prog 35 #[.int .i32 z] w fun e w' => e = .returned (.bool false) ∧ w = w' := by
  go_enter Try.func35, Try.ntmps35
  go_wp2
  go_ret
  exact ⟨by simp, rfl⟩

set_option maxHeartbeats 400000 in
theorem Compare1_any (x y : Int) (w : World) : Calls Try.prog 33 #[.int .i32 x, .int .i32 y] w fun e w' => e = .returned (.int .i64 (if x < y then -1 else if y < x then 1 else 0)) ∧ w = w' := by
  have hcase : x < y ∨ (y ≤ x ∧ y < x) ∨ (y ≤ x ∧ x ≤ y) := by omega
  go_enter Try.func33, Try.ntmps33
  rcases hcase with h | ⟨h, h'⟩ | ⟨h, h'⟩
  all_goals
    go_wp2_with (go_at_call 35; refine (isNaN_any _ _).mono ?_; rintro e w' ⟨rfl, rfl⟩)
    go_ret
  all_goals exact ⟨rfl, rfl⟩

set_option maxRecDepth 100000 in
set_option maxHeartbeats 1000000 in
theorem Compare_any (A B : Option Addr) (xs ys : List Int) (ca cb : Nat) (w : World) (hA : Vec w A xs) (hB : Vec w B ys) :
    Calls Try.prog 24 #[.slice A xs.length ca, .slice B ys.length cb] w fun e w' => e = .returned (.int .i64 (cmpL xs ys)) ∧ w = w' := by
  have hx := hA.len
  have hy := hB.len
  have HA := Lib.hid hA.rd
  have HB := Lib.hid hB.rd
  clear hA hB
  go_enter Try.func24, Try.ntmps24
  go_wp2
  go_loop [11] (fun i => ∃ k : Nat, k ≤ xs.length ∧ k ≤ ys.length ∧ i = .int .i64 k ∧ Hid (cmpL (xs.drop k) (ys.drop k) = cmpL xs ys)) (fun i => xs.length - (intOf i).toNat)
  case atStart => exact ⟨0, Nat.zero_le _, Nat.zero_le _, rfl, rfl⟩
  case round =>
    obtain ⟨k, hk, hk', rfl, HC⟩ := hrel
    have hk0 : (0 : Int) ≤ (k : Int) := by omega
    by_cases h1 : k < xs.length
    · have h1' : (k : Int) < (xs.length : Int) := by omega
      by_cases h2 : k < ys.length
      · have h2' : (k : Int) < (ys.length : Int) := by omega
        have HD := Lib.hid (cmpL_drop xs ys k h1 h2)
        obtain ⟨b, off, rfl, _, hc⟩ := HA.out k _ (cpt_lt h1)
        obtain ⟨b', off', rfl, _, hc'⟩ := HB.out k _ (cpt_lt h2)
        generalize cpt xs k = x at *
        generalize cpt ys k = y at *
        rcases (show x < y ∨ y < x ∨ x = y by omega) with h | h | h
        · have HE : Hid (cmpL xs ys = -1) := by rw [Hid, ← HC.out, HD.out, if_pos h]
          have HF := Lib.hid (fun w => Compare1_any x y w)
          rw [if_pos h] at HF
          clear h HC HD
          go_wp2_with fail
          refine Calls.mono (HF.out _) ?_
          rintro e w' ⟨rfl, rfl⟩
          go_wp2
          go_ret
          exact ⟨ret_int HE.out.symm, rfl⟩
        · have HE : Hid (cmpL xs ys = 1) := by rw [Hid, ← HC.out, HD.out, if_neg (by omega), if_pos h]
          have HF := Lib.hid (fun w => Compare1_any x y w)
          rw [if_neg (by omega), if_pos h] at HF
          clear h HC HD
          go_wp2_with fail
          refine Calls.mono (HF.out _) ?_
          rintro e w' ⟨rfl, rfl⟩
          go_wp2
          go_ret
          exact ⟨ret_int HE.out.symm, rfl⟩
        · subst h
          have HE : Hid (cmpL (xs.drop (k + 1)) (ys.drop (k + 1)) = cmpL xs ys) := by rw [Hid, ← HC.out, HD.out, if_neg (by omega), if_neg (by omega)]
          have HF := Lib.hid (fun w => Compare1_any x x w)
          rw [if_neg (by omega), if_neg (by omega)] at HF
          clear HC HD
          go_wp2_with fail
          refine Calls.mono (HF.out _) ?_
          rintro e w' ⟨rfl, rfl⟩
          go_wp2
          go_round
          case rel => exact ⟨k + 1, by omega, by omega, by go_num, HE⟩
          case measure => simp [intOf]; omega
      · have h2' : (ys.length : Int) ≤ (k : Int) := by omega
        have HE : Hid (cmpL xs ys = 1) := by
          rw [Hid, ← HC.out, List.drop_eq_nil_of_le (by omega : ys.length ≤ k), List.drop_eq_getElem_cons h1]; rfl
        obtain ⟨b, off, rfl, _, hc⟩ := HA.out k _ (cpt_lt h1)
        generalize cpt xs k = x at *
        clear HC
        go_wp2
        go_ret
        exact ⟨ret_int HE.out.symm, rfl⟩
    · have hke : k = xs.length := by omega
      by_cases h2 : xs.length < ys.length
      · have h2' : (xs.length : Int) < (ys.length : Int) := by omega
        have HE : Hid (cmpL xs ys = -1) := by
          rw [Hid, ← HC.out, List.drop_eq_nil_of_le (by omega : xs.length ≤ k), List.drop_eq_getElem_cons (by omega : k < ys.length)]; rfl
        clear HC
        subst hke
        go_wp2
        go_ret
        exact ⟨ret_int HE.out.symm, rfl⟩
      · have h2' : (ys.length : Int) ≤ (xs.length : Int) := by omega
        have HE : Hid (cmpL xs ys = 0) := by
          rw [Hid, ← HC.out, List.drop_eq_nil_of_le (by omega : xs.length ≤ k), List.drop_eq_nil_of_le (by omega : ys.length ≤ k)]; rfl
        clear HC
        subst hke
        go_wp2
        go_ret
        exact ⟨ret_int HE.out.symm, rfl⟩

theorem Less_v {A B : Option Addr} {xs ys : List Int} {w w' : World} (hA : Vec w A xs) (hB : Vec w B ys) (hb : Below w.heap.size w w') (ca cb : Nat) :
    Calls Try.prog 12 #[.slice A xs.length ca, .slice B ys.length cb] w' fun e w'' => e = .returned (.bool (decide (cmpL xs ys < 0))) ∧ w' = w'' := by
  have H := Lib.hid (Compare_any A B xs ys ca cb w' (hA.below hb) (hB.below hb))
  clear hA hB hb
  go_enter Try.func12, Try.ntmps12
  go_wp2_with fail
  refine Calls.mono H.out ?_
  rintro e w'' ⟨rfl, rfl⟩
  go_wp2
  go_ret
  exact ⟨rfl, rfl⟩

set_option maxRecDepth 100000 in
set_option maxHeartbeats 1000000 in
theorem Equal_any (A B : Option Addr) (xs ys : List Int) (ca cb : Nat) (w : World) (hA : Vec w A xs) (hB : Vec w B ys) :
    Calls Try.prog 25 #[.slice A xs.length ca, .slice B ys.length cb] w fun e w' => e = .returned (.bool (decide (xs = ys))) ∧ Drawn w w' := by
  have hx := hA.len
  have HA := Lib.hid hA.rd
  have HB := Lib.hid hB.rd
  clear hA hB
  by_cases hl : xs.length = ys.length
  · have hlz : (xs.length : Int) = (ys.length : Int) := by omega
    go_enter Try.func25, Try.ntmps25
    go_wp2
    go_loopw [13] (fun i wr => ∃ k : Nat, k ≤ xs.length ∧ i = .int .i64 k ∧ Hid (∀ j, j < k → cpt xs j = cpt ys j) ∧ Drawn w wr) (fun i _ => xs.length - (intOf i).toNat)
    case atStart => exact ⟨0, Nat.zero_le _, rfl, fun j hj => absurd hj (Nat.not_lt_zero j), Drawn.refl⟩
    case round =>
      obtain ⟨k, hk, rfl, HC, hdr⟩ := hrel
      have hk0 : (0 : Int) ≤ (k : Int) := by omega
      by_cases hlt : k < xs.length
      · obtain ⟨b, off, rfl, hb, hc0⟩ := HA.out k _ (cpt_lt hlt)
        obtain ⟨b', off', rfl, hb', hc0'⟩ := HB.out k _ (cpt_lt (by omega : k < ys.length))
        have hc := (hdr.cell _).trans hc0
        have hc' := (hdr.cell _).trans hc0'
        clear hc0 hc0'
        have hkl : (k : Int) < (xs.length : Int) := by omega
        have hkl' : (k : Int) < (ys.length : Int) := by omega
        by_cases he : cpt xs k = cpt ys k
        · have HN : Hid (∀ j, j < k + 1 → cpt xs j = cpt ys j) := fun j hj => by
            rcases Nat.lt_or_ge j k with h | h
            · exact HC.out j h
            · obtain rfl : j = k := by omega
              exact he
          have hq : (cpt xs k != cpt ys k) = false := by simp [he]
          clear he
          generalize cpt xs k = x at *
          generalize cpt ys k = y at *
          go_wp2
          go_quiet (fail)
          go_wp2
          go_roundw
          case rel => exact ⟨k + 1, by omega, by go_num, HN, hdr.step _⟩
          case measure => simp [intOf]; omega
        · have HN : Hid (decide (xs = ys) = false) := decide_eq_false fun e => he (by rw [e])
          have hq : (cpt xs k != cpt ys k) = true := by simp [he]
          clear he
          generalize cpt xs k = x at *
          generalize cpt ys k = y at *
          go_wp2
          go_quiet (fail)
          go_wp2
          go_ret
          exact ⟨ret_bool HN.out.symm, hdr.step _⟩
      · have HN : Hid (decide (xs = ys) = true) := decide_eq_true (cpt_eq hl fun j hj => HC.out j (by omega))
        clear HC
        go_wp2
        go_ret
        exact ⟨ret_bool HN.out.symm, hdr⟩
  · have hlz : ((xs.length : Int) != (ys.length : Int)) = true := by simp; omega
    have HN : Hid (decide (xs = ys) = false) := decide_eq_false fun e => hl (by rw [e])
    clear hl
    go_enter Try.func25, Try.ntmps25
    go_wp2
    go_ret
    exact ⟨ret_bool HN.out.symm, Drawn.refl⟩

set_option maxRecDepth 100000 in
set_option maxHeartbeats 1000000 in
theorem ref_Same_any (A B : Option Addr) (xs ys : List Int) (ca cb : Nat) (w : World) (hA : Vec w A xs) (hB : Vec w B ys) :
    Calls Try.prog 10 #[.slice A xs.length ca, .slice B ys.length cb] w fun e w' => e = .returned (.bool (decide (xs = ys))) ∧ Drawn w w' := by
  have hx := hA.len
  have HA := Lib.hid hA.rd
  have HB := Lib.hid hB.rd
  clear hA hB
  by_cases hl : xs.length = ys.length
  · have hlz : (xs.length : Int) = (ys.length : Int) := by omega
    go_enter Try.func10, Try.ntmps10
    go_wp2
    go_loopw [13] (fun i wr => ∃ k : Nat, k ≤ xs.length ∧ i = .int .i64 k ∧ Hid (∀ j, j < k → cpt xs j = cpt ys j) ∧ Drawn w wr) (fun i _ => xs.length - (intOf i).toNat)
    case atStart => exact ⟨0, Nat.zero_le _, rfl, fun j hj => absurd hj (Nat.not_lt_zero j), Drawn.refl⟩
    case round =>
      obtain ⟨k, hk, rfl, HC, hdr⟩ := hrel
      have hk0 : (0 : Int) ≤ (k : Int) := by omega
      by_cases hlt : k < xs.length
      · obtain ⟨b, off, rfl, hb, hc0⟩ := HA.out k _ (cpt_lt hlt)
        obtain ⟨b', off', rfl, hb', hc0'⟩ := HB.out k _ (cpt_lt (by omega : k < ys.length))
        have hc := (hdr.cell _).trans hc0
        have hc' := (hdr.cell _).trans hc0'
        clear hc0 hc0'
        have hkl : (k : Int) < (xs.length : Int) := by omega
        have hkl' : (k : Int) < (ys.length : Int) := by omega
        by_cases he : cpt xs k = cpt ys k
        · have HN : Hid (∀ j, j < k + 1 → cpt xs j = cpt ys j) := fun j hj => by
            rcases Nat.lt_or_ge j k with h | h
            · exact HC.out j h
            · obtain rfl : j = k := by omega
              exact he
          have hq : (cpt xs k != cpt ys k) = false := by simp [he]
          clear he
          generalize cpt xs k = x at *
          generalize cpt ys k = y at *
          go_wp2
          go_quiet (fail)
          go_wp2
          go_roundw
          case rel => exact ⟨k + 1, by omega, by go_num, HN, hdr.step _⟩
          case measure => simp [intOf]; omega
        · have HN : Hid (decide (xs = ys) = false) := decide_eq_false fun e => he (by rw [e])
          have hq : (cpt xs k != cpt ys k) = true := by simp [he]
          clear he
          generalize cpt xs k = x at *
          generalize cpt ys k = y at *
          go_wp2
          go_quiet (fail)
          go_wp2
          go_ret
          exact ⟨ret_bool HN.out.symm, hdr.step _⟩
      · have HN : Hid (decide (xs = ys) = true) := decide_eq_true (cpt_eq hl fun j hj => HC.out j (by omega))
        clear HC
        go_wp2
        go_ret
        exact ⟨ret_bool HN.out.symm, hdr⟩
  · have hlz : ((xs.length : Int) != (ys.length : Int)) = true := by simp; omega
    have HN : Hid (decide (xs = ys) = false) := decide_eq_false fun e => hl (by rw [e])
    clear hl
    go_enter Try.func10, Try.ntmps10
    go_wp2
    go_ret
    exact ⟨ret_bool HN.out.symm, Drawn.refl⟩

theorem Same_v {A B : Option Addr} {xs ys : List Int} {w w' : World} (hA : Vec w A xs) (hB : Vec w B ys) (hb : Below w.heap.size w w') (ca cb : Nat) :
    Calls Try.prog 13 #[.slice A xs.length ca, .slice B ys.length cb] w' fun e w'' => e = .returned (.bool (decide (xs = ys))) ∧ Drawn w' w'' := by
  have H := Lib.hid (Equal_any A B xs ys ca cb w' (hA.below hb) (hB.below hb))
  clear hA hB hb
  go_enter Try.func13, Try.ntmps13
  go_wp2_with fail
  refine Calls.mono H.out ?_
  rintro e w'' ⟨rfl, hd⟩
  go_wp2
  go_ret
  exact ⟨rfl, hd⟩

end Go.Proofs.Ytnfcmkmjahplpaa
