/- clock.Compare and the law's 'up', by contract. -/
import Derived.Test.YtabcnmpnjnegdaaClkShort
import Derived.Deep.DeepCutAuto
import Derived.Deep.CutBlock
namespace Go.Proofs.Ytabcnmpnjnegdaa
open Go.RowKit

/-- What Compare finds in its three tests. -/
theorem cmpN_cases (M N : List Int) (hM : M.length = 65) (hN : N.length = 65) : ∃ d1 d2 d3 : Bool, (∀ w, (Op.equalIn 10000 59 (.agg (cellsA M)) (.agg (cellsA N))).run Try.prog w = .ok d1 w) ∧
    (∀ w, (Op.equalIn 10000 59 (.agg (cellsA (joinN M N))) (.agg (cellsA N))).run Try.prog w = .ok d2 w) ∧
    (∀ w, (Op.equalIn 10000 59 (.agg (cellsA (joinN M N))) (.agg (cellsA M))).run Try.prog w = .ok d3 w) ∧
    ((d1 = true ∧ cmpN M N = 0) ∨ (d1 = false ∧ d2 = true ∧ cmpN M N = -1) ∨ (d1 = false ∧ d2 = false ∧ d3 = true ∧ cmpN M N = 1) ∨ (d1 = false ∧ d2 = false ∧ d3 = false ∧ cmpN M N = 2)) := by
  refine ⟨decide (M = N), decide (joinN M N = N), decide (joinN M N = M), fun w => eq_num _ _ w hM hN, fun w => eq_num _ _ w (joinN_len _ _) hN, fun w => eq_num _ _ w (joinN_len _ _) hM, ?_⟩
  unfold cmpN
  by_cases h1 : M = N
  · exact .inl ⟨decide_eq_true h1, if_pos h1⟩
  · right
    rw [if_neg h1]
    by_cases h2 : joinN M N = N
    · exact .inl ⟨decide_eq_false h1, decide_eq_true h2, if_pos h2⟩
    · right
      rw [if_neg h2]
      by_cases h3 : joinN M N = M
      · exact .inl ⟨decide_eq_false h1, decide_eq_false h2, decide_eq_true h3, if_pos h3⟩
      · exact .inr ⟨decide_eq_false h1, decide_eq_false h2, decide_eq_false h3, if_neg h3⟩

set_option maxHeartbeats 4000000 in
theorem Compare_any (A B : Option Addr) (zs ys : List Int) (c d : Nat) (w : World) (hA : Rd (Value.int .i64) w w.heap.size A zs) (hB : Rd (Value.int .i64) w w.heap.size B ys) (hl : zs.length ≤ 9223372036854775807) (hk : ys.length ≤ 9223372036854775807) :
    Calls Try.prog 19 #[.slice A zs.length c, .slice B ys.length d] w fun e w' => e = .returned (.int .i64 (cmpN (numL zs) (numL ys))) ∧ Below w.heap.size w w' := by
  have hz := zero_num
  have HA := Lib.hid hA
  have HB := Lib.hid hB
  have hM := numL_len zs
  have hN := numL_len ys
  have HC1 : Hid (∀ w, Rd (Value.int .i64) w w.heap.size A zs → Calls Try.prog 40 #[.slice A zs.length c] w (NumsOut (numL zs) w)) := Lib.hid fun w h => numbersOf_any A zs c w h hl
  have HC2 : Hid (∀ w, Rd (Value.int .i64) w w.heap.size B ys → Calls Try.prog 40 #[.slice B ys.length d] w (NumsOut (numL ys) w)) := Lib.hid fun w h => numbersOf_any B ys d w h hk
  clear hA hB hl hk
  generalize numL zs = M at *
  generalize numL ys = N at *
  obtain ⟨d1, d2, d3, q1, q2, q3, hcs⟩ := cmpN_cases M N hM hN
  have HJ := Lib.hid (fun w => join_any M N hM hN w)
  have hJ := joinN_len M N
  have HCS := Lib.hid hcs
  clear hcs
  generalize cmpN M N = r at *
  generalize joinN M N = J at *
  go_enter Try.func19, Try.ntmps19
  go_wp2_with fail
  refine (HC1.out _ HA.out).mono ?_
  rintro e w1 ⟨rfl, hb1⟩
  have HB1 := Lib.hid ((HB.out.below hb1).more hb1.size)
  go_wp2_with fail
  refine (HC2.out _ HB1.out).mono ?_
  rintro e w2 ⟨rfl, hb2⟩
  have hb := Below.next hb1 hb2
  clear hb1 hb2 HB HB1 HA HC1 HC2
  have a1 := Arr.new w2 zeroN 59
  have a2 := Arr.new (w2.alloc (.cells (cellsA zeroN) 59)) zeroN 59
  have a1' := a1.below ((Below.refl _ _).alloc (Nat.le_refl _) (.cells (cellsA zeroN) 59)) (by simp)
  simp only [World.size_alloc] at a2
  have b1 := a1'.setCells (M := M) (by rw [hM]; rfl)
  have b2 := a2.setCellsOther (c := w2.heap.size) (by omega) (M.map (Value.int .i64))
  have c1 := b1.setCellsOther (c := w2.heap.size + 1) (by omega) (N.map (Value.int .i64))
  have c2 := b2.setCells (M := N) (by rw [hN]; rfl)
  have hsz := hb.size
  have hbl := below_setCells (N.map (Value.int .i64)) 0 (below_setCells (M.map (Value.int .i64)) 0 ((hb.alloc hsz (.cells (cellsA zeroN) 59)).alloc (by simp; omega) (.cells (cellsA zeroN) 59)) (b := w2.heap.size) hsz) (b := w2.heap.size + 1) (by omega)
  have hs2 := (size_setCells (w2.heap.size + 1) (N.map (Value.int .i64)) 0 _).trans (size_setCells w2.heap.size (M.map (Value.int .i64)) 0 ((w2.alloc (.cells (cellsA zeroN) 59)).alloc (.cells (cellsA zeroN) 59)))
  simp only [World.size_alloc] at hs2
  go_upto_region 2 with (first | (refine wpList_storeN rfl _ _ rfl w2.heap.size rfl M rfl _ a1' rfl hM ?_) | (refine wpList_storeN rfl _ _ rfl _ rfl N rfl _ b2 rfl hN ?_))
  obtain ⟨wk, hwk⟩ : ∃ wk, ((((w2.alloc (.cells (cellsA zeroN) 59)).alloc (.cells (cellsA zeroN) 59)).setCells w2.heap.size 0 (M.map (Value.int .i64))).setCells (w2.heap.size + 1) 0 (N.map (Value.int .i64))) = wk := ⟨_, rfl⟩
  rw [hwk] at c1 c2 hbl hs2 ⊢
  generalize w2.heap.size = b at *
  clear a1 a2 a1' b1 b2 hwk hb
  go_wp2_with (first | (refine wpList_loadN rfl _ rfl _ rfl M c1 hM ?_) | (refine wpList_loadN rfl _ rfl _ rfl N c2 hN ?_))
  refine (HJ.out _).mono ?_
  rintro e w3 ⟨rfl, hb3⟩
  have hb3' := Below.next hbl hb3
  have hs3 := hb3.size
  have d1' := c1.below hb3 (by omega)
  have d2' := c2.below hb3 (by omega)
  have e1 := Arr.new w3 zeroN 59
  have e2 := e1.setCells (M := J) (by rw [hJ]; rfl)
  have bn : Below w3.heap.size w3 (w3.alloc (.cells (cellsA zeroN) 59)) := (Below.refl _ _).alloc (Nat.le_refl _) _
  have d1'' := (d1'.below bn (by omega)).setCellsOther (c := w3.heap.size) (by omega) (J.map (Value.int .i64))
  have d2'' := (d2'.below bn (by omega)).setCellsOther (c := w3.heap.size) (by omega) (J.map (Value.int .i64))
  have hsz3 := hb3'.size
  have hb4 := below_setCells (J.map (Value.int .i64)) 0 (hb3'.alloc hsz3 (.cells (cellsA zeroN) 59)) (b := w3.heap.size) hsz3
  clear c1 c2 hb3 hb3' d1' d2' bn
  go_upto_region 3 with (refine wpList_storeN rfl _ _ rfl _ rfl J rfl _ e1 rfl hJ ?_)
  obtain ⟨wj, hwj⟩ : ∃ wj, (w3.alloc (.cells (cellsA zeroN) 59)).setCells w3.heap.size 0 (J.map (Value.int .i64)) = wj := ⟨_, rfl⟩
  rw [hwj] at d1'' d2'' e2 hb4 ⊢
  generalize w3.heap.size = b3 at *
  clear e1 hwj hs2 hs3 hsz hsz3
  have HB4 := Lib.hid hb4
  clear hb4
  rcases HCS.out with ⟨rfl, hr⟩ | ⟨rfl, rfl, hr⟩ | ⟨rfl, rfl, rfl, hr⟩ | ⟨rfl, rfl, rfl, hr⟩
  all_goals
    have HR := Lib.hid hr
    clear hr
    go_wp2_with (first | (refine wpList_loadN rfl _ rfl _ rfl M d1'' hM ?_) | (refine wpList_loadN rfl _ rfl _ rfl N d2'' hN ?_) | (refine wpList_loadN rfl _ rfl _ rfl J e2 hJ ?_))
    go_ret
    exact ⟨ret_int HR.out.symm, HB4.out⟩

theorem up_any (A B : Option Addr) (zs ys : List Int) (c d : Nat) (w : World) (hA : Rd (Value.int .i64) w w.heap.size A zs) (hB : Rd (Value.int .i64) w w.heap.size B ys) (hl : zs.length ≤ 9223372036854775807) (hk : ys.length ≤ 9223372036854775807) :
    Calls Try.prog 21 #[.slice A zs.length c, .slice B ys.length d] w fun e w' => e = .returned (.bool (leN (numL zs) (numL ys))) ∧ Below w.heap.size w w' := by
  have HU := Lib.hid (cmpN_up (M := numL zs) (numL_len ys))
  have HC := Lib.hid (Compare_any A B zs ys c d w hA hB hl hk)
  clear hA hB hl hk
  generalize numL zs = M at *
  generalize numL ys = N at *
  generalize cmpN M N = r at *
  go_enter Try.func21, Try.ntmps21
  go_wp2_with fail
  refine HC.out.mono ?_
  rintro e w1 ⟨rfl, hb1⟩
  by_cases h1 : r = -1
  · have HT : Hid (leN M N = true) := HU.out.1 (.inl h1)
    subst h1
    go_wp2
    go_ret
    exact ⟨ret_bool HT.out.symm, hb1⟩
  · by_cases h0 : r = 0
    · have HT : Hid (leN M N = true) := HU.out.1 (.inr h0)
      subst h0
      go_wp2
      go_ret
      exact ⟨ret_bool HT.out.symm, hb1⟩
    · have HT : Hid (leN M N = false) := by
        rw [Hid]
        cases h : leN M N
        · rfl
        · rcases HU.out.2 h with h | h
          · exact absurd h h1
          · exact absurd h h0
      go_wp2
      go_ret
      exact ⟨ret_bool (by rw [HT.out]; simp [h1, h0]), hb1⟩

end Go.Proofs.Ytabcnmpnjnegdaa
