/- The contracts of the document's own reader: a state goes in, and comes back, by value. -/
import Derived.Test.YtbedlaggmlckdaaLitText
namespace Go.Proofs.Ytbedlaggmlckdaa
open Go.RowKit

theorem step_ok {s : ByteArray} {n k : Nat} (h : (n, k, 0) = numL s.data.toList) : numStep s 0 = (n, s.extract k s.size, 0) := by
  rw [numStep, if_pos rfl, ← h, if_pos rfl]
  rfl
theorem step_err {s : ByteArray} {n k z : Nat} (h : (n, k, z) = numL s.data.toList) (hz : z ≠ 0) : numStep s 0 = (0, s, z) := by
  rw [numStep, if_pos rfl, ← h, if_neg hz]

def NextOut (r : Nat × ByteArray × Nat) (w : World) (e : Ending) (w' : World) : Prop :=
  e = .returned (.tuple #[.agg #[.string r.2.1, .int .i64 r.2.2], .int .u64 r.1]) ∧ Below w.heap.size w w'
theorem next_mk {r : Nat × ByteArray × Nat} {n y : Nat} {t : ByteArray} {nv yv : Int} {w w' : World} (h : r = (n, t, y)) (hn : nv = n) (hy : yv = y) (hb : Below w.heap.size w w') :
    NextOut r w (.returned (.tuple #[.agg #[.string t, .int .i64 yv], .int .u64 nv])) w' := by
  refine ⟨?_, hb⟩
  rw [h, hn, hy]

set_option maxRecDepth 100000 in
set_option maxHeartbeats 2000000 in
theorem Next_any (s : ByteArray) (y : Nat) (w : World) (hs : s.size ≤ maxLen) :
    Calls Try.prog 26 #[.agg #[.string s, .int .i64 y]] w (NextOut (numStep s y) w) := by
  unfold maxLen at hs
  by_cases hy : y = 0
  · subst hy
    go_enter Try.func26, Try.ntmps26
    go_wp2
    go_loop [4, 5] (fun v i => ∃ k acc : Nat, k ≤ s.size ∧ k ≤ 10 ∧ i = .int .i64 k ∧ v = .int .u64 acc ∧ Hid (acc < 2 ^ (7 * k)) ∧ Hid (numGo (s.data.toList.drop k) k acc = numL s.data.toList))
      (fun _ i => s.size - (intOf i).toNat)
    case atStart => exact ⟨0, 0, by omega, by omega, rfl, rfl, by simp [Hid], rfl⟩
    case round =>
      obtain ⟨k, acc, hk, hk10, rfl, rfl, HA, HN⟩ := hrel
      by_cases hlt : k < s.size
      · have hst := numGo_step s k acc hlt
        have hb := byte_lt s k hlt
        obtain ⟨c, hc⟩ : ∃ c, s[k].toNat = c := ⟨_, rfl⟩
        rw [hc] at hst hb
        have hlt' : (k : Int) < (s.size : Int) := by omega
        by_cases h9 : 9 < k ∨ (k = 9 ∧ 1 < c % 128)
        · rw [if_pos h9, HN.out] at hst
          have HS := Lib.hid (step_err hst.symm (by decide))
          clear hst
          rcases h9 with h9 | ⟨h9, h91⟩
          · have e9 : decide (9 < (k : Int)) = true := decide_eq_true (by omega)
            have e8 : ((k : Int) == 9) = false := by simp; omega
            go_wp2
            exact bodyPost_ret (v := .tuple #[.agg #[.string s, .int .i64 7], .int .u64 0]) (by simp [results, Try.results26, go_sem]) rfl (next_mk HS.out rfl rfl (by go_grown))
          · have e9 : decide (9 < (k : Int)) = false := decide_eq_false (by omega)
            have e8 : ((k : Int) == 9) = true := by simp [h9]
            have e7 : decide (1 < (c : Int) % 128) = true := decide_eq_true (by omega)
            clear h9
            go_wp2
            exact bodyPost_ret (v := .tuple #[.agg #[.string s, .int .i64 7], .int .u64 0]) (by simp [results, Try.results26, go_sem]) rfl (next_mk HS.out rfl rfl (by go_grown))
        · rw [if_neg h9] at hst
          have hp := part_add acc c k HA.out (by omega) (by omega)
          have hsm := part_sum acc c k HA.out (by omega) (by omega)
          have hsh : (7 * k) < 64 := by omega
          have e9 : decide (9 < (k : Int)) = false := decide_eq_false (by omega)
          have h8 : ((k : Int) == 9) = false ∨ (((k : Int) == 9) = true ∧ decide (1 < (c : Int) % 128) = false) := by
            by_cases h : k = 9
            · exact .inr ⟨by simp [h], decide_eq_false (by omega)⟩
            · exact .inl (by simp; omega)
          have HP := Lib.hid hp
          have HM := Lib.hid hsm
          have HST := Lib.hid hst
          clear hp hst h9 hsm
          by_cases hc1 : 128 ≤ c
          · have hci : (128 : Int) ≤ (c : Int) := by omega
            have HS : Hid (numGo (s.data.toList.drop (k + 1)) (k + 1) (acc + c % 128 * 2 ^ (7 * k)) = numL s.data.toList) := by
              have e := HST.out
              rw [if_pos hc1, HN.out] at e
              exact e.symm
            rcases h8 with h8 | ⟨h8, h81⟩
            all_goals
              go_wp2
              go_round
              case rel => exact ⟨k + 1, _, by omega, by omega, by go_num, by rw [HM.out], HP.out.2.1, HS⟩
              case measure => simp [intOf]; omega
          · have hci : (c : Int) < 128 := by omega
            have hcm : (c : Int) % 128 = (c : Int) := by omega
            have HCM := Lib.hid hcm
            by_cases hc0 : c = 0 ∧ 0 < k
            · have HS : Hid (numStep s 0 = (0, s, 7)) := by
                have e := HST.out
                rw [if_neg hc1, if_pos hc0, HN.out] at e
                exact step_err e.symm (by decide)
              have e0 : ((c : Int) % 128 == 0) = true := by rw [hcm]; simp [hc0.1]
              have e1 : decide (0 < k) = true := decide_eq_true hc0.2
              clear hc0 hcm
              rcases h8 with h8 | ⟨h8, h81⟩
              all_goals
                go_wp2
                exact bodyPost_ret (v := .tuple #[.agg #[.string s, .int .i64 7], .int .u64 0]) (by simp [results, Try.results26, go_sem]) rfl (next_mk HS.out rfl rfl (by go_grown))
            · have HS : Hid (numStep s 0 = (acc + c % 128 * 2 ^ (7 * k), s.extract (k + 1) s.size, 0)) := by
                have e := HST.out
                rw [if_neg hc1, if_neg hc0, HN.out] at e
                exact step_ok e.symm
              have h0 : ((c : Int) % 128 == 0) = false ∨ (((c : Int) % 128 == 0) = true ∧ decide (0 < k) = false) := by
                rw [hcm]
                by_cases h : c = 0
                · exact .inr ⟨by simp [h], decide_eq_false (by omega)⟩
                · exact .inl (by simp; omega)
              clear hc0 hcm
              have hk1 : (0 : Int) ≤ (k : Int) + 1 := by omega
              have hk2 : (k : Int) + 1 ≤ (s.size : Int) := by omega
              rcases h8 with h8 | ⟨h8, h81⟩
              all_goals
                rcases h0 with h0 | ⟨h0, h01⟩
                all_goals
                  go_wp2
                  exact bodyPost_ret (v := .tuple #[.agg #[.string (s.extract (k + 1) s.size), .int .i64 0], .int .u64 (IntKind.u64.wrap ((acc : Int) + IntKind.u64.wrap ((c : Int) % 128 * 2 ^ (7 * k))))]) (by simp [results, Try.results26, go_sem]) rfl (next_mk HS.out HM.out rfl (by go_grown))
      · have HS := Lib.hid (numGo_none s k acc (by omega))
        have HS2 : Hid (numStep s 0 = (0, s, 8)) := by
          have e := HS.out
          rw [HN.out] at e
          exact step_err e.symm (by decide)
        go_wp2
        exact bodyPost_ret (v := .tuple #[.agg #[.string s, .int .i64 8], .int .u64 0]) (by simp [results, Try.results26, go_sem]) rfl (next_mk HS2.out rfl rfl (by go_grown))
  · have HS : Hid (numStep s y = (0, s, y)) := by rw [Hid, numStep, if_neg hy]
    have hyb : ((y : Int) != 0) = true := by simp [hy]
    clear hy
    go_enter Try.func26, Try.ntmps26
    go_wp2
    exact bodyPost_ret (v := .tuple #[.agg #[.string s, .int .i64 y], .int .u64 0]) (by simp [results, Try.results26, go_sem]) rfl (next_mk HS.out rfl rfl (by go_grown))

end Go.Proofs.Ytbedlaggmlckdaa
