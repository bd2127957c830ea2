/- The contracts of what cuts a number, or a text, off the beginning of bytes. -/
import Derived.Test.YtbedlaggmlckdaaLitPlain
namespace Go.Proofs.Ytbedlaggmlckdaa
open Go.RowKit

/-- What stands behind a number that was read. -/
def restB (s : ByteArray) (r : Nat × Nat × Nat) : ByteArray := if r.2.2 = 0 then s.extract r.2.1 s.size else ⟨#[]⟩

def CutOut (s : ByteArray) (w : World) (e : Ending) (w' : World) : Prop :=
  e = .returned (.tuple #[.int .u64 (numL s.data.toList).1, .string (restB s (numL s.data.toList)), .int .i64 (numL s.data.toList).2.2]) ∧ Drawn w w'

theorem cut_mk {s : ByteArray} {w w' : World} {n k y : Nat} {nv yv : Int} (h : (n, k, y) = numL s.data.toList) (hd : Drawn w w') (t : ByteArray) (ht : restB s (n, k, y) = t) (hn : nv = (n : Int)) (hy : yv = (y : Int)) :
    CutOut s w (.returned (.tuple #[.int .u64 nv, .string t, .int .i64 yv])) w' := by
  refine ⟨?_, hd⟩
  rw [← h, ht, hn, hy]

set_option maxRecDepth 100000 in
set_option maxHeartbeats 1000000 in
theorem cutNum_any (s : ByteArray) (w : World) (hs : s.size ≤ maxLen) :
    Calls Try.prog 44 #[.string s] w (CutOut s w) := by
  unfold maxLen at hs
  go_enter Try.func44, Try.ntmps44
  go_wp2
  go_loop [5, 10] (fun v i => ∃ k acc : Nat, k ≤ s.size ∧ k ≤ 10 ∧ i = .int .i64 k ∧ v = .int .u64 acc ∧ Hid (acc < 2 ^ (7 * k)) ∧ Hid (numGo (s.data.toList.drop k) k acc = numL s.data.toList))
    (fun _ i => s.size - (intOf i).toNat)
  case atStart => exact ⟨0, 0, by omega, by omega, rfl, rfl, by simp [Hid], rfl⟩
  case round =>
    obtain ⟨k, acc, hk, hk10, rfl, rfl, HA, HN⟩ := hrel
    by_cases hlt : k < s.size
    · have hst := numGo_step s k acc hlt
      have hb := byte_lt s k hlt
      obtain ⟨c, hc⟩ : ∃ c, s[k].toNat = c := ⟨_, rfl⟩
      rw [hc] at hst hb
      have hlt' : (k : Int) < (s.size : Int) := by omega
      by_cases h9 : 9 < k ∨ (k = 9 ∧ 1 < c % 128)
      · rw [if_pos h9, HN.out] at hst
        have HS := Lib.hid hst
        clear hst
        rcases h9 with h9 | ⟨h9, h91⟩
        · have e9 : decide (9 < (k : Int)) = true := decide_eq_true (by omega)
          go_wp2
          go_ret3
          exact cut_mk HS.out.symm Drawn.refl _ rfl rfl rfl
        · have e9 : decide (9 < (k : Int)) = false := decide_eq_false (by omega)
          have e8 : ((k : Int) == 9) = true := by simp [h9]
          have e7 : decide (1 < (c : Int) % 128) = true := decide_eq_true (by omega)
          clear h9
          go_wp2
          go_ret3
          exact cut_mk HS.out.symm Drawn.refl _ rfl rfl rfl
      · rw [if_neg h9] at hst
        have hp := part_add acc c k HA.out (by omega) (by omega)
        have hsh : (7 * k) < 64 := by omega
        have e9 : decide (9 < (k : Int)) = false := decide_eq_false (by omega)
        have h8 : ((k : Int) == 9) = false ∨ (((k : Int) == 9) = true ∧ decide (1 < (c : Int) % 128) = false) := by
          by_cases h : k = 9
          · exact .inr ⟨by simp [h], decide_eq_false (by omega)⟩
          · exact .inl (by simp; omega)
        have HP := Lib.hid hp
        have HST := Lib.hid hst
        clear hp hst h9
        by_cases hc1 : 128 ≤ c
        · have hci : (128 : Int) ≤ (c : Int) := by omega
          have HS : Hid (numGo (s.data.toList.drop (k + 1)) (k + 1) (acc + c % 128 * 2 ^ (7 * k)) = numL s.data.toList) := by
            have e := HST.out
            rw [if_pos hc1, HN.out] at e
            exact e.symm
          rcases h8 with h8 | ⟨h8, h81⟩
          all_goals
            go_wp2
            go_round
            case rel => exact ⟨k + 1, _, by omega, by omega, by go_num, by rw [HP.out.1], HP.out.2.1, HS⟩
            case measure => simp [intOf]; omega
        · have hci : (c : Int) < 128 := by omega
          by_cases hc0 : c = 0 ∧ 0 < k
          · have HS : Hid ((0, 0, 7) = numL s.data.toList) := by
              have e := HST.out
              rw [if_neg hc1, if_pos hc0, HN.out] at e
              exact e.symm
            have e0 : ((c : Int) == 0) = true := by simp [hc0.1]
            have e1 : decide (0 < k) = true := decide_eq_true hc0.2
            clear hc0
            rcases h8 with h8 | ⟨h8, h81⟩
            all_goals
              go_wp2
              go_ret3
              exact cut_mk HS.out Drawn.refl _ rfl rfl rfl
          · have HS : Hid ((acc + c % 128 * 2 ^ (7 * k), k + 1, 0) = numL s.data.toList) := by
              have e := HST.out
              rw [if_neg hc1, if_neg hc0, HN.out] at e
              exact e.symm
            have h0 : ((c : Int) == 0) = false ∨ (((c : Int) == 0) = true ∧ decide (0 < k) = false) := by
              by_cases h : c = 0
              · exact .inr ⟨by simp [h], decide_eq_false (by omega)⟩
              · exact .inl (by simp; omega)
            clear hc0
            have hk1 : (0 : Int) ≤ (k : Int) + 1 := by omega
            have hk2 : (k : Int) + 1 ≤ (s.size : Int) := by omega
            rcases h8 with h8 | ⟨h8, h81⟩
            all_goals
              rcases h0 with h0 | ⟨h0, h01⟩
              all_goals
                go_wp2
                go_quiet (fail)
                go_wp2
                go_ret3
                exact cut_mk HS.out (Drawn.refl.step _) _ rfl HP.out.1 rfl
    · have HS := numGo_none s k acc (by omega)
      rw [HN.out] at HS
      go_wp2
      go_ret3
      exact cut_mk HS.symm Drawn.refl _ rfl rfl rfl

end Go.Proofs.Ytbedlaggmlckdaa
