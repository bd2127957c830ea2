/- The contracts of the document's own answers for pack, first part: numbers of either sign, refs, rings, entries. -/
import Derived.Test.YtegnnhlbmfbioaaPackRead
namespace Go.Proofs.Ytegnnhlbmfbioaa
open Go.RowKit

set_option maxHeartbeats 400000 in
theorem refZig_any (n : Int) (w : World) (h0 : -9223372036854775808 ≤ n) (h1 : n ≤ 9223372036854775807) :
    Calls Try.prog 15 #[.int .i64 n] w fun e w' => e = .returned (.int .u64 (zigS n)) ∧ w = w' := by
  by_cases h : 0 ≤ n
  · have HZ := Lib.hid (show zigS n = 2 * n from by unfold zigS; rw [if_pos h])
    go_enter Try.func15, Try.ntmps15
    go_wp2
    go_ret
    exact ⟨ret_int (by rw [HZ.out]), rfl⟩
  · have HZ := Lib.hid (show zigS n = -2 * n - 1 from by unfold zigS; rw [if_neg h])
    have hn : n < 0 := by omega
    clear h
    go_enter Try.func15, Try.ntmps15
    go_wp2
    go_ret
    exact ⟨ret_int (by rw [HZ.out]; omega), rfl⟩

set_option maxHeartbeats 400000 in
theorem refZag_any (n : Int) (w : World) (h0 : 0 ≤ n) (h1 : n ≤ 18446744073709551615) :
    Calls Try.prog 17 #[.int .u64 n] w fun e w' => e = .returned (.int .i64 (zagS n)) ∧ w = w' := by
  by_cases h : n % 2 = 0
  · have HZ := Lib.hid (show zagS n = n / 2 from by unfold zagS; rw [if_pos h])
    have hb : (n % 2 == 0) = true := by simp [h]
    clear h
    go_enter Try.func17, Try.ntmps17
    go_wp2
    go_ret
    exact ⟨ret_int (by rw [HZ.out]), rfl⟩
  · have HZ := Lib.hid (show zagS n = - (n / 2) - 1 from by unfold zagS; rw [if_neg h])
    have hb : (n % 2 == 0) = false := by simpa using h
    clear h
    go_enter Try.func17, Try.ntmps17
    go_wp2
    go_ret
    exact ⟨ret_int (by rw [HZ.out]), rfl⟩

set_option maxHeartbeats 1000000 in
theorem refPutRef_any (s g : Int) (w : World) :
    Calls Try.prog 19 #[.agg #[.int .i64 s, .int .i64 g]] w (PairOut (refS s g) w) := by
  by_cases a1 : s < 0
  · have HJ := Lib.hid (show refS s g = (0, 6) from by unfold refS; rw [if_pos (by omega)])
    go_enter Try.func19, Try.ntmps19
    go_wp2
    go_ret2
    exact ⟨by rw [HJ.out]; rfl, by go_grown⟩
  · have b1 : 0 ≤ s := by omega
    clear a1
    by_cases a2 : 4096 < s
    · have HJ := Lib.hid (show refS s g = (0, 6) from by unfold refS; rw [if_pos (by omega)])
      go_enter Try.func19, Try.ntmps19
      go_wp2
      go_ret2
      exact ⟨by rw [HJ.out]; rfl, by go_grown⟩
    · have b2 : s ≤ 4096 := by omega
      clear a2
      by_cases a3 : g < 0
      · have HJ := Lib.hid (show refS s g = (0, 6) from by unfold refS; rw [if_pos (by omega)])
        go_enter Try.func19, Try.ntmps19
        go_wp2
        go_ret2
        exact ⟨by rw [HJ.out]; rfl, by go_grown⟩
      · have b3 : 0 ≤ g := by omega
        clear a3
        by_cases a4 : 1099511627776 ≤ g
        · have HJ := Lib.hid (show refS s g = (0, 6) from by unfold refS; rw [if_pos (by omega)])
          go_enter Try.func19, Try.ntmps19
          go_wp2
          go_ret2
          exact ⟨by rw [HJ.out]; rfl, by go_grown⟩
        · have HJ := Lib.hid (show refS s g = (s + g * 8192, 0) from by unfold refS; rw [if_neg (by omega)])
          have b4 : g < 1099511627776 := by omega
          clear a4
          go_enter Try.func19, Try.ntmps19
          go_wp2
          go_ret2
          exact ⟨by rw [HJ.out]; rfl, by go_grown⟩

set_option maxHeartbeats 1000000 in
theorem refPutRing_any (n p : Int) (w : World) :
    Calls Try.prog 21 #[.int .i64 n, .int .i64 p] w (PairOut (ringS n p) w) := by
  by_cases a1 : n < -1
  · have HJ := Lib.hid (show ringS n p = (0, 6) from by unfold ringS; rw [if_pos (by omega)])
    go_enter Try.func21, Try.ntmps21
    go_wp2
    go_ret2
    exact ⟨by rw [HJ.out]; rfl, by go_grown⟩
  · have b1 : -1 ≤ n := by omega
    clear a1
    by_cases a2 : 4096 < n
    · have HJ := Lib.hid (show ringS n p = (0, 6) from by unfold ringS; rw [if_pos (by omega)])
      go_enter Try.func21, Try.ntmps21
      go_wp2
      go_ret2
      exact ⟨by rw [HJ.out]; rfl, by go_grown⟩
    · have b2 : n ≤ 4096 := by omega
      clear a2
      by_cases a3 : p < -1
      · have HJ := Lib.hid (show ringS n p = (0, 6) from by unfold ringS; rw [if_pos (by omega)])
        go_enter Try.func21, Try.ntmps21
        go_wp2
        go_ret2
        exact ⟨by rw [HJ.out]; rfl, by go_grown⟩
      · have b3 : -1 ≤ p := by omega
        clear a3
        by_cases a4 : 4096 < p
        · have HJ := Lib.hid (show ringS n p = (0, 6) from by unfold ringS; rw [if_pos (by omega)])
          go_enter Try.func21, Try.ntmps21
          go_wp2
          go_ret2
          exact ⟨by rw [HJ.out]; rfl, by go_grown⟩
        · have HJ := Lib.hid (show ringS n p = (n + 1 + (p + 1) * 8192, 0) from by unfold ringS; rw [if_neg (by omega)])
          have b4 : p ≤ 4096 := by omega
          clear a4
          go_enter Try.func21, Try.ntmps21
          go_wp2
          go_ret2
          exact ⟨by rw [HJ.out]; rfl, by go_grown⟩

set_option maxHeartbeats 1000000 in
theorem refPutEntry_any (s l : Int) (w : World) :
    Calls Try.prog 23 #[.int .i64 s, .int .i64 l] w (PairOut (entS s l) w) := by
  by_cases a1 : s < 0
  · have HJ := Lib.hid (show entS s l = (0, 6) from by unfold entS; rw [if_pos (by omega)])
    go_enter Try.func23, Try.ntmps23
    go_wp2
    go_ret2
    exact ⟨by rw [HJ.out]; rfl, by go_grown⟩
  · have b1 : 0 ≤ s := by omega
    clear a1
    by_cases a2 : 4096 < s
    · have HJ := Lib.hid (show entS s l = (0, 6) from by unfold entS; rw [if_pos (by omega)])
      go_enter Try.func23, Try.ntmps23
      go_wp2
      go_ret2
      exact ⟨by rw [HJ.out]; rfl, by go_grown⟩
    · have b2 : s ≤ 4096 := by omega
      clear a2
      by_cases a3 : l < 0
      · have HJ := Lib.hid (show entS s l = (0, 6) from by unfold entS; rw [if_pos (by omega)])
        go_enter Try.func23, Try.ntmps23
        go_wp2
        go_ret2
        exact ⟨by rw [HJ.out]; rfl, by go_grown⟩
      · have b3 : 0 ≤ l := by omega
        clear a3
        by_cases a4 : 7 < l
        · have HJ := Lib.hid (show entS s l = (0, 6) from by unfold entS; rw [if_pos (by omega)])
          go_enter Try.func23, Try.ntmps23
          go_wp2
          go_ret2
          exact ⟨by rw [HJ.out]; rfl, by go_grown⟩
        · have HJ := Lib.hid (show entS s l = (s + l * 8192, 0) from by unfold entS; rw [if_neg (by omega)])
          have b4 : l ≤ 7 := by omega
          clear a4
          go_enter Try.func23, Try.ntmps23
          go_wp2
          go_ret2
          exact ⟨by rw [HJ.out]; rfl, by go_grown⟩

end Go.Proofs.Ytegnnhlbmfbioaa
