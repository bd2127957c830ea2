/- The contracts of texts' bytes and sums, of the program and of the document's answer. -/
import Derived.Test.YtbedlaggmlckdaaLitNum
namespace Go.Proofs.Ytbedlaggmlckdaa
open Go.RowKit

/-- A sum of bytes, from acc on. -/
def sumStep (acc : Int) (c : UInt8) : Int := bits .xor .u32 acc ((c.toNat : Int) % 4294967296) * 16777619 % 4294967296
def sumL (l : List UInt8) (acc : Int) : Int := l.foldl sumStep acc
theorem sumL_step (s : ByteArray) (k : Nat) (acc : Int) (h : k < s.size) : sumL (s.data.toList.drop k) acc = sumL (s.data.toList.drop (k + 1)) (bits .xor .u32 acc ((s[k].toNat : Int) % 4294967296) * 16777619 % 4294967296) := by
  have e : s.data.toList.drop k = s[k] :: s.data.toList.drop (k + 1) := by
    rw [List.drop_eq_getElem_cons (by simpa using h)]
    rfl
  rw [e, sumL, List.foldl_cons]
  rfl
theorem sumL_none (s : ByteArray) (k : Nat) (acc : Int) (h : s.size ≤ k) : sumL (s.data.toList.drop k) acc = acc := by
  rw [List.drop_eq_nil_of_le (by simpa using h)]
  rfl

set_option maxRecDepth 100000 in
set_option maxHeartbeats 400000 in
theorem Sum_any (s : ByteArray) (w : World) (hs : s.size ≤ maxLen) : Calls Try.prog 36 #[.string s] w fun e w' => e = .returned (.int .u32 (sumL s.data.toList 2166136261)) ∧ w = w' := by
  unfold maxLen at hs
  go_enter Try.func36, Try.ntmps36
  go_wp2
  go_loop [3, 7] (fun v i => ∃ (k : Nat) (acc : Int), k ≤ s.size ∧ i = .int .i64 k ∧ v = .int .u32 acc ∧ Hid (sumL (s.data.toList.drop k) acc = sumL s.data.toList 2166136261)) (fun _ i => s.size - (intOf i).toNat)
  case atStart => exact ⟨0, _, by omega, rfl, rfl, rfl⟩
  case round =>
    obtain ⟨k, acc, hk, rfl, rfl, HN⟩ := hrel
    by_cases hlt : k < s.size
    · have HS := Lib.hid (sumL_step s k acc hlt)
      have hlt' : (k : Int) < (s.size : Int) := by omega
      go_wp2
      go_round
      case rel => exact ⟨k + 1, _, by omega, by go_num, rfl, by rw [Hid, ← HN.out, HS.out]⟩
      case measure => simp [intOf]; omega
    · have HS := Lib.hid (sumL_none s k acc (by omega))
      go_wp2
      go_ret
      exact ⟨ret_int (by rw [← HN.out, HS.out]), rfl⟩

set_option maxRecDepth 100000 in
set_option maxHeartbeats 400000 in
theorem ref_Sum_any (s : ByteArray) (w : World) (hs : s.size ≤ maxLen) : Calls Try.prog 37 #[.string s] w fun e w' => e = .returned (.int .u32 (sumL s.data.toList 2166136261)) ∧ w = w' := by
  unfold maxLen at hs
  go_enter Try.func37, Try.ntmps37
  go_wp2
  go_loop [3, 4] (fun v i => ∃ (k : Nat) (acc : Int), k ≤ s.size ∧ i = .int .i64 k ∧ v = .int .u32 acc ∧ Hid (sumL (s.data.toList.drop k) acc = sumL s.data.toList 2166136261)) (fun _ i => s.size - (intOf i).toNat)
  case atStart => exact ⟨0, _, by omega, rfl, rfl, rfl⟩
  case round =>
    obtain ⟨k, acc, hk, rfl, rfl, HN⟩ := hrel
    by_cases hlt : k < s.size
    · have HS := Lib.hid (sumL_step s k acc hlt)
      have hlt' : (k : Int) < (s.size : Int) := by omega
      go_wp2
      go_round
      case rel => exact ⟨k + 1, _, by omega, by go_num, rfl, by rw [Hid, ← HN.out, HS.out]⟩
      case measure => simp [intOf]; omega
    · have HS := Lib.hid (sumL_none s k acc (by omega))
      go_wp2
      go_ret
      exact ⟨ret_int (by rw [← HN.out, HS.out]), rfl⟩

theorem bytesN_length (n : Nat) : (bytesN n).length ≤ 10 := bytesF_length 9 n

set_option maxHeartbeats 400000 in
theorem litText_any (s : ByteArray) (w : World) (hs : s.size ≤ 65536) : Calls Try.prog 34 #[.string s] w (StrOut (bs (bytesN s.size ++ s.data.toList)) w) := by
  have HN := Lib.hid (fun w => litNum_any s.size w (by omega))
  have HE : Hid (bs (bytesN s.size ++ s.data.toList) = bs (bytesN s.size) ++ s) := by
    rw [Hid, ← bs_app, ← bs_of]
  have hl : (bs (bytesN s.size)).size ≤ 10 := by rw [bs_size]; exact bytesN_length _
  generalize bs (bytesN s.size) = t at *
  go_enter Try.func34, Try.ntmps34
  go_wp2_with fail
  refine (HN.out _).mono ?_
  rintro e w1 ⟨rfl, hb⟩
  go_wp2
  go_ret
  exact ⟨by rw [HE.out]; rfl, hb⟩

/-- One byte in a new block makes the string of that byte. -/
theorem conv_one (w : World) (c : UInt8) (z : Int) (hz : Value.int .u8 z = byteV c) :
    (convert 34 9 (.slice (some ⟨w.heap.size, 0, none⟩) 1 1)).run Try.prog (w.alloc (.cells #[.int .u8 z] 5)) = .ok (.string (bs [c])) (w.alloc (.cells #[.int .u8 z] 5)) := by
  rw [hz]
  have := run_convert_bytes_arg (P := Try.prog) (w.alloc (.cells #[byteV c] 5)) 34 5 Try.underlying34 Try.underlying5 w.heap.size 0 1 1 ([c].map fun c => (c.toNat : Int)) rfl
    (fun i hi => by
      obtain rfl : i = 0 := by omega
      show (w.alloc (.cells #[byteV c] 5)).cell? ⟨w.heap.size, 0, none⟩ = _
      simp [go_sem, byteV]) 9 Try.underlying9
  rw [strOf_bytes] at this
  exact this
theorem byte_more' (m : Nat) : Value.int .u8 ((m : Int) % 128 + 128) = byteV (UInt8.ofNat (m % 128 + 128)) := by
  rw [← byte_more, u8_or128_right _ (by omega) (by omega)]

set_option maxRecDepth 100000 in
set_option maxHeartbeats 1000000 in
theorem ref_Num_any (n : Nat) (w : World) (hn : n < 18446744073709551616) : Calls Try.prog 33 #[.int .u64 n] w (StrOut (bs (bytesN n)) w) := by
  go_enter Try.func33, Try.ntmps33
  go_wp2
  go_loopw [0, 3] (fun x v wr => ∃ (k m : Nat) (t : ByteArray), k ≤ 9 ∧ x = .int .u64 m ∧ m < 18446744073709551616 ∧ Hid (m * 2 ^ (7 * k) < 18446744073709551616) ∧
      v = .string t ∧ t.size ≤ k ∧ Hid (bytesN n = t.data.toList ++ bytesF (9 - k) m) ∧ Below w.heap.size w wr)
    (fun x _ _ => (intOf x).toNat)
  case atStart => exact ⟨0, n, _, by omega, rfl, hn, by simp [Hid, hn], rfl, by simp [ByteArray.size], rfl, Below.refl _ _⟩
  case round =>
    obtain ⟨k, m, t, hk, rfl, hm, HM, rfl, ht, HB, hbel⟩ := hrel
    have hb1 := hbel.size
    by_cases h128 : 128 ≤ m
    · have hmi : (128 : Int) ≤ (m : Int) := by omega
      have hk9 : k < 9 := by
        rcases Nat.lt_or_ge k 9 with h | h
        · exact h
        · obtain rfl : k = 9 := by omega
          have := HM.out
          rw [show 2 ^ (7 * 9) = 9223372036854775808 from by decide] at this
          omega
      have HM2 : Hid (m / 128 * 2 ^ (7 * (k + 1)) < 18446744073709551616) := by
        have h1 := HM.out
        rw [Hid, show 7 * (k + 1) = 7 + 7 * k from by omega, Nat.pow_add, ← Nat.mul_assoc]
        refine Nat.lt_of_le_of_lt (Nat.mul_le_mul_right _ ?_) h1
        exact Nat.div_mul_le_self m 128
      have HB2 : Hid (bytesN n = (t ++ bs [UInt8.ofNat (m % 128 + 128)]).data.toList ++ bytesF (9 - (k + 1)) (m / 128)) := by
        rw [Hid, HB.out, show 9 - k = (9 - (k + 1)) + 1 from by omega, bytesF, if_pos h128, ByteArray.data_append, Array.toList_append, bs_list, List.append_assoc]
        rfl
      have ht2 : (t ++ bs [UInt8.ofNat (m % 128 + 128)]).size ≤ k + 1 := by rw [ByteArray.size_append, bs_size]; simpa using ht
      have HT2 := Lib.hid ht2
      clear ht2
      have hcv := conv_one wr _ _ (byte_more' m)
      have hs1 : (bs [UInt8.ofNat (m % 128 + 128)]).size = 1 := by rw [bs_size]; rfl
      generalize bs [UInt8.ofNat (m % 128 + 128)] = u at *
      go_wp2
      go_roundw
      case rel => exact ⟨k + 1, m / 128, t ++ u, by omega, by go_num, by omega, HM2, rfl, HT2.out, HB2, hbel.alloc hb1 _⟩
      case measure => simp [intOf]; omega
    · have hmi : (m : Int) < 128 := by omega
      have HB2 : Hid (bs (bytesN n) = t ++ bs [UInt8.ofNat m]) := by
        rw [Hid, HB.out, ← bs_app, ← bs_of]
        cases h : 9 - k with
        | zero => rw [bytesF]
        | succ f => rw [bytesF, if_neg h128]
      have hcv := conv_one wr _ _ (byte_last m (by omega))
      have hs1 : (bs [UInt8.ofNat m]).size = 1 := by rw [bs_size]; rfl
      generalize bs [UInt8.ofNat m] = u at *
      go_wp2
      go_ret
      exact ⟨by rw [HB2.out]; rfl, hbel.alloc hb1 _⟩

set_option maxHeartbeats 400000 in
theorem ref_Text_any (s : ByteArray) (w : World) (hs : s.size ≤ 65536) : Calls Try.prog 35 #[.string s] w (StrOut (bs (bytesN s.size ++ s.data.toList)) w) := by
  have HN := Lib.hid (fun w => ref_Num_any s.size w (by omega))
  have HE : Hid (bs (bytesN s.size ++ s.data.toList) = bs (bytesN s.size) ++ s) := by
    rw [Hid, ← bs_app, ← bs_of]
  have hl : (bs (bytesN s.size)).size ≤ 10 := by rw [bs_size]; exact bytesN_length _
  generalize bs (bytesN s.size) = t at *
  go_enter Try.func35, Try.ntmps35
  go_wp2_with fail
  refine (HN.out _).mono ?_
  rintro e w1 ⟨rfl, hb⟩
  go_wp2
  go_ret
  exact ⟨by rw [HE.out]; rfl, hb⟩

end Go.Proofs.Ytbedlaggmlckdaa
