/- The contracts of what writes: a number's bytes, a text's, and a sum. -/
import Derived.Test.YtbedlaggmlckdaaLitReader
import Derived.Test.YtbedlaggmlckdaaOwn
import Derived.Laws.BytesArg
import Derived.Laws.Bits128
namespace Go.Proofs.Ytbedlaggmlckdaa
open Go.RowKit

def byteV (c : UInt8) : Value := .int .u8 c.toNat
theorem info_u8 : (Try.prog.info? 5).map (fun i => (i.zero, i.size, i.bytes)) = some (some (.int .u8 0), 1, 1) := by kernel_rfl

theorem bytesF_length (f n : Nat) : (bytesF f n).length ≤ f + 1 := by
  induction f generalizing n with
  | zero => simp [bytesF]
  | succ f ih =>
    unfold bytesF
    split
    · have := ih (n / 128)
      simp only [List.length_cons]
      omega
    · simp

theorem byte_more (m : Nat) : Value.int .u8 (bits .or .u8 ((m : Int) % 128) 128) = byteV (UInt8.ofNat (m % 128 + 128)) := by
  rw [u8_or128_right _ (by omega) (by omega), byteV]
  have : (UInt8.ofNat (m % 128 + 128)).toNat = m % 128 + 128 := by rw [UInt8.toNat_ofNat']; omega
  rw [this]
  rfl
theorem byte_last (m : Nat) (h : m < 128) : Value.int .u8 (m : Int) = byteV (UInt8.ofNat m) := by
  have : (UInt8.ofNat m).toNat = m := by rw [UInt8.toNat_ofNat']; omega
  rw [byteV, this]
theorem strOf_bytes (l : List UInt8) : strOfNums (l.map fun c => (c.toNat : Int)) = bs l := by
  have h : ((fun n : Int => UInt8.ofNat n.toNat) ∘ fun c : UInt8 => (c.toNat : Int)) = id := by
    funext c
    simp
  unfold strOfNums bs
  rw [List.map_map, h, List.map_id]

/-- Bytes that the call owns make the string that they are. -/
theorem conv_own {w : World} {base g k c : Nat} {l : List UInt8} (h : w.ownsRow base 5 1 (.slice (some ⟨g, 0, none⟩) k c) k (l.map byteV)) :
    (convert 34 9 (.slice (some ⟨g, 0, none⟩) k c)).run Try.prog w = .ok (.string (bs l)) w := by
  have hl : l.length = k := by simpa using h.1
  have := run_convert_bytes_arg (P := Try.prog) w 34 5 Try.underlying34 Try.underlying5 g 0 k c (l.map fun c => (c.toNat : Int)) (by simpa using hl)
    (fun i hi => by
      rw [Nat.zero_add, h.cellAt i (by omega), List.getElem?_map, List.getD_eq_getElem?_getD, List.getElem?_map, List.getElem?_eq_getElem (by omega)]
      rfl) 9 Try.underlying9
  rw [strOf_bytes] at this
  exact this

/-- A string comes back; old memory stays. -/
def StrOut (t : ByteArray) (w : World) (e : Ending) (w' : World) : Prop := e = .returned (.string t) ∧ Below w.heap.size w w'

set_option maxRecDepth 100000 in
set_option maxHeartbeats 1000000 in
theorem litNum_any (n : Nat) (w : World) (hn : n < 18446744073709551616) : Calls Try.prog 32 #[.int .u64 n] w (StrOut (bs (bytesN n)) w) := by
  obtain ⟨i0, hi0, hz0, hz1, hz2⟩ := info_parts info_u8
  go_enter Try.func32, Try.ntmps32
  go_wp2
  go_loopw [0, 3] (fun x v wr => ∃ (k m : Nat) (L : List UInt8), k ≤ 9 ∧ x = .int .u64 m ∧ m < 18446744073709551616 ∧ Hid (m * 2 ^ (7 * k) < 18446744073709551616) ∧
      wr.ownsRow w.heap.size 5 1 v k (L.map byteV) ∧ Hid (bytesN n = L ++ bytesF (9 - k) m) ∧ Below w.heap.size w wr)
    (fun x _ _ => (intOf x).toNat)
  case atStart => exact ⟨0, n, [], by omega, rfl, hn, by simp [Hid, hn], World.ownsRow_nil _ _ _ _, rfl, Below.refl _ _⟩
  case round =>
    obtain ⟨k, m, L, hk, rfl, hm, HM, hown, HB, hbel⟩ := hrel
    have hb1 := hbel.size
    by_cases h128 : 128 ≤ m
    · have hmi : (128 : Int) ≤ (m : Int) := by omega
      have hk9 : k < 9 := by
        rcases Nat.lt_or_ge k 9 with h | h
        · exact h
        · obtain rfl : k = 9 := by omega
          have := HM.out
          rw [show 2 ^ (7 * 9) = 9223372036854775808 from by decide] at this
          omega
      have HM2 : Hid (m / 128 * 2 ^ (7 * (k + 1)) < 18446744073709551616) := by
        have h1 := HM.out
        rw [Hid, show 7 * (k + 1) = 7 + 7 * k from by omega, Nat.pow_add, ← Nat.mul_assoc]
        refine Nat.lt_of_le_of_lt (Nat.mul_le_mul_right _ ?_) h1
        exact Nat.div_mul_le_self m 128
      have HB2 : Hid (bytesN n = (L ++ [UInt8.ofNat (m % 128 + 128)]) ++ bytesF (9 - (k + 1)) (m / 128)) := by
        rw [Hid, HB.out, show 9 - k = (9 - (k + 1)) + 1 from by omega, bytesF, if_pos h128, List.append_assoc]
        rfl
      go_wp2_with (at_builtin; refine wpList_append_own _ rfl _ _ 34 rfl w.heap.size 5 i0 (.int .u8 0) 1 1 Try.underlying34 hi0 hz0 hz1 hz2 rfl (by decide) _ _ _ rfl (hown.alloc _) ⟨wr.heap.size, 0, none⟩ 1 1 [.int .u8 (bits .or .u8 ((m : Int) % 128) 128)] rfl rfl ?c1 ?c2 ?c3 ?c4 ?c5 ?_)
      case c1 =>
        intro j u hj
        match j, hj with
        | 0, hj => simp at hj; subst hj; simp [Addr.add]
      case c2 => intro u hu; simp at hu; subst hu; rfl
      case c3 => unfold maxLen; omega
      case c4 => omega
      case c5 => simp; omega
      intro v' w2 hown2 hgrow _
      have hB := ownBase (hown.alloc (.cells #[.int .u8 (bits .or .u8 ((m : Int) % 128) 128)] 5)) (hbel.alloc hb1 _) (Nat.le_refl _) (by simp; omega) hgrow
      clear hgrow hown
      go_wp2
      go_roundw
      case rel =>
        refine ⟨k + 1, m / 128, _, by omega, by go_num, by omega, HM2, ?_, HB2, hB⟩
        rw [List.map_append, List.map_cons, ← byte_more]
        exact hown2
      case measure => simp [intOf]; omega
    · have hmi : (m : Int) < 128 := by omega
      have HB2 : Hid (bytesN n = L ++ [UInt8.ofNat m]) := by
        rw [Hid, HB.out]
        cases h : 9 - k with
        | zero => rw [bytesF]
        | succ f => rw [bytesF, if_neg h128]
      go_wp2_with (at_builtin; refine wpList_append_own _ rfl _ _ 34 rfl w.heap.size 5 i0 (.int .u8 0) 1 1 Try.underlying34 hi0 hz0 hz1 hz2 rfl (by decide) _ _ _ rfl (hown.alloc _) ⟨wr.heap.size, 0, none⟩ 1 1 [.int .u8 (m : Int)] rfl rfl ?c1 ?c2 ?c3 ?c4 ?c5 ?_)
      case c1 =>
        intro j u hj
        match j, hj with
        | 0, hj => simp at hj; subst hj; simp [Addr.add]
      case c2 => intro u hu; simp at hu; subst hu; rfl
      case c3 => unfold maxLen; omega
      case c4 => omega
      case c5 => simp; omega
      intro v' w2 hown2 hgrow _
      have hB := ownBase (hown.alloc (.cells #[.int .u8 (m : Int)] 5)) (hbel.alloc hb1 _) (Nat.le_refl _) (by simp; omega) hgrow
      clear hgrow hown
      rw [byte_last m (by omega), show [byteV (UInt8.ofNat m)] = [UInt8.ofNat m].map byteV from rfl, ← List.map_append] at hown2
      obtain ⟨A, c, rfl, _, _⟩ := ownSlice hown2
      obtain ⟨g, rfl, _, _⟩ := ownPos hown2 (by omega)
      have hcv := conv_own hown2
      go_wp2
      go_ret
      exact ⟨by rw [HB2.out]; rfl, hB⟩

end Go.Proofs.Ytbedlaggmlckdaa
