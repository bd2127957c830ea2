/- The law PackTells: its walk: whatever the word, the parts, the widths and the number, the answer is 'true' and old memory stays. -/
import Derived.Test.YtegnnhlbmfbioaaPackLives
import Derived.Test.YtegnnhlbmfbioaaRefNames
import Derived.Test.YtegnnhlbmfbioaaRefFields
namespace Go.Proofs.Ytegnnhlbmfbioaa
open Go.RowKit

theorem fldL_len (x : Int) (zs : List Int) (h : zs.length ≤ 9223372036854775807) : (fldL x zs).length ≤ 9223372036854775807 := by
  unfold fldL
  split
  · rw [fieldsL_length]; exact h
  · simp

set_option maxRecDepth 100000 in
set_option maxHeartbeats 2000000 in
theorem PackTells_walk (x : Int) (L : Option Addr) (ls : List Int) (d : Nat) (A : Option Addr) (zs : List Int) (c : Nat) (n : Int) (w : World) (h0 : 0 ≤ x) (h1 : x ≤ 18446744073709551615)
    (hL : Rd (Value.int .u64) w w.heap.size L ls) (hA : Rd (Value.int .i64) w w.heap.size A zs) (hll : ls.length ≤ 9223372036854775807) (hl : zs.length ≤ 9223372036854775807)
    (hls : Hid (∀ x ∈ ls, 0 ≤ x ∧ x ≤ 18446744073709551615)) (hn0 : -9223372036854775808 ≤ n) (hn1 : n ≤ 9223372036854775807) :
    Calls Try.prog 3 #[.int .u64 x, .slice L ls.length d, .slice A zs.length c, .int .i64 n] w fun e w' =>
      e = .returned (.bool true) ∧ Below w.heap.size w w' := by
  by_cases hb1 : 100 < ls.length
  · have hb : (100 : Int) < (ls.length : Int) := by omega
    clear hb1
    go_enter Try.func3, Try.ntmps3
    go_wp2_with fail
    refine (lives_any _).mono ?_
    rintro e w1 ⟨rfl, hb⟩
    go_wp2
    go_ret
    exact ⟨rfl, hb⟩
  · have hs1 : (ls.length : Int) ≤ 100 := by omega
    clear hb1
    by_cases hb2 : 100 < zs.length
    · have hb : (100 : Int) < (zs.length : Int) := by omega
      clear hb2
      go_enter Try.func3, Try.ntmps3
      go_wp2_with fail
      refine (lives_any _).mono ?_
      rintro e w1 ⟨rfl, hb⟩
      go_wp2
      go_ret
      exact ⟨rfl, hb⟩
    · have hs2 : (zs.length : Int) ≤ 100 := by omega
      clear hb2
      have hfl := fldL_len x zs hl
      go_enter Try.func3, Try.ntmps3
      go_wp2_with fail
      refine (Fields_any x A zs c _ h0 h1 hA hl).mono ?_
      rintro e w1 ⟨A1, c1, rfl, hr1, hB1⟩
      have hA1 := (hA.below hB1).more hB1.size
      have hL1 := (hL.below hB1).more hB1.size
      clear hA hL
      go_wp2_with fail
      refine (refFields_any x A zs c _ h0 h1 hA1 hl).mono ?_
      rintro e w2 ⟨A2, c2, rfl, hr2, hb⟩
      have hB2 := Below.next hB1 hb
      have hA2 := (hA1.below hb).more hb.size
      have hL2 := (hL1.below hb).more hb.size
      have hR2 := (hr1.below hb).more hb.size
      clear hA1 hL1 hr1 hB1 hb
      go_wp2_with fail
      refine (Join_any L ls d A zs c _ hL2 hA2 hll hl hls).mono ?_
      rintro e w3 ⟨rfl, hd⟩
      have hb := hd.below w2.heap.size
      have hB3 := Below.next hB2 hb
      have hA3 := (hA2.below hb).more hb.size
      have hL3 := (hL2.below hb).more hb.size
      have hR3 := (hR2.below hb).more hb.size
      have hQ3 := (hr2.below hb).more hb.size
      clear hA2 hL2 hr2 hR2 hB2 hb hd
      go_wp2_with fail
      refine (refJoin_any L ls d A zs c _ hL3 hA3 hll hl hls).mono ?_
      rintro e w4 ⟨rfl, hd⟩
      have hb := hd.below w3.heap.size
      have hB4 := Below.next hB3 hb
      have hR4 := (hR3.below hb).more hb.size
      have hQ4 := (hQ3.below hb).more hb.size
      clear hA3 hL3 hQ3 hR3 hB3 hb hd
      generalize joinL ls zs = J
      go_wp2_with fail
      refine (lives_any _).mono ?_
      rintro e w5 ⟨rfl, hb⟩
      have hB5 := Below.next hB4 hb
      have hR5 := (hR4.below hb).more hb.size
      have hQ5 := (hQ4.below hb).more hb.size
      clear hQ4 hR4 hB4 hb
      go_wp2_with fail
      refine (Same_refl A1 A2 (fldL x zs) _ _ _ hR5 hQ5 hfl).mono ?_
      rintro e w6 ⟨rfl, hd⟩
      have hB6 := Below.next hB5 (hd.below _)
      clear hQ5 hR5 hB5 hd
      go_wp2_with fail
      refine (Zig_any n _ hn0 hn1).mono ?_
      rintro e w' ⟨rfl, rfl⟩
      go_wp2_with fail
      refine (refZig_any n _ hn0 hn1).mono ?_
      rintro e w' ⟨rfl, rfl⟩
      go_wp2_with fail
      refine (Zag_any x _ h0 h1).mono ?_
      rintro e w' ⟨rfl, rfl⟩
      go_wp2_with fail
      refine (refZag_any x _ h0 h1).mono ?_
      rintro e w' ⟨rfl, rfl⟩
      go_wp2
      go_ret
      exact ⟨rfl, hB6⟩

end Go.Proofs.Ytegnnhlbmfbioaa
