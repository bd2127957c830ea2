/- The contracts of package bitset, first part: a word at a place, the words that say something, whether a number is in a set. -/
import Derived.Test.YtkfbgadcfinlfaaDoorBitCount
import Derived.Handy
import Derived.RegionTactic
import Derived.BigRegion
namespace Go.Proofs.YtkfbgadcfinlfaaDoor
open Go.RowKit

theorem Rd.none_nil {α : Type} {f : α → Value} {w : World} {B : Nat} {zs : List α} (h : Rd f w B none zs) : zs = [] := by
  cases zs with
  | nil => rfl
  | cons z r =>
    obtain ⟨b, off, e, _⟩ := h 0 z rfl
    cases e

set_option maxHeartbeats 400000 in
theorem wordAt_any (A : Option Addr) (zs : List Int) (c : Nat) (i : Int) (w : World) (hA : Rd (Value.int .u64) w w.heap.size A zs) (hi : 0 ≤ i) :
    Calls Tryd.prog 26 #[.slice A zs.length c, .int .i64 i] w fun e w' => e = .returned (.int .u64 (zs.getD i.toNat 0)) ∧ w = w' := by
  obtain ⟨k, rfl⟩ := Int.eq_ofNat_of_zero_le hi
  by_cases hlt : k < zs.length
  · obtain ⟨b, off, rfl, hb, hc⟩ := hA.at_ hlt
    have HG := Lib.hid (show zs.getD (k : Int).toNat 0 = zs[k] from by rw [Int.toNat_natCast, List.getD_eq_getElem?_getD, List.getElem?_eq_getElem hlt]; rfl)
    generalize zs[k] = z at hc HG
    go_enter Tryd.func26, Tryd.ntmps26
    go_wp2
    go_ret
    exact ⟨ret_int HG.out.symm, rfl⟩
  · have HG := Lib.hid (show zs.getD (k : Int).toNat 0 = 0 from by rw [Int.toNat_natCast, List.getD_eq_getElem?_getD, List.getElem?_eq_none (by omega)]; rfl)
    have hge : (zs.length : Int) ≤ (k : Int) := by omega
    go_enter Tryd.func26, Tryd.ntmps26
    go_wp2
    go_ret
    exact ⟨ret_int HG.out.symm, rfl⟩

set_option maxHeartbeats 400000 in
theorem spoken_any (A : Option Addr) (zs : List Int) (c : Nat) (w : World) (hc : zs.length ≤ c) (hc2 : c ≤ 9223372036854775807) :
    Calls Tryd.prog 24 #[.slice A zs.length c] w fun e w' => e = .returned (.slice A (zs.take 64).length c) ∧ w = w' := by
  by_cases hs : zs.length ≤ 64
  · have HL := Lib.hid (show (zs.take 64).length = zs.length from by rw [List.length_take]; omega)
    go_enter Tryd.func24, Tryd.ntmps24
    go_wp2
    go_ret
    exact ⟨by rw [HL.out]; rfl, rfl⟩
  · have HL := Lib.hid (show (zs.take 64).length = 64 from by rw [List.length_take]; omega)
    have hs' : 64 < zs.length := by omega
    go_enter Tryd.func24, Tryd.ntmps24
    go_wp2
    go_ret
    exact ⟨by rw [HL.out]; rfl, rfl⟩

theorem Rd.take {α : Type} {f : α → Value} {w : World} {B n : Nat} {A : Option Addr} {zs : List α} (h : Rd f w B A zs) : Rd f w B A (zs.take n) := by
  intro k z hz
  rw [List.getElem?_take] at hz
  split at hz
  · exact h k z hz
  · cases hz

set_option maxHeartbeats 400000 in
theorem Has_any (A : Option Addr) (zs : List Int) (c : Nat) (n : Int) (w : World) (hA : Rd (Value.int .u64) w w.heap.size A zs) (hw : Words zs) :
    Calls Tryd.prog 9 #[.slice A zs.length c, .int .i64 n] w fun e w' => e = .returned (.bool (hasB zs n)) ∧ w = w' := by
  by_cases h1 : n < 0
  · have HH := Lib.hid (show hasB zs n = false from by unfold hasB; rw [decide_eq_false (by omega)]; rfl)
    go_enter Tryd.func9, Tryd.ntmps9
    go_wp2
    go_ret
    exact ⟨by rw [HH.out]; rfl, rfl⟩
  · have g1 : 0 ≤ n := by omega
    clear h1
    by_cases h2 : 4096 ≤ n
    · have HH := Lib.hid (show hasB zs n = false from by unfold hasB; rw [decide_eq_false (by omega : ¬ n < 4096), Bool.and_false]; rfl)
      go_enter Tryd.func9, Tryd.ntmps9
      go_wp2
      go_ret
      exact ⟨by rw [HH.out]; rfl, rfl⟩
    · have g2 : n < 4096 := by omega
      clear h2
      have hg := hw.getD (n / 64).toNat
      have HH := Lib.hid (show (bits .and .u64 (zs.getD (n / 64).toNat 0 / 2 ^ (n % 64).toNat) 1 == 1) = hasB zs n from by
        have hd := div_pow_le (zs.getD (n / 64).toNat 0) (n % 64).toNat hg.1
        rw [bits_and_one _ hd.1 (by omega)]
        unfold hasB
        rw [decide_eq_true g1, decide_eq_true g2]
        rfl)
      go_enter Tryd.func9, Tryd.ntmps9
      go_wp2_with fail
      refine (wordAt_any A zs c (n / 64) _ hA (by omega)).mono ?_
      rintro e w1 ⟨rfl, rfl⟩
      generalize zs.getD (n / 64).toNat 0 = x at *
      obtain ⟨x0, x1⟩ := hg
      go_wp2
      go_ret
      exact ⟨ret_bool HH.out, rfl⟩

set_option maxHeartbeats 400000 in
theorem Count_any (A : Option Addr) (zs : List Int) (c : Nat) (w : World) (hA : Rd (Value.int .u64) w w.heap.size A zs) (hw : Words zs) (hc : zs.length ≤ c) (hc2 : c ≤ 9223372036854775807) :
    Calls Tryd.prog 17 #[.slice A zs.length c] w fun e w' => e = .returned (.int .i64 (cntS zs)) ∧ w = w' := by
  have hA' := hA.take (n := 64)
  have hw' : Words (zs.take 64) := fun z hz => hw z (List.mem_of_mem_take hz)
  have HW := Lib.hid hw'
  have hl : (zs.take 64).length ≤ 64 := List.length_take_le _ _
  have HR := Lib.hid (show cntS zs = onesSum (zs.take 64) from rfl)
  go_enter Tryd.func17, Tryd.ntmps17
  go_wp2_with fail
  refine (spoken_any A zs c _ hc hc2).mono ?_
  rintro e w1 ⟨rfl, rfl⟩
  clear hw' hA hw
  generalize zs.take 64 = ys at *
  go_wp2
  go_loop [3, 9] (fun sv i => ∃ k : Nat, k ≤ ys.length ∧ i = .int .i64 k ∧ sv = .int .i64 (onesSum (ys.take k))) (fun _ i => ys.length - (intOf i).toNat)
  case atStart => exact ⟨0, Nat.zero_le _, rfl, rfl⟩
  case round =>
    obtain ⟨k, hk, rfl, rfl⟩ := hrel
    by_cases hlt : k < ys.length
    · obtain ⟨b, off, rfl, hb, hcell⟩ := hA'.at_ hlt
      have hzr := HW.out _ (List.getElem_mem hlt)
      have hst := Lib.hid (cnt_step ys k hlt)
      have hle := cnt_le (ys.take k)
      rw [List.length_take] at hle
      have hpl := ones_le ys[k]
      generalize ys[k] = z at *
      generalize onesSum (ys.take k) = S at *
      obtain ⟨z0, z1⟩ := hzr
      have hS : S ≤ 4096 := by omega
      clear hle
      go_wp2_with fail
      refine (OnesCount64_any z _ z0 z1).mono ?_
      rintro e w1 ⟨rfl, rfl⟩
      generalize ones z = P at *
      go_wp2
      go_round
      case rel => exact ⟨k + 1, by omega, by go_num, by rw [hst.out]; go_num⟩
      case measure => simp [intOf]; omega
    · go_wp2
      go_ret
      exact ⟨ret_int (by rw [HR.out, List.take_of_length_le (by omega)]), rfl⟩

end Go.Proofs.YtkfbgadcfinlfaaDoor
