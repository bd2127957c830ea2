/- The contracts of package bitset, first part: a word at a place, the words that say something, whether a number is in a set. -/
import Derived.Test.YtepngkhepcjdfaaDoorBitCount
import Derived.Handy
import Derived.RegionTactic
import Derived.BigRegion
namespace Go.Proofs.YtepngkhepcjdfaaDoor
open Go.RowKit

theorem Rd.none_nil {α : Type} {f : α → Value} {w : World} {B : Nat} {zs : List α} (h : Rd f w B none zs) : zs = [] := by
  cases zs with
  | nil => rfl
  | cons z r =>
    obtain ⟨b, off, e, _⟩ := h 0 z rfl
    cases e


set_option maxHeartbeats 400000 in
theorem spoken_any (A : Option Addr) (zs : List Int) (c : Nat) (w : World) (hc : zs.length ≤ c) (hc2 : c ≤ 9223372036854775807) :
    Calls Tryd.prog 33 #[.slice A zs.length c] w fun e w' => e = .returned (.slice A (zs.take 64).length c) ∧ w = w' := by
  by_cases hs : zs.length ≤ 64
  · have HL := Lib.hid (show (zs.take 64).length = zs.length from by rw [List.length_take]; omega)
    go_enter Tryd.func33, Tryd.ntmps33
    go_wp2
    go_ret
    exact ⟨by rw [HL.out]; rfl, rfl⟩
  · have HL := Lib.hid (show (zs.take 64).length = 64 from by rw [List.length_take]; omega)
    have hs' : 64 < zs.length := by omega
    go_enter Tryd.func33, Tryd.ntmps33
    go_wp2
    go_ret
    exact ⟨by rw [HL.out]; rfl, rfl⟩

theorem Rd.take {α : Type} {f : α → Value} {w : World} {B n : Nat} {A : Option Addr} {zs : List α} (h : Rd f w B A zs) : Rd f w B A (zs.take n) := by
  intro k z hz
  rw [List.getElem?_take] at hz
  split at hz
  · exact h k z hz
  · cases hz


set_option maxHeartbeats 400000 in
theorem Count_any (A : Option Addr) (zs : List Int) (c : Nat) (w : World) (hA : Rd (Value.int .u64) w w.heap.size A zs) (hw : Words zs) (hc : zs.length ≤ c) (hc2 : c ≤ 9223372036854775807) :
    Calls Tryd.prog 41 #[.slice A zs.length c] w fun e w' => e = .returned (.int .i64 (cntS zs)) ∧ w = w' := by
  have hA' := hA.take (n := 64)
  have hw' : Words (zs.take 64) := fun z hz => hw z (List.mem_of_mem_take hz)
  have HW := Lib.hid hw'
  have hl : (zs.take 64).length ≤ 64 := List.length_take_le _ _
  have HR := Lib.hid (show cntS zs = onesSum (zs.take 64) from rfl)
  go_enter Tryd.func41, Tryd.ntmps41
  go_wp2_with fail
  refine (spoken_any A zs c _ hc hc2).mono ?_
  rintro e w1 ⟨rfl, rfl⟩
  clear hw' hA hw
  generalize zs.take 64 = ys at *
  go_wp2
  go_loop [3, 9] (fun sv i => ∃ k : Nat, k ≤ ys.length ∧ i = .int .i64 k ∧ sv = .int .i64 (onesSum (ys.take k))) (fun _ i => ys.length - (intOf i).toNat)
  case atStart => exact ⟨0, Nat.zero_le _, rfl, rfl⟩
  case round =>
    obtain ⟨k, hk, rfl, rfl⟩ := hrel
    by_cases hlt : k < ys.length
    · obtain ⟨b, off, rfl, hb, hcell⟩ := hA'.at_ hlt
      have hzr := HW.out _ (List.getElem_mem hlt)
      have hst := Lib.hid (cnt_step ys k hlt)
      have hle := cnt_le (ys.take k)
      rw [List.length_take] at hle
      have hpl := ones_le ys[k]
      generalize ys[k] = z at *
      generalize onesSum (ys.take k) = S at *
      obtain ⟨z0, z1⟩ := hzr
      have hS : S ≤ 4096 := by omega
      clear hle
      go_wp2_with fail
      refine (OnesCount64_any z _ z0 z1).mono ?_
      rintro e w1 ⟨rfl, rfl⟩
      generalize ones z = P at *
      go_wp2
      go_round
      case rel => exact ⟨k + 1, by omega, by go_num, by rw [hst.out]; go_num⟩
      case measure => simp [intOf]; omega
    · go_wp2
      go_ret
      exact ⟨ret_int (by rw [HR.out, List.take_of_length_le (by omega)]), rfl⟩

end Go.Proofs.YtepngkhepcjdfaaDoor
