/- Two lists of numbers that are one are told to be one (the answer 'true' alone: no walk here needs the other). -/
import Derived.Test.YtdgmcaehadigaaaMem
namespace Go.Proofs.Ytdgmcaehadigaaa
open Go.RowKit

set_option maxHeartbeats 400000 in
theorem SameInts_refl (A B : Option Addr) (zs : List Int) (c d : Nat) (w : World) (hA : Rd (Value.int .i64) w w.heap.size A zs) (hB : Rd (Value.int .i64) w w.heap.size B zs) (hl : zs.length ≤ 9223372036854775807) :
    Calls Try.prog 16 #[.slice A zs.length c, .slice B zs.length d] w fun e w' => e = .returned (.bool true) ∧ Drawn w w' := by
  go_enter Try.func16, Try.ntmps16
  go_wp2
  go_loopw [13] (fun i wr => ∃ k : Nat, k ≤ zs.length ∧ i = .int .i64 k ∧ Drawn w wr) (fun i _ => zs.length - (intOf i).toNat)
  case atStart => exact ⟨0, Nat.zero_le _, rfl, Drawn.refl⟩
  case round =>
    obtain ⟨k, hk, rfl, hdr⟩ := hrel
    by_cases hlt : k < zs.length
    · obtain ⟨b, off, rfl, hb, hc0⟩ := hA.at_ hlt
      obtain ⟨b', off', rfl, hb', hc0'⟩ := hB.at_ hlt
      have hc := (hdr.cell _).trans hc0
      have hc' := (hdr.cell _).trans hc0'
      clear hc0 hc0'
      generalize zs[k] = z at hc hc'
      have hkl : (k : Int) < (zs.length : Int) := by omega
      have hk0 : (0 : Int) ≤ (k : Int) := by omega
      go_wp2
      go_quiet (fail)
      go_wp2
      go_roundw
      case rel => exact ⟨k + 1, by omega, by go_num, hdr.step _⟩
      case measure => simp [intOf]; omega
    · go_wp2
      go_ret
      exact ⟨rfl, hdr⟩

end Go.Proofs.Ytdgmcaehadigaaa
