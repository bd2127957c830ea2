/- Two lists of ids with their refs that are one are told to be one. -/
import Derived.Test.YtoaikdnooafjmaaImOrd
namespace Go.Proofs.Ytoaikdnooafjmaa
open Go.RowKit

set_option maxHeartbeats 1000000 in
theorem SameN_refl (A B : Option Addr) (zs : List EntI) (c d B0 B1 : Nat) (w : World) (hA : RdN w B0 A zs) (hB : RdN w B1 B zs) (hl : zs.length ≤ 9223372036854775807) :
    Calls Try.prog 89 #[.slice A zs.length c, .slice B zs.length d] w fun e w' => e = .returned (.bool true) ∧ Drawn w w' := by
  go_enter Try.func89, Try.ntmps89
  go_wp2
  go_loopw [13] (fun i wr => ∃ k : Nat, k ≤ zs.length ∧ i = .int .i64 k ∧ Drawn w wr) (fun i _ => zs.length - (intOf i).toNat)
  case atStart => exact ⟨0, Nat.zero_le _, rfl, Drawn.refl⟩
  case round =>
    obtain ⟨k, hk, rfl, hdr⟩ := hrel
    by_cases hlt : k < zs.length
    · obtain ⟨b, rfl, _, hb, h0, h1, h2⟩ := hA k _ (List.getElem?_eq_getElem hlt)
      obtain ⟨b', rfl, _, hb', k0, k1, k2⟩ := hB k _ (List.getElem?_eq_getElem hlt)
      rw [← hdr.cell] at h0 h1 h2 k0 k1 k2
      generalize zs[k] = z at *
      have hkl : (k : Int) < (zs.length : Int) := by omega
      have hk0 : (0 : Int) ≤ (k : Int) := by omega
      go_wp2
      go_quiet (fail)
      go_wp2
      go_roundw
      case rel => exact ⟨k + 1, by omega, by go_num, hdr.step _⟩
      case measure => simp [intOf]; omega
    · go_wp2
      go_ret
      exact ⟨rfl, hdr⟩

end Go.Proofs.Ytoaikdnooafjmaa
