/- Two lists of refs that are one are told to be one (the answer 'true' alone: no walk here needs the other). -/
import Derived.Test.YtdgmcaehadigaaaEpDel
import Derived.BigQuiet
namespace Go.Proofs.Ytdgmcaehadigaaa
open Go.RowKit

set_option maxRecDepth 100000 in
set_option maxHeartbeats 2000000 in
theorem SameRefs_refl (A B : Option Addr) (L : List (Int × Nat)) (n c d x y : Nat) (w : World) (hA : RdR w x A L) (hB : RdR w y B L) (hn : L.length = n) (hl : n ≤ 1000000) :
    Calls Try.prog 54 #[.slice A n c, .slice B n d] w fun e w' => e = .returned (.bool true) ∧ Drawn w w' := by
  have HA := Lib.hid hA
  have HB := Lib.hid hB
  have HN := Lib.hid hn
  clear hA hB hn
  go_enter Try.func54, Try.ntmps54
  go_wp2
  go_loopw [13] (fun i wr => ∃ k : Nat, k ≤ n ∧ i = .int .i64 (k : Int) ∧ Drawn w wr) (fun i _ => n - (intOf i).toNat)
  case atStart => exact ⟨0, Nat.zero_le _, rfl, Drawn.refl⟩
  case round =>
    obtain ⟨k, hk, rfl, hdr⟩ := hrel
    by_cases hlt : k < n
    · have hlt' : k < L.length := by have := HN.out; omega
      obtain ⟨b, off, rfl, _, q0, q1⟩ := HA.out k _ (List.getElem?_eq_getElem hlt')
      obtain ⟨b', off', rfl, _, p0, p1⟩ := HB.out k _ (List.getElem?_eq_getElem hlt')
      replace q0 := (hdr.cell _).trans q0
      replace q1 := (hdr.cell _).trans q1
      replace p0 := (hdr.cell _).trans p0
      replace p1 := (hdr.cell _).trans p1
      generalize L[k] = o at *
      obtain ⟨a, m⟩ := o
      simp only at q0 q1 p0 p1
      have hkl : (k : Int) < (n : Int) := by omega
      have hk0 : (0 : Int) ≤ (k : Int) := by omega
      have HD := Lib.hid hdr
      clear hdr
      go_wp2
      go_big_quiet (fail)
      go_wp2
      go_roundw
      case rel => exact ⟨k + 1, by omega, by go_num, HD.out.step _⟩
      case measure => simp [intOf]; omega
    · go_wp2
      go_ret
      exact ⟨rfl, hdr⟩
end Go.Proofs.Ytdgmcaehadigaaa
