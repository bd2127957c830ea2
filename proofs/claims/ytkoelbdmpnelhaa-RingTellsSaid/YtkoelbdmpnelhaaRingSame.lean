/- Two lists of operations on rings that are one are told to be one. -/
import Derived.Test.YtkoelbdmpnelhaaRingOps
namespace Go.Proofs.Ytkoelbdmpnelhaa
open Go.RowKit

set_option maxRecDepth 100000 in
set_option maxHeartbeats 2000000 in
theorem SameOps_refl (A B : Option Addr) (L : List OpT) (n c d x y B0 B1 : Nat) (w : World) (hA : RdO w x B0 A L) (hB : RdO w y B1 B L) (hn : L.length = n) (hl : n ≤ 100000) :
    Calls Try.prog 68 #[.slice A n c, .slice B n d] w fun e w' => e = .returned (.bool true) ∧ Drawn w w' := by
  have HA := Lib.hid hA
  have HB := Lib.hid hB
  have HN := Lib.hid hn
  clear hA hB hn
  go_enter Try.func68, Try.ntmps68
  go_wp2
  go_loopw [13] (fun i wr => ∃ k : Nat, k ≤ n ∧ i = .int .i64 (k : Int) ∧ Drawn w wr) (fun i _ => n - (intOf i).toNat)
  case atStart => exact ⟨0, Nat.zero_le _, rfl, Drawn.refl⟩
  case round =>
    obtain ⟨k, hk, rfl, hdr⟩ := hrel
    by_cases hlt : k < n
    · have hlt' : k < L.length := by have := HN.out; omega
      obtain ⟨b, off, rfl, _, hb, hc⟩ := HA.out k _ (List.getElem?_eq_getElem hlt')
      obtain ⟨b', off', rfl, _, hb', hc'⟩ := HB.out k _ (List.getElem?_eq_getElem hlt')
      have q0 := (hdr.cell _).trans (hc 0 _ rfl)
      have q1 := (hdr.cell _).trans (hc 1 _ rfl)
      have q2 := (hdr.cell _).trans (hc 2 _ rfl)
      have q3 := (hdr.cell _).trans (hc 3 _ rfl)
      have q4 := (hdr.cell _).trans (hc 4 _ rfl)
      have q5 := (hdr.cell _).trans (hc 5 _ rfl)
      have p0 := (hdr.cell _).trans (hc' 0 _ rfl)
      have p1 := (hdr.cell _).trans (hc' 1 _ rfl)
      have p2 := (hdr.cell _).trans (hc' 2 _ rfl)
      have p3 := (hdr.cell _).trans (hc' 3 _ rfl)
      have p4 := (hdr.cell _).trans (hc' 4 _ rfl)
      have p5 := (hdr.cell _).trans (hc' 5 _ rfl)
      simp only [Nat.add_zero] at q0 p0
      clear hc hc'
      generalize L[k] = o at *
      obtain ⟨a, n', m⟩ := o
      have hkl : (k : Int) < (n : Int) := by omega
      have hk0 : (0 : Int) ≤ (k : Int) := by omega
      have HD := Lib.hid hdr
      clear hdr
      go_wp2
      go_big_quiet (fail)
      go_wp2
      go_roundw
      case rel => exact ⟨k + 1, by omega, by go_num, HD.out.step _⟩
      case measure => simp [intOf]; omega
    · go_wp2
      go_ret
      exact ⟨rfl, hdr⟩
end Go.Proofs.Ytkoelbdmpnelhaa
