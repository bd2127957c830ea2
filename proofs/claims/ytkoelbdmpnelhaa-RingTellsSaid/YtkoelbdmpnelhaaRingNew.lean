/- ring's New, by contract. -/
import Derived.Test.YtkoelbdmpnelhaaRingPut
namespace Go.Proofs.Ytkoelbdmpnelhaa
open Go.RowKit

/-- The words of a ring of the head alone. -/
def newW (slots : Int) : List Int := putW (List.replicate ((min (max slots 0) 4096).toNat + 1) 0) 0 0 0
theorem putW_none (n : Nat) (s : Int) : putW (List.replicate n 0) s (-1) (-1) = List.replicate n 0 := by
  unfold putW
  rw [ringS_in (by decide) (by decide)]
  split
  · rw [show (-1 + 1 + (-1 + 1) * 8192 : Int) = 0 from by decide]
    exact List.ext_getElem (by simp) (fun i h1 h2 => by simp)
  · rfl
set_option maxRecDepth 100000 in
set_option maxHeartbeats 2000000 in
theorem rNew_any (slots : Int) (w : World) : Calls Try.prog 75 #[.int .i64 slots] w (WordsNew (newW slots) w) := by
  obtain ⟨i0, hi0, hz0, hz1, hz2⟩ := info_parts info_u64r
  obtain ⟨m, hm⟩ : ∃ m : Nat, min (max slots 0) 4096 = (m : Int) := ⟨(min (max slots 0) 4096).toNat, by omega⟩
  have hm1 : m ≤ 4096 := by omega
  have HN : Hid (newW slots = putW (List.replicate (m + 1) 0) 0 0 0) := Lib.hid (by unfold newW; rw [hm]; rfl)
  have hL : min (max slots 0) 4096 + 1 = ((m + 1 : Nat) : Int) := by omega
  have HL := Lib.hid hL
  have hb0 : 0 ≤ min (max slots 0) 4096 := by omega
  have hb1 : min (max slots 0) 4096 ≤ 4096 := by omega
  have hb8 : i0.bytes * (m + 1) ≤ 281474976710656 := by rw [hz2]; omega
  have hml : (m + 1) ≤ maxLen := by unfold maxLen; omega
  clear hL hm
  generalize newW slots = nw at *
  go_enter Try.func75, Try.ntmps75
  go_wp2_with (at_make; refine wpList_make_full _ rfl _ _ _ rfl w.heap.size 101 i0 (.int .u64 0) 1 Try.underlying88 hi0 hz0 hz1 _ _ _ _ (m + 1) rfl rfl HL.out HL.out hb8 hml (Nat.le_refl _) ?_; intro w1 hown hgr)
  have hbel : Below w.heap.size w w1 := (Below.refl _ _).grown hgr (Nat.le_refl _) (fun _ h => by cases h)
  have hown2 : w1.ownsRow w.heap.size 101 1 (.slice (some ⟨w.heap.size, 0, none⟩) (m + 1) (m + 1)) (m + 1) (u64s (List.replicate (m + 1) 0)) := by simpa [toList_madeCells_one, Value.cells, u64s] using hown
  have HO1 := Lib.hid hown2
  have HB1 := Lib.hid hbel
  clear hgr hb8 hml hown hown2 hbel hi0 hz0 hz1 hz2
  have hlen : (List.replicate (m + 1) (0 : Int)).length = m + 1 := List.length_replicate
  have HLN := Lib.hid hlen
  clear hlen
  go_loopw [12] (fun i wr => ∃ k : Nat, k ≤ m + 1 ∧ i = .int .i64 (k : Int) ∧ wr.ownsRow w.heap.size 101 1 (.slice (some ⟨w.heap.size, 0, none⟩) (m + 1) (m + 1)) (m + 1) (u64s (List.replicate (m + 1) 0)) ∧ Below w.heap.size w wr) (fun i _ => m + 1 - (intOf i).toNat)
  case atStart => exact ⟨0, Nat.zero_le _, rfl, HO1.out, HB1.out⟩
  case round =>
    obtain ⟨k, hk, rfl, hown, hbel⟩ := hrel
    by_cases hlt : k < m + 1
    · have hkl : (k : Int) < ((m + 1 : Nat) : Int) := by omega
      have hk0 : (0 : Int) ≤ (k : Int) := by omega
      have HPP := Lib.hid (rPut_any hown hbel.size HLN.out (k : Int) (-1) (-1))
      have HBL := Lib.hid hbel
      clear hown hbel
      rw [putW_none] at HPP
      go_wp2_with fail
      refine HPP.out.mono ?_
      rintro e w2 ⟨rfl, hown2, hb2⟩
      have HO2 := Lib.hid hown2
      have HB2 := Lib.hid (HBL.out.trans hb2)
      clear hown2 hb2 HPP
      go_wp2
      go_roundw
      case rel => exact ⟨k + 1, by omega, by go_num, HO2.out, HB2.out⟩
      case measure => simp [intOf]; omega
    · have hkl : ¬ (k : Int) < ((m + 1 : Nat) : Int) := by omega
      have HPP := Lib.hid (rPut_any hown hbel.size HLN.out 0 0 0)
      have HBL := Lib.hid hbel
      clear hown hbel
      rw [← HN.out] at HPP
      go_wp2_with fail
      refine HPP.out.mono ?_
      rintro e w2 ⟨rfl, hown2, hb2⟩
      have hnl : nw.length = m + 1 := by rw [HN.out, putW_len]; exact HLN.out
      have HF : Hid (WordsNew nw w (.returned (.slice (some ⟨w.heap.size, 0, none⟩) (m + 1) (m + 1))) w2) := Lib.hid ⟨some ⟨w.heap.size, 0, none⟩, m + 1, by rw [hnl], by rw [hnl]; exact hown2, HBL.out.trans hb2⟩
      clear hown2 hb2 HPP hnl
      go_wp2
      go_ret
      exact HF.out
end Go.Proofs.Ytkoelbdmpnelhaa
