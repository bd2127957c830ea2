/- A ring in words, by contract: has, At. -/
import Derived.Test.YtkoelbdmpnelhaaPackRingR
import Derived.Test.YtkoelbdmpnelhaaRingPlain
import Derived.BigRegion
namespace Go.Proofs.Ytkoelbdmpnelhaa
open Go.RowKit

/-- The Next and the Prev of a slot in words. -/
def atW (ws : List Int) (s : Int) : Int × Int := if 0 ≤ s ∧ s < ws.length then (if (ringD (ws.getD s.toNat 0)).2.2 = 0 then ((ringD (ws.getD s.toNat 0)).1, (ringD (ws.getD s.toNat 0)).2.1) else (-1, -1)) else (-1, -1)
theorem rHas_any (n c : Nat) (A : Option Addr) (s : Int) (w : World) : Calls Try.prog 122 #[.slice A n c, .int .i64 s] w fun e w' => e = .returned (.bool (decide (0 ≤ s ∧ s < (n : Int)))) ∧ w = w' := by
  by_cases h0 : 0 ≤ s
  · by_cases h1 : s < (n : Int)
    · rw [decide_eq_true (And.intro h0 h1)]
      go_enter Try.func122, Try.ntmps122
      go_wp2
      go_ret
      exact ⟨rfl, rfl⟩
    · rw [decide_eq_false (fun h => h1 h.2)]
      go_enter Try.func122, Try.ntmps122
      go_wp2
      go_ret
      exact ⟨rfl, rfl⟩
  · rw [decide_eq_false (fun h => h0 h.1)]
    go_enter Try.func122, Try.ntmps122
    go_wp2
    go_ret
    exact ⟨rfl, rfl⟩
theorem rAt_any (ws : List Int) (c : Nat) (A : Option Addr) (s : Int) (w : World) {B : Nat} (hA : Rd (Value.int .u64) w B A ws) (hI : ∀ x ∈ ws, 0 ≤ x ∧ x ≤ 18446744073709551615) : Calls Try.prog 59 #[.slice A ws.length c, .int .i64 s] w fun e w' => e = .returned (.tuple #[.int .i64 (atW ws s).1, .int .i64 (atW ws s).2]) ∧ Below w.heap.size w w' := by
  have HH := Lib.hid (rHas_any ws.length c A s)
  by_cases hs : 0 ≤ s ∧ s < (ws.length : Int)
  · obtain ⟨k, rfl⟩ : ∃ k : Nat, s = (k : Int) := ⟨s.toNat, by omega⟩
    have hk : k < ws.length := by omega
    obtain ⟨b, off, rfl, hb, hc⟩ := hA k (ws[k]) (List.getElem?_eq_getElem hk)
    have hI' := hI (ws[k]) (List.getElem_mem hk)
    have hat : atW ws (k : Int) = if (ringD (ws[k])).2.2 = 0 then ((ringD (ws[k])).1, (ringD (ws[k])).2.1) else (-1, -1) := by
      unfold atW
      rw [if_pos hs]
      simp [List.getD_eq_getElem?_getD, List.getElem?_eq_getElem hk]
    have hdec : decide (0 ≤ (k : Int) ∧ (k : Int) < (ws.length : Int)) = true := decide_eq_true hs
    rw [hdec] at HH
    rw [hat]
    clear hat hdec hA hI
    generalize ws[k] = x at *
    have HR := Lib.hid (Ring_any x w hI'.1 hI'.2)
    unfold ThreeOut at HR
    generalize ringD x = d at *
    obtain ⟨n, p, y⟩ := d
    simp only at HR
    have hkl : (k : Int) < (ws.length : Int) := hs.2
    have hk0 : (0 : Int) ≤ (k : Int) := hs.1
    clear hs hI'
    generalize ws.length = l at *
    by_cases hy : y = 0
    · subst hy
      rw [if_pos rfl]
      go_enter Try.func59, Try.ntmps59
      go_wp2_with fail
      refine (HH.out _).mono ?_
      rintro e w1 ⟨rfl, rfl⟩
      go_wp2_with fail
      refine HR.out.mono ?_
      rintro e w2 ⟨rfl, hb2⟩
      go_wp2
      exact bodyPost_ret (v := .tuple #[.int .i64 n, .int .i64 p]) (by simp [results, Try.results59, go_sem]) rfl ⟨rfl, hb2⟩
    · rw [if_neg hy]
      have hy' : (y != 0) = true := by simpa using hy
      clear hy
      go_enter Try.func59, Try.ntmps59
      go_wp2_with fail
      refine (HH.out _).mono ?_
      rintro e w1 ⟨rfl, rfl⟩
      go_wp2_with fail
      refine HR.out.mono ?_
      rintro e w2 ⟨rfl, hb2⟩
      go_wp2
      exact bodyPost_ret (v := .tuple #[.int .i64 (-1), .int .i64 (-1)]) (by simp [results, Try.results59, go_sem]) rfl ⟨rfl, hb2⟩
  · have hdec : decide (0 ≤ s ∧ s < (ws.length : Int)) = false := decide_eq_false hs
    have hat : atW ws s = (-1, -1) := by unfold atW; rw [if_neg hs]
    rw [hdec] at HH
    rw [hat]
    clear hat hdec hA hI hs
    generalize ws.length = l at *
    go_enter Try.func59, Try.ntmps59
    go_wp2_with fail
    refine (HH.out _).mono ?_
    rintro e w1 ⟨rfl, rfl⟩
    go_wp2
    exact bodyPost_ret (v := .tuple #[.int .i64 (-1), .int .i64 (-1)]) (by simp [results, Try.results59, go_sem]) rfl ⟨rfl, Below.refl _ _⟩
theorem rForeign_any (x : Int) (w : World) (h0 : 0 ≤ x) (h1 : x ≤ 18446744073709551615) : Calls Try.prog 127 #[.int .u64 x] w fun e w' => e = .returned (.bool ((ringD x).2.2 != 0)) ∧ Below w.heap.size w w' := by
  have HR := Lib.hid (Ring_any x w h0 h1)
  unfold ThreeOut at HR
  generalize ringD x = d at *
  obtain ⟨n, p, y⟩ := d
  simp only at HR
  clear h0 h1
  go_enter Try.func127, Try.ntmps127
  go_wp2_with fail
  refine HR.out.mono ?_
  rintro e w2 ⟨rfl, hb2⟩
  go_wp2
  go_ret
  exact ⟨rfl, hb2⟩
end Go.Proofs.Ytkoelbdmpnelhaa
