/- The contracts of package pack, second part: numbers of either sign, refs, rings, entries. -/
import Derived.Test.YtkoelbdmpnelhaaPackWalks
import Derived.RegionTactic
import Derived.BigRegion
import Derived.Handy
namespace Go.Proofs.Ytkoelbdmpnelhaa
open Go.RowKit

set_option maxHeartbeats 400000 in
theorem isSlot_yes (n : Int) (w : World) (h0 : 0 ≤ n) (h1 : n ≤ 4096) :
    Calls Try.prog 199 #[.int .i64 n] w fun e w' => e = .returned (.bool true) ∧ w = w' := by
  go_enter Try.func199, Try.ntmps199
  go_wp2
  go_ret
  exact ⟨rfl, rfl⟩

set_option maxHeartbeats 400000 in
theorem isSlot_no (n : Int) (w : World) (h : n < 0 ∨ 4096 < n) :
    Calls Try.prog 199 #[.int .i64 n] w fun e w' => e = .returned (.bool false) ∧ w = w' := by
  rcases h with h | h
  · go_enter Try.func199, Try.ntmps199
    go_wp2
    go_ret
    exact ⟨rfl, rfl⟩
  · have h0 : 0 ≤ n := by omega
    go_enter Try.func199, Try.ntmps199
    go_wp2
    go_ret
    exact ⟨ret_bool (decide_eq_false (by omega)), rfl⟩

theorem Rd.two {α : Type} {f : α → Value} {w : World} {B b : Nat} {x y : α} (hb : b < B) (h0 : w.cell? ⟨b, 0, none⟩ = some (f x)) (h1 : w.cell? ⟨b, 1, none⟩ = some (f y)) :
    Rd f w B (some ⟨b, 0, none⟩) [x, y] := by
  intro k z hz
  match k, hz with
  | 0, hz => simp at hz; subst hz; exact ⟨b, 0, rfl, hb, h0⟩
  | 1, hz => simp at hz; subst hz; exact ⟨b, 0, rfl, hb, h1⟩

/-- The word of two parts, the first of 13 bits, the second of m. -/
def two (a g : Int) (m : Nat) : Int × Int := if 8191 < a then (0, 6) else if 2 ^ m - 1 < g then (0, 6) else (a + g * 8192, 0)

theorem joinL_two (a g : Int) (m : Nat) (hm0 : 1 ≤ m) (hm : m ≤ 51) : joinL [a, g] [13, m] = two a g m := by
  have hc : cw 64 [13, (m : Int)] = 0 := by
    simp only [cw]
    rw [if_neg (by omega), if_neg (by omega)]
  have h13 : (2 : Int) ^ (13 : Int).toNat = 8192 := by decide
  unfold joinL two
  rw [if_pos hc, if_pos (show [a, g].length = [13, (m : Int)].length from rfl), joinGo, h13]
  by_cases h : 8191 < a
  · rw [if_pos h, if_pos (by omega)]
  · rw [if_neg h, if_neg (by omega), joinGo, Int.toNat_natCast]
    by_cases h2 : 2 ^ m - 1 < g
    · rw [if_pos h2, if_pos h2]
    · rw [if_neg h2, if_neg h2, joinGo_nil]
      have e : (2 : Int) ^ (0 + (13 : Int).toNat) = 8192 := by decide
      rw [e]
      simp

theorem Join_two (b b' : Nat) (a g : Int) (m : Nat) (d c : Nat) (w : World) (hm0 : 1 ≤ m) (hm : m ≤ 51) (hb : b < w.heap.size) (hb' : b' < w.heap.size)
    (h0 : w.cell? ⟨b, 0, none⟩ = some (.int .u64 a)) (h1 : w.cell? ⟨b, 1, none⟩ = some (.int .u64 g)) (h0' : w.cell? ⟨b', 0, none⟩ = some (.int .i64 13)) (h1' : w.cell? ⟨b', 1, none⟩ = some (.int .i64 m))
    (ha0 : 0 ≤ a) (ha1 : a ≤ 18446744073709551615) (hg0 : 0 ≤ g) (hg1 : g ≤ 18446744073709551615) :
    Calls Try.prog 200 #[.slice (some ⟨b, 0, none⟩) 2 d, .slice (some ⟨b', 0, none⟩) 2 c] w fun e w' =>
      e = .returned (.tuple #[.int .u64 (two a g m).1, .int .i64 (two a g m).2]) ∧ Drawn w w' := by
  have h := PkJoin_any (some ⟨b, 0, none⟩) [a, g] d (some ⟨b', 0, none⟩) [13, (m : Int)] c w (Rd.two hb h0 h1) (Rd.two hb' h0' h1') (by simp) (by simp)
    (by intro x hx; simp at hx; rcases hx with rfl | rfl <;> omega)
  refine h.mono ?_
  rintro e w' ⟨he, hd⟩
  rw [joinL_two a g m hm0 hm] at he
  exact ⟨he, hd⟩

def ringS (n p : Int) : Int × Int := if n < -1 ∨ 4096 < n ∨ p < -1 ∨ 4096 < p then (0, 6) else (n + 1 + (p + 1) * 8192, 0)
/-- Two numbers come back, and old memory stays. -/
def PairOut (p : Int × Int) (w : World) (e : Ending) (w' : World) : Prop := e = .returned (.tuple #[.int .u64 p.1, .int .i64 p.2]) ∧ Below w.heap.size w w'

theorem ringS_two (n p : Int) (h0 : -1 ≤ n) (h1 : n ≤ 4096) (hp0 : -1 ≤ p) (hp1 : p ≤ 4096) : two (n + 1) (p + 1) 13 = ringS n p := by
  unfold two ringS
  rw [show (2 : Int) ^ 13 = 8192 from by decide, if_neg (by omega), if_neg (by omega), if_neg (by omega)]

set_option maxHeartbeats 1000000 in
theorem PutRing_any (n p : Int) (w : World) :
    Calls Try.prog 170 #[.int .i64 n, .int .i64 p] w (PairOut (ringS n p) w) := by
  by_cases h : n < -1 ∨ 4096 < n
  · have hj : ringS n p = (0, 6) := by unfold ringS; rw [if_pos (by omega)]
    have HJ := Lib.hid hj
    have hb : ((n : Int) != -1) = true := by rw [bne_iff_ne]; omega
    clear hj
    go_enter Try.func170, Try.ntmps170
    go_wp2_with fail
    refine (isSlot_no n _ (by omega)).mono ?_
    rintro e w' ⟨rfl, rfl⟩
    go_wp2
    go_ret2
    exact ⟨by rw [HJ.out]; rfl, Below.refl _ _⟩
  · have hn0 : -1 ≤ n := by omega
    have hn1 : n ≤ 4096 := by omega
    clear h
    by_cases hp : p < -1 ∨ 4096 < p
    · have hj : ringS n p = (0, 6) := by unfold ringS; rw [if_pos (by omega)]
      have HJ := Lib.hid hj
      have hbp : ((p : Int) != -1) = true := by rw [bne_iff_ne]; omega
      clear hj
      by_cases hm : n = -1
      · have hb : ((n : Int) != -1) = false := by rw [bne_eq_false_iff_eq]; omega
        clear hm
        go_enter Try.func170, Try.ntmps170
        go_wp2_with fail
        refine (isSlot_no p _ (by omega)).mono ?_
        rintro e w' ⟨rfl, rfl⟩
        go_wp2
        go_ret2
        exact ⟨by rw [HJ.out]; rfl, Below.refl _ _⟩
      · have hb : ((n : Int) != -1) = true := by rw [bne_iff_ne]; omega
        have hn2 : 0 ≤ n := by omega
        clear hm
        go_enter Try.func170, Try.ntmps170
        go_wp2_with fail
        refine (isSlot_yes n _ (by omega) (by omega)).mono ?_
        rintro e w' ⟨rfl, rfl⟩
        go_wp2_with fail
        refine (isSlot_no p _ (by omega)).mono ?_
        rintro e w' ⟨rfl, rfl⟩
        go_wp2
        go_ret2
        exact ⟨by rw [HJ.out]; rfl, Below.refl _ _⟩
    · have hp0 : -1 ≤ p := by omega
      have hp1 : p ≤ 4096 := by omega
      clear hp
      have HJ := Lib.hid (ringS_two n p hn0 hn1 hp0 hp1)
      by_cases hm : n = -1 <;> by_cases hm' : p = -1
      · have hb : ((n : Int) != -1) = false := by rw [bne_eq_false_iff_eq]; omega
        have hb' : ((p : Int) != -1) = false := by rw [bne_eq_false_iff_eq]; omega
        clear hm hm'
        go_enter Try.func170, Try.ntmps170
        go_wp2_with fail
        refine Calls.mono (Join_two _ _ (n + 1) (p + 1) 13 _ _ _ (by omega) (by omega) (by go_size) (by go_size) (by go_cell) (by go_cell) (by go_cell) (by go_cell) (by omega) (by omega) (by omega) (by omega)) ?_
        rintro e w' ⟨rfl, hd⟩
        rw [HJ.out]
        go_wp2
        go_ret2
        exact ⟨rfl, Below.trans (by go_grown) (hd.below _)⟩
      · have hb : ((n : Int) != -1) = false := by rw [bne_eq_false_iff_eq]; omega
        have hb' : ((p : Int) != -1) = true := by rw [bne_iff_ne]; omega
        have hp2 : 0 ≤ p := by omega
        clear hm hm'
        go_enter Try.func170, Try.ntmps170
        go_wp2_with fail
        refine (isSlot_yes p _ (by omega) (by omega)).mono ?_
        rintro e w' ⟨rfl, rfl⟩
        go_wp2_with fail
        refine Calls.mono (Join_two _ _ (n + 1) (p + 1) 13 _ _ _ (by omega) (by omega) (by go_size) (by go_size) (by go_cell) (by go_cell) (by go_cell) (by go_cell) (by omega) (by omega) (by omega) (by omega)) ?_
        rintro e w' ⟨rfl, hd⟩
        rw [HJ.out]
        go_wp2
        go_ret2
        exact ⟨rfl, Below.trans (by go_grown) (hd.below _)⟩
      · have hb : ((n : Int) != -1) = true := by rw [bne_iff_ne]; omega
        have hb' : ((p : Int) != -1) = false := by rw [bne_eq_false_iff_eq]; omega
        have hn2 : 0 ≤ n := by omega
        clear hm hm'
        go_enter Try.func170, Try.ntmps170
        go_wp2_with fail
        refine (isSlot_yes n _ (by omega) (by omega)).mono ?_
        rintro e w' ⟨rfl, rfl⟩
        go_wp2_with fail
        refine Calls.mono (Join_two _ _ (n + 1) (p + 1) 13 _ _ _ (by omega) (by omega) (by go_size) (by go_size) (by go_cell) (by go_cell) (by go_cell) (by go_cell) (by omega) (by omega) (by omega) (by omega)) ?_
        rintro e w' ⟨rfl, hd⟩
        rw [HJ.out]
        go_wp2
        go_ret2
        exact ⟨rfl, Below.trans (by go_grown) (hd.below _)⟩
      · have hb : ((n : Int) != -1) = true := by rw [bne_iff_ne]; omega
        have hb' : ((p : Int) != -1) = true := by rw [bne_iff_ne]; omega
        have hn2 : 0 ≤ n := by omega
        have hp2 : 0 ≤ p := by omega
        clear hm hm'
        go_enter Try.func170, Try.ntmps170
        go_wp2_with fail
        refine (isSlot_yes n _ (by omega) (by omega)).mono ?_
        rintro e w' ⟨rfl, rfl⟩
        go_wp2_with fail
        refine (isSlot_yes p _ (by omega) (by omega)).mono ?_
        rintro e w' ⟨rfl, rfl⟩
        go_wp2_with fail
        refine Calls.mono (Join_two _ _ (n + 1) (p + 1) 13 _ _ _ (by omega) (by omega) (by go_size) (by go_size) (by go_cell) (by go_cell) (by go_cell) (by go_cell) (by omega) (by omega) (by omega) (by omega)) ?_
        rintro e w' ⟨rfl, hd⟩
        rw [HJ.out]
        go_wp2
        go_ret2
        exact ⟨rfl, Below.trans (by go_grown) (hd.below _)⟩

end Go.Proofs.Ytkoelbdmpnelhaa
