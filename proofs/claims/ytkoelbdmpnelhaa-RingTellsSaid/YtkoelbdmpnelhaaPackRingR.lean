/- The contracts of package pack, third part: what words are of. -/
import Derived.Test.YtkoelbdmpnelhaaPackRingN
namespace Go.Proofs.Ytkoelbdmpnelhaa
open Go.RowKit

theorem fldL_two (x : Int) (m : Nat) (hm0 : 1 ≤ m) (hm : m ≤ 51) : fldL x [13, (m : Int)] = [x % 8192, x / 8192 % 2 ^ m] := by
  have hc : cw 64 [13, (m : Int)] = 0 := by
    simp only [cw]
    rw [if_neg (by omega), if_neg (by omega)]
  unfold fldL
  rw [if_pos hc]
  simp only [fieldsL, Int.toNat_natCast]
  rfl

theorem cw_two (m : Nat) (hm0 : 1 ≤ m) (hm : m ≤ 51) : cw 64 [13, (m : Int)] = 0 := by
  simp only [cw]
  rw [if_neg (by omega), if_neg (by omega)]

/-- Two parts come back in new memory. -/
def TwoOut (p q : Int) (w : World) (e : Ending) (w' : World) : Prop :=
  ∃ g off c, e = .returned (.tuple #[.slice (some ⟨g, off, none⟩) 2 c, .int .i64 0]) ∧ g < w'.heap.size ∧ w'.cell? ⟨g, off, none⟩ = some (.int .u64 p) ∧
    w'.cell? ⟨g, off + 1, none⟩ = some (.int .u64 q) ∧ Below w.heap.size w w'

theorem Fields_two (x : Int) (b m c : Nat) (w : World) (hm0 : 1 ≤ m) (hm : m ≤ 51) (h0 : 0 ≤ x) (h1 : x ≤ 18446744073709551615) (hb : b < w.heap.size)
    (c0 : w.cell? ⟨b, 0, none⟩ = some (.int .i64 13)) (c1 : w.cell? ⟨b, 1, none⟩ = some (.int .i64 m)) :
    Calls Try.prog 169 #[.int .u64 x, .slice (some ⟨b, 0, none⟩) 2 c] w (TwoOut (x % 8192) (x / 8192 % 2 ^ m) w) := by
  have h := Fields_any x (some ⟨b, 0, none⟩) [13, (m : Int)] c w h0 h1 (Rd.two hb c0 c1) (by simp)
  refine h.mono ?_
  rintro e w' ⟨A, d, he, hr, hbel⟩
  rw [fldL_two x m hm0 hm, cw_two m hm0 hm] at he
  rw [fldL_two x m hm0 hm] at hr
  obtain ⟨g, off, rfl, hg, hc0⟩ := hr 0 _ rfl
  obtain ⟨g', off', he', _, hc1⟩ := hr 1 _ rfl
  injection he' with he'
  injection he' with h3 h4
  subst h3
  subst h4
  exact ⟨g, off, d, he, hg, hc0, hc1, hbel⟩

def ringD (x : Int) : Int × Int × Int := if 4097 < x % 8192 ∨ 4097 < x / 8192 then (0, 0, 6) else (x % 8192 - 1, x / 8192 - 1, 0)
def ThreeOut (p : Int × Int × Int) (w : World) (e : Ending) (w' : World) : Prop :=
  e = .returned (.tuple #[.int .i64 p.1, .int .i64 p.2.1, .int .i64 p.2.2]) ∧ Below w.heap.size w w'

/-- The three ways of a word that is read: no parts that may be; parts of another word; its own parts. -/
def Ways (s : Int × Int) (d : Int × Int × Int) (x p q : Int) : Prop :=
  (s = (0, 6) ∧ d = (0, 0, 6)) ∨ (∃ v, s = (v, 0) ∧ v ≠ x ∧ d = (0, 0, 6)) ∨ (s = (x, 0) ∧ d = (p, q, 0))

theorem ring_ways (x : Int) (h0 : 0 ≤ x) : Ways (ringS (x % 8192 - 1) (x / 8192 % 2 ^ 13 - 1)) (ringD x) x (x % 8192 - 1) (x / 8192 % 2 ^ 13 - 1) := by
  unfold Ways ringS ringD
  rw [show (2 : Int) ^ 13 = 8192 from rfl]
  by_cases h2 : x % 8192 - 1 < -1 ∨ 4096 < x % 8192 - 1 ∨ x / 8192 % 8192 - 1 < -1 ∨ 4096 < x / 8192 % 8192 - 1
  · exact .inl ⟨if_pos h2, if_pos (by omega)⟩
  · by_cases h : 4097 < x % 8192 ∨ 4097 < x / 8192
    · exact .inr (.inl ⟨_, if_neg h2, by omega, if_pos h⟩)
    · have e1 : x % 8192 - 1 + 1 + (x / 8192 % 8192 - 1 + 1) * 8192 = x := by omega
      have e2 : x / 8192 % 8192 = x / 8192 := by omega
      exact .inr (.inr ⟨by rw [if_neg h2, e1], by rw [if_neg h, e2]⟩)

set_option maxHeartbeats 1000000 in
theorem Ring_any (x : Int) (w : World) (h0 : 0 ≤ x) (h1 : x ≤ 18446744073709551615) :
    Calls Try.prog 123 #[.int .u64 x] w (ThreeOut (ringD x) w) := by
  have hp : 0 ≤ x % 8192 ∧ x % 8192 ≤ 8191 := by omega
  have hq : 0 ≤ x / 8192 % 2 ^ 13 ∧ x / 8192 % 2 ^ 13 ≤ 8191 := by rw [show (2 : Int) ^ 13 = 8192 from rfl]; omega
  have hw := ring_ways x h0
  have hF := fun (b c : Nat) (w : World) hb c0 c1 => Fields_two x b 13 c w (by omega) (by omega) h0 h1 hb c0 c1
  generalize x % 8192 = p at *
  generalize x / 8192 % 2 ^ 13 = q at *
  obtain ⟨hp0, hp1⟩ := hp
  obtain ⟨hq0, hq1⟩ := hq
  have HF := Lib.hid hF
  clear hF
  rcases hw with ⟨hs, hd⟩ | ⟨v, hs, hne, hd⟩ | ⟨hs, hd⟩
  · have HS := Lib.hid hs
    have HD := Lib.hid hd
    clear hs hd
    go_enter Try.func123, Try.ntmps123
    go_wp2_with fail
    refine Calls.mono (HF.out _ _ _ (by go_size) (by go_cell) (by go_cell)) ?_
    rintro e w1 ⟨g, off, d, rfl, hg, hc0, hc1, hbel⟩
    go_wp2
    go_quiet (fail)
    go_wp2_with fail
    refine (PutRing_any (p - 1) (q - 1) _).mono ?_
    rintro e w2 ⟨rfl, hb2⟩
    rw [HS.out]
    go_wp2
    go_ret3
    exact ⟨by rw [HD.out]; rfl, Below.next (Below.next (Below.next (by go_grown) hbel) (below_draws _ _ _)) hb2⟩
  · have HS := Lib.hid hs
    have HD := Lib.hid hd
    have hb : ((v : Int) != x) = true := by rw [bne_iff_ne]; exact hne
    clear hs hd hne
    go_enter Try.func123, Try.ntmps123
    go_wp2_with fail
    refine Calls.mono (HF.out _ _ _ (by go_size) (by go_cell) (by go_cell)) ?_
    rintro e w1 ⟨g, off, d, rfl, hg, hc0, hc1, hbel⟩
    go_wp2
    go_quiet (fail)
    go_wp2_with fail
    refine (PutRing_any (p - 1) (q - 1) _).mono ?_
    rintro e w2 ⟨rfl, hb2⟩
    rw [HS.out]
    go_wp2
    go_ret3
    exact ⟨by rw [HD.out]; rfl, Below.next (Below.next (Below.next (by go_grown) hbel) (below_draws _ _ _)) hb2⟩
  · have HS := Lib.hid hs
    have HD := Lib.hid hd
    clear hs hd
    go_enter Try.func123, Try.ntmps123
    go_wp2_with fail
    refine Calls.mono (HF.out _ _ _ (by go_size) (by go_cell) (by go_cell)) ?_
    rintro e w1 ⟨g, off, d, rfl, hg, hc0, hc1, hbel⟩
    go_wp2
    go_quiet (fail)
    go_wp2_with fail
    refine (PutRing_any (p - 1) (q - 1) _).mono ?_
    rintro e w2 ⟨rfl, hb2⟩
    rw [HS.out]
    go_wp2
    go_ret3
    exact ⟨by rw [HD.out]; rfl, Below.next (Below.next (Below.next (by go_grown) hbel) (below_draws _ _ _)) hb2⟩

end Go.Proofs.Ytkoelbdmpnelhaa
