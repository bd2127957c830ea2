/- The document's ring (ganglionref23), by contract, first part: a word's Next and Prev; List, place, Joins, Cuts. -/
import Derived.Test.YtkoelbdmpnelhaaRingCuts
namespace Go.Proofs.Ytkoelbdmpnelhaa
open Go.RowKit

set_option maxHeartbeats 1000000 in
theorem refPutRing_any (n p : Int) (w : World) :
    Calls Try.prog 132 #[.int .i64 n, .int .i64 p] w (PairOut (ringS n p) w) := by
  by_cases a1 : n < -1
  · have HJ := Lib.hid (show ringS n p = (0, 6) from by unfold ringS; rw [if_pos (by omega)])
    go_enter Try.func132, Try.ntmps132
    go_wp2
    go_ret2
    exact ⟨by rw [HJ.out]; rfl, by go_grown⟩
  · have b1 : -1 ≤ n := by omega
    clear a1
    by_cases a2 : 4096 < n
    · have HJ := Lib.hid (show ringS n p = (0, 6) from by unfold ringS; rw [if_pos (by omega)])
      go_enter Try.func132, Try.ntmps132
      go_wp2
      go_ret2
      exact ⟨by rw [HJ.out]; rfl, by go_grown⟩
    · have b2 : n ≤ 4096 := by omega
      clear a2
      by_cases a3 : p < -1
      · have HJ := Lib.hid (show ringS n p = (0, 6) from by unfold ringS; rw [if_pos (by omega)])
        go_enter Try.func132, Try.ntmps132
        go_wp2
        go_ret2
        exact ⟨by rw [HJ.out]; rfl, by go_grown⟩
      · have b3 : -1 ≤ p := by omega
        clear a3
        by_cases a4 : 4096 < p
        · have HJ := Lib.hid (show ringS n p = (0, 6) from by unfold ringS; rw [if_pos (by omega)])
          go_enter Try.func132, Try.ntmps132
          go_wp2
          go_ret2
          exact ⟨by rw [HJ.out]; rfl, by go_grown⟩
        · have HJ := Lib.hid (show ringS n p = (n + 1 + (p + 1) * 8192, 0) from by unfold ringS; rw [if_neg (by omega)])
          have b4 : p ≤ 4096 := by omega
          clear a4
          go_enter Try.func132, Try.ntmps132
          go_wp2
          go_ret2
          exact ⟨by rw [HJ.out]; rfl, by go_grown⟩

set_option maxHeartbeats 1000000 in
theorem refRing_any (x : Int) (w : World) (h0 : 0 ≤ x) (h1 : x ≤ 18446744073709551615) :
    Calls Try.prog 124 #[.int .u64 x] w (ThreeOut (ringD x) w) := by
  have hw := ring_ways x h0
  rw [show (2 : Int) ^ 13 = 8192 from rfl] at hw
  rcases hw with ⟨hs, hd⟩ | ⟨v, hs, hne, hd⟩ | ⟨hs, hd⟩
  · have HS := Lib.hid hs
    have HD := Lib.hid hd
    clear hs hd
    go_enter Try.func124, Try.ntmps124
    go_wp2_with fail
    refine (refPutRing_any (x % 8192 - 1) (x / 8192 % 8192 - 1) _).mono ?_
    rintro e w2 ⟨rfl, hb2⟩
    rw [HS.out]
    go_wp2
    go_ret3
    exact ⟨by rw [HD.out]; rfl, hb2⟩
  · have HS := Lib.hid hs
    have HD := Lib.hid hd
    have hb : ((v : Int) != x) = true := by rw [bne_iff_ne]; exact hne
    clear hs hd hne
    go_enter Try.func124, Try.ntmps124
    go_wp2_with fail
    refine (refPutRing_any (x % 8192 - 1) (x / 8192 % 8192 - 1) _).mono ?_
    rintro e w2 ⟨rfl, hb2⟩
    rw [HS.out]
    go_wp2
    go_ret3
    exact ⟨by rw [HD.out]; rfl, hb2⟩
  · have HS := Lib.hid hs
    have HD := Lib.hid hd
    clear hs hd
    go_enter Try.func124, Try.ntmps124
    go_wp2_with fail
    refine (refPutRing_any (x % 8192 - 1) (x / 8192 % 8192 - 1) _).mono ?_
    rintro e w2 ⟨rfl, hb2⟩
    rw [HS.out]
    go_wp2
    go_ret3
    exact ⟨by rw [HD.out]; rfl, hb2⟩

theorem rfAt_any (ws : List Int) (c : Nat) (A : Option Addr) (s : Int) (w : World) {B : Nat} (hA : Rd (Value.int .u64) w B A ws) (hI : ∀ x ∈ ws, 0 ≤ x ∧ x ≤ 18446744073709551615) : Calls Try.prog 60 #[.slice A ws.length c, .int .i64 s] w fun e w' => e = .returned (.tuple #[.int .i64 (atW ws s).1, .int .i64 (atW ws s).2]) ∧ Below w.heap.size w w' := by
  by_cases hs : 0 ≤ s ∧ s < (ws.length : Int)
  · obtain ⟨k, rfl⟩ : ∃ k : Nat, s = (k : Int) := ⟨s.toNat, by omega⟩
    have hk : k < ws.length := by omega
    obtain ⟨b, off, rfl, hb, hc⟩ := hA k (ws[k]) (List.getElem?_eq_getElem hk)
    have hI' := hI (ws[k]) (List.getElem_mem hk)
    have hat : atW ws (k : Int) = if (ringD (ws[k])).2.2 = 0 then ((ringD (ws[k])).1, (ringD (ws[k])).2.1) else (-1, -1) := atW_in (List.getElem?_eq_getElem hk)
    rw [hat]
    clear hat hA hI
    generalize ws[k] = x at *
    have HR := Lib.hid (refRing_any x w hI'.1 hI'.2)
    unfold ThreeOut at HR
    generalize ringD x = d at *
    obtain ⟨n, p, y⟩ := d
    simp only at HR
    have hkl : (k : Int) < (ws.length : Int) := hs.2
    have hk0 : (0 : Int) ≤ (k : Int) := hs.1
    clear hs hI'
    generalize ws.length = l at *
    by_cases hy : y = 0
    · subst hy
      rw [if_pos rfl]
      go_enter Try.func60, Try.ntmps60
      go_wp2_with fail
      refine HR.out.mono ?_
      rintro e w2 ⟨rfl, hb2⟩
      go_wp2
      go_ret2
      exact ⟨rfl, hb2⟩
    · rw [if_neg hy]
      have hy' : (y != 0) = true := by simpa using hy
      clear hy
      go_enter Try.func60, Try.ntmps60
      go_wp2_with fail
      refine HR.out.mono ?_
      rintro e w2 ⟨rfl, hb2⟩
      go_wp2
      go_ret2
      exact ⟨rfl, hb2⟩
  · have hat : atW ws s = (-1, -1) := atW_out hs
    have hw : s < 0 ∨ (0 ≤ s ∧ (ws.length : Int) ≤ s) := by omega
    rw [hat]
    clear hat hA hI hs
    generalize ws.length = l at *
    rcases hw with h1 | ⟨h1, h2⟩
    all_goals
      go_enter Try.func60, Try.ntmps60
      go_wp2
      go_ret2
      exact ⟨rfl, Below.refl _ _⟩
/-- What the document's At tells of these words, wherever it is called from now on. -/
def RfAtC (ws : List Int) (c : Nat) (A : Option Addr) (w : World) : Prop := ∀ W, Below w.heap.size w W → ∀ s : Int, ∃ n p : Int, NW ws s = n ∧ PW ws s = p ∧ (-1 ≤ n ∧ n ≤ 4096) ∧ (-1 ≤ p ∧ p ≤ 4096) ∧
  Calls Try.prog 60 #[.slice A ws.length c, .int .i64 s] W fun e w' => e = .returned (.tuple #[.int .i64 n, .int .i64 p]) ∧ Below W.heap.size W w'
theorem RfAtC.of {ws : List Int} {c : Nat} {A : Option Addr} {w : World} {B : Nat} (hA : Rd (Value.int .u64) w B A ws) (hB : B ≤ w.heap.size) (hI : U64L ws) : RfAtC ws c A w := fun W hb s =>
  have bnd := bndW hI
  ⟨_, _, rfl, rfl, bnd.n0 s, bnd.p0 s, rfAt_any ws c A s W (hA.below (hb.mono hB)) hI⟩
theorem RfAtC.later {ws : List Int} {c : Nat} {A : Option Addr} {w w1 : World} (h : RfAtC ws c A w) (hb : Below w.heap.size w w1) : RfAtC ws c A w1 := fun W hW s => h W (Below.next hb hW) s

theorem rfset_any (a n m : Int) (w : World) : Calls Try.prog 134 #[.int .i64 a, .int .i64 n, .int .i64 m] w fun e w' => e = .returned (.agg #[.int .i64 12, .int .i64 a, .int .i64 0, .int .i64 n, .int .i64 m, .int .u64 0, .slice none 0 0, .int .u64 0, .slice none 0 0, .int .u64 0]) ∧ Below w.heap.size w w' := by
  go_enter Try.func134, Try.ntmps134
  go_wp2
  exact bodyPost_ret (v := .agg #[.int .i64 12, .int .i64 a, .int .i64 0, .int .i64 n, .int .i64 m, .int .u64 0, .slice none 0 0, .int .u64 0, .slice none 0 0, .int .u64 0]) (by simp [results, Try.results134, go_sem]) rfl ⟨rfl, by go_grown⟩

set_option maxRecDepth 100000 in
set_option maxHeartbeats 4000000 in
theorem rfCuts_c {ws : List Int} {c : Nat} {A : Option Addr} {w : World} (hT : RfAtC ws c A w) (s : Int) : Calls Try.prog 72 #[.slice A ws.length c, .int .i64 s] w (OpsNew (cutsW ws s) w) := by
  have HT := Lib.hid hT
  clear hT
  obtain ⟨n, p, en, ep, hn, hp, HC⟩ := HT.out w (Below.refl _ _) s
  obtain ⟨n1, q1, en1, eq1, _, _, _⟩ := HT.out w (Below.refl _ _) n
  obtain ⟨q2, p1, eq2, ep1, _, _, _⟩ := HT.out w (Below.refl _ _) p
  have hat : ∀ (x a b : Int), NW ws x = a → PW ws x = b → Hid (∀ W, Below w.heap.size w W → Calls Try.prog 60 #[.slice A ws.length c, .int .i64 x] W fun e w' => e = .returned (.tuple #[.int .i64 a, .int .i64 b]) ∧ Below W.heap.size W w') := fun x a b ha hb => Lib.hid fun W hW => by
    obtain ⟨a', b', ea, eb, _, _, h⟩ := HT.out W hW x
    rw [← ha, ← hb, ea, eb]
    exact h
  have H1 := hat n n1 q1 en1 eq1
  have H2 := hat p q2 p1 eq2 ep1
  have HJ : Hid (cutsW ws s = if s ≤ 0 ∨ n < 0 ∨ p < 0 then [] else if n = p then [(p, n, n), (s, -1, -1)] else [(p, n, p1), (n, n1, p), (s, -1, -1)]) := Lib.hid (by unfold cutsW; rw [en, ep, ep1, en1])
  have HC0 := Lib.hid HC
  clear hat en ep en1 eq1 eq2 ep1 HC HT
  generalize cutsW ws s = J at *
  generalize ws.length = len at *
  by_cases hbad : s ≤ 0 ∨ n < 0 ∨ p < 0
  · have HJ2 : Hid (J = []) := Lib.hid (by rw [HJ.out, if_pos hbad])
    have hw : s < 1 ∨ (1 ≤ s ∧ n < 0) ∨ (1 ≤ s ∧ 0 ≤ n ∧ p < 0) := by omega
    clear HJ hbad H1 H2
    rcases hw with h1 | ⟨h1, h2⟩ | ⟨h1, h2, h3⟩
    all_goals
      go_enter Try.func72, Try.ntmps72
      go_wp2_with fail
      refine HC0.out.mono ?_
      rintro e w1 ⟨rfl, hb1⟩
      go_wp2
      go_ret
      rw [HJ2.out]
      exact OpsNew.nil hb1
  · rw [if_neg hbad] at HJ
    have h1 : 1 ≤ s := by omega
    have h2 : 0 ≤ n := by omega
    have h3 : 0 ≤ p := by omega
    clear hbad
    by_cases hz : n = p
    · subst hz
      rw [if_pos rfl] at HJ
      clear H1 H2
      go_enter Try.func72, Try.ntmps72
      go_wp2_with fail
      refine HC0.out.mono ?_
      rintro e w1 ⟨rfl, hb1⟩
      go_wp2_with fail
      refine (rfset_any _ _ _ _).mono ?_
      rintro e w2 ⟨rfl, hb2⟩
      go_wp2_with fail
      refine (rfset_any _ _ _ _).mono ?_
      rintro e w3 ⟨rfl, hb3⟩
      have HB := Lib.hid (Below.next (Below.next hb1 hb2) hb3)
      clear hb1 hb2 hb3
      go_wp2
      go_ret
      rw [HJ.out]
      exact OpsNew.made rfl (by simp) HB.out rfl
    · rw [if_neg hz] at HJ
      have hzb : (n == p) = false := by rw [beq_eq_false_iff_ne]; exact hz
      go_enter Try.func72, Try.ntmps72
      go_wp2_with fail
      refine HC0.out.mono ?_
      rintro e w1 ⟨rfl, hb1⟩
      go_wp2_with fail
      refine (H2.out _ hb1).mono ?_
      rintro e w2 ⟨rfl, hb2⟩
      have hB2 := Below.next hb1 hb2
      go_wp2_with fail
      refine (H1.out _ hB2).mono ?_
      rintro e w3 ⟨rfl, hb3⟩
      have hB3 := Below.next hB2 hb3
      clear hb1 hb2 hb3 hB2
      go_wp2_with fail
      refine (rfset_any _ _ _ _).mono ?_
      rintro e w4 ⟨rfl, hb4⟩
      go_wp2_with fail
      refine (rfset_any _ _ _ _).mono ?_
      rintro e w5 ⟨rfl, hb5⟩
      go_wp2_with fail
      refine (rfset_any _ _ _ _).mono ?_
      rintro e w6 ⟨rfl, hb6⟩
      have HB := Lib.hid (Below.next (Below.next (Below.next hB3 hb4) hb5) hb6)
      clear hb4 hb5 hb6 hB3
      go_wp2
      go_ret
      rw [HJ.out]
      exact OpsNew.made rfl (by simp) HB.out rfl

set_option maxRecDepth 100000 in
set_option maxHeartbeats 4000000 in
theorem rfJoins_c {ws : List Int} {c : Nat} {A : Option Addr} {w : World} (hT : RfAtC ws c A w) (s : Int) : Calls Try.prog 70 #[.slice A ws.length c, .int .i64 s] w (OpsNew (joinsW ws s) w) := by
  have HT := Lib.hid hT
  clear hT
  obtain ⟨n, p, en, ep, hn, hp, _⟩ := HT.out w (Below.refl _ _) s
  obtain ⟨n0, p0, en0, ep0, hn0, hp0, HC⟩ := HT.out w (Below.refl _ _) 0
  obtain ⟨n1, p1, en1, ep1, hn1, hp1, _⟩ := HT.out w (Below.refl _ _) n0
  have hat : ∀ (x a b : Int), NW ws x = a → PW ws x = b → Hid (∀ W, Below w.heap.size w W → Calls Try.prog 60 #[.slice A ws.length c, .int .i64 x] W fun e w' => e = .returned (.tuple #[.int .i64 a, .int .i64 b]) ∧ Below W.heap.size W w') := fun x a b ha hb => Lib.hid fun W hW => by
    obtain ⟨a', b', ea, eb, _, _, h⟩ := HT.out W hW x
    rw [← ha, ← hb, ea, eb]
    exact h
  have H0 := hat s n p en ep
  have H1 := hat n0 n1 p1 en1 ep1
  have HJ : Hid (joinsW ws s = if s ≤ 0 ∨ ¬ s < ws.length ∨ 0 ≤ n ∨ n0 < 0 then [] else if n0 = 0 then [(s, 0, 0), (0, s, s)] else [(s, n0, 0), (n0, n1, s), (0, s, p0)]) := Lib.hid (by unfold joinsW; rw [en, en0, en1, ep0])
  have HC0 := Lib.hid HC
  clear hat en ep en0 ep0 en1 ep1 HC HT hp hp0 hp1
  generalize joinsW ws s = J at *
  generalize ws.length = len at *
  by_cases hbad : s ≤ 0 ∨ ¬ s < (len : Int) ∨ 0 ≤ n ∨ n0 < 0
  · have HJ2 : Hid (J = []) := Lib.hid (by rw [HJ.out, if_pos hbad])
    have hw : s < 1 ∨ (1 ≤ s ∧ (len : Int) ≤ s) ∨ (1 ≤ s ∧ s < (len : Int) ∧ 0 ≤ n) ∨ (1 ≤ s ∧ s < (len : Int) ∧ n < 0 ∧ n0 < 0) := by omega
    clear HJ hbad H1
    rcases hw with h1 | ⟨h1, h2⟩ | ⟨h1, h2, h3⟩ | ⟨h1, h2, h3, h4⟩
    all_goals
      go_enter Try.func70, Try.ntmps70
      go_wp2_with fail
      refine HC0.out.mono ?_
      rintro e w1 ⟨rfl, hb1⟩
      go_wp2_with fail
      refine (H0.out _ hb1).mono ?_
      rintro e w2 ⟨rfl, hb2⟩
      have hB2 := Below.next hb1 hb2
      clear hb1 hb2
      go_wp2
      go_ret
      rw [HJ2.out]
      exact OpsNew.nil hB2
  · have h1 : 1 ≤ s := by omega
    have h2 : n < 0 := by omega
    have h3 : 0 ≤ n0 := by omega
    have h4 : s < (len : Int) := by omega
    rw [if_neg hbad] at HJ
    clear hbad
    by_cases hz : n0 = 0
    · rw [if_pos hz] at HJ
      subst hz
      clear H1
      go_enter Try.func70, Try.ntmps70
      go_wp2_with fail
      refine HC0.out.mono ?_
      rintro e w1 ⟨rfl, hb1⟩
      go_wp2_with fail
      refine (H0.out _ hb1).mono ?_
      rintro e w2 ⟨rfl, hb2⟩
      have hB2 := Below.next hb1 hb2
      clear hb1 hb2
      go_wp2_with fail
      refine (rfset_any _ _ _ _).mono ?_
      rintro e w3 ⟨rfl, hb3⟩
      go_wp2_with fail
      refine (rfset_any _ _ _ _).mono ?_
      rintro e w4 ⟨rfl, hb4⟩
      have HB := Lib.hid (Below.next (Below.next hB2 hb3) hb4)
      clear hB2 hb3 hb4
      go_wp2
      go_ret
      rw [HJ.out]
      exact OpsNew.made rfl (by simp) HB.out rfl
    · rw [if_neg hz] at HJ
      have hzb : (n0 == 0) = false := by rw [beq_eq_false_iff_ne]; exact hz
      go_enter Try.func70, Try.ntmps70
      go_wp2_with fail
      refine HC0.out.mono ?_
      rintro e w1 ⟨rfl, hb1⟩
      go_wp2_with fail
      refine (H0.out _ hb1).mono ?_
      rintro e w2 ⟨rfl, hb2⟩
      have hB2 := Below.next hb1 hb2
      clear hb1 hb2
      go_wp2_with fail
      refine (H1.out _ hB2).mono ?_
      rintro e w3 ⟨rfl, hb3⟩
      have hB3 := Below.next hB2 hb3
      clear hb3 hB2
      go_wp2_with fail
      refine (rfset_any _ _ _ _).mono ?_
      rintro e w4 ⟨rfl, hb4⟩
      go_wp2_with fail
      refine (rfset_any _ _ _ _).mono ?_
      rintro e w5 ⟨rfl, hb5⟩
      go_wp2_with fail
      refine (rfset_any _ _ _ _).mono ?_
      rintro e w6 ⟨rfl, hb6⟩
      have HB := Lib.hid (Below.next (Below.next (Below.next hB3 hb4) hb5) hb6)
      clear hb4 hb5 hb6 hB3
      go_wp2
      go_ret
      rw [HJ.out]
      exact OpsNew.made rfl (by simp) HB.out rfl
end Go.Proofs.Ytkoelbdmpnelhaa
