/- ring's Cuts, by contract. -/
import Derived.Test.YtkoelbdmpnelhaaRingOps
namespace Go.Proofs.Ytkoelbdmpnelhaa
open Go.RowKit

/-- A box that holds the operation, in a world and in those that follow it. -/
def BoxO (W : World) (D : Nat) (a n m : Int) : Prop := W.cell? ⟨D, 0, none⟩ = some (.int .i64 12) ∧ W.cell? ⟨D, 1, none⟩ = some (.int .i64 a) ∧ W.cell? ⟨D, 2, none⟩ = some (.int .i64 0) ∧ W.cell? ⟨D, 3, none⟩ = some (.int .i64 n) ∧ W.cell? ⟨D, 4, none⟩ = some (.int .i64 m) ∧
  W.cell? ⟨D, 5, none⟩ = some (.int .u64 0) ∧ W.cell? ⟨D, 6, none⟩ = some (.slice none 0 0) ∧ W.cell? ⟨D, 7, none⟩ = some (.int .u64 0) ∧ W.cell? ⟨D, 8, none⟩ = some (.slice none 0 0) ∧ W.cell? ⟨D, 9, none⟩ = some (.int .u64 0)
theorem BoxO.new (W : World) (a n m : Int) {W' : World} (hb : Below (W.alloc (.cells #[.int .i64 12, .int .i64 a, .int .i64 0, .int .i64 n, .int .i64 m, .int .u64 0, .slice none 0 0, .int .u64 0, .slice none 0 0, .int .u64 0] 106)).heap.size (W.alloc (.cells #[.int .i64 12, .int .i64 a, .int .i64 0, .int .i64 n, .int .i64 m, .int .u64 0, .slice none 0 0, .int .u64 0, .slice none 0 0, .int .u64 0] 106)) W') : BoxO W' W.heap.size a n m :=
  have h := (Bx.new W (cellO (a, n, m)) 106).below hb
  ⟨h.c 0 _ rfl, h.c 1 _ rfl, h.c 2 _ rfl, h.c 3 _ rfl, h.c 4 _ rfl, h.c 5 _ rfl, h.c 6 _ rfl, h.c 7 _ rfl, h.c 8 _ rfl, h.c 9 _ rfl⟩
theorem OpsNew.made {w W : World} {L : List OpT} {e : Ending} {o : Obj} (ho : o = .cells (cellsO L).toArray 106) (hl : L.length ≤ 1000) (hb : Below w.heap.size w W) (he : e = .returned (.slice (some ⟨W.heap.size, 0, none⟩) L.length L.length)) : OpsNew L w e (W.alloc o) := by
  subst ho
  rw [he]
  exact OpsNew.of_own (own_row hb.size hl (heap_alloc_last W _)) (hb.alloc hb.size _)
set_option maxRecDepth 100000 in
set_option maxHeartbeats 4000000 in
theorem rCuts_c {ws : List Int} {c : Nat} {A : Option Addr} {w : World} (hT : AtC ws c A w) (s : Int) : Calls Try.prog 71 #[.slice A ws.length c, .int .i64 s] w (OpsNew (cutsW ws s) w) := by
  have HT := Lib.hid hT
  clear hT
  obtain ⟨n, p, en, ep, hn, hp, HC⟩ := HT.out w (Below.refl _ _) s
  obtain ⟨n1, q1, en1, eq1, _, _, _⟩ := HT.out w (Below.refl _ _) n
  obtain ⟨q2, p1, eq2, ep1, _, _, _⟩ := HT.out w (Below.refl _ _) p
  have hat : ∀ (x a b : Int), NW ws x = a → PW ws x = b → Hid (∀ W, Below w.heap.size w W → Calls Try.prog 59 #[.slice A ws.length c, .int .i64 x] W fun e w' => e = .returned (.tuple #[.int .i64 a, .int .i64 b]) ∧ Below W.heap.size W w') := fun x a b ha hb => Lib.hid fun W hW => by
    obtain ⟨a', b', ea, eb, _, _, h⟩ := HT.out W hW x
    rw [← ha, ← hb, ea, eb]
    exact h
  have H1 := hat n n1 q1 en1 eq1
  have H2 := hat p q2 p1 eq2 ep1
  have HJ : Hid (cutsW ws s = if s ≤ 0 ∨ n < 0 ∨ p < 0 then [] else if n = p then [(p, n, n), (s, -1, -1)] else [(p, n, p1), (n, n1, p), (s, -1, -1)]) := Lib.hid (by unfold cutsW; rw [en, ep, ep1, en1])
  have HC0 := Lib.hid HC
  clear hat en ep en1 eq1 eq2 ep1 HC HT
  generalize cutsW ws s = J at *
  generalize ws.length = len at *
  by_cases hbad : s ≤ 0 ∨ n < 0 ∨ p < 0
  · have HJ2 : Hid (J = []) := Lib.hid (by rw [HJ.out, if_pos hbad])
    have hw : s ≤ 0 ∨ (0 < s ∧ n < 0) ∨ (0 < s ∧ 0 ≤ n ∧ p < 0) := by omega
    clear HJ hbad H1 H2
    rcases hw with h1 | ⟨h1, h2⟩ | ⟨h1, h2, h3⟩
    all_goals
      go_enter Try.func71, Try.ntmps71
      go_wp2_with fail
      refine HC0.out.mono ?_
      rintro e w1 ⟨rfl, hb1⟩
      go_wp2
      go_ret
      rw [HJ2.out]
      exact OpsNew.nil hb1
  · rw [if_neg hbad] at HJ
    have h1 : 0 < s := by omega
    have h2 : 0 ≤ n := by omega
    have h3 : 0 ≤ p := by omega
    clear hbad
    by_cases hz : n = p
    · subst hz
      rw [if_pos rfl] at HJ
      clear H1 H2
      go_enter Try.func71, Try.ntmps71
      go_wp2_with fail
      refine HC0.out.mono ?_
      rintro e w1 ⟨rfl, hb1⟩
      go_wp2_with fail
      refine (rset_any _ _ _ _).mono ?_
      rintro e w2 ⟨rfl, hb2⟩
      have hB2 := Below.next hb1 hb2
      clear hb1 hb2
      have HALL := Lib.hid (fun W hb => (⟨hb, BoxO.new w2 s (-1) (-1) hb⟩ : Below _ _ W ∧ BoxO W w2.heap.size s (-1) (-1)))
      have HB0 := Lib.hid (hB2.alloc hB2.size (.cells #[.int .i64 12, .int .i64 s, .int .i64 0, .int .i64 (-1), .int .i64 (-1), .int .u64 0, .slice none 0 0, .int .u64 0, .slice none 0 0, .int .u64 0] 106))
      clear hB2
      go_upto_region 6 with (fail)
      obtain ⟨X, hX⟩ : ∃ X, X = w2.alloc (.cells #[.int .i64 12, .int .i64 s, .int .i64 0, .int .i64 (-1), .int .i64 (-1), .int .u64 0, .slice none 0 0, .int .u64 0, .slice none 0 0, .int .u64 0] 106) := ⟨_, rfl⟩
      rw [← hX] at HALL HB0 ⊢
      clear hX
      generalize w2.heap.size = D at *
      unfold BoxO at HALL
      have hX0 := Below.refl X.heap.size X
      go_region_held3 (fun W => Below X.heap.size X W ∧ W.cell? ⟨D, 0, none⟩ = some (.int .i64 12) ∧ W.cell? ⟨D, 1, none⟩ = some (.int .i64 s) ∧ W.cell? ⟨D, 2, none⟩ = some (.int .i64 0) ∧ W.cell? ⟨D, 3, none⟩ = some (.int .i64 (-1)) ∧ W.cell? ⟨D, 4, none⟩ = some (.int .i64 (-1)) ∧
          W.cell? ⟨D, 5, none⟩ = some (.int .u64 0) ∧ W.cell? ⟨D, 6, none⟩ = some (.slice none 0 0) ∧ W.cell? ⟨D, 7, none⟩ = some (.int .u64 0) ∧ W.cell? ⟨D, 8, none⟩ = some (.slice none 0 0) ∧ W.cell? ⟨D, 9, none⟩ = some (.int .u64 0))
        (with_reducible first | assumption | exact HALL.out _ (by assumption) | exact HALL.out _ (Below.drew (by assumption)) | exact HALL.out _ (And.left (by assumption)) | exact HALL.out _ (Below.drew (And.left (by assumption))) | exact HALL.out _ (Below.next (And.left (by assumption)) (by assumption)) | exact HALL.out _ (Below.alloc (And.left (by assumption)) (Below.size (And.left (by assumption))) _))
        (first | (go_at_call 133; (with_reducible refine Calls.mono (rset_any _ _ _ _) ?_); rintro e W1 ⟨rfl, hbN⟩))
      all_goals
        have hBW := Below.next (Below.drew HB0.out) hbN
        have HBW := Lib.hid hBW
        clear hBW hbN hX0 HALL
        try clear hHeld
        go_wp2
        go_ret
        rw [HJ.out]
        exact OpsNew.made rfl (by simp) HBW.out rfl
    · rw [if_neg hz] at HJ
      have hzb : (n == p) = false := by rw [beq_eq_false_iff_ne]; exact hz
      go_enter Try.func71, Try.ntmps71
      go_wp2_with fail
      refine HC0.out.mono ?_
      rintro e w1 ⟨rfl, hb1⟩
      go_wp2_with fail
      refine (rset_any _ _ _ _).mono ?_
      rintro e w2 ⟨rfl, hb2⟩
      have hB2 := Below.next hb1 hb2
      clear hb1 hb2
      have HALL0 := Lib.hid (fun W hb => BoxO.new w2 s (-1) (-1) (W' := W) hb)
      have hB3 := hB2.alloc hB2.size (.cells #[.int .i64 12, .int .i64 s, .int .i64 0, .int .i64 (-1), .int .i64 (-1), .int .u64 0, .slice none 0 0, .int .u64 0, .slice none 0 0, .int .u64 0] 106)
      go_wp2_with fail
      refine (H1.out _ hB3).mono ?_
      rintro e w3 ⟨rfl, hb4⟩
      have hB4 := Below.next hB3 hb4
      go_wp2_with fail
      refine (H2.out _ hB4).mono ?_
      rintro e X ⟨rfl, hb5⟩
      have HB0 := Lib.hid (Below.next hB4 hb5)
      have hX0 := Below.next hb4 hb5
      have HALL := Lib.hid (fun W (hb : Below X.heap.size X W) => (⟨hb, HALL0.out W (Below.next hX0 hb)⟩ : Below X.heap.size X W ∧ BoxO W w2.heap.size s (-1) (-1)))
      clear hb4 hb5 hB4 hX0 hB3 HALL0 hB2
      generalize w2.heap.size = D at *
      unfold BoxO at HALL
      have hX0 := Below.refl X.heap.size X
      go_upto_region 9 with (fail)
      go_region_held3 (fun W => Below X.heap.size X W ∧ W.cell? ⟨D, 0, none⟩ = some (.int .i64 12) ∧ W.cell? ⟨D, 1, none⟩ = some (.int .i64 s) ∧ W.cell? ⟨D, 2, none⟩ = some (.int .i64 0) ∧ W.cell? ⟨D, 3, none⟩ = some (.int .i64 (-1)) ∧ W.cell? ⟨D, 4, none⟩ = some (.int .i64 (-1)) ∧
          W.cell? ⟨D, 5, none⟩ = some (.int .u64 0) ∧ W.cell? ⟨D, 6, none⟩ = some (.slice none 0 0) ∧ W.cell? ⟨D, 7, none⟩ = some (.int .u64 0) ∧ W.cell? ⟨D, 8, none⟩ = some (.slice none 0 0) ∧ W.cell? ⟨D, 9, none⟩ = some (.int .u64 0))
        (with_reducible first | assumption | exact HALL.out _ (by assumption) | exact HALL.out _ (Below.drew (by assumption)) | exact HALL.out _ (And.left (by assumption)) | exact HALL.out _ (Below.drew (And.left (by assumption))) | exact HALL.out _ (Below.next (And.left (by assumption)) (by assumption)) | exact HALL.out _ (Below.alloc (And.left (by assumption)) (Below.size (And.left (by assumption))) _))
        (first | (go_at_call 133; (with_reducible refine Calls.mono (rset_any _ _ _ _) ?_); rintro e W1 ⟨rfl, hbN⟩))
      all_goals
        have hBW : Below w.heap.size w W1 := by
          refine Below.next ?_ hbN
          exact Below.next (Below.drew HB0.out) (by assumption)
        have HBW := Lib.hid hBW
        clear hBW hbN hX0 HALL
        go_wp2
        go_ret
        rw [HJ.out]
        exact OpsNew.made rfl (by simp) HBW.out rfl
end Go.Proofs.Ytkoelbdmpnelhaa
