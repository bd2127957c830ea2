/- ring's Joins and Cuts, by contract: operations in memory. -/
import Derived.Test.YtkoelbdmpnelhaaRingChk
import Derived.Test.YtkoelbdmpnelhaaBx
import Derived.Deep.RegionHeld3
namespace Go.Proofs.Ytkoelbdmpnelhaa
open Go.RowKit

/-- An operation on the ring, as a value, and cell by cell. -/
def cellO (o : OpT) : List Value := [.int .i64 12, .int .i64 o.1, .int .i64 0, .int .i64 o.2.1, .int .i64 o.2.2, .int .u64 0, .slice none 0 0, .int .u64 0, .slice none 0 0, .int .u64 0]
theorem rset_any (a n m : Int) (w : World) : Calls Try.prog 133 #[.int .i64 a, .int .i64 n, .int .i64 m] w fun e w' => e = .returned (.agg #[.int .i64 12, .int .i64 a, .int .i64 0, .int .i64 n, .int .i64 m, .int .u64 0, .slice none 0 0, .int .u64 0, .slice none 0 0, .int .u64 0]) ∧ Below w.heap.size w w' := by
  go_enter Try.func133, Try.ntmps133
  go_wp2
  exact bodyPost_ret (v := .agg #[.int .i64 12, .int .i64 a, .int .i64 0, .int .i64 n, .int .i64 m, .int .u64 0, .slice none 0 0, .int .u64 0, .slice none 0 0, .int .u64 0]) (by simp [results, Try.results133, go_sem]) rfl ⟨rfl, by go_grown⟩

/-- Operations in memory, in blocks from n on and below B. -/
def RdO (w : World) (n B : Nat) (A : Option Addr) (L : List OpT) : Prop := ∀ k o, L[k]? = some o → ∃ b off, A = some ⟨b, off, none⟩ ∧ n ≤ b ∧ b < B ∧ ∀ j v, (cellO o)[j]? = some v → w.cell? ⟨b, off + k * 10 + j, none⟩ = some v
def cellsO (L : List OpT) : List Value := L.flatMap cellO
theorem cellO_len (o : OpT) : (cellO o).length = 10 := rfl
theorem cellsO_len (L : List OpT) : (cellsO L).length = L.length * 10 := by
  induction L with
  | nil => rfl
  | cons a r ih =>
    show (cellO a ++ cellsO r).length = _
    rw [List.length_append, ih, cellO_len, List.length_cons]
    omega
theorem cellsO_at : ∀ (L : List OpT) (k : Nat) (o : OpT) (j : Nat) (v : Value), L[k]? = some o → (cellO o)[j]? = some v → (cellsO L)[k * 10 + j]? = some v
  | a :: r, 0, o, j, v, h, hj => by
    simp at h
    subst h
    show (cellO a ++ cellsO r)[0 * 10 + j]? = _
    rw [Nat.zero_mul, Nat.zero_add, List.getElem?_append_left (List.getElem?_eq_some_iff.1 hj).1]
    exact hj
  | a :: r, k + 1, o, j, v, h, hj => by
    have := cellsO_at r k o j v (by simpa using h) hj
    show (cellO a ++ cellsO r)[(k + 1) * 10 + j]? = _
    rw [List.getElem?_append_right (by rw [cellO_len]; omega), cellO_len, show (k + 1) * 10 + j - 10 = k * 10 + j by omega]
    exact this
theorem cellsO_one (L : List OpT) : ∀ u ∈ cellsO L, u.oneCell' = true := by
  intro u hu
  obtain ⟨o, _, ho⟩ := List.mem_flatMap.1 hu
  simp only [cellO, List.mem_cons, List.not_mem_nil, or_false] at ho
  rcases ho with rfl | rfl | rfl | rfl | rfl | rfl | rfl | rfl | rfl | rfl <;> rfl
section
variable {w w' : World} {n B : Nat} {A : Option Addr} {L : List OpT}
theorem RdO.below (h : RdO w n B A L) (hb : Below B w w') : RdO w' n B A L := fun k o ho => by
  obtain ⟨b, off, e1, e2, e3, e4⟩ := h k o ho
  exact ⟨b, off, e1, e2, e3, fun j v hj => (hb.cell (p := ⟨b, off + k * 10 + j, none⟩) e3).trans (e4 j v hj)⟩
theorem RdO.more (h : RdO w n B A L) {n' B' : Nat} (hn : n' ≤ n) (hB : B ≤ B') : RdO w n' B' A L := fun k o ho => by
  obtain ⟨b, off, e1, e2, e3, e4⟩ := h k o ho
  exact ⟨b, off, e1, by omega, by omega, e4⟩
theorem RdO.of_own {base c m : Nat} (h : w.ownsRow base 106 10 (.slice A m c) m (cellsO L)) (hm : L.length = m) : RdO w base w.heap.size A L := fun k o ho => by
  have hk : k < L.length := (List.getElem?_eq_some_iff.1 ho).1
  rcases h.2 with ⟨_, h0⟩ | ⟨g, cap, cur, hv, hg, hh, _, _, _, hx⟩
  · omega
  · injection hv with hv _ _
    subst hv
    refine ⟨g, 0, rfl, hg, (Array.getElem?_eq_some_iff.1 hh).1, fun j v hj => ?_⟩
    have hj10 : j < 10 := by have := (List.getElem?_eq_some_iff.1 hj).1; rwa [cellO_len] at this
    rw [Nat.zero_add, cell_of_row _ _ (k * 10 + j) _ _ (0, 0) hh, ← cellsO_at L k o j v ho hj, ← hx, List.getElem?_take, if_pos (by omega), Array.getElem?_toList]
end
/-- Operations that a call leaves, in memory of its own. -/
def OpsNew (L : List OpT) (w : World) (e : Ending) (w' : World) : Prop := ∃ A c, e = .returned (.slice A L.length c) ∧ L.length ≤ c ∧ RdO w' w.heap.size w'.heap.size A L ∧ Below w.heap.size w w'
theorem OpsNew.nil {w w' : World} (hb : Below w.heap.size w w') : OpsNew [] w (.returned (.slice none 0 0)) w' := ⟨none, 0, rfl, Nat.le_refl _, fun k o h => by simp at h, hb⟩
theorem OpsNew.of_own {L : List OpT} {w w' : World} {v : Value} (h : w'.ownsRow w.heap.size 106 10 v L.length (cellsO L)) (hb : Below w.heap.size w w') : OpsNew L w (.returned v) w' := by
  obtain ⟨A, c, rfl, hc, _⟩ := ownSlice h
  exact ⟨A, c, rfl, hc, RdO.of_own h rfl, hb⟩
theorem own_row {W : World} {g : Nat} {L : List OpT} {base : Nat} (hb : base ≤ g) (hl : L.length ≤ 1000) (hh : W.heap[g]? = some (.cells (cellsO L).toArray 106 (0, 0))) : W.ownsRow base 106 10 (.slice (some ⟨g, 0, none⟩) L.length L.length) L.length (cellsO L) := by
  refine ⟨cellsO_len L, .inr ⟨g, L.length, _, rfl, hb, hh, Nat.le_refl _, by unfold maxLen; omega, by simp [cellsO_len], ?_⟩⟩
  rw [List.toList_toArray, List.take_of_length_le (by rw [cellsO_len]; omega)]
theorem info_op : (Try.prog.info? 106).map (fun i => (i.zero, i.size, i.bytes)) = some (some (.agg #[.int .i64 0, .int .i64 0, .int .i64 0, .int .i64 0, .int .i64 0, .int .u64 0, .slice none 0 0, .int .u64 0, .slice none 0 0, .int .u64 0]), 10, 112) := by kernel_rfl

theorem one_row (w3 : World) (a n m : Int) {base : Nat} (hb : base ≤ w3.heap.size) {W4 : World} (h4 : Below (w3.alloc (.cells #[.int .i64 12, .int .i64 a, .int .i64 0, .int .i64 n, .int .i64 m, .int .u64 0, .slice none 0 0, .int .u64 0, .slice none 0 0, .int .u64 0] 106)).heap.size (w3.alloc (.cells #[.int .i64 12, .int .i64 a, .int .i64 0, .int .i64 n, .int .i64 m, .int .u64 0, .slice none 0 0, .int .u64 0, .slice none 0 0, .int .u64 0] 106)) W4) :
    W4.ownsRow base 106 10 (.slice (some ⟨w3.heap.size, 0, none⟩) 1 1) 1 (cellsO [(a, n, m)]) :=
  own_row (L := [(a, n, m)]) hb (by simp) ((h4.block _ (by simp)).trans (heap_alloc_last w3 _))
theorem news_one (w4 : World) (a n m : Int) : ∀ j u, (cellsO [(a, n, m)])[j]? = some u → (w4.alloc (.cells #[.int .i64 12, .int .i64 a, .int .i64 0, .int .i64 n, .int .i64 m, .int .u64 0, .slice none 0 0, .int .u64 0, .slice none 0 0, .int .u64 0] 106)).cell? (Addr.add ⟨w4.heap.size, 0, none⟩ j) = some u :=
  World.news_of_block (cs := (cellsO [(a, n, m)]).toArray) (t := 106) (fr := (0, 0)) (heap_alloc_last w4 _)
theorem news_two (w4 : World) (a n m b k l : Int) : ∀ j u, (cellsO [(a, n, m), (b, k, l)])[j]? = some u → (w4.alloc (.cells #[.int .i64 12, .int .i64 a, .int .i64 0, .int .i64 n, .int .i64 m, .int .u64 0, .slice none 0 0, .int .u64 0, .slice none 0 0, .int .u64 0, .int .i64 12, .int .i64 b, .int .i64 0, .int .i64 k, .int .i64 l, .int .u64 0, .slice none 0 0, .int .u64 0, .slice none 0 0, .int .u64 0] 106)).cell? (Addr.add ⟨w4.heap.size, 0, none⟩ j) = some u :=
  World.news_of_block (cs := (cellsO [(a, n, m), (b, k, l)]).toArray) (t := 106) (fr := (0, 0)) (heap_alloc_last w4 _)

set_option maxRecDepth 100000 in
set_option maxHeartbeats 2000000 in
theorem rJoins_c {ws : List Int} {c : Nat} {A : Option Addr} {w : World} (hT : AtC ws c A w) (s : Int) : Calls Try.prog 69 #[.slice A ws.length c, .int .i64 s] w (OpsNew (joinsW ws s) w) := by
  obtain ⟨i0, hi0, hz0, hz1, hz2⟩ := info_parts info_op
  have HT := Lib.hid hT
  clear hT
  obtain ⟨n, p, en, ep, hn, hp, HC⟩ := HT.out w (Below.refl _ _) s
  obtain ⟨n0, p0, en0, ep0, hn0, hp0, _⟩ := HT.out w (Below.refl _ _) 0
  obtain ⟨n1, p1, en1, ep1, hn1, hp1, _⟩ := HT.out w (Below.refl _ _) n0
  have hat : ∀ (x a b : Int), NW ws x = a → PW ws x = b → Hid (∀ W, Below w.heap.size w W → Calls Try.prog 59 #[.slice A ws.length c, .int .i64 x] W fun e w' => e = .returned (.tuple #[.int .i64 a, .int .i64 b]) ∧ Below W.heap.size W w') := fun x a b ha hb => Lib.hid fun W hW => by
    obtain ⟨a', b', ea, eb, _, _, h⟩ := HT.out W hW x
    rw [← ha, ← hb, ea, eb]
    exact h
  have H0 := hat 0 n0 p0 en0 ep0
  have H1 := hat n0 n1 p1 en1 ep1
  have HH := Lib.hid (fun W => rHas_any ws.length c A s W)
  have HJ : Hid (joinsW ws s = if s ≤ 0 ∨ ¬ s < ws.length ∨ 0 ≤ n ∨ n0 < 0 then [] else if n0 = 0 then [(s, 0, 0), (0, s, s)] else [(s, n0, 0), (n0, n1, s), (0, s, p0)]) := Lib.hid (by unfold joinsW; rw [en, en0, en1, ep0])
  have HC0 := Lib.hid HC
  clear hat en ep en0 ep0 en1 ep1 HC HT hp hp0 hp1
  generalize joinsW ws s = J at *
  generalize ws.length = len at *
  by_cases hbad : s ≤ 0 ∨ ¬ s < (len : Int) ∨ 0 ≤ n ∨ n0 < 0
  · have HJ2 : Hid (J = []) := Lib.hid (by rw [HJ.out, if_pos hbad])
    have hw : s ≤ 0 ∨ (0 < s ∧ Hid (decide (0 ≤ s ∧ s < (len : Int)) = false)) ∨ (0 < s ∧ Hid (decide (0 ≤ s ∧ s < (len : Int)) = true) ∧ 0 ≤ n) ∨ (0 < s ∧ Hid (decide (0 ≤ s ∧ s < (len : Int)) = true) ∧ n < 0 ∧ n0 < 0) := by
      by_cases h1 : s ≤ 0
      · exact .inl h1
      · by_cases h2 : s < (len : Int)
        · have hd : decide (0 ≤ s ∧ s < (len : Int)) = true := decide_eq_true (by omega)
          by_cases h3 : 0 ≤ n
          · exact .inr (.inr (.inl ⟨by omega, hd, h3⟩))
          · exact .inr (.inr (.inr ⟨by omega, hd, by omega, by omega⟩))
        · exact .inr (.inl ⟨by omega, decide_eq_false (by omega)⟩)
    clear HJ hbad
    rcases hw with h1 | ⟨h1, HD⟩ | ⟨h1, HD, h2⟩ | ⟨h1, HD, h2, h3⟩
    · clear HH H1
      go_enter Try.func69, Try.ntmps69
      go_wp2_with fail
      refine HC0.out.mono ?_
      rintro e w1 ⟨rfl, hb1⟩
      go_wp2_with fail
      refine (H0.out _ hb1).mono ?_
      rintro e w2 ⟨rfl, hb2⟩
      have hB2 := Below.next hb1 hb2
      clear hb1 hb2
      go_wp2
      go_ret
      rw [HJ2.out]
      exact OpsNew.nil hB2
    all_goals
      rw [HD.out] at HH
      clear H1 HD
      go_enter Try.func69, Try.ntmps69
      go_wp2_with fail
      refine HC0.out.mono ?_
      rintro e w1 ⟨rfl, hb1⟩
      go_wp2_with fail
      refine (H0.out _ hb1).mono ?_
      rintro e w2 ⟨rfl, hb2⟩
      have hB2 := Below.next hb1 hb2
      clear hb1 hb2
      go_wp2_with fail
      refine (HH.out _).mono ?_
      rintro e w3 ⟨rfl, rfl⟩
      go_wp2
      go_ret
      rw [HJ2.out]
      exact OpsNew.nil hB2
  · have hd : decide (0 ≤ s ∧ s < (len : Int)) = true := decide_eq_true (by omega)
    rw [hd] at HH
    have h1 : 0 < s := by omega
    have h2 : n < 0 := by omega
    have h3 : 0 ≤ n0 := by omega
    rw [if_neg hbad] at HJ
    clear hd hbad
    by_cases hz : n0 = 0
    · rw [if_pos hz] at HJ
      subst hz
      clear H1
      go_enter Try.func69, Try.ntmps69
      go_wp2_with fail
      refine HC0.out.mono ?_
      rintro e w1 ⟨rfl, hb1⟩
      go_wp2_with fail
      refine (H0.out _ hb1).mono ?_
      rintro e w2 ⟨rfl, hb2⟩
      have hB2 := Below.next hb1 hb2
      clear hb1 hb2
      go_wp2_with fail
      refine (HH.out _).mono ?_
      rintro e w3 ⟨rfl, rfl⟩
      go_wp2_with fail
      refine (rset_any _ _ _ _).mono ?_
      rintro e w3 ⟨rfl, hb3⟩
      have hB3 := Below.next hB2 hb3
      clear hb3 hB2
      have hs3 := hB3.size
      go_wp2_with fail
      refine (rset_any _ _ _ _).mono ?_
      rintro e w4 ⟨rfl, hb4⟩
      have HROW := Lib.hid (one_row w3 s 0 0 hs3 hb4)
      have hB4 : Below w.heap.size w w4 := (hB3.alloc hs3 _).trans (hb4.mono (by simp; omega))
      clear hb4 hB3
      go_wp2_with (at_builtin; refine wpList_append_own _ rfl _ _ 89 rfl w.heap.size 106 i0 _ 10 112 Try.underlying89 hi0 hz0 hz1 hz2 rfl (by decide) _ _ _ rfl (HROW.out.alloc _) ⟨w4.heap.size, 0, none⟩ 1 1 (cellsO [(0, s, s)]) rfl ?c1 (news_one w4 0 s s) (cellsO_one _) ?c3 ?c4 ?c5 ?_)
      case c1 => rfl
      case c3 => unfold maxLen; omega
      case c4 => omega
      case c5 => simp; have := hB4.size; omega
      intro v' w5 hown5 hgrow _
      have hB5 := ownBase (HROW.out.alloc (.cells #[.int .i64 12, .int .i64 0, .int .i64 0, .int .i64 s, .int .i64 s, .int .u64 0, .slice none 0 0, .int .u64 0, .slice none 0 0, .int .u64 0] 106)) (hB4.alloc hB4.size _) (Nat.le_refl _) (by simp; have := hB4.size; omega) hgrow
      have HO : Hid (OpsNew J w (.returned v') w5) := Lib.hid (by rw [HJ.out]; exact OpsNew.of_own hown5 hB5)
      clear hown5 hgrow hB5 HROW
      go_wp2
      go_ret
      exact HO.out
    · rw [if_neg hz] at HJ
      have hzb : (n0 == 0) = false := by rw [beq_eq_false_iff_ne]; exact hz
      go_enter Try.func69, Try.ntmps69
      go_wp2_with fail
      refine HC0.out.mono ?_
      rintro e w1 ⟨rfl, hb1⟩
      go_wp2_with fail
      refine (H0.out _ hb1).mono ?_
      rintro e w2 ⟨rfl, hb2⟩
      have hB2 := Below.next hb1 hb2
      clear hb1 hb2
      go_wp2_with fail
      refine (HH.out _).mono ?_
      rintro e w3 ⟨rfl, rfl⟩
      go_wp2_with fail
      refine (rset_any _ _ _ _).mono ?_
      rintro e w3 ⟨rfl, hb3⟩
      have hB3 := Below.next hB2 hb3
      clear hb3 hB2
      have hs3 := hB3.size
      go_wp2_with fail
      refine (H1.out _ (hB3.alloc hs3 _)).mono ?_
      rintro e wa ⟨rfl, hba⟩
      go_wp2_with fail
      refine (rset_any _ _ _ _).mono ?_
      rintro e wb ⟨rfl, hbb⟩
      have hbc := Below.next hba hbb
      clear hba hbb
      go_wp2_with fail
      refine (rset_any _ _ _ _).mono ?_
      rintro e w4 ⟨rfl, hb4'⟩
      have hb4 := Below.next hbc hb4'
      clear hbc hb4'
      have HROW := Lib.hid (one_row w3 s n0 0 hs3 hb4)
      have hB4 : Below w.heap.size w w4 := (hB3.alloc hs3 _).trans (hb4.mono (by simp; omega))
      clear hb4 hB3
      go_wp2_with (at_builtin; refine wpList_append_own _ rfl _ _ 89 rfl w.heap.size 106 i0 _ 10 112 Try.underlying89 hi0 hz0 hz1 hz2 rfl (by decide) _ _ _ rfl (HROW.out.alloc _) ⟨w4.heap.size, 0, none⟩ 2 2 (cellsO [(n0, n1, s), (0, s, p0)]) rfl ?c1 (news_two w4 n0 n1 s 0 s p0) (cellsO_one _) ?c3 ?c4 ?c5 ?_)
      case c1 => rfl
      case c3 => unfold maxLen; omega
      case c4 => omega
      case c5 => simp; have := hB4.size; omega
      intro v' w5 hown5 hgrow _
      have hB5 := ownBase (HROW.out.alloc (.cells #[.int .i64 12, .int .i64 n0, .int .i64 0, .int .i64 n1, .int .i64 s, .int .u64 0, .slice none 0 0, .int .u64 0, .slice none 0 0, .int .u64 0, .int .i64 12, .int .i64 0, .int .i64 0, .int .i64 s, .int .i64 p0, .int .u64 0, .slice none 0 0, .int .u64 0, .slice none 0 0, .int .u64 0] 106)) (hB4.alloc hB4.size _) (Nat.le_refl _) (by simp; have := hB4.size; omega) hgrow
      have HO : Hid (OpsNew J w (.returned v') w5) := Lib.hid (by rw [HJ.out]; exact OpsNew.of_own hown5 hB5)
      clear hown5 hgrow hB5 HROW
      go_wp2
      go_ret
      exact HO.out
end Go.Proofs.Ytkoelbdmpnelhaa
