/- What the laws of exact ask first: the answers at three written-out items. -/
import Derived.Test.YtajmnhnepoomjaaExWithin
namespace Go.Proofs.Ytajmnhnepoomjaa
open Go.RowKit Go.Shelf Go.Sort Go.Lib

set_option maxHeartbeats 1000000 in
theorem SameH_refl (A B : Option Addr) (zs : List HitT) (c d : Nat) (w : World) (hA : RdH w w.heap.size A zs) (hB : RdH w w.heap.size B zs) (hl : zs.length ≤ 9223372036854775807) :
    Calls Try.prog 14 #[.slice A zs.length c, .slice B zs.length d] w fun e w' => e = .returned (.bool true) ∧ Drawn w w' := by
  go_enter Try.func14, Try.ntmps14
  go_wp2
  go_loopw [13] (fun i wr => ∃ k : Nat, k ≤ zs.length ∧ i = .int .i64 k ∧ Drawn w wr) (fun i _ => zs.length - (intOf i).toNat)
  case atStart => exact ⟨0, Nat.zero_le _, rfl, Drawn.refl⟩
  case round =>
    obtain ⟨k, hk, rfl, hdr⟩ := hrel
    by_cases hlt : k < zs.length
    · obtain ⟨b, off, rfl, hb, h0, h1⟩ := hA k _ (List.getElem?_eq_getElem hlt)
      obtain ⟨b', off', rfl, hb', k0, k1⟩ := hB k _ (List.getElem?_eq_getElem hlt)
      rw [← hdr.cell] at h0 h1 k0 k1
      generalize zs[k] = z at *
      have hkl : (k : Int) < (zs.length : Int) := by omega
      have hk0 : (0 : Int) ≤ (k : Int) := by omega
      go_wp2
      go_quiet (fail)
      go_wp2
      go_roundw
      case rel => exact ⟨k + 1, by omega, by go_num, hdr.step _⟩
      case measure => simp [intOf]; omega
    · go_wp2
      go_ret
      exact ⟨rfl, hdr⟩
theorem drawn_below {w w' : World} (h : Drawn w w') : Below w.heap.size w w' := by
  obtain ⟨n, os, rfl⟩ := h
  exact below_draws _ _ _

/-- The written-out items: their vectors lie in the blocks b, b + 1, b + 2. -/
def its13 (b : Nat) : List ItT := [⟨1, some ⟨b, 0, none⟩, [3], 1, 1⟩, ⟨2, some ⟨b + 1, 0, none⟩, [1], 1, 3⟩, ⟨3, some ⟨b + 1 + 1, 0, none⟩, [-2], 1, 2⟩]
theorem its13_len (b : Nat) : (its13 b).length = 3 := rfl
theorem ord13 (b : Nat) : ordH [0] 0 (its13 b) = [(1, 2), (4, 3), (9, 1)] := by
  have h : hitsL [0] 0 (its13 b) = [(9, 1), (1, 2), (4, 3)] := by kernel_rfl
  unfold ordH
  rw [h]
  exact sortH_eq (by decide) (by decide)
theorem ord13b (b : Nat) : ordH [0] 1 (its13 b) = [(1, 2), (9, 1)] := by
  have h : hitsL [0] 1 (its13 b) = [(9, 1), (1, 2)] := by kernel_rfl
  unfold ordH
  rw [h]
  exact sortH_eq (by decide) (by decide)
theorem search13a (b : Nat) : searchL [0] 0 (its13 b) 2 = [(1, 2), (4, 3)] := by unfold searchL; rw [ord13]; rfl
theorem search13b (b : Nat) : searchL [0] 1 (its13 b) 9 = [(1, 2), (9, 1)] := by unfold searchL; rw [ord13b]; rfl
theorem search13c (b : Nat) : searchL [0] 0 (its13 b) (-1) = [] := by unfold searchL; rw [ord13]; rfl
theorem within13 (b : Nat) : withinL [0] 0 (its13 b) 4 = [(1, 2), (4, 3)] := by unfold withinL; rw [ord13]; decide
theorem place13 (b : Nat) : placeN [0] 0 (its13 b) (4, 3) = 1 := by rw [placeN_ord, ord13]; decide

/-- The items, and what is asked for, in memory. -/
structure Lv13 (w W : World) (b : Nat) (A Q : Option Addr) : Prop where
  it : ItemsAt W W.heap.size A (its13 b)
  vq : VecB W W.heap.size Q [0]
  hb : Below w.heap.size w W
section
variable {w W W' : World} {b : Nat} {A Q : Option Addr}
theorem Lv13.grow (h : Lv13 w W b A Q) (hb : Below W.heap.size W W') : Lv13 w W' b A Q := ⟨(h.it.below hb).more hb.size, (h.vq.below hb).more hb.size, Below.next h.hb hb⟩
theorem Lv13.alloc (h : Lv13 w W b A Q) (o : Obj) : Lv13 w (W.alloc o) b A Q := h.grow ((Below.refl _ W).alloc (Nat.le_refl _) o)
theorem Lv13.drew1 (h : Lv13 w W b A Q) : Lv13 w W.drew b A Q := h.grow (below_draws _ 1 _)
theorem Lv13.all (h : Lv13 w W b A Q) : Lv13 w W b A Q ∧ True := ⟨h, trivial⟩
theorem belowD {X Y : World} {B : Nat} (h : Below B X Y) : Below B X Y.drew := h.trans (below_draws _ 1 _)
theorem belowA {X Y : World} (h : Below X.heap.size X Y) (o : Obj) : Below X.heap.size X (Y.alloc o) := h.alloc h.size o
theorem rdH_later {X Y : World} {B : Option Addr} {L : List HitT} (h : RdH X X.heap.size B L) (hb : Below X.heap.size X Y) : RdH Y Y.heap.size B L := (h.below hb).more hb.size
theorem RdH.two13 {g B : Nat} {x y : HitT} (hb : g < B) (h0 : W.cell? ⟨g, 0, none⟩ = some (.int .u64 x.1)) (h1 : W.cell? ⟨g, 1, none⟩ = some (.int .u64 x.2)) (h2 : W.cell? ⟨g, 2, none⟩ = some (.int .u64 y.1)) (h3 : W.cell? ⟨g, 3, none⟩ = some (.int .u64 y.2)) : RdH W B (some ⟨g, 0, none⟩) [x, y] := by
  intro k z hz
  match k, hz with
  | 0, hz => simp at hz; subst hz; exact ⟨g, 0, rfl, hb, h0, h1⟩
  | 1, hz => simp at hz; subst hz; exact ⟨g, 0, rfl, hb, h2, h3⟩
theorem litH_rd {a1 a2 a3 a4 : Int} : RdH (W.alloc (.cells #[.int .u64 a1, .int .u64 a2, .int .u64 a3, .int .u64 a4] 26)) (W.alloc (.cells #[.int .u64 a1, .int .u64 a2, .int .u64 a3, .int .u64 a4] 26)).heap.size (some ⟨W.heap.size, 0, none⟩) [(a1, a2), (a3, a4)] := RdH.two13 (by go_size) (by go_cell) (by go_cell) (by go_cell) (by go_cell)
theorem litH_rdd {a1 a2 a3 a4 : Int} : RdH (W.alloc (.cells #[.int .u64 a1, .int .u64 a2, .int .u64 a3, .int .u64 a4] 26)).drew (W.alloc (.cells #[.int .u64 a1, .int .u64 a2, .int .u64 a3, .int .u64 a4] 26)).drew.heap.size (some ⟨W.heap.size, 0, none⟩) [(a1, a2), (a3, a4)] := RdH.two13 (by go_size) (by go_cell) (by go_cell) (by go_cell) (by go_cell)
/-- What a call tells. -/
def TellsH (n : Nat) (L : List HitT) (W w : World) (b : Nat) (A Q : Option Addr) (e : Ending) (w' : World) : Prop :=
  ∃ S c, e = .returned (.slice S n c) ∧ RdH w' w'.heap.size S L ∧ Lv13 w w' b A Q ∧ Below W.heap.size W w'
def SaysH (v : Value) (w : World) (b : Nat) (A Q : Option Addr) (e : Ending) (w' : World) : Prop := e = .returned v ∧ Lv13 w w' b A Q
def Sk (m k : Int) (n : Nat) (L : List HitT) : Prop := n = L.length ∧ ∀ b, searchL [0] m (its13 b) k = L
theorem sk_a : Sk 0 2 2 [(1, 2), (4, 3)] := ⟨rfl, search13a⟩
theorem sk_b : Sk 1 9 2 [(1, 2), (9, 1)] := ⟨rfl, search13b⟩
theorem sk_c : Sk 0 (-1) 0 [] := ⟨rfl, search13c⟩
theorem search_k {m k : Int} {n : Nat} {L : List HitT} (h : Lv13 w W b A Q) (hk : Sk m k n L) : Calls Try.prog 15 #[.slice A 3 3, .slice Q 1 1, .int .u64 m, .int .i64 k] W (TellsH n L W w b A Q) := by
  obtain ⟨rfl, hL⟩ := hk
  refine Calls.mono (Search_any A (its13 b) 3 Q [0] 1 m k (by rw [its13_len]; decide) W h.it h.vq) ?_
  rintro e W1 ⟨S, c, rfl, hr, -, -, hb⟩
  rw [hL] at hr ⊢
  exact ⟨S, c, rfl, hr, h.grow hb, hb⟩
theorem within_k (h : Lv13 w W b A Q) : Calls Try.prog 17 #[.slice A 3 3, .slice Q 1 1, .int .u64 0, .int .u64 4] W (TellsH 2 [(1, 2), (4, 3)] W w b A Q) := by
  refine Calls.mono (Within_any A (its13 b) 3 Q [0] 1 0 4 (by rw [its13_len]; decide) W h.it h.vq) ?_
  rintro e W1 ⟨S, c, rfl, hr, -, -, hb⟩
  rw [within13] at hr ⊢
  exact ⟨S, c, rfl, hr, h.grow hb, hb⟩
theorem place_k (h : Lv13 w W b A Q) : Calls Try.prog 19 #[.slice A 3 3, .slice Q 1 1, .int .u64 0, .agg #[.int .u64 4, .int .u64 3]] W (SaysH (.int .i64 1) w b A Q) := by
  refine Calls.mono (Place_any A (its13 b) 3 Q [0] 1 0 (4, 3) (by rw [its13_len]; decide) W h.it h.vq) ?_
  rintro e W1 ⟨rfl, hb⟩
  rw [place13]
  exact ⟨rfl, h.grow hb⟩
theorem sameH_k {A1 B : Option Addr} {c1 c2 n : Nat} {L : List HitT} (h : Lv13 w W b A Q) (hr : RdH W W.heap.size A1 L) (hl : RdH W W.heap.size B L) (hn : n = L.length ∧ n ≤ 3) :
    Calls Try.prog 14 #[.slice A1 n c1, .slice B n c2] W (SaysH (.bool true) w b A Q) := by
  obtain ⟨rfl, hn⟩ := hn
  exact (SameH_refl A1 B L c1 c2 _ hr hl (by omega)).mono fun _ _ ⟨he, hd⟩ => ⟨he, h.grow (drawn_below hd)⟩
end

theorem vec13 {w : World} {B b : Nat} {x : Int} (hb : b < B) (h0 : w.cell? ⟨b, 0, none⟩ = some (.int .i32 x)) (hx : -2147483648 ≤ x ∧ x ≤ 2147483647) : VecB w B (some ⟨b, 0, none⟩) [x] :=
  ⟨fun k z hz => by
    match k, hz with
    | 0, hz => simp at hz; subst hz; exact ⟨b, 0, rfl, hb, h0⟩, by simp, by rw [Hid]; intro z hz; simp at hz; subst hz; exact hx⟩

set_option maxRecDepth 100000 in
set_option maxHeartbeats 4000000 in
theorem ex_lives_any (w : World) : Calls Try.prog 13 #[] w fun e w' => e = .returned (.bool true) ∧ Below w.heap.size w w' := by
  go_enter Try.func13, Try.ntmps13
  go_wp2_with fail
  obtain ⟨w5, h5⟩ : ∃ w5, w5 = (((((w.alloc (.cells #[.int .i32 3] 21)).alloc (.cells #[.int .i32 1] 21)).alloc (.cells #[.int .i32 (-2)] 21)).alloc (.cells #[.int .u64 1, .slice (some ⟨w.heap.size, 0, none⟩) 1 1, .int .u64 1, .int .u64 2, .slice (some ⟨w.heap.size + 1, 0, none⟩) 1 1, .int .u64 3, .int .u64 3, .slice (some ⟨w.heap.size + 1 + 1, 0, none⟩) 1 1, .int .u64 2] 36)).alloc (.cells #[.int .i32 0] 21)) := ⟨_, rfl⟩
  have T : Lv13 w w5 w.heap.size (some ⟨w.heap.size + 1 + 1 + 1, 0, none⟩) (some ⟨w.heap.size + 1 + 1 + 1 + 1, 0, none⟩) := by
    subst h5
    refine ⟨?_, vec13 (by go_size) (by go_cell) (by decide), (((((Below.refl _ w).alloc (Nat.le_refl _) _).alloc (by go_size) _).alloc (by go_size) _).alloc (by go_size) _).alloc (by go_size) _⟩
    intro k z hz
    match k, hz with
    | 0, hz => simp [its13] at hz; subst hz; exact ⟨⟨w.heap.size + 1 + 1 + 1, 0, rfl, by go_size, by go_cell, by go_cell, by go_cell⟩, vec13 (by go_size) (by go_cell) (by decide)⟩
    | 1, hz => simp [its13] at hz; subst hz; exact ⟨⟨w.heap.size + 1 + 1 + 1, 0, rfl, by go_size, by go_cell, by go_cell, by go_cell⟩, vec13 (by go_size) (by go_cell) (by decide)⟩
    | 2, hz => simp [its13] at hz; subst hz; exact ⟨⟨w.heap.size + 1 + 1 + 1, 0, rfl, by go_size, by go_cell, by go_cell, by go_cell⟩, vec13 (by go_size) (by go_cell) (by decide)⟩
  rw [← h5]
  clear h5
  generalize (some ⟨w.heap.size + 1 + 1 + 1 + 1, 0, none⟩ : Option Addr) = Q at *
  generalize (some ⟨w.heap.size + 1 + 1 + 1, 0, none⟩ : Option Addr) = A at *
  refine Calls.mono (search_k T sk_a) ?_
  rintro e W1 ⟨S1, c1, rfl, hr1, T1, hb1⟩
  clear T hb1
  go_wp2_with fail
  refine Calls.mono (sameH_k (T1.alloc _) (rdH_later hr1 (belowA (Below.refl _ _) _)) litH_rd ⟨rfl, by decide⟩) ?_
  rintro e W2 ⟨rfl, T2⟩
  clear T1 hr1
  go_wp2_with fail
  refine Calls.mono (search_k T2 sk_b) ?_
  rintro e W3 ⟨S3, c3, rfl, hr3, T3, hb3⟩
  clear T2 hb3
  go_wp2_with fail
  refine Calls.mono (sameH_k (T3.alloc _) (rdH_later hr3 (belowA (Below.refl _ _) _)) litH_rd ⟨rfl, by decide⟩) ?_
  rintro e W4 ⟨rfl, T4⟩
  clear T3 hr3
  go_wp2_with fail
  refine Calls.mono (search_k T4 sk_c) ?_
  rintro e W5 ⟨S5, c5, rfl, hr5, T5, hb5⟩
  clear T4 hb5 hr5
  go_wp2_with fail
  refine Calls.mono (within_k T5) ?_
  rintro e W6 ⟨S6, c6, rfl, hr6, T6, hb6⟩
  clear T5 hb6
  go_wp2_with fail
  refine Calls.mono (sameH_k (T6.alloc _) (rdH_later hr6 (belowA (Below.refl _ _) _)) litH_rd ⟨rfl, by decide⟩) ?_
  rintro e W7 ⟨rfl, T7⟩
  clear T6 hr6
  go_wp2_with fail
  refine Calls.mono (place_k T7) ?_
  rintro e W8 ⟨rfl, T8⟩
  clear T7
  go_wp2
  go_ret
  exact ⟨rfl, T8.hb⟩

end Go.Proofs.Ytajmnhnepoomjaa
