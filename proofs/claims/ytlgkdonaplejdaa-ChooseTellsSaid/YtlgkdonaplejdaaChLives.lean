/- The law's own question of the answers that the document gives (lives), for package choose: the answer is 'true'. -/
import Derived.Test.YtlgkdonaplejdaaChBest
import Derived.Test.YtlgkdonaplejdaaSpotsL
namespace Go.Proofs.Ytlgkdonaplejdaa
open Go.RowKit Go.Shelf Go.Sort Go.Lib

def L10 : List SpotT := [((25, 3), 3), ((4, 2), 2), ((1, 1), 1)]
def I10 (p q r : Nat) : List ItT := [⟨0, some ⟨p, 0, none⟩, [-5], 1, 0⟩, ⟨0, some ⟨q, 0, none⟩, [2], 1, 0⟩, ⟨0, some ⟨r, 0, none⟩, [1], 1, 0⟩]
def M10 (p q r : Nat) : List TagC := [((((1, 1), 1), (some ⟨r, 0, none⟩, 1, 1)), 2), ((((4, 2), 2), (some ⟨q, 0, none⟩, 1, 1)), 1), ((((25, 3), 3), (some ⟨p, 0, none⟩, 1, 1)), 0)]
theorem ord10 (p q r : Nat) : IsOrd L10 (I10 p q r) (M10 p q r) := by
  refine ⟨?_, ?_⟩
  · have e : candsL L10 (I10 p q r) = (M10 p q r).reverse := rfl
    rw [e]
    exact (List.reverse_perm _).symm
  · have h1 : ltS ((1, 1), 1) ((4, 2), 2) = true := by decide +kernel
    have h2 : ltS ((1, 1), 1) ((25, 3), 3) = true := by decide +kernel
    have h3 : ltS ((4, 2), 2) ((25, 3), 3) = true := by decide +kernel
    unfold M10 ltX
    simp [h1, h2, h3]
theorem apart10 (p q r : Nat) : spotsC (splitGo (I10 p q r) 3 (M10 p q r) [] []).1 = [((1, 1), 1), ((25, 3), 3)] := by kernel_rfl
theorem best10 (p q r : Nat) : spotsC (bestL (I10 p q r) 1 (M10 p q r)) = [((1, 1), 1)] ∧ spotsC (bestL (I10 p q r) 9 (M10 p q r)) = [((1, 1), 1), ((25, 3), 3), ((4, 2), 2)] := ⟨by kernel_rfl, by kernel_rfl⟩

theorem lit_vec {w : World} {B b : Nat} {x : Int} (hb : b < B) (h0 : w.cell? ⟨b, 0, none⟩ = some (.int .i32 x)) (hx : -2147483648 ≤ x ∧ x ≤ 2147483647) : VecB w B (some ⟨b, 0, none⟩) [x] :=
  ⟨fun k z hz => by
    match k, hz with
    | 0, hz => simp at hz; subst hz; exact ⟨b, 0, rfl, hb, h0⟩, by simp, by rw [Hid]; intro z hz; simp at hz; subst hz; exact hx⟩

/-- The law's literals, in a world that has grown from w. -/
structure LA (w W : World) (b p q r i : Nat) : Prop where
  hb : Below w.heap.size w W
  lb : b < W.heap.size
  s0 : W.cell? ⟨b, 0, none⟩ = some (.int .u64 25)
  s1 : W.cell? ⟨b, 1, none⟩ = some (.int .u64 3)
  s2 : W.cell? ⟨b, 2, none⟩ = some (.int .i64 3)
  s3 : W.cell? ⟨b, 3, none⟩ = some (.int .u64 4)
  s4 : W.cell? ⟨b, 4, none⟩ = some (.int .u64 2)
  s5 : W.cell? ⟨b, 5, none⟩ = some (.int .i64 2)
  s6 : W.cell? ⟨b, 6, none⟩ = some (.int .u64 1)
  s7 : W.cell? ⟨b, 7, none⟩ = some (.int .u64 1)
  s8 : W.cell? ⟨b, 8, none⟩ = some (.int .i64 1)
  it : ItemsAt W W.heap.size (some ⟨i, 0, none⟩) (I10 p q r)
section
variable {w W W' : World} {b p q r i : Nat}
theorem LA.below (h : LA w W b p q r i) (hb : Below W.heap.size W W') : LA w W' b p q r i :=
  have c := fun o => hb.cell (p := ⟨b, o, none⟩) h.lb
  ⟨Below.next h.hb hb, Nat.lt_of_lt_of_le h.lb hb.size, (c 0).trans h.s0, (c 1).trans h.s1, (c 2).trans h.s2, (c 3).trans h.s3, (c 4).trans h.s4, (c 5).trans h.s5, (c 6).trans h.s6, (c 7).trans h.s7, (c 8).trans h.s8, (h.it.below hb).more hb.size⟩
theorem LA.alloc (h : LA w W b p q r i) (o : Obj) : LA w (W.alloc o) b p q r i := h.below ((Below.refl _ W).alloc (Nat.le_refl _) o)
theorem LA.drew1 (h : LA w W b p q r i) : LA w W.drew b p q r i := h.below (below_draws _ 1 _)
theorem LA.all (h : LA w W b p q r i) : LA w W b p q r i ∧ W.cell? ⟨b, 0, none⟩ = some (.int .u64 25) ∧ W.cell? ⟨b, 1, none⟩ = some (.int .u64 3) ∧ W.cell? ⟨b, 2, none⟩ = some (.int .i64 3) ∧
    W.cell? ⟨b, 3, none⟩ = some (.int .u64 4) ∧ W.cell? ⟨b, 4, none⟩ = some (.int .u64 2) ∧ W.cell? ⟨b, 5, none⟩ = some (.int .i64 2) ∧ W.cell? ⟨b, 6, none⟩ = some (.int .u64 1) ∧ W.cell? ⟨b, 7, none⟩ = some (.int .u64 1) ∧ W.cell? ⟨b, 8, none⟩ = some (.int .i64 1) :=
  ⟨h, h.s0, h.s1, h.s2, h.s3, h.s4, h.s5, h.s6, h.s7, h.s8⟩
theorem LA.rd (h : LA w W b p q r i) : RdS W W.heap.size (some ⟨b, 0, none⟩) L10 := fun k z hz => by
  match k, hz with
  | 0, hz => simp [L10] at hz; subst hz; exact ⟨b, 0, rfl, h.lb, h.s0, h.s1, h.s2⟩
  | 1, hz => simp [L10] at hz; subst hz; exact ⟨b, 0, rfl, h.lb, h.s3, h.s4, h.s5⟩
  | 2, hz => simp [L10] at hz; subst hz; exact ⟨b, 0, rfl, h.lb, h.s6, h.s7, h.s8⟩
theorem LA.tail (h : LA w W b p q r i) : RdS W W.heap.size (some ⟨b, 6, none⟩) [((1, 1), 1)] := fun k z hz => by
  match k, hz with
  | 0, hz => simp at hz; subst hz; exact ⟨b, 6, rfl, h.lb, h.s6, h.s7, h.s8⟩
theorem RdS.two {b : Nat} {B : Nat} {x y : SpotT} (hb : b < B) (h0 : w.cell? ⟨b, 0, none⟩ = some (.int .u64 x.1.1)) (h1 : w.cell? ⟨b, 1, none⟩ = some (.int .u64 x.1.2)) (h2 : w.cell? ⟨b, 2, none⟩ = some (.int .i64 x.2)) (h3 : w.cell? ⟨b, 3, none⟩ = some (.int .u64 y.1.1)) (h4 : w.cell? ⟨b, 4, none⟩ = some (.int .u64 y.1.2)) (h5 : w.cell? ⟨b, 5, none⟩ = some (.int .i64 y.2)) : RdS w B (some ⟨b, 0, none⟩) [x, y] := fun k z hz => by
  match k, hz with
  | 0, hz => simp at hz; subst hz; exact ⟨b, 0, rfl, hb, h0, h1, h2⟩
  | 1, hz => simp at hz; subst hz; exact ⟨b, 0, rfl, hb, h3, h4, h5⟩
theorem RdS.three {b : Nat} {B : Nat} {x y z : SpotT} (hb : b < B) (h0 : w.cell? ⟨b, 0, none⟩ = some (.int .u64 x.1.1)) (h1 : w.cell? ⟨b, 1, none⟩ = some (.int .u64 x.1.2)) (h2 : w.cell? ⟨b, 2, none⟩ = some (.int .i64 x.2))
    (h3 : w.cell? ⟨b, 3, none⟩ = some (.int .u64 y.1.1)) (h4 : w.cell? ⟨b, 4, none⟩ = some (.int .u64 y.1.2)) (h5 : w.cell? ⟨b, 5, none⟩ = some (.int .i64 y.2))
    (h6 : w.cell? ⟨b, 6, none⟩ = some (.int .u64 z.1.1)) (h7 : w.cell? ⟨b, 7, none⟩ = some (.int .u64 z.1.2)) (h8 : w.cell? ⟨b, 8, none⟩ = some (.int .i64 z.2)) : RdS w B (some ⟨b, 0, none⟩) [x, y, z] := by
  intro k u hu
  match k, hu with
  | 0, hu => simp at hu; subst hu; exact ⟨b, 0, rfl, hb, h0, h1, h2⟩
  | 1, hu => simp at hu; subst hu; exact ⟨b, 0, rfl, hb, h3, h4, h5⟩
  | 2, hu => simp at hu; subst hu; exact ⟨b, 0, rfl, hb, h6, h7, h8⟩
theorem lit2_rd {W : World} : RdS (W.alloc (.cells #[.int .u64 1, .int .u64 1, .int .i64 1, .int .u64 25, .int .u64 3, .int .i64 3] 37)) (W.alloc (.cells #[.int .u64 1, .int .u64 1, .int .i64 1, .int .u64 25, .int .u64 3, .int .i64 3] 37)).heap.size (some ⟨W.heap.size, 0, none⟩) [((1, 1), 1), ((25, 3), 3)] := RdS.two (by go_size) (by go_cell) (by go_cell) (by go_cell) (by go_cell) (by go_cell) (by go_cell)
theorem lit2_rdd {W : World} : RdS (W.alloc (.cells #[.int .u64 1, .int .u64 1, .int .i64 1, .int .u64 25, .int .u64 3, .int .i64 3] 37)).drew (W.alloc (.cells #[.int .u64 1, .int .u64 1, .int .i64 1, .int .u64 25, .int .u64 3, .int .i64 3] 37)).drew.heap.size (some ⟨W.heap.size, 0, none⟩) [((1, 1), 1), ((25, 3), 3)] := RdS.two (by go_size) (by go_cell) (by go_cell) (by go_cell) (by go_cell) (by go_cell) (by go_cell)
theorem lit3_rd {W : World} : RdS (W.alloc (.cells #[.int .u64 1, .int .u64 1, .int .i64 1, .int .u64 25, .int .u64 3, .int .i64 3, .int .u64 4, .int .u64 2, .int .i64 2] 37)) (W.alloc (.cells #[.int .u64 1, .int .u64 1, .int .i64 1, .int .u64 25, .int .u64 3, .int .i64 3, .int .u64 4, .int .u64 2, .int .i64 2] 37)).heap.size (some ⟨W.heap.size, 0, none⟩) [((1, 1), 1), ((25, 3), 3), ((4, 2), 2)] := RdS.three (by go_size) (by go_cell) (by go_cell) (by go_cell) (by go_cell) (by go_cell) (by go_cell) (by go_cell) (by go_cell) (by go_cell)
theorem lit3_rdd {W : World} : RdS (W.alloc (.cells #[.int .u64 1, .int .u64 1, .int .i64 1, .int .u64 25, .int .u64 3, .int .i64 3, .int .u64 4, .int .u64 2, .int .i64 2] 37)).drew (W.alloc (.cells #[.int .u64 1, .int .u64 1, .int .i64 1, .int .u64 25, .int .u64 3, .int .i64 3, .int .u64 4, .int .u64 2, .int .i64 2] 37)).drew.heap.size (some ⟨W.heap.size, 0, none⟩) [((1, 1), 1), ((25, 3), 3), ((4, 2), 2)] := RdS.three (by go_size) (by go_cell) (by go_cell) (by go_cell) (by go_cell) (by go_cell) (by go_cell) (by go_cell) (by go_cell) (by go_cell)
/-- What a call tells. -/
def TellsS (n : Nat) (L : List SpotT) (W w : World) (b p q r i : Nat) (e : Ending) (w' : World) : Prop :=
  ∃ A1 c1, e = .returned (.slice A1 n c1) ∧ RdS w' w'.heap.size A1 L ∧ LA w w' b p q r i ∧ Below W.heap.size W w'
def SaysC (v : Value) (w : World) (b p q r i : Nat) (e : Ending) (w' : World) : Prop := e = .returned v ∧ LA w w' b p q r i
theorem apart_k (h : LA w W b p q r i) : Calls Try.prog 18 #[.slice (some ⟨b, 0, none⟩) 3 3, .slice (some ⟨i, 0, none⟩) 3 3] W (TellsS 2 [((1, 1), 1), ((25, 3), 3)] W w b p q r i) := by
  refine (Apart_any (some ⟨b, 0, none⟩) L10 3 (some ⟨i, 0, none⟩) (I10 p q r) 3 W h.rd h.it (by decide)).mono ?_
  rintro e W1 ⟨M, hO, A1, c1, rfl, ho, hb⟩
  obtain rfl : M = M10 p q r := hO.one (ord10 p q r)
  rw [show ((L10.length : Nat) : Int) = 3 from rfl, apart10] at ho ⊢
  exact ⟨A1, c1, rfl, rdS_own ho, h.below hb, hb⟩
def Bk (k : Int) (n : Nat) (L : List SpotT) : Prop := (k ≤ 9223372036854775807 ∧ n = L.length) ∧ ∀ p q r : Nat, (if k < 1 then [] else spotsC (bestL (I10 p q r) k (M10 p q r))) = L
theorem bk1 : Bk 1 1 [((1, 1), 1)] := ⟨⟨by decide, rfl⟩, fun p q r => by rw [if_neg (by decide)]; exact (best10 p q r).1⟩
theorem bk9 : Bk 9 3 [((1, 1), 1), ((25, 3), 3), ((4, 2), 2)] := ⟨⟨by decide, rfl⟩, fun p q r => by rw [if_neg (by decide)]; exact (best10 p q r).2⟩
theorem bk0 : Bk (-1) 0 [] := ⟨⟨by decide, rfl⟩, fun p q r => by rw [if_pos (by decide)]⟩
theorem best_k {k : Int} {n : Nat} {L : List SpotT} (h : LA w W b p q r i) (hk : Bk k n L) : Calls Try.prog 20 #[.slice (some ⟨b, 0, none⟩) 3 3, .slice (some ⟨i, 0, none⟩) 3 3, .int .i64 k] W (TellsS n L W w b p q r i) := by
  obtain ⟨⟨hk1, rfl⟩, hk2⟩ := hk
  refine (Best_any (some ⟨b, 0, none⟩) L10 3 (some ⟨i, 0, none⟩) (I10 p q r) 3 k W h.rd h.it (by decide) hk1 ⟨_, ord10 p q r⟩).mono ?_
  rintro e W1 ⟨M, hO, A1, c1, he, hr, _, _, hb⟩
  obtain rfl : M = M10 p q r := hO.one (ord10 p q r)
  rw [hk2] at he hr
  exact ⟨A1, c1, he, hr, h.below hb, hb⟩
theorem same_k {A1 B : Option Addr} {c1 c2 n : Nat} {L : List SpotT} (h : LA w W b p q r i) (hr : RdS W W.heap.size A1 L) (hl : RdS W W.heap.size B L) (hn : n = L.length ∧ n ≤ 3) :
    Calls Try.prog 17 #[.slice A1 n c1, .slice B n c2] W (SaysC (.bool true) w b p q r i) := by
  obtain ⟨rfl, hn⟩ := hn
  exact (SameS_refl A1 B L c1 c2 _ hr hl (by omega)).mono fun _ _ ⟨he, hd⟩ => ⟨he, h.below (hd.below _)⟩
end

set_option maxRecDepth 100000 in
set_option maxHeartbeats 4000000 in
theorem choose_lives_any (w : World) : Calls Try.prog 16 #[] w fun e w' => e = .returned (.bool true) ∧ Below w.heap.size w w' := by
  go_enter Try.func16, Try.ntmps16
  go_wp2_with fail
  have T : LA w (((((w.alloc (.cells #[.int .u64 25, .int .u64 3, .int .i64 3, .int .u64 4, .int .u64 2, .int .i64 2, .int .u64 1, .int .u64 1, .int .i64 1] 37)).alloc (.cells #[.int .i32 (-5)] 21)).alloc (.cells #[.int .i32 2] 21)).alloc (.cells #[.int .i32 1] 21)).alloc (.cells #[.int .u64 0, .slice (some ⟨w.heap.size + 1, 0, none⟩) 1 1, .int .u64 0, .int .u64 0, .slice (some ⟨w.heap.size + 1 + 1, 0, none⟩) 1 1, .int .u64 0, .int .u64 0, .slice (some ⟨w.heap.size + 1 + 1 + 1, 0, none⟩) 1 1, .int .u64 0] 32)) w.heap.size (w.heap.size + 1) (w.heap.size + 1 + 1) (w.heap.size + 1 + 1 + 1) (w.heap.size + 1 + 1 + 1 + 1) := by
    refine ⟨(((((Below.refl _ w).alloc (Nat.le_refl _) _).alloc (by go_size) _).alloc (by go_size) _).alloc (by go_size) _).alloc (by go_size) _, by go_size, by go_cell, by go_cell, by go_cell, by go_cell, by go_cell, by go_cell, by go_cell, by go_cell, by go_cell, ?_⟩
    intro k z hz
    match k, hz with
    | 0, hz => simp [I10] at hz; subst hz; exact ⟨⟨w.heap.size + 1 + 1 + 1 + 1, 0, rfl, by go_size, by go_cell, by go_cell, by go_cell⟩, lit_vec (by go_size) (by go_cell) (by decide)⟩
    | 1, hz => simp [I10] at hz; subst hz; exact ⟨⟨w.heap.size + 1 + 1 + 1 + 1, 0, rfl, by go_size, by go_cell, by go_cell, by go_cell⟩, lit_vec (by go_size) (by go_cell) (by decide)⟩
    | 2, hz => simp [I10] at hz; subst hz; exact ⟨⟨w.heap.size + 1 + 1 + 1 + 1, 0, rfl, by go_size, by go_cell, by go_cell, by go_cell⟩, lit_vec (by go_size) (by go_cell) (by decide)⟩
  generalize (((((w.alloc (.cells #[.int .u64 25, .int .u64 3, .int .i64 3, .int .u64 4, .int .u64 2, .int .i64 2, .int .u64 1, .int .u64 1, .int .i64 1] 37)).alloc (.cells #[.int .i32 (-5)] 21)).alloc (.cells #[.int .i32 2] 21)).alloc (.cells #[.int .i32 1] 21)).alloc (.cells #[.int .u64 0, .slice (some ⟨w.heap.size + 1, 0, none⟩) 1 1, .int .u64 0, .int .u64 0, .slice (some ⟨w.heap.size + 1 + 1, 0, none⟩) 1 1, .int .u64 0, .int .u64 0, .slice (some ⟨w.heap.size + 1 + 1 + 1, 0, none⟩) 1 1, .int .u64 0] 32)) = X at *
  generalize w.heap.size + 1 + 1 + 1 + 1 = i at *
  generalize w.heap.size + 1 + 1 + 1 = r at *
  generalize w.heap.size + 1 + 1 = q at *
  generalize w.heap.size + 1 = p at *
  go_region_held3 (fun W => LA w W w.heap.size p q r i ∧ W.cell? ⟨w.heap.size, 0, none⟩ = some (.int .u64 25) ∧ W.cell? ⟨w.heap.size, 1, none⟩ = some (.int .u64 3) ∧ W.cell? ⟨w.heap.size, 2, none⟩ = some (.int .i64 3) ∧
      W.cell? ⟨w.heap.size, 3, none⟩ = some (.int .u64 4) ∧ W.cell? ⟨w.heap.size, 4, none⟩ = some (.int .u64 2) ∧ W.cell? ⟨w.heap.size, 5, none⟩ = some (.int .i64 2) ∧ W.cell? ⟨w.heap.size, 6, none⟩ = some (.int .u64 1) ∧ W.cell? ⟨w.heap.size, 7, none⟩ = some (.int .u64 1) ∧ W.cell? ⟨w.heap.size, 8, none⟩ = some (.int .i64 1))
    (with_reducible first | assumption | exact LA.all (by assumption) | exact LA.all (LA.alloc (by assumption) _) | exact LA.all (LA.drew1 (by assumption)) | exact LA.all (LA.drew1 (LA.alloc (by assumption) _)) | exact LA.all (LA.drew1 (LA.alloc (LA.drew1 (by assumption)) _)) | exact LA.all (And.left (by assumption)) | exact LA.all (LA.alloc (And.left (by assumption)) _) | exact LA.all (LA.drew1 (And.left (by assumption))) | exact LA.all (LA.drew1 (LA.alloc (And.left (by assumption)) _)) | exact LA.all (LA.drew1 (LA.alloc (LA.drew1 (And.left (by assumption))) _)))
    (first
      | (go_at_call 18; (with_reducible refine Calls.mono (apart_k (And.left (by assumption))) ?_); rintro e W ⟨A1, c1, rfl, hr, hT, hb⟩)
      | (go_at_call 20; (with_reducible refine' Calls.mono (best_k (And.left (by assumption)) _) _); rotate_left 2; (with_reducible first | exact bk1 | exact bk9 | exact bk0); rintro e W ⟨A1, c1, rfl, hr, hT, hb⟩)
      | (go_at_call 17; (with_reducible refine' Calls.mono (same_k (And.left (by assumption)) _ _ _) _); rotate_left 1; ((with_reducible refine rdS_later (by assumption) ?_); (with_reducible first | exact Below.refl _ _ | exact below_allocS (Below.refl _ _) _ | exact below_drew (below_allocS (Below.refl _ _) _) | exact below_allocS (below_drew (Below.refl _ _)) _ | exact below_drew (below_allocS (below_drew (Below.refl _ _)) _) | exact below_drew (Below.refl _ _))); (first | (with_reducible exact LA.tail (And.left (by assumption))) | (focus ((with_reducible refine RdS.two ?_ ?_ ?_ ?_ ?_ ?_ ?_); (all_goals first | go_cell | go_size))) | (focus ((with_reducible refine RdS.three ?_ ?_ ?_ ?_ ?_ ?_ ?_ ?_ ?_ ?_); (all_goals first | go_cell | go_size))) | (with_reducible exact rdS_later lit2_rd (by assumption)) | (with_reducible exact rdS_later lit2_rdd (by assumption)) | (with_reducible exact rdS_later lit3_rd (by assumption)) | (with_reducible exact rdS_later lit3_rdd (by assumption))); exact ⟨rfl, by decide⟩; rintro e W ⟨rfl, hT⟩))
  all_goals
    go_wp2
    go_ret
    first | exact ⟨rfl, LA.hb (by assumption)⟩ | exact ⟨rfl, LA.hb (And.left (by assumption))⟩

end Go.Proofs.Ytlgkdonaplejdaa
