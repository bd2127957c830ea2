/- The law's own question of the answers that the document gives (lives), for package rank: the answer is 'true'. -/
import Derived.Test.YtamgmbjcobomhaaRankPlain
import Derived.Deep.RegionHeld3
namespace Go.Proofs.Ytamgmbjcobomhaa
open Go.RowKit Go.Shelf Go.Sort Go.Lib

section
variable {w : World} {B b : Nat}
theorem RdS.one {x : SpotT} (hb : b < B) (h0 : w.cell? ⟨b, 0, none⟩ = some (.int .u64 x.1.1)) (h1 : w.cell? ⟨b, 1, none⟩ = some (.int .u64 x.1.2)) (h2 : w.cell? ⟨b, 2, none⟩ = some (.int .i64 x.2)) : RdS w B (some ⟨b, 0, none⟩) [x] := by
  intro k z hz
  match k, hz with
  | 0, hz => simp at hz; subst hz; exact ⟨b, 0, rfl, hb, h0, h1, h2⟩
theorem RdS.three {x y z : SpotT} (hb : b < B) (h0 : w.cell? ⟨b, 0, none⟩ = some (.int .u64 x.1.1)) (h1 : w.cell? ⟨b, 1, none⟩ = some (.int .u64 x.1.2)) (h2 : w.cell? ⟨b, 2, none⟩ = some (.int .i64 x.2))
    (h3 : w.cell? ⟨b, 3, none⟩ = some (.int .u64 y.1.1)) (h4 : w.cell? ⟨b, 4, none⟩ = some (.int .u64 y.1.2)) (h5 : w.cell? ⟨b, 5, none⟩ = some (.int .i64 y.2))
    (h6 : w.cell? ⟨b, 6, none⟩ = some (.int .u64 z.1.1)) (h7 : w.cell? ⟨b, 7, none⟩ = some (.int .u64 z.1.2)) (h8 : w.cell? ⟨b, 8, none⟩ = some (.int .i64 z.2)) : RdS w B (some ⟨b, 0, none⟩) [x, y, z] := by
  intro k u hu
  match k, hu with
  | 0, hu => simp at hu; subst hu; exact ⟨b, 0, rfl, hb, h0, h1, h2⟩
  | 1, hu => simp at hu; subst hu; exact ⟨b, 0, rfl, hb, h3, h4, h5⟩
  | 2, hu => simp at hu; subst hu; exact ⟨b, 0, rfl, hb, h6, h7, h8⟩
theorem RdH.two {x y : HitT} (hb : b < B) (h0 : w.cell? ⟨b, 0, none⟩ = some (.int .u64 x.1)) (h1 : w.cell? ⟨b, 1, none⟩ = some (.int .u64 x.2)) (h2 : w.cell? ⟨b, 2, none⟩ = some (.int .u64 y.1)) (h3 : w.cell? ⟨b, 3, none⟩ = some (.int .u64 y.2)) :
    RdH w B (some ⟨b, 0, none⟩) [x, y] := by
  intro k u hu
  match k, hu with
  | 0, hu => simp at hu; subst hu; exact ⟨b, 0, rfl, hb, h0, h1⟩
  | 1, hu => simp at hu; subst hu; exact ⟨b, 0, rfl, hb, h2, h3⟩
theorem RdH.three {x y z : HitT} (hb : b < B) (h0 : w.cell? ⟨b, 0, none⟩ = some (.int .u64 x.1)) (h1 : w.cell? ⟨b, 1, none⟩ = some (.int .u64 x.2)) (h2 : w.cell? ⟨b, 2, none⟩ = some (.int .u64 y.1)) (h3 : w.cell? ⟨b, 3, none⟩ = some (.int .u64 y.2))
    (h4 : w.cell? ⟨b, 4, none⟩ = some (.int .u64 z.1)) (h5 : w.cell? ⟨b, 5, none⟩ = some (.int .u64 z.2)) : RdH w B (some ⟨b, 0, none⟩) [x, y, z] := by
  intro k u hu
  match k, hu with
  | 0, hu => simp at hu; subst hu; exact ⟨b, 0, rfl, hb, h0, h1⟩
  | 1, hu => simp at hu; subst hu; exact ⟨b, 0, rfl, hb, h2, h3⟩
  | 2, hu => simp at hu; subst hu; exact ⟨b, 0, rfl, hb, h4, h5⟩
end

/-- What the law's last line finds: its two spots, in their boxes, and lists l and m. -/
structure At (w W : World) (i j : Nat) (A M : Option Addr) : Prop where
  hb : Below w.heap.size w W
  i0 : W.cell? ⟨i, 0, none⟩ = some (.int .u64 1)
  i1 : W.cell? ⟨i, 1, none⟩ = some (.int .u64 5)
  i2 : W.cell? ⟨i, 2, none⟩ = some (.int .i64 3)
  j0 : W.cell? ⟨j, 0, none⟩ = some (.int .u64 1)
  j1 : W.cell? ⟨j, 1, none⟩ = some (.int .u64 5)
  j2 : W.cell? ⟨j, 2, none⟩ = some (.int .i64 4)
  il : i < W.heap.size
  jl : j < W.heap.size
  lA : RdS W W.heap.size A Ls
  lM : RdH W W.heap.size M Ms
theorem At.below {w W W' : World} {i j : Nat} {A M : Option Addr} (h : At w W i j A M) (hb : Below W.heap.size W W') : At w W' i j A M :=
  ⟨Below.next h.hb hb, (hb.cell (p := ⟨i, 0, none⟩) h.il).trans h.i0, (hb.cell (p := ⟨i, 1, none⟩) h.il).trans h.i1, (hb.cell (p := ⟨i, 2, none⟩) h.il).trans h.i2,
    (hb.cell (p := ⟨j, 0, none⟩) h.jl).trans h.j0, (hb.cell (p := ⟨j, 1, none⟩) h.jl).trans h.j1, (hb.cell (p := ⟨j, 2, none⟩) h.jl).trans h.j2,
    Nat.lt_of_lt_of_le h.il hb.size, Nat.lt_of_lt_of_le h.jl hb.size, (h.lA.below hb).more hb.size, (h.lM.below hb).more hb.size⟩

section
variable {w W : World} {i j : Nat} {A M : Option Addr} {ca cm : Nat}
theorem At.alloc (h : At w W i j A M) (o : Obj) : At w (W.alloc o) i j A M := h.below ((Below.refl _ W).alloc (Nat.le_refl _) o)
theorem At.drew (h : At w W i j A M) (n : Nat) : At w (W.drewN n) i j A M := h.below (below_draws _ n _)
theorem At.drew1 (h : At w W i j A M) : At w W.drew i j A M := h.drew 1
theorem At.all (h : At w W i j A M) : At w W i j A M ∧ W.cell? ⟨i, 0, none⟩ = some (.int .u64 1) ∧ W.cell? ⟨i, 1, none⟩ = some (.int .u64 5) ∧ W.cell? ⟨i, 2, none⟩ = some (.int .i64 3) ∧
    W.cell? ⟨j, 0, none⟩ = some (.int .u64 1) ∧ W.cell? ⟨j, 1, none⟩ = some (.int .u64 5) ∧ W.cell? ⟨j, 2, none⟩ = some (.int .i64 4) := ⟨h, h.i0, h.i1, h.i2, h.j0, h.j1, h.j2⟩
/-- What a call answers, and that all is as it was. -/
def Says (v : Value) (w : World) (i j : Nat) (A M : Option Addr) (e : Ending) (w' : World) : Prop := e = .returned v ∧ At w w' i j A M
def LeastOut (n : Nat) (L : List SpotT) (W w : World) (i j : Nat) (A M : Option Addr) (e : Ending) (w' : World) : Prop :=
  ∃ A1 c1, e = .returned (.slice A1 n c1) ∧ RdS w' w'.heap.size A1 L ∧ At w w' i j A M ∧ Below W.heap.size W w'

theorem same_m {B : Option Addr} (h : At w W i j A M) (hl : RdH W W.heap.size B Ms) : Calls Try.prog 18 #[.slice M 3 cm, .slice B 3 3] W (Says (.bool true) w i j A M) :=
  (SameH_refl M B Ms cm 3 _ h.lM hl (by decide)).mono fun _ _ ⟨he, hd⟩ => ⟨he, h.below (hd.below _)⟩
theorem same_s {A1 B : Option Addr} {c1 c2 n : Nat} {L : List SpotT} (h : At w W i j A M) (hr : RdS W W.heap.size A1 L) (hl : RdS W W.heap.size B L) (hn : n = L.length ∧ n ≤ 3) :
    Calls Try.prog 13 #[.slice A1 n c1, .slice B n c2] W (Says (.bool true) w i j A M) := by
  obtain ⟨rfl, hn⟩ := hn
  exact (SameS_refl A1 B L c1 c2 _ hr hl (by omega)).mono fun _ _ ⟨he, hd⟩ => ⟨he, h.below (hd.below _)⟩
theorem below_drew {X Y : World} {B : Nat} (h : Below B X Y) : Below B X Y.drew := h.trans (below_draws _ 1 _)
theorem below_allocS {X Y : World} (h : Below X.heap.size X Y) (o : Obj) : Below X.heap.size X (Y.alloc o) := h.alloc h.size o
theorem litA_rd : RdS (W.alloc (.cells #[.int .u64 1, .int .u64 5, .int .i64 3] 36)) (W.alloc (.cells #[.int .u64 1, .int .u64 5, .int .i64 3] 36)).heap.size (some ⟨W.heap.size, 0, none⟩) [((1, 5), 3)] := RdS.one (by go_size) (by go_cell) (by go_cell) (by go_cell)
theorem litA_rdd : RdS (W.alloc (.cells #[.int .u64 1, .int .u64 5, .int .i64 3] 36)).drew (W.alloc (.cells #[.int .u64 1, .int .u64 5, .int .i64 3] 36)).drew.heap.size (some ⟨W.heap.size, 0, none⟩) [((1, 5), 3)] := RdS.one (by go_size) (by go_cell) (by go_cell) (by go_cell)
theorem rdS_later {X Y : World} {B : Option Addr} {L : List SpotT} (h : RdS X X.heap.size B L) (hb : Below X.heap.size X Y) : RdS Y Y.heap.size B L := (h.below hb).more hb.size
theorem least_any (h : At w W i j A M) (k : Int) : Calls Try.prog 16 #[.slice A 3 ca, .int .i64 k] W (LeastOut (leastS Ls k).length (leastS Ls k) W w i j A M) :=
  (Least_any A Ls ca k (by decide) W h.lA).mono fun _ _ ⟨A1, c1, he, hr, _, _, hb⟩ => ⟨A1, c1, he, hr, h.below hb, hb⟩
def Lk (k : Int) (n : Nat) (L : List SpotT) : Prop := leastS Ls k = L ∧ L.length = n
theorem lk1 : Lk 1 1 [((1, 5), 3)] := ⟨lit_rank.1, rfl⟩
theorem lk0 : Lk (-1) 0 [] := ⟨lit_rank.2.1, rfl⟩
theorem lk9 : Lk 9 3 Ls := ⟨lit_rank.2.2.1, rfl⟩
theorem least_k {k : Int} {n : Nat} {L : List SpotT} (h : At w W i j A M) (hk : Lk k n L) : Calls Try.prog 16 #[.slice A 3 ca, .int .i64 k] W (LeastOut n L W w i j A M) := by
  obtain ⟨rfl, rfl⟩ := hk
  exact least_any h k
theorem spot_ab (h : At w W i j A M) : Calls Try.prog 23 #[.agg #[.int .u64 1, .int .u64 5, .int .i64 3], .agg #[.int .u64 1, .int .u64 5, .int .i64 4]] W (Says (.bool true) w i j A M) :=
  (Spot_any ((1, 5), 3) ((1, 5), 4) W).mono fun _ _ ⟨he, hg⟩ => ⟨by rw [he, lit_rank.2.2.2.2.2.1], h.below hg.below⟩
theorem hit_ab (h : At w W i j A M) : Calls Try.prog 24 #[.agg #[.int .u64 1, .int .u64 5], .agg #[.int .u64 1, .int .u64 5]] W (Says (.bool false) w i j A M) :=
  (Hit_any (1, 5) (1, 5) W).mono fun _ _ ⟨he, hg⟩ => ⟨by rw [he, lit_rank.2.2.2.2.2.2], h.below hg.below⟩
def Rk (n : Nat) (L : List HitT) (b : Bool) : Prop := (n = L.length ∧ n ≤ 3) ∧ riseH L = b
theorem rk_m : Rk 3 Ms true := ⟨⟨rfl, by decide⟩, lit_rank.2.2.2.1⟩
theorem rk_z : Rk 2 [(0, 0), (0, 0)] false := ⟨⟨rfl, by decide⟩, lit_rank.2.2.2.2.1⟩
theorem rise_k {B : Option Addr} {n c : Nat} {L : List HitT} {b : Bool} (h : At w W i j A M) (hk : Rk n L b) (hl : RdH W W.heap.size B L) : Calls Try.prog 21 #[.slice B n c] W (Says (.bool b) w i j A M) := by
  obtain ⟨⟨rfl, hn⟩, rfl⟩ := hk
  exact (Rising_any B L c _ hl (by omega)).mono fun _ _ ⟨he, hg⟩ => ⟨he, h.below hg.below⟩
end

set_option maxRecDepth 100000 in
set_option maxHeartbeats 4000000 in
theorem rank_lives_any (w : World) : Calls Try.prog 12 #[] w fun e w' => e = .returned (.bool true) ∧ Below w.heap.size w w' := by
  go_enter Try.func12, Try.ntmps12
  go_wp2_with fail
  refine (Sort_any _ [((1, 5), 4), ((1, 5), 3), ((1, 5), 4)] 3 (by decide) _ (RdS.three (by go_size) (by go_cell) (by go_cell) (by go_cell) (by go_cell) (by go_cell) (by go_cell) (by go_cell) (by go_cell) (by go_cell))).mono ?_
  rw [lit_sort]
  rintro e w1 ⟨A, ca, rfl, hA, hcA, hmA, hb⟩
  clear hcA hmA
  rw [show Ls.length = 3 from rfl]
  have K1 : Below w.heap.size w w1 ∧ w1.cell? ⟨w.heap.size, 0, none⟩ = some (.int .u64 1) ∧ w1.cell? ⟨w.heap.size, 1, none⟩ = some (.int .u64 5) ∧ w1.cell? ⟨w.heap.size, 2, none⟩ = some (.int .i64 3) ∧
      w1.cell? ⟨w.heap.size + 1, 0, none⟩ = some (.int .u64 1) ∧ w1.cell? ⟨w.heap.size + 1, 1, none⟩ = some (.int .u64 5) ∧ w1.cell? ⟨w.heap.size + 1, 2, none⟩ = some (.int .i64 4) ∧ w.heap.size + 1 < w1.heap.size := by
    refine ⟨((((Below.refl _ w).alloc (Nat.le_refl _) _).alloc (by go_size) _).alloc (by go_size) _).trans (hb.mono (by go_size)), ?_, ?_, ?_, ?_, ?_, ?_, Nat.lt_of_lt_of_le (by go_size) hb.size⟩
    · exact (hb.cell (by go_size)).trans (by go_cell)
    · exact (hb.cell (by go_size)).trans (by go_cell)
    · exact (hb.cell (by go_size)).trans (by go_cell)
    · exact (hb.cell (by go_size)).trans (by go_cell)
    · exact (hb.cell (by go_size)).trans (by go_cell)
    · exact (hb.cell (by go_size)).trans (by go_cell)
  replace K1 := Lib.hid K1
  clear hb
  go_wp2_with fail
  refine (Merge_any _ _ [(1, 5), (3, 2)] [(1, 5), (2, 9)] 2 2 _ (RdH.two (by go_size) (by go_cell) (by go_cell) (by go_cell) (by go_cell)) (RdH.two (by go_size) (by go_cell) (by go_cell) (by go_cell) (by go_cell)) (by decide) (by decide) (by simp) (by simp)).mono ?_
  rw [lit_merge]
  rintro e w2 ⟨M, cm, rfl, hM, hb⟩
  rw [show Ms.length = 3 from rfl]
  obtain ⟨k1, k2, k3, k4, k5, k6, k7, k8⟩ := K1.out
  have k9 : w.heap.size < w1.heap.size := by omega
  have hb1 : Below w1.heap.size w1 w2 := ((((Below.refl _ w1).alloc (Nat.le_refl _) _).alloc (by go_size) _)).trans (hb.mono (by go_size))
  have T := Lib.hid (At.mk (Below.next k1 hb1) ((hb1.cell k9).trans k2) ((hb1.cell k9).trans k3) ((hb1.cell k9).trans k4) ((hb1.cell k8).trans k5) ((hb1.cell k8).trans k6) ((hb1.cell k8).trans k7)
    (Nat.lt_of_lt_of_le (by omega) hb1.size) (Nat.lt_of_lt_of_le k8 hb1.size) ((hA.below hb1).more hb1.size) hM)
  clear K1 k1 k2 k3 k4 k5 k6 k7 k8 k9 hb hb1 hA hM
  go_wp2_with fail
  have T := T.out
  go_region_held3 (fun W => At w W w.heap.size (w.heap.size + 1) A M ∧ W.cell? ⟨w.heap.size, 0, none⟩ = some (.int .u64 1) ∧ W.cell? ⟨w.heap.size, 1, none⟩ = some (.int .u64 5) ∧ W.cell? ⟨w.heap.size, 2, none⟩ = some (.int .i64 3) ∧
      W.cell? ⟨w.heap.size + 1, 0, none⟩ = some (.int .u64 1) ∧ W.cell? ⟨w.heap.size + 1, 1, none⟩ = some (.int .u64 5) ∧ W.cell? ⟨w.heap.size + 1, 2, none⟩ = some (.int .i64 4))
    (with_reducible first | assumption | exact At.all (by assumption) | exact At.all (At.alloc (by assumption) _) | exact At.all (At.drew1 (by assumption)) | exact At.all (At.drew1 (At.alloc (by assumption) _)) | exact At.all (At.drew1 (At.alloc (At.drew1 (by assumption)) _)) | exact At.all (And.left (by assumption)) | exact At.all (At.alloc (And.left (by assumption)) _) | exact At.all (At.drew1 (And.left (by assumption))) | exact At.all (At.drew1 (At.alloc (And.left (by assumption)) _)) | exact At.all (At.drew1 (At.alloc (At.drew1 (And.left (by assumption))) _)))
    (first
      | (go_at_call 18; (with_reducible refine Calls.mono (same_m (And.left (by assumption)) ?_) ?_); exact (RdH.three (by go_size) (by go_cell) (by go_cell) (by go_cell) (by go_cell) (by go_cell) (by go_cell)); rintro e W ⟨rfl, hT⟩)
      | (go_at_call 13; (with_reducible refine' Calls.mono (same_s (And.left (by assumption)) _ _ _) _); rotate_left 1; (first | (with_reducible exact At.lA (And.left (by assumption))) | ((with_reducible refine rdS_later (by assumption) ?_); (with_reducible first | exact Below.refl _ _ | exact below_allocS (Below.refl _ _) _ | exact below_drew (below_allocS (Below.refl _ _) _) | exact below_allocS (below_drew (Below.refl _ _)) _ | exact below_drew (below_allocS (below_drew (Below.refl _ _)) _) | exact below_drew (Below.refl _ _)))); (first | (focus ((with_reducible refine RdS.three ?_ ?_ ?_ ?_ ?_ ?_ ?_ ?_ ?_ ?_); (all_goals first | go_cell | go_size))) | (focus ((with_reducible refine RdS.one ?_ ?_ ?_ ?_); (all_goals first | go_cell | go_size))) | (with_reducible exact rdS_later litA_rd (by assumption)) | (with_reducible exact rdS_later litA_rdd (by assumption))); (exact ⟨rfl, by decide⟩); rintro e W ⟨rfl, hT⟩)
      | (go_at_call 16; (with_reducible refine' Calls.mono (least_k (And.left (by assumption)) _) _); rotate_left 2; (with_reducible first | exact lk1 | exact lk0 | exact lk9); rintro e W ⟨A1, c1, rfl, hr, hT, hb⟩)
      | (go_at_call 23; (with_reducible refine Calls.mono (spot_ab (And.left (by assumption))) ?_); rintro e W ⟨rfl, hT⟩)
      | (go_at_call 24; (with_reducible refine Calls.mono (hit_ab (And.left (by assumption))) ?_); rintro e W ⟨rfl, hT⟩)
      | (go_at_call 21; (with_reducible refine' Calls.mono (rise_k (And.left (by assumption)) _ _) _); rotate_left 2; (with_reducible first | exact rk_m | exact rk_z); (first | (with_reducible exact At.lM (And.left (by assumption))) | (focus ((with_reducible refine RdH.two ?_ ?_ ?_ ?_ ?_); (all_goals first | go_cell | go_size)))); rintro e W ⟨rfl, hT⟩))
  all_goals
    go_wp2
    go_ret
    first | exact ⟨rfl, At.hb (by assumption)⟩ | exact ⟨rfl, At.hb (And.left (by assumption))⟩

end Go.Proofs.Ytamgmbjcobomhaa
