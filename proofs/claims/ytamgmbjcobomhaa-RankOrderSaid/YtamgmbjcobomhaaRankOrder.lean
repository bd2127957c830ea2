/- One order (the law of 7.3), walked: whatever the spots, the law's own questions are answered as they should be. -/
import Derived.Test.YtamgmbjcobomhaaRankLives
import Derived.Deep.DeepCutAuto
import Derived.Deep.CutBlock
namespace Go.Proofs.Ytamgmbjcobomhaa
open Go.RowKit Go.Shelf Go.Sort Go.Lib

theorem ltS_no {x y : SpotT} (h : ¬ (x.1.1 < y.1.1 ∨ (x.1.1 = y.1.1 ∧ (x.1.2 < y.1.2 ∨ (x.1.2 = y.1.2 ∧ x.2 < y.2))))) : ltS x y = false := by
  cases e : ltS x y
  · rfl
  · exact absurd ((ltS_iff x y).1 e) h
theorem ltH_no {x y : HitT} (h : ¬ (x.1 < y.1 ∨ (x.1 = y.1 ∧ x.2 < y.2))) : ltH x y = false := by
  cases e : ltH x y
  · rfl
  · exact absurd ((ltH_iff x y).1 e) h

/-- How two spots, and their hits, stand. -/
structure Fs (a b : SpotT) (s1 s2 h1 h2 : Bool) : Prop where
  s1 : ltS a b = s1
  s2 : ltS b a = s2
  h1 : ltH a.1 b.1 = h1
  h2 : ltH b.1 a.1 = h2

theorem order_ways (a1 a2 a3 b1 b2 b3 : Int) :
    (a1 = b1 ∧ a2 = b2 ∧ a3 = b3 ∧ Fs ((a1, a2), a3) ((b1, b2), b3) false false false false) ∨
    (a1 = b1 ∧ a2 = b2 ∧ ¬ a3 = b3 ∧ (Fs ((a1, a2), a3) ((b1, b2), b3) true false false false ∨ Fs ((a1, a2), a3) ((b1, b2), b3) false true false false)) ∨
    (a1 = b1 ∧ ¬ a2 = b2 ∧ (Fs ((a1, a2), a3) ((b1, b2), b3) true false true false ∨ Fs ((a1, a2), a3) ((b1, b2), b3) false true false true)) ∨
    (¬ a1 = b1 ∧ (Fs ((a1, a2), a3) ((b1, b2), b3) true false true false ∨ Fs ((a1, a2), a3) ((b1, b2), b3) false true false true)) := by
  rcases Int.lt_trichotomy a1 b1 with h | h | h
  · exact .inr (.inr (.inr ⟨by omega, .inl ⟨(ltS_iff _ _).2 (by simp only; omega), ltS_no (by simp only; omega), (ltH_iff _ _).2 (by simp only; omega), ltH_no (by simp only; omega)⟩⟩))
  · rcases Int.lt_trichotomy a2 b2 with k | k | k
    · exact .inr (.inr (.inl ⟨h, by omega, .inl ⟨(ltS_iff _ _).2 (by simp only; omega), ltS_no (by simp only; omega), (ltH_iff _ _).2 (by simp only; omega), ltH_no (by simp only; omega)⟩⟩))
    · rcases Int.lt_trichotomy a3 b3 with l | l | l
      · exact .inr (.inl ⟨h, k, by omega, .inl ⟨(ltS_iff _ _).2 (by simp only; omega), ltS_no (by simp only; omega), ltH_no (by simp only; omega), ltH_no (by simp only; omega)⟩⟩)
      · exact .inl ⟨h, k, l, ltS_no (by simp only; omega), ltS_no (by simp only; omega), ltH_no (by simp only; omega), ltH_no (by simp only; omega)⟩
      · exact .inr (.inl ⟨h, k, by omega, .inr ⟨ltS_no (by simp only; omega), (ltS_iff _ _).2 (by simp only; omega), ltH_no (by simp only; omega), ltH_no (by simp only; omega)⟩⟩)
    · exact .inr (.inr (.inl ⟨h, by omega, .inr ⟨ltS_no (by simp only; omega), (ltS_iff _ _).2 (by simp only; omega), ltH_no (by simp only; omega), (ltH_iff _ _).2 (by simp only; omega)⟩⟩))
  · exact .inr (.inr (.inr ⟨by omega, .inr ⟨ltS_no (by simp only; omega), (ltS_iff _ _).2 (by simp only; omega), ltH_no (by simp only; omega), (ltH_iff _ _).2 (by simp only; omega)⟩⟩))

/-- The third one: behind the second, or not. -/
theorem third_ways {a b c : SpotT} (h : ltS a b = true) : (ltS b c = true ∧ ltS a c = true) ∨ ltS b c = false := by
  cases e : ltS b c
  · exact .inr rfl
  · exact .inl ⟨rfl, swoS.trans _ _ _ h e⟩
theorem third_hit {x y z : HitT} (h : ltH x y = true) : (ltH y z = true ∧ ltH x z = true) ∨ ltH y z = false := by
  cases e : ltH y z
  · exact .inr rfl
  · exact .inl ⟨rfl, swoH.trans _ _ _ h e⟩

theorem Spot_val (x y : SpotT) (t : Bool) (W : World) (h : ltS x y = t) :
    Calls Try.prog 23 #[.agg #[.int .u64 x.1.1, .int .u64 x.1.2, .int .i64 x.2], .agg #[.int .u64 y.1.1, .int .u64 y.1.2, .int .i64 y.2]] W fun e w' => e = .returned (.bool t) ∧ Grown W w' := h ▸ Spot_any x y W
theorem Hit_val (x y : HitT) (t : Bool) (W : World) (h : ltH x y = t) :
    Calls Try.prog 24 #[.agg #[.int .u64 x.1, .int .u64 x.2], .agg #[.int .u64 y.1, .int .u64 y.2]] W fun e w' => e = .returned (.bool t) ∧ Grown W w' := h ▸ Hit_any x y W

/-- The three spots in their boxes, in a world that has grown from W. -/
structure Box (W V : World) (n : Nat) (a1 a2 a3 b1 b2 b3 c1 c2 c3 : Int) : Prop where
  hb : Below W.heap.size W V
  x0 : V.cell? ⟨n, 0, none⟩ = some (.int .u64 a1)
  x1 : V.cell? ⟨n, 1, none⟩ = some (.int .u64 a2)
  x2 : V.cell? ⟨n, 2, none⟩ = some (.int .i64 a3)
  y0 : V.cell? ⟨n + 1, 0, none⟩ = some (.int .u64 b1)
  y1 : V.cell? ⟨n + 1, 1, none⟩ = some (.int .u64 b2)
  y2 : V.cell? ⟨n + 1, 2, none⟩ = some (.int .i64 b3)
  z0 : V.cell? ⟨n + 1 + 1, 0, none⟩ = some (.int .u64 c1)
  z1 : V.cell? ⟨n + 1 + 1, 1, none⟩ = some (.int .u64 c2)
  z2 : V.cell? ⟨n + 1 + 1, 2, none⟩ = some (.int .i64 c3)
  far : n + 1 + 1 < W.heap.size
section
variable {W V V' : World} {n : Nat} {a1 a2 a3 b1 b2 b3 c1 c2 c3 : Int}
theorem Box.grow (h : Box W V n a1 a2 a3 b1 b2 b3 c1 c2 c3) (hb : Below W.heap.size V V') : Box W V' n a1 a2 a3 b1 b2 b3 c1 c2 c3 :=
  have f := h.far
  ⟨h.hb.trans hb, (hb.cell (p := ⟨n, 0, none⟩) (Nat.lt_of_le_of_lt (by simp only [Nat.add_assoc]; omega) f)).trans h.x0, (hb.cell (p := ⟨n, 1, none⟩) (Nat.lt_of_le_of_lt (by simp only [Nat.add_assoc]; omega) f)).trans h.x1, (hb.cell (p := ⟨n, 2, none⟩) (Nat.lt_of_le_of_lt (by simp only [Nat.add_assoc]; omega) f)).trans h.x2, (hb.cell (p := ⟨n + 1, 0, none⟩) (Nat.lt_of_le_of_lt (by simp only [Nat.add_assoc]; omega) f)).trans h.y0, (hb.cell (p := ⟨n + 1, 1, none⟩) (Nat.lt_of_le_of_lt (by simp only [Nat.add_assoc]; omega) f)).trans h.y1, (hb.cell (p := ⟨n + 1, 2, none⟩) (Nat.lt_of_le_of_lt (by simp only [Nat.add_assoc]; omega) f)).trans h.y2, (hb.cell (p := ⟨n + 1 + 1, 0, none⟩) (Nat.lt_of_le_of_lt (by simp only [Nat.add_assoc]; omega) f)).trans h.z0, (hb.cell (p := ⟨n + 1 + 1, 1, none⟩) (Nat.lt_of_le_of_lt (by simp only [Nat.add_assoc]; omega) f)).trans h.z1, (hb.cell (p := ⟨n + 1 + 1, 2, none⟩) (Nat.lt_of_le_of_lt (by simp only [Nat.add_assoc]; omega) f)).trans h.z2, h.far⟩
theorem Box.alloc (h : Box W V n a1 a2 a3 b1 b2 b3 c1 c2 c3) (o : Obj) : Box W (V.alloc o) n a1 a2 a3 b1 b2 b3 c1 c2 c3 := h.grow ((Below.refl _ V).alloc h.hb.size o)
theorem Box.drew (h : Box W V n a1 a2 a3 b1 b2 b3 c1 c2 c3) : Box W V.drew n a1 a2 a3 b1 b2 b3 c1 c2 c3 := h.grow (below_drew (Below.refl _ V))
theorem Box.set (h : Box W V n a1 a2 a3 b1 b2 b3 c1 c2 c3) (p : Addr) (v : Value) (hp : W.heap.size ≤ p.block) : Box W (V.setCell p v) n a1 a2 a3 b1 b2 b3 c1 c2 c3 := h.grow ((Below.refl _ V).setCell hp v)
theorem Box.all (h : Box W V n a1 a2 a3 b1 b2 b3 c1 c2 c3) : Box W V n a1 a2 a3 b1 b2 b3 c1 c2 c3 ∧ V.cell? ⟨n, 0, none⟩ = some (.int .u64 a1) ∧ V.cell? ⟨n, 1, none⟩ = some (.int .u64 a2) ∧ V.cell? ⟨n, 2, none⟩ = some (.int .i64 a3) ∧ V.cell? ⟨n + 1, 0, none⟩ = some (.int .u64 b1) ∧ V.cell? ⟨n + 1, 1, none⟩ = some (.int .u64 b2) ∧ V.cell? ⟨n + 1, 2, none⟩ = some (.int .i64 b3) ∧ V.cell? ⟨n + 1 + 1, 0, none⟩ = some (.int .u64 c1) ∧ V.cell? ⟨n + 1 + 1, 1, none⟩ = some (.int .u64 c2) ∧ V.cell? ⟨n + 1 + 1, 2, none⟩ = some (.int .i64 c3) :=
  ⟨h, h.x0, h.x1, h.x2, h.y0, h.y1, h.y2, h.z0, h.z1, h.z2⟩
end

set_option maxRecDepth 100000 in
set_option maxHeartbeats 40000000 in
theorem RankOrder_walk (a1 a2 a3 b1 b2 b3 c1 c2 c3 : Int) (w : World) :
    Calls Try.prog 4 #[.agg #[.int .u64 a1, .int .u64 a2, .int .i64 a3], .agg #[.int .u64 b1, .int .u64 b2, .int .i64 b3], .agg #[.int .u64 c1, .int .u64 c2, .int .i64 c3]] w
      fun e w' => e = .returned (.bool true) ∧ Below w.heap.size w w' := by
  have mixed : Try.prog.follows .mixedOrders = true := by kernel_rfl
  go_enter Try.func4, Try.ntmps4
  go_upto_region 3 with (go_at_call 12; refine Calls.mono (rank_lives_any _) ?_; rintro e w1 ⟨rfl, hb⟩)
  have hb0 : Below w.heap.size w w1 := ((((Below.refl _ w).alloc (Nat.le_refl _) _).alloc (by go_size) _).alloc (by go_size) _).trans (hb.mono (by go_size))
  have s2 : w.heap.size + 1 + 1 < w1.heap.size := Nat.lt_of_lt_of_le (by go_size) hb.size
  have T : Box w1 w1 w.heap.size a1 a2 a3 b1 b2 b3 c1 c2 c3 := ⟨Below.refl _ _, (hb.cell (by go_size)).trans (by go_cell), (hb.cell (by go_size)).trans (by go_cell), (hb.cell (by go_size)).trans (by go_cell), (hb.cell (by go_size)).trans (by go_cell), (hb.cell (by go_size)).trans (by go_cell), (hb.cell (by go_size)).trans (by go_cell), (hb.cell (by go_size)).trans (by go_cell), (hb.cell (by go_size)).trans (by go_cell), (hb.cell (by go_size)).trans (by go_cell), s2⟩
  clear hb
  go_cut [49] (fun v wx => v = .bool false ∧ Grown w1 wx)
  case first =>
    have g0 := fun n os => cell_grown (n := n) (os := os) (World.block_lt_of_cell? _ _ T.x0) T.x0
    have g1 := fun n os => cell_grown (n := n) (os := os) (World.block_lt_of_cell? _ _ T.x1) T.x1
    have g2 := fun n os => cell_grown (n := n) (os := os) (World.block_lt_of_cell? _ _ T.x2) T.x2
    have g3 := fun n os => cell_grown (n := n) (os := os) (World.block_lt_of_cell? _ _ T.y0) T.y0
    have g4 := fun n os => cell_grown (n := n) (os := os) (World.block_lt_of_cell? _ _ T.y1) T.y1
    have g5 := fun n os => cell_grown (n := n) (os := os) (World.block_lt_of_cell? _ _ T.y2) T.y2
    have g6 := fun n os => cell_grown (n := n) (os := os) (World.block_lt_of_cell? _ _ T.z0) T.z0
    have g7 := fun n os => cell_grown (n := n) (os := os) (World.block_lt_of_cell? _ _ T.z1) T.z1
    have g8 := fun n os => cell_grown (n := n) (os := os) (World.block_lt_of_cell? _ _ T.z2) T.z2
    clear T s2 hb0
    rcases order_ways a1 a2 a3 b1 b2 b3 with ⟨rfl, rfl, rfl, f1, f2, f3, f4⟩ | ⟨rfl, rfl, hne, ⟨f1, f2, f3, f4⟩ | ⟨f1, f2, f3, f4⟩⟩ | ⟨rfl, hne, ⟨f1, f2, f3, f4⟩ | ⟨f1, f2, f3, f4⟩⟩ | ⟨hne, ⟨f1, f2, f3, f4⟩ | ⟨f1, f2, f3, f4⟩⟩
    case' inr.inl.inl | inr.inr.inl.inl | inr.inr.inr.inl => rcases third_ways (c := ((c1, c2), c3)) f1 with ⟨f5, f6⟩ | f5
    all_goals
      clear f3 f4
      go_quiet_grown ((go_at_call 23; exact Calls.grown_of (Spot_val ((_, _), _) ((_, _), _) _ _ (by assumption))))
      go_wp2
      go_meet
      exact ⟨rfl, nq, osq, rfl⟩
  case rest =>
    obtain ⟨rfl, hgr⟩ := hcut
    generalize wc = W at *
    replace hb0 := Lib.hid (hb0.trans (hgr.below.mono (by omega)))
    have T2 : Box W W w.heap.size a1 a2 a3 b1 b2 b3 c1 c2 c3 :=
      have t := T.grow hgr.below
      ⟨Below.refl _ _, t.x0, t.x1, t.x2, t.y0, t.y1, t.y2, t.z0, t.z1, t.z2, Nat.lt_of_lt_of_le s2 hgr.below.size⟩
    clear T hgr s2
    go_upto_region 5 with (fail)
    go_cut [7, 8, 9] (fun p q r wx => ∃ X Y Z : Nat, p = .pointer (some ⟨X, 0, none⟩) ∧ q = .pointer (some ⟨Y, 0, none⟩) ∧ r = .pointer (some ⟨Z, 0, none⟩) ∧ wx.cell? ⟨X, 0, none⟩ = some (.int .u64 a1) ∧ wx.cell? ⟨X, 1, none⟩ = some (.int .u64 a2) ∧
      wx.cell? ⟨Y, 0, none⟩ = some (.int .u64 b1) ∧ wx.cell? ⟨Y, 1, none⟩ = some (.int .u64 b2) ∧ wx.cell? ⟨Z, 0, none⟩ = some (.int .u64 c1) ∧ wx.cell? ⟨Z, 1, none⟩ = some (.int .u64 c2) ∧ Box W wx w.heap.size a1 a2 a3 b1 b2 b3 c1 c2 c3)
    case first =>
      go_region_held3 (fun V => Box W V w.heap.size a1 a2 a3 b1 b2 b3 c1 c2 c3 ∧ V.cell? ⟨w.heap.size, 0, none⟩ = some (.int .u64 a1) ∧ V.cell? ⟨w.heap.size, 1, none⟩ = some (.int .u64 a2) ∧ V.cell? ⟨w.heap.size, 2, none⟩ = some (.int .i64 a3) ∧ V.cell? ⟨w.heap.size + 1, 0, none⟩ = some (.int .u64 b1) ∧ V.cell? ⟨w.heap.size + 1, 1, none⟩ = some (.int .u64 b2) ∧ V.cell? ⟨w.heap.size + 1, 2, none⟩ = some (.int .i64 b3) ∧ V.cell? ⟨w.heap.size + 1 + 1, 0, none⟩ = some (.int .u64 c1) ∧ V.cell? ⟨w.heap.size + 1 + 1, 1, none⟩ = some (.int .u64 c2) ∧ V.cell? ⟨w.heap.size + 1 + 1, 2, none⟩ = some (.int .i64 c3))
        (first | exact Box.all (by with_reducible assumption) | (refine Box.all ?_; repeat (with_reducible first | assumption | exact And.left (by assumption) | refine Box.drew ?_ | refine Box.alloc ?_ _ | refine Box.set ?_ _ _ (by simp))))
        (first | fail)
      all_goals
        go_wp2
        go_meet
        exact ⟨_, _, _, rfl, rfl, rfl, by go_cell, by go_cell, by go_cell, by go_cell, by go_cell, by go_cell, And.left (by assumption)⟩
    case rest =>
      obtain ⟨X, Y, Z, rfl, rfl, rfl, X0, X1, Y0, Y1, Z0, Z1, T⟩ := hcut
      generalize wc = V at *
      have hB := Lib.hid (hb0.out.trans (T.hb.mono (by have := hb0.out.size; omega)))
      clear hb0 T2
      have F := Lib.hid T
      have g0 := fun n os => cell_grown (n := n) (os := os) (World.block_lt_of_cell? _ _ T.x0) T.x0
      have g1 := fun n os => cell_grown (n := n) (os := os) (World.block_lt_of_cell? _ _ T.x1) T.x1
      have g2 := fun n os => cell_grown (n := n) (os := os) (World.block_lt_of_cell? _ _ T.x2) T.x2
      have g3 := fun n os => cell_grown (n := n) (os := os) (World.block_lt_of_cell? _ _ T.y0) T.y0
      have g4 := fun n os => cell_grown (n := n) (os := os) (World.block_lt_of_cell? _ _ T.y1) T.y1
      have g5 := fun n os => cell_grown (n := n) (os := os) (World.block_lt_of_cell? _ _ T.y2) T.y2
      have i0 := fun n os => cell_grown (n := n) (os := os) (World.block_lt_of_cell? _ _ X0) X0
      have i1 := fun n os => cell_grown (n := n) (os := os) (World.block_lt_of_cell? _ _ X1) X1
      have i2 := fun n os => cell_grown (n := n) (os := os) (World.block_lt_of_cell? _ _ Y0) Y0
      have i3 := fun n os => cell_grown (n := n) (os := os) (World.block_lt_of_cell? _ _ Y1) Y1
      have i4 := fun n os => cell_grown (n := n) (os := os) (World.block_lt_of_cell? _ _ Z0) Z0
      have i5 := fun n os => cell_grown (n := n) (os := os) (World.block_lt_of_cell? _ _ Z1) Z1
      clear X0 X1 Y0 Y1 Z0 Z1 T F
      rcases order_ways a1 a2 a3 b1 b2 b3 with ⟨rfl, rfl, rfl, f1, f2, f3, f4⟩ | ⟨rfl, rfl, hne, ⟨f1, f2, f3, f4⟩ | ⟨f1, f2, f3, f4⟩⟩ | ⟨rfl, hne, ⟨f1, f2, f3, f4⟩ | ⟨f1, f2, f3, f4⟩⟩ | ⟨hne, ⟨f1, f2, f3, f4⟩ | ⟨f1, f2, f3, f4⟩⟩
      case' inr.inr.inl.inl | inr.inr.inr.inl => rcases third_hit (z := (c1, c2)) f3 with ⟨f5, f6⟩ | f5
      all_goals
        go_wp2
        go_quiet_grown ((first | (go_at_call 23; exact Calls.grown_of (Spot_val ((_, _), _) ((_, _), _) _ _ (by assumption))) | (go_at_call 24; exact Calls.grown_of (Hit_val (_, _) (_, _) _ _ (by assumption)))))
        have HG : Below w.heap.size w (grow (V.drewN nq) osq) := hB.out.trans ((show Grown V (grow (V.drewN nq) osq) from ⟨nq, osq, rfl⟩).below.mono hB.out.size)
        clear g0 g1 g2 g3 g4 g5 i0 i1 i2 i3 i4 i5
        go_wp2
        go_ret
        exact ⟨rfl, HG⟩

end Go.Proofs.Ytamgmbjcobomhaa
