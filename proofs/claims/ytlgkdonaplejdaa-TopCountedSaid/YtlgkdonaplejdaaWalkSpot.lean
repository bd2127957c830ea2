/- walk.Spot of a slot that has a node, plane.There and walk.Down of the plane that is not there, by contract; begins7: the answer is 'true'. -/
import Derived.Test.YtlgkdonaplejdaaExWithin
namespace Go.Proofs.Ytlgkdonaplejdaa
open Go.RowKit Go.Shelf Go.Sort

/-- What walk.Spot has: its item at x, and its result at y, each in a block. -/
structure SpV (w W : World) (x y : Nat) (V : Option Addr) (vs : List Int) (id : Int) (ZA : Option Addr) (zv : List Int) (zc : Nat) : Prop where
  hb : Below w.heap.size w W
  hx : x < W.heap.size
  hy : y < W.heap.size
  hyw : w.heap.size ≤ y
  x0 : W.cell? ⟨x, 0, none⟩ = some (.int .u64 id)
  x1 : W.cell? ⟨x, 1, none⟩ = some (.slice ZA zv.length zc)
  y0 : W.cell? ⟨y, 0, none⟩ = some (.int .u64 0)
  y1 : W.cell? ⟨y, 1, none⟩ = some (.int .u64 0)
  y2 : W.cell? ⟨y, 2, none⟩ = some (.int .i64 0)
  f0 : W.frozen? ⟨y, 0, none⟩ = false
  f1 : W.frozen? ⟨y, 1, none⟩ = false
  f2 : W.frozen? ⟨y, 2, none⟩ = false
  va : VecB W W.heap.size V vs
  vb : VecB W W.heap.size ZA zv
section
variable {w W W' : World} {x y : Nat} {V : Option Addr} {vs : List Int} {id : Int} {ZA : Option Addr} {zv : List Int} {zc : Nat}
theorem SpV.grow (h : SpV w W x y V vs id ZA zv zc) (hb : Below W.heap.size W W') : SpV w W' x y V vs id ZA zv zc :=
  have cx := fun o => hb.cell (p := ⟨x, o, none⟩) h.hx
  have cy := fun o => hb.cell (p := ⟨y, o, none⟩) h.hy
  have fy := fun o => hb.frozen (p := ⟨y, o, none⟩) h.hy
  ⟨Below.next h.hb hb, Nat.lt_of_lt_of_le h.hx hb.size, Nat.lt_of_lt_of_le h.hy hb.size, h.hyw, (cx 0).trans h.x0, (cx 1).trans h.x1, (cy 0).trans h.y0, (cy 1).trans h.y1, (cy 2).trans h.y2, (fy 0).trans h.f0, (fy 1).trans h.f1, (fy 2).trans h.f2, (h.va.below hb).more hb.size, (h.vb.below hb).more hb.size⟩
theorem SpV.drew (h : SpV w W x y V vs id ZA zv zc) : SpV w W.drew x y V vs id ZA zv zc := h.grow (below_draws _ 1 _)
theorem SpV.dist (h : SpV w W x y V vs id ZA zv zc) (cv : Nat) : Calls Try.prog 22 #[.slice ZA zv.length zc, .slice V vs.length cv] W fun e W' => e = .returned (.int .u64 (satN (distN zv vs (max zv.length vs.length)))) ∧ SpV w W' x y V vs id ZA zv zc :=
  (VecB.dist h.vb h.va (Nat.le_refl _) zc cv).mono fun _ _ ⟨he, hb⟩ => ⟨he, h.grow hb⟩
theorem SpV.out (h : SpV w W x y V vs id ZA zv zc) : W.cell? ⟨x, 0, none⟩ = some (.int .u64 id) ∧ W.cell? ⟨x, 1, none⟩ = some (.slice ZA zv.length zc) ∧ W.cell? ⟨y, 0, none⟩ = some (.int .u64 0) ∧ W.cell? ⟨y, 1, none⟩ = some (.int .u64 0) ∧ W.cell? ⟨y, 2, none⟩ = some (.int .i64 0) ∧
    W.frozen? ⟨y, 0, none⟩ = false ∧ W.frozen? ⟨y, 1, none⟩ = false ∧ W.frozen? ⟨y, 2, none⟩ = false ∧ Below w.heap.size w W := ⟨h.x0, h.x1, h.y0, h.y1, h.y2, h.f0, h.f1, h.f2, h.hb⟩
end

set_option maxRecDepth 100000 in
set_option maxHeartbeats 4000000 in
theorem walkSpot_at (b off n c : Nat) (en tp : Int) (Q : Option Addr) (q : List Int) (cq k : Nat) (id : Int) (ZA : Option Addr) (zv : List Int) (zc : Nat) (tg : Int) (w : World) (hk : k < n) (_hn : n ≤ 1000000) (hb : b < w.heap.size) (h0 : w.cell? ⟨b, off + k * 7, none⟩ = some (.int .u64 id)) (h1 : w.cell? ⟨b, off + k * 7 + 1, none⟩ = some (.slice ZA zv.length zc)) (h2 : w.cell? ⟨b, off + k * 7 + 2, none⟩ = some (.int .u64 tg))
    (hQ : VecB w w.heap.size Q q) (hZ : VecB w w.heap.size ZA zv) :
    Calls Try.prog 65 #[.agg #[.slice (some ⟨b, off, none⟩) n c, .int .i64 en, .int .i64 tp], .slice Q q.length cq, .int .i64 (k : Int)] w fun e w' => e = .returned (.agg #[.int .u64 (satN (distN zv q (max zv.length q.length))), .int .u64 id, .int .i64 (k : Int)]) ∧ Below w.heap.size w w' := by
  have hkl : (k : Int) < (n : Int) := by omega
  have hk0 : (0 : Int) ≤ (k : Int) := by omega
  have hkn : ((k : Int)).toNat = k := Int.toNat_natCast k
  have g0 := fun O => (World.cell?_alloc_lt w O ⟨b, off + k * 7, none⟩ hb).trans h0
  have T : SpV w (((w.alloc (.cells #[.slice (some ⟨b, off, none⟩) n c, .int .i64 en, .int .i64 tp] 65)).alloc (.cells #[.int .u64 0, .int .u64 0, .int .i64 0] 37)).alloc (.cells #[.int .u64 id, .slice ZA zv.length zc, .int .u64 tg] 32)) (w.heap.size + 1 + 1) (w.heap.size + 1) Q q id ZA zv zc := by
    have hb3 : Below w.heap.size w (((w.alloc (.cells #[.slice (some ⟨b, off, none⟩) n c, .int .i64 en, .int .i64 tp] 65)).alloc (.cells #[.int .u64 0, .int .u64 0, .int .i64 0] 37)).alloc (.cells #[.int .u64 id, .slice ZA zv.length zc, .int .u64 tg] 32)) := (((Below.refl _ w).alloc (Nat.le_refl _) _).alloc (by go_size) _).alloc (by go_size) _
    exact ⟨hb3, by go_size, by go_size, by omega, by go_cell, by go_cell, by go_cell, by go_cell, by go_cell, by go_simp, by go_simp, by go_simp, (hQ.below hb3).more hb3.size, (hZ.below hb3).more hb3.size⟩
  have HT := Lib.hid T
  have c0 := ((((Below.refl _ w).alloc (Nat.le_refl _) (.cells #[.slice (some ⟨b, off, none⟩) n c, .int .i64 en, .int .i64 tp] 65)).alloc (by go_size) (.cells #[.int .u64 0, .int .u64 0, .int .i64 0] 37)).alloc (by go_size) (.cells #[.int .u64 0, .slice none 0 0, .int .u64 0] 32)).cell (p := ⟨b, off + k * 7, none⟩) hb |>.trans h0
  have c1 := ((((Below.refl _ w).alloc (Nat.le_refl _) (.cells #[.slice (some ⟨b, off, none⟩) n c, .int .i64 en, .int .i64 tp] 65)).alloc (by go_size) (.cells #[.int .u64 0, .int .u64 0, .int .i64 0] 37)).alloc (by go_size) (.cells #[.int .u64 0, .slice none 0 0, .int .u64 0] 32)).cell (p := ⟨b, off + k * 7 + 1, none⟩) hb |>.trans h1
  have c2 := ((((Below.refl _ w).alloc (Nat.le_refl _) (.cells #[.slice (some ⟨b, off, none⟩) n c, .int .i64 en, .int .i64 tp] 65)).alloc (by go_size) (.cells #[.int .u64 0, .int .u64 0, .int .i64 0] 37)).alloc (by go_size) (.cells #[.int .u64 0, .slice none 0 0, .int .u64 0] 32)).cell (p := ⟨b, off + k * 7 + 2, none⟩) hb |>.trans h2
  generalize hD : satN (distN zv q (max zv.length q.length)) = D at *
  have HD := Lib.hid hD
  clear hD hQ hZ T g0 h0 h1 h2
  go_enter Try.func65, Try.ntmps65
  go_upto_region 4 with (fail)
  clear c0 c1 c2
  generalize ((w.alloc (.cells #[.slice (some ⟨b, off, none⟩) n c, .int .i64 en, .int .i64 tp] 65)).alloc (.cells #[.int .u64 0, .int .u64 0, .int .i64 0] 37)).alloc (.cells #[.int .u64 id, .slice ZA zv.length zc, .int .u64 tg] 32) = X at *
  obtain ⟨a0, a1, -, -, -, -, -, -, -⟩ := HT.out.out
  go_region_with (go_at_call 22; (first | refine Calls.mono (SpV.dist HT.out _) ?_ | refine Calls.mono (SpV.dist HT.out.drew _) ?_ | refine Calls.mono (SpV.dist HT.out.drew.drew _) ?_); rw [HD.out]; rintro e W ⟨rfl, hT⟩; obtain ⟨k0, k1, k2, k3, k4, k5, k6, k7, hB⟩ := hT.out; clear hT)
  all_goals
    go_wp2
    obtain ⟨q0, q1, q2⟩ := set3_cells k2 k3 k4 (.int .u64 D) (.int .u64 id) (.int .i64 (k : Int))
    have hB2 := Below.set3 hB (Nat.le_succ _) (.int .u64 D) (.int .u64 id) (.int .i64 (k : Int))
    exact bodyPost_ret (v := .agg #[.int .u64 D, .int .u64 id, .int .i64 (k : Int)]) (by simp [results, Try.results65, go_sem, q0, q1, q2]) rfl ⟨rfl, hB2⟩

/-- What begins7 asks of a search. -/
theorem search7 (b : Option Addr) : searchL [0] 0 [⟨1, b, [2], 1, 0⟩] 1 = [(4, 1)] := by
  have h : hitsL [0] 0 [⟨1, b, [2], 1, 0⟩] = [(4, 1)] := by kernel_rfl
  unfold searchL ordH
  rw [h, sortH_eq (L := [(4, 1)]) (List.Perm.refl _) (by simp)]
  rfl
set_option maxHeartbeats 1000000 in
theorem there_nil (w : World) : Calls Try.prog 39 #[.agg #[.slice none 0 0, .int .i64 0, .int .i64 0], .int .i64 0] w fun e w' => e = .returned (.bool false) ∧ Below w.heap.size w w' := by
  go_enter Try.func39, Try.ntmps39
  go_wp2
  go_ret
  exact ⟨rfl, (Below.refl _ w).alloc (Nat.le_refl _) _⟩
set_option maxHeartbeats 1000000 in
theorem down_nil (w : World) : Calls Try.prog 66 #[.agg #[.slice none 0 0, .int .i64 0, .int .i64 0], .slice none 0 0] w fun e w' => e = .returned (.tuple #[.int .i64 0, .bool false]) ∧ Below w.heap.size w w' := by
  go_enter Try.func66, Try.ntmps66
  go_wp2_with fail
  refine (there_nil _).mono ?_
  rintro e w1 ⟨rfl, hb⟩
  have HB := Lib.hid (((Below.refl _ w).alloc (Nat.le_refl _) (.cells #[.slice none 0 0, .int .i64 0, .int .i64 0] 65)).trans (hb.mono (by go_size)))
  clear hb
  go_wp2
  go_ret2
  exact ⟨rfl, HB.out⟩

theorem RdH.one {w : World} {B : Nat} {A : Option Addr} {x : HitT} (h : RdH w B A [x]) : ∃ b off, A = some ⟨b, off, none⟩ ∧ b < B ∧ w.cell? ⟨b, off, none⟩ = some (.int .u64 x.1) ∧ w.cell? ⟨b, off + 1, none⟩ = some (.int .u64 x.2) := by
  obtain ⟨b, off, h1, h2, h3, h4⟩ := h 0 x rfl
  exact ⟨b, off, h1, h2, by simpa using h3, by simpa using h4⟩

set_option maxRecDepth 100000 in
set_option maxHeartbeats 4000000 in
theorem begins7_any (w : World) : Calls Try.prog 71 #[] w fun e w' => e = .returned (.bool true) ∧ Below w.heap.size w w' := by
  go_enter Try.func71, Try.ntmps71
  go_wp2_with fail
  refine Calls.mono (Search_any (some ⟨w.heap.size + 1, 0, none⟩) [⟨1, some ⟨w.heap.size, 0, none⟩, [2], 1, 0⟩] 1 (some ⟨w.heap.size + 1 + 1, 0, none⟩) [0] 1 0 1 (by simp) _ ?a1 ?a2) ?_
  case a1 =>
    intro k z hz
    match k, hz with
    | 0, hz => simp at hz; subst hz; exact ⟨⟨w.heap.size + 1, 0, rfl, by go_size, by go_cell, by go_cell, by go_cell⟩, ⟨fun k z hz => by match k, hz with | 0, hz => simp at hz; subst hz; exact ⟨w.heap.size, 0, rfl, by go_size, by go_cell⟩, by simp, by rw [Hid]; intro z hz; simp at hz; subst hz; decide⟩⟩
  case a2 =>
    exact ⟨fun k z hz => by match k, hz with | 0, hz => simp at hz; subst hz; exact ⟨w.heap.size + 1 + 1, 0, rfl, by go_size, by go_cell⟩, by simp, by rw [Hid]; intro z hz; simp at hz; subst hz; decide⟩
  rintro e w1 ⟨A1, c1, rfl, hr, hc1, hm1, hb⟩
  rw [search7] at hr hc1 ⊢
  have HB1 : Hid (Below w.heap.size w w1) := ((((Below.refl _ w).alloc (Nat.le_refl _) _).alloc (by go_size) _).alloc (by go_size) _).trans (hb.mono (by go_size))
  have HR := Lib.hid hr
  clear hr hb
  go_wp2_with fail
  refine (down_nil _).mono ?_
  rintro e w2 ⟨rfl, hb⟩
  obtain ⟨g, off, rfl, hg, x0, x1⟩ := ((HR.out.below hb).more hb.size).one
  have HB2 := Lib.hid (HB1.out.trans (hb.mono HB1.out.size))
  clear HB1 hb HR
  go_wp2_with fail
  have HSP := Lib.hid (walkSpot_at w2.heap.size 0 2 2 0 0 none [] 0 1 5 none [] 0 0 (w2.alloc (.cells #[.int .u64 0, .slice none 0 0, .int .u64 0, .int .i64 0, .slice none 0 0, .int .i64 0, .int .i64 0, .int .u64 5, .slice none 0 0, .int .u64 0, .int .i64 0, .slice none 0 0, .int .i64 0, .int .i64 0] 142)) (by decide) (by decide) (by simp) (by go_cell) (by go_cell) (by go_cell) VecB.nil VecB.nil)
  obtain ⟨D, hD⟩ : ∃ D, satN (distN [] [] (max ([] : List Int).length ([] : List Int).length)) = D := ⟨_, rfl⟩
  rw [hD] at HSP
  have hf1 : ∀ w : World, (Instr.field 37 (.agg #[.int .u64 D, .int .u64 5, .int .i64 ((1 : Nat) : Int)]) 0).run Try.prog w = .ok (.agg #[.int .u64 D, .int .u64 5]) w := fun _ => by kernel_rfl
  have hf3 : ∀ w : World, (Instr.field 37 (.agg #[.int .u64 D, .int .u64 5, .int .i64 1]) 0).run Try.prog w = .ok (.agg #[.int .u64 D, .int .u64 5]) w := fun _ => by kernel_rfl
  have hf2 : ∀ w : World, (Instr.field 35 (.agg #[.int .u64 D, .int .u64 5]) 1).run Try.prog w = .ok (.int .u64 5) w := fun _ => by kernel_rfl
  have HB3 : Hid (Below w.heap.size w (w2.alloc (.cells #[.int .u64 0, .slice none 0 0, .int .u64 0, .int .i64 0, .slice none 0 0, .int .i64 0, .int .i64 0, .int .u64 5, .slice none 0 0, .int .u64 0, .int .i64 0, .slice none 0 0, .int .i64 0, .int .i64 0] 142))) := HB2.out.alloc HB2.out.size _
  clear hD
  refine Calls.mono HSP.out ?_
  rintro e w3 ⟨rfl, hb⟩
  have HB4 := Lib.hid (HB3.out.trans (hb.mono HB3.out.size))
  clear hb HSP HB2 HB3
  go_wp2
  go_ret
  exact ⟨rfl, HB4.out⟩

end Go.Proofs.Ytlgkdonaplejdaa
