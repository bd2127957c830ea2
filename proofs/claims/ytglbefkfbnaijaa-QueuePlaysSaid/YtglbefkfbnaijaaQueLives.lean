/- The law's question of fixed answers. -/
import Derived.Test.YtglbefkfbnaijaaQueUse
import Derived.Test.YtglbefkfbnaijaaHeldK
namespace Go.Proofs.Ytglbefkfbnaijaa
open Go.RowKit Go.Shelf Go.Sort

theorem keepS_nil (m : Nat) : keepS m [] = [] := by simp [keepS, sortS_nil]
theorem T.made {P : Nat → Prop} {X W1 W2 W3 : World} {bq bl bn m1 m2 : Nat} (hP : ∀ k, P k → k < X.heap.size)
    (q1 : X.heap.size ≤ bq) (q2 : HeapAt W1 bq fvS none 0 []) (q3 : Below X.heap.size X W1)
    (r1 : W1.heap.size ≤ bl) (r2 : HeapAt W2 bl fvG none 0 []) (r3 : W2.cell? ⟨bl, 2, none⟩ = some (.int .i64 m1)) (r4 : Below W1.heap.size W1 W2)
    (s1 : W2.heap.size ≤ bn) (s2 : HeapAt W3 bn fvG none 0 []) (s3 : W3.cell? ⟨bn, 2, none⟩ = some (.int .i64 m2)) (s4 : Below W2.heap.size W2 W3) : T P X W3 bq bl bn m1 m2 [] [] [] := by
  have e1 := q2.lt
  have e2 := r2.lt
  have e3 := s2.lt
  have z1 := q3.size
  have z2 := r4.size
  have z3 := s4.size
  have own : ∀ {b k : Nat}, Own b none k → k = b := fun h => h.elim id (fun e => by cases e)
  refine ⟨none, 0, [], none, 0, [], none, 0, [], ⟨(q2.later r4).later s4, r2.later s4, s2, (s4.cell (p := ⟨bl, 2, none⟩) e2).trans r3, s3, HeapOK.nil, HeapOK.nil, HeapOK.nil, ?_, ?_, ?_, ?_, ?_, ?_, ?_, ?_, ?_, ?_, ?_⟩, List.Perm.refl _, by rw [keepS_nil], by rw [keepS_nil]⟩
  · intro k h1 h2; have := own h1; have := own h2; omega
  · intro k h1 h2; have := own h1; have := own h2; omega
  · intro k h1 h2; have := own h1; have := own h2; omega
  · intro k h1; have := own h1; omega
  · intro k h1; have := own h1; omega
  · intro k h1; have := own h1; omega
  · exact q3.trans ((r4.mono z1).trans (s4.mono (by omega)))
  · intro k h1; have := hP k h1; omega
  · intro k h1 h2; have := hP k h1; have := own h2; omega
  · intro k h1 h2; have := hP k h1; have := own h2; omega
  · intro k h1 h2; have := hP k h1; have := own h2; omega

theorem keepS_lit {m : Nat} {O K : List SpotT} (hp : K.Perm O) (hs : K.Pairwise (fun x y => leS x y = true)) : keepS m O = K.take m := by
  unfold keepS
  rw [sortS_eq hp hs]
theorem off0 : offQ 2 [] ((0, 0), 3) = true := by
  unfold offQ
  rw [keepS_nil]
  rfl
theorem off1 : offQ 2 ([] ++ [((0, 0), 3)]) ((0, 0), 2) = true := by
  unfold offQ
  rw [keepS_lit (K := [((0, 0), 3)]) (by decide +kernel) (by decide +kernel)]
  rfl
theorem off2 : offQ 2 ([] ++ [((0, 0), 3)] ++ [((0, 0), 2)]) ((0, 0), 1) = true := by
  unfold offQ
  rw [keepS_lit (K := [((0, 0), 2), ((0, 0), 3)]) (by decide +kernel) (by decide +kernel)]
  decide +kernel
theorem off3 : offQ 2 ([] ++ [((0, 0), 3)] ++ [((0, 0), 2)] ++ [((0, 0), 1)]) ((0, 0), 3) = false := by
  unfold offQ
  rw [keepS_lit (K := [((0, 0), 1), ((0, 0), 2), ((0, 0), 3)]) (by decide +kernel) (by decide +kernel)]
  decide +kernel
/-- The three spots of lives, in their blocks. -/
def Abc (W : World) (n : Nat) : Prop := W.cell? ⟨n, 0, none⟩ = some (.int .u64 0) ∧ W.cell? ⟨n, 1, none⟩ = some (.int .u64 0) ∧ W.cell? ⟨n, 2, none⟩ = some (.int .i64 1) ∧ W.cell? ⟨n + 1, 0, none⟩ = some (.int .u64 0) ∧ W.cell? ⟨n + 1, 1, none⟩ = some (.int .u64 0) ∧ W.cell? ⟨n + 1, 2, none⟩ = some (.int .i64 2) ∧
  W.cell? ⟨n + 1 + 1, 0, none⟩ = some (.int .u64 0) ∧ W.cell? ⟨n + 1 + 1, 1, none⟩ = some (.int .u64 0) ∧ W.cell? ⟨n + 1 + 1, 2, none⟩ = some (.int .i64 3)
theorem abc_of {X W : World} {n : Nat} (h1 : SpC X n ((0, 0), 1)) (h2 : SpC X (n + 1) ((0, 0), 2)) (h3 : SpC X (n + 2) ((0, 0), 3)) (hs : X.heap.size = n + 3) (hb : Below X.heap.size X W) : Abc W n := by
  have k1 := h1.below hb (by omega)
  have k2 := h2.below hb (by omega)
  have k3 := h3.below hb (by omega)
  exact ⟨k1.1, k1.2.1, k1.2.2, k2.1, k2.2.1, k2.2.2, k3.1, k3.2.1, k3.2.2⟩

/-- What the last question's calls keep. -/
structure US (P : Nat → Prop) (X : World) (bq bl bn dx dy dz : Nat) (O : List SpotT) (W : World) : Prop where
  t : ∃ O3, T P X W bq bl bn 2 0 [((0, 0), 1), ((0, 0), 2)] O O3
  x : SpC W dx ((0, 0), 1)
  y : SpC W dy ((0, 0), 1)
  z : SpC W dz ((0, 0), 2)
  p : P dx ∧ P dy ∧ P dz
theorem RdS.pair {w : World} {b B : Nat} {x y : SpotT} (hb : b < B) (h0 : w.cell? ⟨b, 0, none⟩ = some (.int .u64 x.1.1)) (h1 : w.cell? ⟨b, 1, none⟩ = some (.int .u64 x.1.2)) (h2 : w.cell? ⟨b, 2, none⟩ = some (.int .i64 x.2))
    (h3 : w.cell? ⟨b, 3, none⟩ = some (.int .u64 y.1.1)) (h4 : w.cell? ⟨b, 4, none⟩ = some (.int .u64 y.1.2)) (h5 : w.cell? ⟨b, 5, none⟩ = some (.int .i64 y.2)) : RdS w B (some ⟨b, 0, none⟩) [x, y] := by
  intro k s hs
  match k with
  | 0 => simp at hs; subst hs; exact ⟨b, 0, rfl, hb, h0, h1, h2⟩
  | 1 => simp at hs; subst hs; exact ⟨b, 0, rfl, hb, h3, h4, h5⟩
  | k + 2 => simp at hs
section
variable {P : Nat → Prop} {X W W' : World} {bq bl bn dx dy dz : Nat} {O : List SpotT}
theorem US.later (h : US P X bq bl bn dx dy dz O W) (hk : Below W.heap.size W W') : US P X bq bl bn dx dy dz O W' := by
  obtain ⟨⟨O3, t⟩, x, y, z, p⟩ := h
  exact ⟨⟨O3, t.later hk⟩, x.below hk (World.block_lt_of_cell? _ _ x.1), y.below hk (World.block_lt_of_cell? _ _ y.1), z.below hk (World.block_lt_of_cell? _ _ z.1), p⟩
theorem US.alloc (h : US P X bq bl bn dx dy dz O W) (o : Obj) : US P X bq bl bn dx dy dz O (W.alloc o) := h.later ((Below.refl _ W).alloc (Nat.le_refl _) o)
theorem US.drew1 (h : US P X bq bl bn dx dy dz O W) : US P X bq bl bn dx dy dz O W.drew := h.later (below_draws W 1 _)
theorem US.hb (h : US P X bq bl bn dx dy dz O W) : Below X.heap.size X W := by
  obtain ⟨⟨O3, t⟩, _⟩ := h
  exact t.below
end

/-- An offer to a best list that may have none. -/
theorem bOffer_zero {b : Nat} {A : Option Addr} {c : Nat} {W : World} (h : HeapAt W b fvG A c []) (hm : W.cell? ⟨b, 2, none⟩ = some (.int .i64 (0 : Nat))) (s : SpotT) :
    Calls Try.prog 23 #[.pointer (some ⟨b, 0, none⟩), sptV s] W fun e W' => e = .returned (.bool false) ∧ Below W.heap.size W W' := by
  have mixed : Try.prog.follows .mixedOrders = true := by kernel_rfl
  have hX := below_new3 W (.cells #[.int .u64 s.1.1, .int .u64 s.1.2, .int .i64 s.2] 33)
  have H := Lib.hid (h.later hX)
  have HM := Lib.hid ((hX.cell (p := ⟨b, 2, none⟩) h.lt).trans hm)
  have HB := Lib.hid hX
  clear h hX hm
  obtain ⟨⟨xa, xb⟩, xc⟩ := s
  unfold sptV
  simp only at H HM HB ⊢
  go_enter Try.func23, Try.ntmps23
  go_upto_region 1 with (fail)
  generalize W.alloc (.cells #[.int .u64 xa, .int .u64 xb, .int .i64 xc] 33) = X at *
  go_wp2_with fail
  refine (bFull_any H.out 0 HM.out).mono ?_
  rintro e X1 ⟨rfl, q, rfl⟩
  rw [decide_eq_true (Nat.zero_le _)]
  have hD := below_draws X q X.heap.size
  have H1 := Lib.hid (H.out.later hD)
  have HB1 := Lib.hid (HB.out.trans (hD.mono HB.out.size))
  clear hD H HM HB
  generalize X.drewN q = Y at *
  go_wp2_with fail
  refine (bWorst_any H1.out).mono ?_
  rintro e Z ⟨rfl, hb⟩
  have HB2 := Lib.hid ((HB1.out.trans (hb.mono HB1.out.size)).alloc (Nat.le_trans HB1.out.size hb.size) (.cells #[.int .u64 0, .int .u64 0, .int .i64 0] 33))
  rw [show spAt ([] : List SpotT) 0 = ((0, 0), 0) from rfl, show decide (0 < ([] : List SpotT).length) = false from rfl]
  unfold sptV
  simp only
  go_upto_region 5 with (fail)
  generalize Z.alloc (.cells #[.int .u64 0, .int .u64 0, .int .i64 0] 33) = V at *
  go_wp2
  go_ret
  exact ⟨rfl, HB2.out⟩

section
variable {P : Nat → Prop} {X W : World} {bq bl bn dx dy dz : Nat} {O : List SpotT}
theorem UL.len (h : US P X bq bl bn dx dy dz O W) : Calls Try.prog 26 #[.pointer (some ⟨bq, 0, none⟩)] W fun e W' => e = .returned (.int .i64 2) ∧ Below W.heap.size W W' := by
  obtain ⟨⟨O3, t⟩, _⟩ := h
  refine t.len.mono ?_
  rintro e W' ⟨he, rfl⟩
  exact ⟨he, Below.refl _ _⟩
theorem UL.full2 (h : US P X bq bl bn dx dy dz O W) (hO : keepS 2 O = [((0, 0), 1), ((0, 0), 2)]) : Calls Try.prog 27 #[.pointer (some ⟨bl, 0, none⟩)] W fun e W' => e = .returned (.bool true) ∧ Below W.heap.size W W' := by
  obtain ⟨⟨O3, t⟩, _⟩ := h
  have hf := t.full2
  rw [hO] at hf
  refine hf.mono ?_
  rintro e W' ⟨he, q, rfl⟩
  exact ⟨he, below_draws W q _⟩
theorem UL.full3 (h : US P X bq bl bn dx dy dz O W) : Calls Try.prog 27 #[.pointer (some ⟨bn, 0, none⟩)] W fun e W' => e = .returned (.bool true) ∧ Below W.heap.size W W' := by
  obtain ⟨⟨O3, t⟩, _⟩ := h
  refine t.full3.mono ?_
  rintro e W' ⟨he, q, rfl⟩
  rw [decide_eq_true (Nat.zero_le _)] at he
  exact ⟨he, below_draws W q _⟩
theorem UL.fulln (W : World) : Calls Try.prog 27 #[.pointer none] W fun e W' => e = .returned (.bool true) ∧ Below W.heap.size W W' := by
  refine (bFull_nil W).mono ?_
  rintro e W' ⟨he, q, rfl⟩
  exact ⟨he, below_draws W q _⟩
theorem UL.lenn (W : World) : Calls Try.prog 26 #[.pointer none] W fun e W' => e = .returned (.int .i64 0) ∧ Below W.heap.size W W' := by
  refine (qLen_nil W).mono ?_
  rintro e W' ⟨he, rfl⟩
  exact ⟨he, Below.refl _ _⟩
theorem UL.list2 (h : US P X bq bl bn dx dy dz O W) (hO : keepS 2 O = [((0, 0), 1), ((0, 0), 2)]) (hn : O.length ≤ 100000) : Calls Try.prog 30 #[.pointer (some ⟨bl, 0, none⟩)] W (SpotsOut [((0, 0), 1), ((0, 0), 2)] W) := by
  obtain ⟨⟨O3, t⟩, _⟩ := h
  have hf := t.list2 hn
  rw [hO] at hf
  exact hf
theorem UL.list3 (h : US P X bq bl bn dx dy dz O W) : Calls Try.prog 30 #[.pointer (some ⟨bn, 0, none⟩)] W (SpotsOut [] W) := by
  obtain ⟨⟨O3, A1, c1, M1, A2, c2, M2, A3, c3, M3, t, p1, p2, p3⟩, x, y, z, p⟩ := h
  have hM : M3 = [] := by rw [show keepS 0 O3 = [] by simp [keepS]] at p3; exact p3.eq_nil
  have hf := bList_any t.h3 (by rw [hM]; simp)
  rw [hM, sortS_nil] at hf
  exact hf
theorem UL.offer3 (h : US P X bq bl bn dx dy dz O W) (s : SpotT) : Calls Try.prog 23 #[.pointer (some ⟨bn, 0, none⟩), sptV s] W fun e W' => e = .returned (.bool false) ∧ Below W.heap.size W W' := by
  obtain ⟨⟨O3, A1, c1, M1, A2, c2, M2, A3, c3, M3, t, p1, p2, p3⟩, x, y, z, p⟩ := h
  have hM : M3 = [] := by rw [show keepS 0 O3 = [] by simp [keepS]] at p3; exact p3.eq_nil
  subst hM
  exact bOffer_zero t.h3 t.k3 s
theorem UL.same {A1 B : Option Addr} {c1 c2 : Nat} {L : List SpotT} (hr : RdS W W.heap.size A1 L) (hl : RdS W W.heap.size B L) (hn : L.length ≤ 3 := by decide) :
    Calls Try.prog 29 #[.slice A1 L.length c1, .slice B L.length c2] W fun e W' => e = .returned (.bool true) ∧ Below W.heap.size W W' :=
  (SameS_refl A1 B L c1 c2 _ hr hl (by omega)).mono fun _ _ ⟨he, hd⟩ => ⟨he, hd.below _⟩
end
theorem rdS_build2 (W : World) (x y : SpotT) : RdS (W.alloc (.cells #[.int .u64 x.1.1, .int .u64 x.1.2, .int .i64 x.2, .int .u64 y.1.1, .int .u64 y.1.2, .int .i64 y.2] 33)) (W.alloc (.cells #[.int .u64 x.1.1, .int .u64 x.1.2, .int .i64 x.2, .int .u64 y.1.1, .int .u64 y.1.2, .int .i64 y.2] 33)).heap.size (some ⟨W.heap.size, 0, none⟩) [x, y] := RdS.pair (by go_size) (by go_cell) (by go_cell) (by go_cell) (by go_cell) (by go_cell) (by go_cell)
theorem k_build2 {Q : Exit → Act → World → Prop} {V : Nat → Value → World → Prop} {i : Nat} {o : Oper} {a : Act} {W : World} {s t : Operand} {x y : SpotT} (ho : o.op = .buildSlice 28 2 #[(0, s), (1, t)]) (e : a.eval s = sptV x) (e' : a.eval t = sptV y)
    (hv : V i (.slice (some ⟨W.heap.size, 0, none⟩) 2 2) (W.alloc (.cells #[.int .u64 x.1.1, .int .u64 x.1.2, .int .i64 x.2, .int .u64 y.1.1, .int .u64 y.1.2, .int .i64 y.2] 33))) : Oper.wp Try.prog o a W (NextV V i o a W) Q := by
  unfold sptV at e e'
  have h : (execOp a.eval o).run Try.prog W = .ok (.value (.slice (some ⟨W.heap.size, 0, none⟩) 2 2)) (W.alloc (.cells #[.int .u64 x.1.1, .int .u64 x.1.2, .int .i64 x.2, .int .u64 y.1.1, .int .u64 y.1.2, .int .i64 y.2] 33)) := by
    simp only [execOp, ho, List.map_toArray, List.map_cons, List.map_nil, e, e']
    go_simp
  unfold Oper.wp
  rw [h]
  exact ⟨_, rfl, below_new3 W _, hv⟩
/-- What each operation of the last region tells. -/
def lives8Ds (bq bl bn : Nat) : List Ds := [.c (sptV ((0, 0), 1)), .c (sptV ((0, 0), 1)), .c (.bool true), .c (.bool true), .c (.bool true), .c (.bool true), .c (.bool true), .c (sptV ((0, 0), 1)), .c (sptV ((0, 0), 1)), .c (.bool true), .c (.bool true), .c (.bool true), .c (.bool true), .c (.bool true), .c (.bool true), .c (.pointer (some ⟨bq, 0, none⟩)), .c (.int .i64 2), .c (.bool true), .c (.bool true), .c (.bool true), .c (.bool true), .c (.bool true), .c (.bool true), .c (.bool true), .c (.bool true), .c (.bool true), .c (.bool true), .c (.bool true), .c (.bool true), .c (.bool false), .c (.bool true), .c (.bool true), .c (.bool true), .c (sptV ((0, 0), 2)), .c (sptV ((0, 0), 2)), .c (.bool true), .c (.bool true), .c (.bool true), .c (.bool true), .c (.bool true), .c (.bool true), .c (.pointer (some ⟨bl, 0, none⟩)), .c (.bool true), .c (.bool true), .c (.bool true), .c (.pointer (some ⟨bl, 0, none⟩)), .sp [((0, 0), 1), ((0, 0), 2)], .c (sptV ((0, 0), 1)), .c (sptV ((0, 0), 2)), .sp [((0, 0), 1), ((0, 0), 2)], .c (.bool true), .c (.bool true), .c (.bool true), .c (.pointer (some ⟨bn, 0, none⟩)), .c (.bool true), .c (.bool true), .c (.bool true), .c (.pointer (some ⟨bn, 0, none⟩)), .c (sptV ((0, 0), 1)), .c (.bool false), .c (.bool true), .c (.bool true), .c (.bool true), .c (.pointer (some ⟨bn, 0, none⟩)), .sp ([] : List SpotT), .c (.int .i64 0), .c (.bool true), .c (.bool true), .c (.bool true), .c (.bool false), .c (.bool true), .c (.bool true), .c (.bool true), .c (.pointer none), .c (.int .i64 0), .c (.bool true), .c (.bool true), .c (.bool true), .c (.pointer none), .c (.bool true), .c (.bool true), .c (.bool true), .c (.pointer none), .c (sptV ((0, 0), 1)), .c (.bool false), .c (.bool true), .c (.bool true), .c (.bool true), .c (.pointer none), .sp ([] : List SpotT), .c (.int .i64 0), .c (.bool true), .c (.bool true), .c (.bool true)]

set_option maxRecDepth 100000 in
set_option maxHeartbeats 4000000 in
theorem que_lives_any (w : World) : Calls Try.prog 16 #[] w fun e W' => e = .returned (.bool true) ∧ Below w.heap.size w W' := by
  have mixed : Try.prog.follows .mixedOrders = true := by kernel_rfl
  go_enter Try.func16, Try.ntmps16
  go_upto_region 2 with (fail)
  have HX : Hid (SpC (((w.alloc (.cells #[.int .u64 0, .int .u64 0, .int .i64 1] 33)).alloc (.cells #[.int .u64 0, .int .u64 0, .int .i64 2] 33)).alloc (.cells #[.int .u64 0, .int .u64 0, .int .i64 3] 33)) w.heap.size ((0, 0), 1)) := ⟨by go_cell, by go_cell, by go_cell⟩
  have HY : Hid (SpC (((w.alloc (.cells #[.int .u64 0, .int .u64 0, .int .i64 1] 33)).alloc (.cells #[.int .u64 0, .int .u64 0, .int .i64 2] 33)).alloc (.cells #[.int .u64 0, .int .u64 0, .int .i64 3] 33)) (w.heap.size + 1) ((0, 0), 2)) := ⟨by go_cell, by go_cell, by go_cell⟩
  have HZ : Hid (SpC (((w.alloc (.cells #[.int .u64 0, .int .u64 0, .int .i64 1] 33)).alloc (.cells #[.int .u64 0, .int .u64 0, .int .i64 2] 33)).alloc (.cells #[.int .u64 0, .int .u64 0, .int .i64 3] 33)) (w.heap.size + 2) ((0, 0), 3)) := ⟨by go_cell, by go_cell, by go_cell⟩
  have HB : Hid (Below w.heap.size w (((w.alloc (.cells #[.int .u64 0, .int .u64 0, .int .i64 1] 33)).alloc (.cells #[.int .u64 0, .int .u64 0, .int .i64 2] 33)).alloc (.cells #[.int .u64 0, .int .u64 0, .int .i64 3] 33))) := by unfold Hid; go_grown
  have HS : Hid ((((w.alloc (.cells #[.int .u64 0, .int .u64 0, .int .i64 1] 33)).alloc (.cells #[.int .u64 0, .int .u64 0, .int .i64 2] 33)).alloc (.cells #[.int .u64 0, .int .u64 0, .int .i64 3] 33)).heap.size = w.heap.size + 3) := by unfold Hid; simp
  generalize ((w.alloc (.cells #[.int .u64 0, .int .u64 0, .int .i64 1] 33)).alloc (.cells #[.int .u64 0, .int .u64 0, .int .i64 2] 33)).alloc (.cells #[.int .u64 0, .int .u64 0, .int .i64 3] 33) = X at *
  generalize hna : w.heap.size = na at *
  have HNA := Lib.hid hna
  clear hna
  go_wp2_with fail
  refine (qNew_any X).mono ?_
  rintro e W1 ⟨bq, rfl, q1, q2, q3⟩
  go_wp2_with fail
  refine (bNew_any 2 W1).mono ?_
  rintro e W2 ⟨bl, rfl, r1, r2, r3, r4⟩
  go_wp2_with fail
  refine (bNew_any 0 W2).mono ?_
  rintro e W3 ⟨bn, rfl, s1, s2, s3, s4⟩
  have HT := Lib.hid (T.made (P := fun k => k < X.heap.size) (fun _ h => h) q1 q2 q3 r1 r2 r3 r4 s1 s2 s3 s4)
  clear q1 q2 q3 r1 r2 r3 r4 s1 s2 s3 s4
  rw [show bestN 2 = 2 from rfl, show bestN 0 = 0 from rfl] at HT
  obtain ⟨b0, b1, b2⟩ := HY.out.below HT.out.below (by rw [HS.out]; omega)
  go_upto_region 5 with (fail)
  go_wp2_with fail
  refine (T.push HT.out ((0, 0), 2) (by simp)).mono ?_
  rintro e V1 ⟨rfl, ht, _⟩
  clear b0 b1 b2 HT
  have HT := Lib.hid ht
  clear ht
  obtain ⟨a0, a1, a2⟩ := HX.out.below HT.out.below (by rw [HS.out]; omega)
  go_wp2_with fail
  refine (T.push HT.out ((0, 0), 1) (by simp)).mono ?_
  rintro e V2 ⟨rfl, ht, _⟩
  clear a0 a1 a2 HT
  have HT := Lib.hid ht
  clear ht
  obtain ⟨a0, a1, a2⟩ := HX.out.below HT.out.below (by rw [HS.out]; omega)
  go_wp2_with fail
  refine (T.push HT.out ((0, 0), 1) (by simp)).mono ?_
  rintro e V3 ⟨rfl, ht, _⟩
  clear a0 a1 a2 HT
  have HP := Lib.hid (T.popc ht (by simp) (x1 := 0) (x2 := 0) (x3 := 1) (r := [((0, 0), 1), ((0, 0), 2)]) (sortS_eq (by decide +kernel) (by decide +kernel)))
  clear ht
  go_upto_region 8 with (fail)
  go_wp2_with fail
  refine HP.out.mono ?_
  rintro e V4 ⟨rfl, ht, _⟩
  have HT := Lib.hid (ht.add (.cells #[.int .u64 0, .int .u64 0, .int .i64 1] 33))
  have HD : Hid (SpC (V4.alloc (.cells #[.int .u64 0, .int .u64 0, .int .i64 1] 33)) V4.heap.size ((0, 0), 1)) := ⟨by go_cell, by go_cell, by go_cell⟩
  clear ht HP
  go_upto_region 9 with (fail)
  generalize V4.alloc (.cells #[.int .u64 0, .int .u64 0, .int .i64 1] 33) = V5 at *
  generalize hdx : V4.heap.size = dx at *
  clear hdx
  have HP := Lib.hid (T.peekc HT.out (x1 := 0) (x2 := 0) (x3 := 1) (r := [((0, 0), 2)]) (sortS_eq (by decide +kernel) (by decide +kernel)))
  go_wp2_with fail
  refine HP.out.mono ?_
  rintro e V6 ⟨rfl, ht, hk⟩
  have HD := Lib.hid (HD.out.same (hk.block dx (by have := HD.out; exact World.block_lt_of_cell? _ _ this.1)))
  clear HP HT hk
  have HT := Lib.hid (ht.add (.cells #[.int .u64 0, .int .u64 0, .int .i64 1] 33))
  have HE : Hid (SpC (V6.alloc (.cells #[.int .u64 0, .int .u64 0, .int .i64 1] 33)) V6.heap.size ((0, 0), 1)) := ⟨by go_cell, by go_cell, by go_cell⟩
  have HD := Lib.hid (HD.out.below (below_new3 V6 (.cells #[.int .u64 0, .int .u64 0, .int .i64 1] 33)) (World.block_lt_of_cell? _ _ HD.out.1))
  clear ht
  go_upto_region 10 with (fail)
  generalize V6.alloc (.cells #[.int .u64 0, .int .u64 0, .int .i64 1] 33) = V7 at *
  generalize V6.heap.size = dy at *
  have HABC : Hid (∀ W, Below X.heap.size X W → Abc W na) := Lib.hid fun W hb => abc_of HX.out HY.out HZ.out HS.out hb
  obtain ⟨a0, a1, a2, b0, b1, b2, c0, c1, c2⟩ := HABC.out V7 HT.out.below
  have hT := And.intro HT.out (fun k (_ : (k < X.heap.size ∨ k = dx) ∨ k = dy) => (rfl : V7.heap[k]? = V7.heap[k]?))
  clear HT
  go_region_held3 (fun W => W.cell? ⟨na, 0, none⟩ = some (.int .u64 0) ∧ W.cell? ⟨na, 1, none⟩ = some (.int .u64 0) ∧ W.cell? ⟨na, 2, none⟩ = some (.int .i64 1) ∧ W.cell? ⟨na + 1, 0, none⟩ = some (.int .u64 0) ∧ W.cell? ⟨na + 1, 1, none⟩ = some (.int .u64 0) ∧ W.cell? ⟨na + 1, 2, none⟩ = some (.int .i64 2) ∧
      W.cell? ⟨na + 1 + 1, 0, none⟩ = some (.int .u64 0) ∧ W.cell? ⟨na + 1 + 1, 1, none⟩ = some (.int .u64 0) ∧ W.cell? ⟨na + 1 + 1, 2, none⟩ = some (.int .i64 3))
    (first | go_keep | exact HABC.out _ (T.below (And.left (by with_reducible assumption))) | exact HABC.out _ (T.below (And.left (TF.drew (by with_reducible assumption)))))
    (first
      | (go_at_call 23; (with_reducible refine Calls.mono (TF.offer2 (V := V7) (by first | assumption | exact TF.drew (by assumption) | exact TF.drew (TF.drew (by assumption))) ((_, _), _) (by simp)) ?_); (first | rw [off0] | rw [off1] | rw [off2] | rw [off3]); rintro e W ⟨rfl, hT⟩))
  obtain ⟨ht, hf⟩ := hT
  have HD := Lib.hid (HD.out.same (hf dx (.inl (.inr rfl))))
  have HE := Lib.hid (HE.out.same (hf dy (.inr rfl)))
  have HP := Lib.hid (T.worstc ht (x1 := 0) (x2 := 0) (x3 := 2) (r := [((0, 0), 1)]) (by rw [keepS_lit (K := [((0, 0), 1), ((0, 0), 2), ((0, 0), 3), ((0, 0), 3)]) (by decide +kernel) (by decide +kernel)]; rfl))
  clear ht hf a0 a1 a2 b0 b1 b2 c0 c1 c2
  go_upto_region 11 with (fail)
  go_wp2_with fail
  refine HP.out.mono ?_
  rintro e V8 ⟨rfl, ht, hk⟩
  have HD := Lib.hid (HD.out.below hk (World.block_lt_of_cell? _ _ HD.out.1))
  have HE := Lib.hid (HE.out.below hk (World.block_lt_of_cell? _ _ HE.out.1))
  clear HP hk
  have HT := Lib.hid (ht.add (.cells #[.int .u64 0, .int .u64 0, .int .i64 2] 33))
  have HF : Hid (SpC (V8.alloc (.cells #[.int .u64 0, .int .u64 0, .int .i64 2] 33)) V8.heap.size ((0, 0), 2)) := ⟨by go_cell, by go_cell, by go_cell⟩
  have HD := Lib.hid (HD.out.below (below_new3 V8 (.cells #[.int .u64 0, .int .u64 0, .int .i64 2] 33)) (World.block_lt_of_cell? _ _ HD.out.1))
  have HE := Lib.hid (HE.out.below (below_new3 V8 (.cells #[.int .u64 0, .int .u64 0, .int .i64 2] 33)) (World.block_lt_of_cell? _ _ HE.out.1))
  clear ht
  go_upto_region 14 with (fail)
  generalize V8.alloc (.cells #[.int .u64 0, .int .u64 0, .int .i64 2] 33) = V9 at *
  generalize V8.heap.size = dz at *
  obtain ⟨a0, a1, a2, _, _, _, _, _, _⟩ := HABC.out V9 HT.out.below
  go_wp2_with fail
  refine (qPush_nil ((0, 0), 1) V9).mono ?_
  rintro e V10 ⟨rfl, hk⟩
  have HT := Lib.hid (HT.out.later hk)
  have HD := Lib.hid (HD.out.below hk (World.block_lt_of_cell? _ _ HD.out.1))
  have HE := Lib.hid (HE.out.below hk (World.block_lt_of_cell? _ _ HE.out.1))
  have HF := Lib.hid (HF.out.below hk (World.block_lt_of_cell? _ _ HF.out.1))
  clear hk a0 a1 a2
  go_upto_region 15 with (fail)
  go_wp2_with fail
  refine (qPop_nil V10).mono ?_
  rintro e V11 ⟨rfl, hk⟩
  have hk := hk.alloc hk.size (.cells #[.int .u64 0, .int .u64 0, .int .i64 0] 33)
  have HT := Lib.hid (HT.out.later hk)
  have HD := Lib.hid (HD.out.below hk (World.block_lt_of_cell? _ _ HD.out.1))
  have HE := Lib.hid (HE.out.below hk (World.block_lt_of_cell? _ _ HE.out.1))
  have HF := Lib.hid (HF.out.below hk (World.block_lt_of_cell? _ _ HF.out.1))
  clear hk
  unfold sptV
  simp only
  go_upto_region 16 with (fail)
  generalize V11.alloc (.cells #[.int .u64 0, .int .u64 0, .int .i64 0] 33) = V12 at *
  have hK : keepS 2 ([] ++ [((0, 0), 3)] ++ [((0, 0), 2)] ++ [((0, 0), 1)] ++ [((0, 0), 3)]) = [((0, 0), 1), ((0, 0), 2)] := by
    rw [keepS_lit (K := [((0, 0), 1), ((0, 0), 2), ((0, 0), 3), ((0, 0), 3)]) (by decide +kernel) (by decide +kernel)]
    rfl
  have hN : ([] ++ [((0, 0), 3)] ++ [((0, 0), 2)] ++ [((0, 0), 1)] ++ [((0, 0), 3)] : List SpotT).length ≤ 100000 := by decide
  generalize ([] ++ [((0, 0), 3)] ++ [((0, 0), 2)] ++ [((0, 0), 1)] ++ [((0, 0), 3)] : List SpotT) = O at *
  have hU : US (fun k => ((k < X.heap.size ∨ k = dx) ∨ k = dy) ∨ k = dz) X bq bl bn dx dy dz O V12 := ⟨⟨[], HT.out⟩, HD.out, HE.out, HF.out, .inl (.inl (.inr rfl)), .inl (.inr rfl), .inr rfl⟩
  clear HT HD HE HF
  have HU : ∀ W, Below V12.drew.heap.size V12.drew W → US (fun k => ((k < X.heap.size ∨ k = dx) ∨ k = dy) ∨ k = dz) X bq bl bn dx dy dz O W := fun W hb => hU.later ((below_draws V12 1 _).trans hb)
  clear hU
  generalize (fun k => ((k < X.heap.size ∨ k = dx) ∨ k = dy) ∨ k = dz) = P at *
  have CA : ∀ W, Below V12.drew.heap.size V12.drew W → SpC W na ((0, 0), 1) := fun W hb => let ⟨a0, a1, a2, _⟩ := HABC.out W (HU W hb).hb; ⟨a0, a1, a2⟩
  have CB : ∀ W, Below V12.drew.heap.size V12.drew W → SpC W (na + 1) ((0, 0), 2) := fun W hb => let ⟨_, _, _, a0, a1, a2, _⟩ := HABC.out W (HU W hb).hb; ⟨a0, a1, a2⟩
  have CX : ∀ W, Below V12.drew.heap.size V12.drew W → SpC W dx ((0, 0), 1) := fun W hb => (HU W hb).x
  have CY : ∀ W, Below V12.drew.heap.size V12.drew W → SpC W dy ((0, 0), 1) := fun W hb => (HU W hb).y
  have CZ : ∀ W, Below V12.drew.heap.size V12.drew W → SpC W dz ((0, 0), 2) := fun W hb => (HU W hb).z
  dsimp only [List.append]
  refine region_held 174 mixed rfl (VD (lives8Ds bq bl bn)) (VD_later _) (by kernel_rfl) ?_ ?_
  rotate_left 1
  · intro a' W h
    have e0 : a'.eval (.tmp 0) = .bool true := h.at_ 93 0 rfl
    have hb := h.hb
    refine ‹∀ (a : Act) (w_1 : World), Code.wp Try.prog Code.ret _ a w_1 → _› a' W ?_
    have e1 := eval_get e0
    go_wp2
    exact bodyPost_ret (v := .bool true) (by simp [results, Try.results16, go_sem, e1]) h.dfr ⟨rfl, by rw [HNA.out]; exact HB.out.trans ((US.hb (HU W hb)).mono (by rw [HS.out]; omega))⟩
  refine ⟨?_, ?_, ?_, ?_, ?_, ?_, ?_, ?_, ?_, ?_, ?_, ?_, ?_, ?_, ?_, ?_, ?_, ?_, ?_, ?_, ?_, ?_, ?_, ?_, ?_, ?_, ?_, ?_, ?_, ?_, ?_, ?_, ?_, ?_, ?_, ?_, ?_, ?_, ?_, ?_, ?_, ?_, ?_, ?_, ?_, ?_, ?_, ?_, ?_, ?_, ?_, ?_, ?_, ?_, ?_, ?_, ?_, ?_, ?_, ?_, ?_, ?_, ?_, ?_, ?_, ?_, ?_, ?_, ?_, ?_, ?_, ?_, ?_, ?_, ?_, ?_, ?_, ?_, ?_, ?_, ?_, ?_, ?_, ?_, ?_, ?_, ?_, ?_, ?_, ?_, ?_, ?_, ?_, ?_, trivial⟩
  · intro a W hb ho hg
    rw [if_pos (wanted_none rfl)]
    have e : a.eval (.tmp 7) = .pointer (some ⟨dx, 0, none⟩) := ho 7 (rfl)
    obtain ⟨q0, q1, q2⟩ := CX W hb
    exact k_run (r_load rfl e q0 q1 q2) rfl
  · intro a W hb ho hg
    rw [if_pos (wanted_none rfl)]
    have e : a.eval (.tmp 1) = .pointer (some ⟨na, 0, none⟩) := ho 1 (rfl)
    obtain ⟨q0, q1, q2⟩ := CA W hb
    exact k_run (r_load rfl e q0 q1 q2) rfl
  · intro a W hb ho hg
    rw [if_pos (wanted_none rfl)]
    have e : a.eval (.tmp 81) = sptV ((0, 0), 1) := hg 0 81 rfl rfl
    have f : a.eval (.tmp 82) = sptV ((0, 0), 1) := hg 1 82 rfl rfl
    exact k_run (r_eqS rfl e f) rfl
  · intro a W hb ho hg
    rw [if_pos (wanted_none rfl)]
    have e : a.eval (.tmp 83) = .bool true := hg 2 83 rfl rfl
    exact k_move rfl e rfl
  · intro a W hb ho hg
    have eg : a.eval (.tmp 84) = .bool true := hg 3 84 rfl rfl
    rw [if_pos (wanted_some rfl rfl eg)]
    have e : a.eval (.tmp 8) = .bool true := ho 8 (rfl)
    exact k_move rfl e rfl
  · intro a W hb ho hg
    rw [if_pos (wanted_none rfl)]
    have e : a.eval (.tmp 84) = .bool true := hg 3 84 rfl rfl
    have f : a.eval (.tmp 85) = .bool true := hg 4 85 rfl rfl
    exact k_pick rfl e (fun _ => f) (fun h => by cases h) rfl
  · intro a W hb ho hg
    rw [if_pos (wanted_none rfl)]
    have e : a.eval (.tmp 86) = .bool true := hg 5 86 rfl rfl
    exact k_move rfl e rfl
  · intro a W hb ho hg
    have eg : a.eval (.tmp 87) = .bool true := hg 6 87 rfl rfl
    rw [if_pos (wanted_some rfl rfl eg)]
    have e : a.eval (.tmp 9) = .pointer (some ⟨dy, 0, none⟩) := ho 9 (rfl)
    obtain ⟨q0, q1, q2⟩ := CY W hb
    exact k_run (r_load rfl e q0 q1 q2) rfl
  · intro a W hb ho hg
    have eg : a.eval (.tmp 87) = .bool true := hg 6 87 rfl rfl
    rw [if_pos (wanted_some rfl rfl eg)]
    have e : a.eval (.tmp 1) = .pointer (some ⟨na, 0, none⟩) := ho 1 (rfl)
    obtain ⟨q0, q1, q2⟩ := CA W hb
    exact k_run (r_load rfl e q0 q1 q2) rfl
  · intro a W hb ho hg
    have eg : a.eval (.tmp 87) = .bool true := hg 6 87 rfl rfl
    rw [if_pos (wanted_some rfl rfl eg)]
    have e : a.eval (.tmp 88) = sptV ((0, 0), 1) := hg 7 88 rfl rfl
    have f : a.eval (.tmp 89) = sptV ((0, 0), 1) := hg 8 89 rfl rfl
    exact k_run (r_eqS rfl e f) rfl
  · intro a W hb ho hg
    rw [if_pos (wanted_none rfl)]
    have e : a.eval (.tmp 87) = .bool true := hg 6 87 rfl rfl
    have f : a.eval (.tmp 90) = .bool true := hg 9 90 rfl rfl
    exact k_pick rfl e (fun _ => f) (fun h => by cases h) rfl
  · intro a W hb ho hg
    rw [if_pos (wanted_none rfl)]
    have e : a.eval (.tmp 91) = .bool true := hg 10 91 rfl rfl
    exact k_move rfl e rfl
  · intro a W hb ho hg
    have eg : a.eval (.tmp 92) = .bool true := hg 11 92 rfl rfl
    rw [if_pos (wanted_some rfl rfl eg)]
    have e : a.eval (.tmp 10) = .bool true := ho 10 (rfl)
    exact k_move rfl e rfl
  · intro a W hb ho hg
    rw [if_pos (wanted_none rfl)]
    have e : a.eval (.tmp 92) = .bool true := hg 11 92 rfl rfl
    have f : a.eval (.tmp 93) = .bool true := hg 12 93 rfl rfl
    exact k_pick rfl e (fun _ => f) (fun h => by cases h) rfl
  · intro a W hb ho hg
    rw [if_pos (wanted_none rfl)]
    have e : a.eval (.tmp 94) = .bool true := hg 13 94 rfl rfl
    exact k_move rfl e rfl
  · intro a W hb ho hg
    have eg : a.eval (.tmp 95) = .bool true := hg 14 95 rfl rfl
    rw [if_pos (wanted_some rfl rfl eg)]
    have e : a.eval (.tmp 4) = .pointer (some ⟨bq, 0, none⟩) := ho 4 (rfl)
    exact k_move rfl e rfl
  · intro a W hb ho hg
    have eg : a.eval (.tmp 95) = .bool true := hg 14 95 rfl rfl
    rw [if_pos (wanted_some rfl rfl eg)]
    have e0 : a.eval (.tmp 96) = .pointer (some ⟨bq, 0, none⟩) := hg 15 96 rfl rfl
    exact k_call (f := 26) rfl (by simp only [List.map_toArray, List.map_cons, List.map_nil, e0] <;> rfl) (by go_simp) (UL.len (HU W hb)) (fun e W' h => ⟨_, h.1, h.2, rfl⟩)
  · intro a W hb ho hg
    have eg : a.eval (.tmp 95) = .bool true := hg 14 95 rfl rfl
    rw [if_pos (wanted_some rfl rfl eg)]
    have e : a.eval (.tmp 97) = .int .i64 2 := hg 16 97 rfl rfl
    have f : a.eval (.const (.int .i64 2)) = .int .i64 2 := rfl
    exact k_run (r_eqI rfl e f) rfl
  · intro a W hb ho hg
    rw [if_pos (wanted_none rfl)]
    have e : a.eval (.tmp 95) = .bool true := hg 14 95 rfl rfl
    have f : a.eval (.tmp 98) = .bool true := hg 17 98 rfl rfl
    exact k_pick rfl e (fun _ => f) (fun h => by cases h) rfl
  · intro a W hb ho hg
    rw [if_pos (wanted_none rfl)]
    have e : a.eval (.tmp 99) = .bool true := hg 18 99 rfl rfl
    exact k_move rfl e rfl
  · intro a W hb ho hg
    have eg : a.eval (.tmp 100) = .bool true := hg 19 100 rfl rfl
    rw [if_pos (wanted_some rfl rfl eg)]
    have e : a.eval (.tmp 11) = .bool true := ho 11 (rfl)
    exact k_move rfl e rfl
  · intro a W hb ho hg
    rw [if_pos (wanted_none rfl)]
    have e : a.eval (.tmp 100) = .bool true := hg 19 100 rfl rfl
    have f : a.eval (.tmp 101) = .bool true := hg 20 101 rfl rfl
    exact k_pick rfl e (fun _ => f) (fun h => by cases h) rfl
  · intro a W hb ho hg
    rw [if_pos (wanted_none rfl)]
    have e : a.eval (.tmp 102) = .bool true := hg 21 102 rfl rfl
    exact k_move rfl e rfl
  · intro a W hb ho hg
    have eg : a.eval (.tmp 103) = .bool true := hg 22 103 rfl rfl
    rw [if_pos (wanted_some rfl rfl eg)]
    have e : a.eval (.tmp 12) = .bool true := ho 12 (rfl)
    exact k_move rfl e rfl
  · intro a W hb ho hg
    rw [if_pos (wanted_none rfl)]
    have e : a.eval (.tmp 103) = .bool true := hg 22 103 rfl rfl
    have f : a.eval (.tmp 104) = .bool true := hg 23 104 rfl rfl
    exact k_pick rfl e (fun _ => f) (fun h => by cases h) rfl
  · intro a W hb ho hg
    rw [if_pos (wanted_none rfl)]
    have e : a.eval (.tmp 105) = .bool true := hg 24 105 rfl rfl
    exact k_move rfl e rfl
  · intro a W hb ho hg
    have eg : a.eval (.tmp 106) = .bool true := hg 25 106 rfl rfl
    rw [if_pos (wanted_some rfl rfl eg)]
    have e : a.eval (.tmp 13) = .bool true := ho 13 (rfl)
    exact k_move rfl e rfl
  · intro a W hb ho hg
    rw [if_pos (wanted_none rfl)]
    have e : a.eval (.tmp 106) = .bool true := hg 25 106 rfl rfl
    have f : a.eval (.tmp 107) = .bool true := hg 26 107 rfl rfl
    exact k_pick rfl e (fun _ => f) (fun h => by cases h) rfl
  · intro a W hb ho hg
    rw [if_pos (wanted_none rfl)]
    have e : a.eval (.tmp 108) = .bool true := hg 27 108 rfl rfl
    exact k_move rfl e rfl
  · intro a W hb ho hg
    have eg : a.eval (.tmp 109) = .bool true := hg 28 109 rfl rfl
    rw [if_pos (wanted_some rfl rfl eg)]
    have e : a.eval (.tmp 14) = .bool false := ho 14 (rfl)
    exact k_move rfl e rfl
  · intro a W hb ho hg
    have eg : a.eval (.tmp 109) = .bool true := hg 28 109 rfl rfl
    rw [if_pos (wanted_some rfl rfl eg)]
    have e : a.eval (.tmp 110) = .bool false := hg 29 110 rfl rfl
    exact k_not rfl e rfl
  · intro a W hb ho hg
    rw [if_pos (wanted_none rfl)]
    have e : a.eval (.tmp 109) = .bool true := hg 28 109 rfl rfl
    have f : a.eval (.tmp 111) = .bool true := hg 30 111 rfl rfl
    exact k_pick rfl e (fun _ => f) (fun h => by cases h) rfl
  · intro a W hb ho hg
    rw [if_pos (wanted_none rfl)]
    have e : a.eval (.tmp 112) = .bool true := hg 31 112 rfl rfl
    exact k_move rfl e rfl
  · intro a W hb ho hg
    have eg : a.eval (.tmp 113) = .bool true := hg 32 113 rfl rfl
    rw [if_pos (wanted_some rfl rfl eg)]
    have e : a.eval (.tmp 15) = .pointer (some ⟨dz, 0, none⟩) := ho 15 (rfl)
    obtain ⟨q0, q1, q2⟩ := CZ W hb
    exact k_run (r_load rfl e q0 q1 q2) rfl
  · intro a W hb ho hg
    have eg : a.eval (.tmp 113) = .bool true := hg 32 113 rfl rfl
    rw [if_pos (wanted_some rfl rfl eg)]
    have e : a.eval (.tmp 2) = .pointer (some ⟨na + 1, 0, none⟩) := ho 2 (rfl)
    obtain ⟨q0, q1, q2⟩ := CB W hb
    exact k_run (r_load rfl e q0 q1 q2) rfl
  · intro a W hb ho hg
    have eg : a.eval (.tmp 113) = .bool true := hg 32 113 rfl rfl
    rw [if_pos (wanted_some rfl rfl eg)]
    have e : a.eval (.tmp 114) = sptV ((0, 0), 2) := hg 33 114 rfl rfl
    have f : a.eval (.tmp 115) = sptV ((0, 0), 2) := hg 34 115 rfl rfl
    exact k_run (r_eqS rfl e f) rfl
  · intro a W hb ho hg
    rw [if_pos (wanted_none rfl)]
    have e : a.eval (.tmp 113) = .bool true := hg 32 113 rfl rfl
    have f : a.eval (.tmp 116) = .bool true := hg 35 116 rfl rfl
    exact k_pick rfl e (fun _ => f) (fun h => by cases h) rfl
  · intro a W hb ho hg
    rw [if_pos (wanted_none rfl)]
    have e : a.eval (.tmp 117) = .bool true := hg 36 117 rfl rfl
    exact k_move rfl e rfl
  · intro a W hb ho hg
    have eg : a.eval (.tmp 118) = .bool true := hg 37 118 rfl rfl
    rw [if_pos (wanted_some rfl rfl eg)]
    have e : a.eval (.tmp 16) = .bool true := ho 16 (rfl)
    exact k_move rfl e rfl
  · intro a W hb ho hg
    rw [if_pos (wanted_none rfl)]
    have e : a.eval (.tmp 118) = .bool true := hg 37 118 rfl rfl
    have f : a.eval (.tmp 119) = .bool true := hg 38 119 rfl rfl
    exact k_pick rfl e (fun _ => f) (fun h => by cases h) rfl
  · intro a W hb ho hg
    rw [if_pos (wanted_none rfl)]
    have e : a.eval (.tmp 120) = .bool true := hg 39 120 rfl rfl
    exact k_move rfl e rfl
  · intro a W hb ho hg
    have eg : a.eval (.tmp 121) = .bool true := hg 40 121 rfl rfl
    rw [if_pos (wanted_some rfl rfl eg)]
    have e : a.eval (.tmp 5) = .pointer (some ⟨bl, 0, none⟩) := ho 5 (rfl)
    exact k_move rfl e rfl
  · intro a W hb ho hg
    have eg : a.eval (.tmp 121) = .bool true := hg 40 121 rfl rfl
    rw [if_pos (wanted_some rfl rfl eg)]
    have e0 : a.eval (.tmp 122) = .pointer (some ⟨bl, 0, none⟩) := hg 41 122 rfl rfl
    exact k_call (f := 27) rfl (by simp only [List.map_toArray, List.map_cons, List.map_nil, e0] <;> rfl) (by go_simp) (UL.full2 (HU W hb) hK) (fun e W' h => ⟨_, h.1, h.2, rfl⟩)
  · intro a W hb ho hg
    rw [if_pos (wanted_none rfl)]
    have e : a.eval (.tmp 121) = .bool true := hg 40 121 rfl rfl
    have f : a.eval (.tmp 123) = .bool true := hg 42 123 rfl rfl
    exact k_pick rfl e (fun _ => f) (fun h => by cases h) rfl
  · intro a W hb ho hg
    rw [if_pos (wanted_none rfl)]
    have e : a.eval (.tmp 124) = .bool true := hg 43 124 rfl rfl
    exact k_move rfl e rfl
  · intro a W hb ho hg
    have eg : a.eval (.tmp 125) = .bool true := hg 44 125 rfl rfl
    rw [if_pos (wanted_some rfl rfl eg)]
    have e : a.eval (.tmp 5) = .pointer (some ⟨bl, 0, none⟩) := ho 5 (rfl)
    exact k_move rfl e rfl
  · intro a W hb ho hg
    have eg : a.eval (.tmp 125) = .bool true := hg 44 125 rfl rfl
    rw [if_pos (wanted_some rfl rfl eg)]
    have e0 : a.eval (.tmp 126) = .pointer (some ⟨bl, 0, none⟩) := hg 45 126 rfl rfl
    exact k_call (f := 30) rfl (by simp only [List.map_toArray, List.map_cons, List.map_nil, e0] <;> rfl) (by go_simp) (UL.list2 (HU W hb) hK hN) (fun e W' ⟨A, c, he, hr, _, _, hb'⟩ => ⟨_, he, hb', A, c, rfl, hr⟩)
  · intro a W hb ho hg
    have eg : a.eval (.tmp 125) = .bool true := hg 44 125 rfl rfl
    rw [if_pos (wanted_some rfl rfl eg)]
    have e : a.eval (.tmp 1) = .pointer (some ⟨na, 0, none⟩) := ho 1 (rfl)
    obtain ⟨q0, q1, q2⟩ := CA W hb
    exact k_run (r_load rfl e q0 q1 q2) rfl
  · intro a W hb ho hg
    have eg : a.eval (.tmp 125) = .bool true := hg 44 125 rfl rfl
    rw [if_pos (wanted_some rfl rfl eg)]
    have e : a.eval (.tmp 2) = .pointer (some ⟨na + 1, 0, none⟩) := ho 2 (rfl)
    obtain ⟨q0, q1, q2⟩ := CB W hb
    exact k_run (r_load rfl e q0 q1 q2) rfl
  · intro a W hb ho hg
    have eg : a.eval (.tmp 125) = .bool true := hg 44 125 rfl rfl
    rw [if_pos (wanted_some rfl rfl eg)]
    have e0 : a.eval (.tmp 128) = sptV ((0, 0), 1) := hg 47 128 rfl rfl
    have e1 : a.eval (.tmp 129) = sptV ((0, 0), 2) := hg 48 129 rfl rfl
    exact k_build2 rfl e0 e1 ⟨_, _, rfl, rdS_build2 _ _ _⟩
  · intro a W hb ho hg
    have eg : a.eval (.tmp 125) = .bool true := hg 44 125 rfl rfl
    rw [if_pos (wanted_some rfl rfl eg)]
    obtain ⟨Ae0, ce0, e0, re0⟩ := (show ∃ A k, a.eval (.tmp 127) = .slice A [((0, 0), 1), ((0, 0), 2)].length k ∧ RdS W W.heap.size A [((0, 0), 1), ((0, 0), 2)] from hg 46 127 rfl rfl)
    obtain ⟨Ae1, ce1, e1, re1⟩ := (show ∃ A k, a.eval (.tmp 130) = .slice A [((0, 0), 1), ((0, 0), 2)].length k ∧ RdS W W.heap.size A [((0, 0), 1), ((0, 0), 2)] from hg 49 130 rfl rfl)
    exact k_call (f := 29) rfl (by simp only [List.map_toArray, List.map_cons, List.map_nil, e0, e1] <;> rfl) (by go_simp) (UL.same re0 re1) (fun e W' h => ⟨_, h.1, h.2, rfl⟩)
  · intro a W hb ho hg
    rw [if_pos (wanted_none rfl)]
    have e : a.eval (.tmp 125) = .bool true := hg 44 125 rfl rfl
    have f : a.eval (.tmp 131) = .bool true := hg 50 131 rfl rfl
    exact k_pick rfl e (fun _ => f) (fun h => by cases h) rfl
  · intro a W hb ho hg
    rw [if_pos (wanted_none rfl)]
    have e : a.eval (.tmp 132) = .bool true := hg 51 132 rfl rfl
    exact k_move rfl e rfl
  · intro a W hb ho hg
    have eg : a.eval (.tmp 133) = .bool true := hg 52 133 rfl rfl
    rw [if_pos (wanted_some rfl rfl eg)]
    have e : a.eval (.tmp 6) = .pointer (some ⟨bn, 0, none⟩) := ho 6 (rfl)
    exact k_move rfl e rfl
  · intro a W hb ho hg
    have eg : a.eval (.tmp 133) = .bool true := hg 52 133 rfl rfl
    rw [if_pos (wanted_some rfl rfl eg)]
    have e0 : a.eval (.tmp 134) = .pointer (some ⟨bn, 0, none⟩) := hg 53 134 rfl rfl
    exact k_call (f := 27) rfl (by simp only [List.map_toArray, List.map_cons, List.map_nil, e0] <;> rfl) (by go_simp) (UL.full3 (HU W hb)) (fun e W' h => ⟨_, h.1, h.2, rfl⟩)
  · intro a W hb ho hg
    rw [if_pos (wanted_none rfl)]
    have e : a.eval (.tmp 133) = .bool true := hg 52 133 rfl rfl
    have f : a.eval (.tmp 135) = .bool true := hg 54 135 rfl rfl
    exact k_pick rfl e (fun _ => f) (fun h => by cases h) rfl
  · intro a W hb ho hg
    rw [if_pos (wanted_none rfl)]
    have e : a.eval (.tmp 136) = .bool true := hg 55 136 rfl rfl
    exact k_move rfl e rfl
  · intro a W hb ho hg
    have eg : a.eval (.tmp 137) = .bool true := hg 56 137 rfl rfl
    rw [if_pos (wanted_some rfl rfl eg)]
    have e : a.eval (.tmp 6) = .pointer (some ⟨bn, 0, none⟩) := ho 6 (rfl)
    exact k_move rfl e rfl
  · intro a W hb ho hg
    have eg : a.eval (.tmp 137) = .bool true := hg 56 137 rfl rfl
    rw [if_pos (wanted_some rfl rfl eg)]
    have e : a.eval (.tmp 1) = .pointer (some ⟨na, 0, none⟩) := ho 1 (rfl)
    obtain ⟨q0, q1, q2⟩ := CA W hb
    exact k_run (r_load rfl e q0 q1 q2) rfl
  · intro a W hb ho hg
    have eg : a.eval (.tmp 137) = .bool true := hg 56 137 rfl rfl
    rw [if_pos (wanted_some rfl rfl eg)]
    have e0 : a.eval (.tmp 138) = .pointer (some ⟨bn, 0, none⟩) := hg 57 138 rfl rfl
    have e1 : a.eval (.tmp 139) = sptV ((0, 0), 1) := hg 58 139 rfl rfl
    exact k_call (f := 23) rfl (by simp only [List.map_toArray, List.map_cons, List.map_nil, e0, e1] <;> rfl) (by go_simp) (UL.offer3 (HU W hb) _) (fun e W' h => ⟨_, h.1, h.2, rfl⟩)
  · intro a W hb ho hg
    have eg : a.eval (.tmp 137) = .bool true := hg 56 137 rfl rfl
    rw [if_pos (wanted_some rfl rfl eg)]
    have e : a.eval (.tmp 140) = .bool false := hg 59 140 rfl rfl
    exact k_not rfl e rfl
  · intro a W hb ho hg
    rw [if_pos (wanted_none rfl)]
    have e : a.eval (.tmp 137) = .bool true := hg 56 137 rfl rfl
    have f : a.eval (.tmp 141) = .bool true := hg 60 141 rfl rfl
    exact k_pick rfl e (fun _ => f) (fun h => by cases h) rfl
  · intro a W hb ho hg
    rw [if_pos (wanted_none rfl)]
    have e : a.eval (.tmp 142) = .bool true := hg 61 142 rfl rfl
    exact k_move rfl e rfl
  · intro a W hb ho hg
    have eg : a.eval (.tmp 143) = .bool true := hg 62 143 rfl rfl
    rw [if_pos (wanted_some rfl rfl eg)]
    have e : a.eval (.tmp 6) = .pointer (some ⟨bn, 0, none⟩) := ho 6 (rfl)
    exact k_move rfl e rfl
  · intro a W hb ho hg
    have eg : a.eval (.tmp 143) = .bool true := hg 62 143 rfl rfl
    rw [if_pos (wanted_some rfl rfl eg)]
    have e0 : a.eval (.tmp 144) = .pointer (some ⟨bn, 0, none⟩) := hg 63 144 rfl rfl
    exact k_call (f := 30) rfl (by simp only [List.map_toArray, List.map_cons, List.map_nil, e0] <;> rfl) (by go_simp) (UL.list3 (HU W hb)) (fun e W' ⟨A, c, he, hr, _, _, hb'⟩ => ⟨_, he, hb', A, c, rfl, hr⟩)
  · intro a W hb ho hg
    have eg : a.eval (.tmp 143) = .bool true := hg 62 143 rfl rfl
    rw [if_pos (wanted_some rfl rfl eg)]
    obtain ⟨Ae, ce, e, re⟩ := (show ∃ A k, a.eval (.tmp 145) = .slice A ([] : List SpotT).length k ∧ RdS W W.heap.size A ([] : List SpotT) from hg 64 145 rfl rfl)
    exact k_run (r_len rfl e) rfl
  · intro a W hb ho hg
    have eg : a.eval (.tmp 143) = .bool true := hg 62 143 rfl rfl
    rw [if_pos (wanted_some rfl rfl eg)]
    have e : a.eval (.tmp 146) = .int .i64 0 := hg 65 146 rfl rfl
    have f : a.eval (.const (.int .i64 0)) = .int .i64 0 := rfl
    exact k_run (r_eqI rfl e f) rfl
  · intro a W hb ho hg
    rw [if_pos (wanted_none rfl)]
    have e : a.eval (.tmp 143) = .bool true := hg 62 143 rfl rfl
    have f : a.eval (.tmp 147) = .bool true := hg 66 147 rfl rfl
    exact k_pick rfl e (fun _ => f) (fun h => by cases h) rfl
  · intro a W hb ho hg
    rw [if_pos (wanted_none rfl)]
    have e : a.eval (.tmp 148) = .bool true := hg 67 148 rfl rfl
    exact k_move rfl e rfl
  · intro a W hb ho hg
    have eg : a.eval (.tmp 149) = .bool true := hg 68 149 rfl rfl
    rw [if_pos (wanted_some rfl rfl eg)]
    have e : a.eval (.tmp 20) = .bool false := ho 20 (rfl)
    exact k_move rfl e rfl
  · intro a W hb ho hg
    have eg : a.eval (.tmp 149) = .bool true := hg 68 149 rfl rfl
    rw [if_pos (wanted_some rfl rfl eg)]
    have e : a.eval (.tmp 150) = .bool false := hg 69 150 rfl rfl
    exact k_not rfl e rfl
  · intro a W hb ho hg
    rw [if_pos (wanted_none rfl)]
    have e : a.eval (.tmp 149) = .bool true := hg 68 149 rfl rfl
    have f : a.eval (.tmp 151) = .bool true := hg 70 151 rfl rfl
    exact k_pick rfl e (fun _ => f) (fun h => by cases h) rfl
  · intro a W hb ho hg
    rw [if_pos (wanted_none rfl)]
    have e : a.eval (.tmp 152) = .bool true := hg 71 152 rfl rfl
    exact k_move rfl e rfl
  · intro a W hb ho hg
    have eg : a.eval (.tmp 153) = .bool true := hg 72 153 rfl rfl
    rw [if_pos (wanted_some rfl rfl eg)]
    have e : a.eval (.tmp 17) = .pointer none := ho 17 (rfl)
    exact k_move rfl e rfl
  · intro a W hb ho hg
    have eg : a.eval (.tmp 153) = .bool true := hg 72 153 rfl rfl
    rw [if_pos (wanted_some rfl rfl eg)]
    have e0 : a.eval (.tmp 154) = .pointer none := hg 73 154 rfl rfl
    exact k_call (f := 26) rfl (by simp only [List.map_toArray, List.map_cons, List.map_nil, e0] <;> rfl) (by go_simp) (UL.lenn W) (fun e W' h => ⟨_, h.1, h.2, rfl⟩)
  · intro a W hb ho hg
    have eg : a.eval (.tmp 153) = .bool true := hg 72 153 rfl rfl
    rw [if_pos (wanted_some rfl rfl eg)]
    have e : a.eval (.tmp 155) = .int .i64 0 := hg 74 155 rfl rfl
    have f : a.eval (.const (.int .i64 0)) = .int .i64 0 := rfl
    exact k_run (r_eqI rfl e f) rfl
  · intro a W hb ho hg
    rw [if_pos (wanted_none rfl)]
    have e : a.eval (.tmp 153) = .bool true := hg 72 153 rfl rfl
    have f : a.eval (.tmp 156) = .bool true := hg 75 156 rfl rfl
    exact k_pick rfl e (fun _ => f) (fun h => by cases h) rfl
  · intro a W hb ho hg
    rw [if_pos (wanted_none rfl)]
    have e : a.eval (.tmp 157) = .bool true := hg 76 157 rfl rfl
    exact k_move rfl e rfl
  · intro a W hb ho hg
    have eg : a.eval (.tmp 158) = .bool true := hg 77 158 rfl rfl
    rw [if_pos (wanted_some rfl rfl eg)]
    have e : a.eval (.tmp 18) = .pointer none := ho 18 (rfl)
    exact k_move rfl e rfl
  · intro a W hb ho hg
    have eg : a.eval (.tmp 158) = .bool true := hg 77 158 rfl rfl
    rw [if_pos (wanted_some rfl rfl eg)]
    have e0 : a.eval (.tmp 159) = .pointer none := hg 78 159 rfl rfl
    exact k_call (f := 27) rfl (by simp only [List.map_toArray, List.map_cons, List.map_nil, e0] <;> rfl) (by go_simp) (UL.fulln W) (fun e W' h => ⟨_, h.1, h.2, rfl⟩)
  · intro a W hb ho hg
    rw [if_pos (wanted_none rfl)]
    have e : a.eval (.tmp 158) = .bool true := hg 77 158 rfl rfl
    have f : a.eval (.tmp 160) = .bool true := hg 79 160 rfl rfl
    exact k_pick rfl e (fun _ => f) (fun h => by cases h) rfl
  · intro a W hb ho hg
    rw [if_pos (wanted_none rfl)]
    have e : a.eval (.tmp 161) = .bool true := hg 80 161 rfl rfl
    exact k_move rfl e rfl
  · intro a W hb ho hg
    have eg : a.eval (.tmp 162) = .bool true := hg 81 162 rfl rfl
    rw [if_pos (wanted_some rfl rfl eg)]
    have e : a.eval (.tmp 18) = .pointer none := ho 18 (rfl)
    exact k_move rfl e rfl
  · intro a W hb ho hg
    have eg : a.eval (.tmp 162) = .bool true := hg 81 162 rfl rfl
    rw [if_pos (wanted_some rfl rfl eg)]
    have e : a.eval (.tmp 1) = .pointer (some ⟨na, 0, none⟩) := ho 1 (rfl)
    obtain ⟨q0, q1, q2⟩ := CA W hb
    exact k_run (r_load rfl e q0 q1 q2) rfl
  · intro a W hb ho hg
    have eg : a.eval (.tmp 162) = .bool true := hg 81 162 rfl rfl
    rw [if_pos (wanted_some rfl rfl eg)]
    have e0 : a.eval (.tmp 163) = .pointer none := hg 82 163 rfl rfl
    have e1 : a.eval (.tmp 164) = sptV ((0, 0), 1) := hg 83 164 rfl rfl
    exact k_call (f := 23) rfl (by simp only [List.map_toArray, List.map_cons, List.map_nil, e0, e1] <;> rfl) (by go_simp) (bOffer_nil _ W) (fun e W' h => ⟨_, h.1, h.2, rfl⟩)
  · intro a W hb ho hg
    have eg : a.eval (.tmp 162) = .bool true := hg 81 162 rfl rfl
    rw [if_pos (wanted_some rfl rfl eg)]
    have e : a.eval (.tmp 165) = .bool false := hg 84 165 rfl rfl
    exact k_not rfl e rfl
  · intro a W hb ho hg
    rw [if_pos (wanted_none rfl)]
    have e : a.eval (.tmp 162) = .bool true := hg 81 162 rfl rfl
    have f : a.eval (.tmp 166) = .bool true := hg 85 166 rfl rfl
    exact k_pick rfl e (fun _ => f) (fun h => by cases h) rfl
  · intro a W hb ho hg
    rw [if_pos (wanted_none rfl)]
    have e : a.eval (.tmp 167) = .bool true := hg 86 167 rfl rfl
    exact k_move rfl e rfl
  · intro a W hb ho hg
    have eg : a.eval (.tmp 168) = .bool true := hg 87 168 rfl rfl
    rw [if_pos (wanted_some rfl rfl eg)]
    have e : a.eval (.tmp 18) = .pointer none := ho 18 (rfl)
    exact k_move rfl e rfl
  · intro a W hb ho hg
    have eg : a.eval (.tmp 168) = .bool true := hg 87 168 rfl rfl
    rw [if_pos (wanted_some rfl rfl eg)]
    have e0 : a.eval (.tmp 169) = .pointer none := hg 88 169 rfl rfl
    exact k_call (f := 30) rfl (by simp only [List.map_toArray, List.map_cons, List.map_nil, e0] <;> rfl) (by go_simp) (bList_nil W) (fun e W' ⟨A, c, he, hr, _, _, hb'⟩ => ⟨_, he, hb', A, c, rfl, hr⟩)
  · intro a W hb ho hg
    have eg : a.eval (.tmp 168) = .bool true := hg 87 168 rfl rfl
    rw [if_pos (wanted_some rfl rfl eg)]
    obtain ⟨Ae, ce, e, re⟩ := (show ∃ A k, a.eval (.tmp 170) = .slice A ([] : List SpotT).length k ∧ RdS W W.heap.size A ([] : List SpotT) from hg 89 170 rfl rfl)
    exact k_run (r_len rfl e) rfl
  · intro a W hb ho hg
    have eg : a.eval (.tmp 168) = .bool true := hg 87 168 rfl rfl
    rw [if_pos (wanted_some rfl rfl eg)]
    have e : a.eval (.tmp 171) = .int .i64 0 := hg 90 171 rfl rfl
    have f : a.eval (.const (.int .i64 0)) = .int .i64 0 := rfl
    exact k_run (r_eqI rfl e f) rfl
  · intro a W hb ho hg
    rw [if_pos (wanted_none rfl)]
    have e : a.eval (.tmp 168) = .bool true := hg 87 168 rfl rfl
    have f : a.eval (.tmp 172) = .bool true := hg 91 172 rfl rfl
    exact k_pick rfl e (fun _ => f) (fun h => by cases h) rfl
  · intro a W hb ho hg
    rw [if_pos (wanted_none rfl)]
    have e : a.eval (.tmp 173) = .bool true := hg 92 173 rfl rfl
    exact k_assign rfl e rfl

end Go.Proofs.Ytglbefkfbnaijaa
