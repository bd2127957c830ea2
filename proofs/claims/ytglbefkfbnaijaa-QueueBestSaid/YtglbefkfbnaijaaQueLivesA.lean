/- The law's question of fixed answers: what its last region calls. -/
import Derived.Test.YtglbefkfbnaijaaQueUse
import Derived.Test.YtglbefkfbnaijaaHeldK
namespace Go.Proofs.Ytglbefkfbnaijaa
open Go.RowKit Go.Shelf Go.Sort

theorem keepS_nil (m : Nat) : keepS m [] = [] := by simp [keepS, sortS_nil]
theorem T.made {P : Nat → Prop} {X W1 W2 W3 : World} {bq bl bn m1 m2 : Nat} (hP : ∀ k, P k → k < X.heap.size)
    (q1 : X.heap.size ≤ bq) (q2 : HeapAt W1 bq fvS none 0 []) (q3 : Below X.heap.size X W1)
    (r1 : W1.heap.size ≤ bl) (r2 : HeapAt W2 bl fvG none 0 []) (r3 : W2.cell? ⟨bl, 2, none⟩ = some (.int .i64 m1)) (r4 : Below W1.heap.size W1 W2)
    (s1 : W2.heap.size ≤ bn) (s2 : HeapAt W3 bn fvG none 0 []) (s3 : W3.cell? ⟨bn, 2, none⟩ = some (.int .i64 m2)) (s4 : Below W2.heap.size W2 W3) : T P X W3 bq bl bn m1 m2 [] [] [] := by
  have e1 := q2.lt
  have e2 := r2.lt
  have e3 := s2.lt
  have z1 := q3.size
  have z2 := r4.size
  have z3 := s4.size
  have own : ∀ {b k : Nat}, Own b none k → k = b := fun h => h.elim id (fun e => by cases e)
  refine ⟨none, 0, [], none, 0, [], none, 0, [], ⟨(q2.later r4).later s4, r2.later s4, s2, (s4.cell (p := ⟨bl, 2, none⟩) e2).trans r3, s3, HeapOK.nil, HeapOK.nil, HeapOK.nil, ?_, ?_, ?_, ?_, ?_, ?_, ?_, ?_, ?_, ?_, ?_⟩, List.Perm.refl _, by rw [keepS_nil], by rw [keepS_nil]⟩
  · intro k h1 h2; have := own h1; have := own h2; omega
  · intro k h1 h2; have := own h1; have := own h2; omega
  · intro k h1 h2; have := own h1; have := own h2; omega
  · intro k h1; have := own h1; omega
  · intro k h1; have := own h1; omega
  · intro k h1; have := own h1; omega
  · exact q3.trans ((r4.mono z1).trans (s4.mono (by omega)))
  · intro k h1; have := hP k h1; omega
  · intro k h1 h2; have := hP k h1; have := own h2; omega
  · intro k h1 h2; have := hP k h1; have := own h2; omega
  · intro k h1 h2; have := hP k h1; have := own h2; omega

theorem keepS_lit {m : Nat} {O K : List SpotT} (hp : K.Perm O) (hs : K.Pairwise (fun x y => leS x y = true)) : keepS m O = K.take m := by
  unfold keepS
  rw [sortS_eq hp hs]
theorem off0 : offQ 2 [] ((0, 0), 3) = true := by
  unfold offQ
  rw [keepS_nil]
  rfl
theorem off1 : offQ 2 ([] ++ [((0, 0), 3)]) ((0, 0), 2) = true := by
  unfold offQ
  rw [keepS_lit (K := [((0, 0), 3)]) (by decide +kernel) (by decide +kernel)]
  rfl
theorem off2 : offQ 2 ([] ++ [((0, 0), 3)] ++ [((0, 0), 2)]) ((0, 0), 1) = true := by
  unfold offQ
  rw [keepS_lit (K := [((0, 0), 2), ((0, 0), 3)]) (by decide +kernel) (by decide +kernel)]
  decide +kernel
theorem off3 : offQ 2 ([] ++ [((0, 0), 3)] ++ [((0, 0), 2)] ++ [((0, 0), 1)]) ((0, 0), 3) = false := by
  unfold offQ
  rw [keepS_lit (K := [((0, 0), 1), ((0, 0), 2), ((0, 0), 3)]) (by decide +kernel) (by decide +kernel)]
  decide +kernel
/-- The three spots of lives, in their blocks. -/
def Abc (W : World) (n : Nat) : Prop := W.cell? ⟨n, 0, none⟩ = some (.int .u64 0) ∧ W.cell? ⟨n, 1, none⟩ = some (.int .u64 0) ∧ W.cell? ⟨n, 2, none⟩ = some (.int .i64 1) ∧ W.cell? ⟨n + 1, 0, none⟩ = some (.int .u64 0) ∧ W.cell? ⟨n + 1, 1, none⟩ = some (.int .u64 0) ∧ W.cell? ⟨n + 1, 2, none⟩ = some (.int .i64 2) ∧
  W.cell? ⟨n + 1 + 1, 0, none⟩ = some (.int .u64 0) ∧ W.cell? ⟨n + 1 + 1, 1, none⟩ = some (.int .u64 0) ∧ W.cell? ⟨n + 1 + 1, 2, none⟩ = some (.int .i64 3)
theorem abc_of {X W : World} {n : Nat} (h1 : SpC X n ((0, 0), 1)) (h2 : SpC X (n + 1) ((0, 0), 2)) (h3 : SpC X (n + 2) ((0, 0), 3)) (hs : X.heap.size = n + 3) (hb : Below X.heap.size X W) : Abc W n := by
  have k1 := h1.below hb (by omega)
  have k2 := h2.below hb (by omega)
  have k3 := h3.below hb (by omega)
  exact ⟨k1.1, k1.2.1, k1.2.2, k2.1, k2.2.1, k2.2.2, k3.1, k3.2.1, k3.2.2⟩

/-- What the last question's calls keep. -/
structure US (P : Nat → Prop) (X : World) (bq bl bn dx dy dz : Nat) (O : List SpotT) (W : World) : Prop where
  t : ∃ O3, T P X W bq bl bn 2 0 [((0, 0), 1), ((0, 0), 2)] O O3
  x : SpC W dx ((0, 0), 1)
  y : SpC W dy ((0, 0), 1)
  z : SpC W dz ((0, 0), 2)
  p : P dx ∧ P dy ∧ P dz
theorem RdS.pair {w : World} {b B : Nat} {x y : SpotT} (hb : b < B) (h0 : w.cell? ⟨b, 0, none⟩ = some (.int .u64 x.1.1)) (h1 : w.cell? ⟨b, 1, none⟩ = some (.int .u64 x.1.2)) (h2 : w.cell? ⟨b, 2, none⟩ = some (.int .i64 x.2))
    (h3 : w.cell? ⟨b, 3, none⟩ = some (.int .u64 y.1.1)) (h4 : w.cell? ⟨b, 4, none⟩ = some (.int .u64 y.1.2)) (h5 : w.cell? ⟨b, 5, none⟩ = some (.int .i64 y.2)) : RdS w B (some ⟨b, 0, none⟩) [x, y] := by
  intro k s hs
  match k with
  | 0 => simp at hs; subst hs; exact ⟨b, 0, rfl, hb, h0, h1, h2⟩
  | 1 => simp at hs; subst hs; exact ⟨b, 0, rfl, hb, h3, h4, h5⟩
  | k + 2 => simp at hs
section
variable {P : Nat → Prop} {X W W' : World} {bq bl bn dx dy dz : Nat} {O : List SpotT}
theorem US.later (h : US P X bq bl bn dx dy dz O W) (hk : Below W.heap.size W W') : US P X bq bl bn dx dy dz O W' := by
  obtain ⟨⟨O3, t⟩, x, y, z, p⟩ := h
  exact ⟨⟨O3, t.later hk⟩, x.below hk (World.block_lt_of_cell? _ _ x.1), y.below hk (World.block_lt_of_cell? _ _ y.1), z.below hk (World.block_lt_of_cell? _ _ z.1), p⟩
theorem US.alloc (h : US P X bq bl bn dx dy dz O W) (o : Obj) : US P X bq bl bn dx dy dz O (W.alloc o) := h.later ((Below.refl _ W).alloc (Nat.le_refl _) o)
theorem US.drew1 (h : US P X bq bl bn dx dy dz O W) : US P X bq bl bn dx dy dz O W.drew := h.later (below_draws W 1 _)
theorem US.hb (h : US P X bq bl bn dx dy dz O W) : Below X.heap.size X W := by
  obtain ⟨⟨O3, t⟩, _⟩ := h
  exact t.below
end

/-- An offer to a best list that may have none. -/
theorem bOffer_zero {b : Nat} {A : Option Addr} {c : Nat} {W : World} (h : HeapAt W b fvG A c []) (hm : W.cell? ⟨b, 2, none⟩ = some (.int .i64 (0 : Nat))) (s : SpotT) :
    Calls Try.prog 23 #[.pointer (some ⟨b, 0, none⟩), sptV s] W fun e W' => e = .returned (.bool false) ∧ Below W.heap.size W W' := by
  have mixed : Try.prog.follows .mixedOrders = true := by kernel_rfl
  have hX := below_new3 W (.cells #[.int .u64 s.1.1, .int .u64 s.1.2, .int .i64 s.2] 33)
  have H := Lib.hid (h.later hX)
  have HM := Lib.hid ((hX.cell (p := ⟨b, 2, none⟩) h.lt).trans hm)
  have HB := Lib.hid hX
  clear h hX hm
  obtain ⟨⟨xa, xb⟩, xc⟩ := s
  unfold sptV
  simp only at H HM HB ⊢
  go_enter Try.func23, Try.ntmps23
  go_upto_region 1 with (fail)
  generalize W.alloc (.cells #[.int .u64 xa, .int .u64 xb, .int .i64 xc] 33) = X at *
  go_wp2_with fail
  refine (bFull_any H.out 0 HM.out).mono ?_
  rintro e X1 ⟨rfl, q, rfl⟩
  rw [decide_eq_true (Nat.zero_le _)]
  have hD := below_draws X q X.heap.size
  have H1 := Lib.hid (H.out.later hD)
  have HB1 := Lib.hid (HB.out.trans (hD.mono HB.out.size))
  clear hD H HM HB
  generalize X.drewN q = Y at *
  go_wp2_with fail
  refine (bWorst_any H1.out).mono ?_
  rintro e Z ⟨rfl, hb⟩
  have HB2 := Lib.hid ((HB1.out.trans (hb.mono HB1.out.size)).alloc (Nat.le_trans HB1.out.size hb.size) (.cells #[.int .u64 0, .int .u64 0, .int .i64 0] 33))
  rw [show spAt ([] : List SpotT) 0 = ((0, 0), 0) from rfl, show decide (0 < ([] : List SpotT).length) = false from rfl]
  unfold sptV
  simp only
  go_upto_region 5 with (fail)
  generalize Z.alloc (.cells #[.int .u64 0, .int .u64 0, .int .i64 0] 33) = V at *
  go_wp2
  go_ret
  exact ⟨rfl, HB2.out⟩

section
variable {P : Nat → Prop} {X W : World} {bq bl bn dx dy dz : Nat} {O : List SpotT}
theorem UL.len (h : US P X bq bl bn dx dy dz O W) : Calls Try.prog 26 #[.pointer (some ⟨bq, 0, none⟩)] W fun e W' => e = .returned (.int .i64 2) ∧ Below W.heap.size W W' := by
  obtain ⟨⟨O3, t⟩, _⟩ := h
  refine t.len.mono ?_
  rintro e W' ⟨he, rfl⟩
  exact ⟨he, Below.refl _ _⟩
theorem UL.full2 (h : US P X bq bl bn dx dy dz O W) (hO : keepS 2 O = [((0, 0), 1), ((0, 0), 2)]) : Calls Try.prog 27 #[.pointer (some ⟨bl, 0, none⟩)] W fun e W' => e = .returned (.bool true) ∧ Below W.heap.size W W' := by
  obtain ⟨⟨O3, t⟩, _⟩ := h
  have hf := t.full2
  rw [hO] at hf
  refine hf.mono ?_
  rintro e W' ⟨he, q, rfl⟩
  exact ⟨he, below_draws W q _⟩
theorem UL.full3 (h : US P X bq bl bn dx dy dz O W) : Calls Try.prog 27 #[.pointer (some ⟨bn, 0, none⟩)] W fun e W' => e = .returned (.bool true) ∧ Below W.heap.size W W' := by
  obtain ⟨⟨O3, t⟩, _⟩ := h
  refine t.full3.mono ?_
  rintro e W' ⟨he, q, rfl⟩
  rw [decide_eq_true (Nat.zero_le _)] at he
  exact ⟨he, below_draws W q _⟩
theorem UL.fulln (W : World) : Calls Try.prog 27 #[.pointer none] W fun e W' => e = .returned (.bool true) ∧ Below W.heap.size W W' := by
  refine (bFull_nil W).mono ?_
  rintro e W' ⟨he, q, rfl⟩
  exact ⟨he, below_draws W q _⟩
theorem UL.lenn (W : World) : Calls Try.prog 26 #[.pointer none] W fun e W' => e = .returned (.int .i64 0) ∧ Below W.heap.size W W' := by
  refine (qLen_nil W).mono ?_
  rintro e W' ⟨he, rfl⟩
  exact ⟨he, Below.refl _ _⟩
theorem UL.list2 (h : US P X bq bl bn dx dy dz O W) (hO : keepS 2 O = [((0, 0), 1), ((0, 0), 2)]) (hn : O.length ≤ 100000) : Calls Try.prog 30 #[.pointer (some ⟨bl, 0, none⟩)] W (SpotsOut [((0, 0), 1), ((0, 0), 2)] W) := by
  obtain ⟨⟨O3, t⟩, _⟩ := h
  have hf := t.list2 hn
  rw [hO] at hf
  exact hf
theorem UL.list3 (h : US P X bq bl bn dx dy dz O W) : Calls Try.prog 30 #[.pointer (some ⟨bn, 0, none⟩)] W (SpotsOut [] W) := by
  obtain ⟨⟨O3, A1, c1, M1, A2, c2, M2, A3, c3, M3, t, p1, p2, p3⟩, x, y, z, p⟩ := h
  have hM : M3 = [] := by rw [show keepS 0 O3 = [] by simp [keepS]] at p3; exact p3.eq_nil
  have hf := bList_any t.h3 (by rw [hM]; simp)
  rw [hM, sortS_nil] at hf
  exact hf
theorem UL.offer3 (h : US P X bq bl bn dx dy dz O W) (s : SpotT) : Calls Try.prog 23 #[.pointer (some ⟨bn, 0, none⟩), sptV s] W fun e W' => e = .returned (.bool false) ∧ Below W.heap.size W W' := by
  obtain ⟨⟨O3, A1, c1, M1, A2, c2, M2, A3, c3, M3, t, p1, p2, p3⟩, x, y, z, p⟩ := h
  have hM : M3 = [] := by rw [show keepS 0 O3 = [] by simp [keepS]] at p3; exact p3.eq_nil
  subst hM
  exact bOffer_zero t.h3 t.k3 s
theorem UL.same {A1 B : Option Addr} {c1 c2 : Nat} {L : List SpotT} (hr : RdS W W.heap.size A1 L) (hl : RdS W W.heap.size B L) (hn : L.length ≤ 3 := by decide) :
    Calls Try.prog 29 #[.slice A1 L.length c1, .slice B L.length c2] W fun e W' => e = .returned (.bool true) ∧ Below W.heap.size W W' :=
  (SameS_refl A1 B L c1 c2 _ hr hl (by omega)).mono fun _ _ ⟨he, hd⟩ => ⟨he, hd.below _⟩
end
theorem rdS_build2 (W : World) (x y : SpotT) : RdS (W.alloc (.cells #[.int .u64 x.1.1, .int .u64 x.1.2, .int .i64 x.2, .int .u64 y.1.1, .int .u64 y.1.2, .int .i64 y.2] 33)) (W.alloc (.cells #[.int .u64 x.1.1, .int .u64 x.1.2, .int .i64 x.2, .int .u64 y.1.1, .int .u64 y.1.2, .int .i64 y.2] 33)).heap.size (some ⟨W.heap.size, 0, none⟩) [x, y] := RdS.pair (by go_size) (by go_cell) (by go_cell) (by go_cell) (by go_cell) (by go_cell) (by go_cell)
theorem k_build2 {Q : Exit → Act → World → Prop} {V : Nat → Value → World → Prop} {i : Nat} {o : Oper} {a : Act} {W : World} {s t : Operand} {x y : SpotT} (ho : o.op = .buildSlice 28 2 #[(0, s), (1, t)]) (e : a.eval s = sptV x) (e' : a.eval t = sptV y)
    (hv : V i (.slice (some ⟨W.heap.size, 0, none⟩) 2 2) (W.alloc (.cells #[.int .u64 x.1.1, .int .u64 x.1.2, .int .i64 x.2, .int .u64 y.1.1, .int .u64 y.1.2, .int .i64 y.2] 33))) : Oper.wp Try.prog o a W (NextV V i o a W) Q := by
  unfold sptV at e e'
  have h : (execOp a.eval o).run Try.prog W = .ok (.value (.slice (some ⟨W.heap.size, 0, none⟩) 2 2)) (W.alloc (.cells #[.int .u64 x.1.1, .int .u64 x.1.2, .int .i64 x.2, .int .u64 y.1.1, .int .u64 y.1.2, .int .i64 y.2] 33)) := by
    simp only [execOp, ho, List.map_toArray, List.map_cons, List.map_nil, e, e']
    go_simp
  unfold Oper.wp
  rw [h]
  exact ⟨_, rfl, below_new3 W _, hv⟩
/-- What each operation of the last region tells. -/
def lives8Ds (na bq bl bn dx dy dz : Nat) : List Ds := [.c (sptV ((0, 0), 1)), .c (sptV ((0, 0), 1)), .c (.bool true), .c (.bool true), .c (.bool true), .c (.bool true), .c (.bool true), .c (sptV ((0, 0), 1)), .c (sptV ((0, 0), 1)), .c (.bool true), .c (.bool true), .c (.bool true), .c (.bool true), .c (.bool true), .c (.bool true), .c (.pointer (some ⟨bq, 0, none⟩)), .c (.int .i64 2), .c (.bool true), .c (.bool true), .c (.bool true), .c (.bool true), .c (.bool true), .c (.bool true), .c (.bool true), .c (.bool true), .c (.bool true), .c (.bool true), .c (.bool true), .c (.bool true), .c (.bool false), .c (.bool true), .c (.bool true), .c (.bool true), .c (sptV ((0, 0), 2)), .c (sptV ((0, 0), 2)), .c (.bool true), .c (.bool true), .c (.bool true), .c (.bool true), .c (.bool true), .c (.bool true), .c (.pointer (some ⟨bl, 0, none⟩)), .c (.bool true), .c (.bool true), .c (.bool true), .c (.pointer (some ⟨bl, 0, none⟩)), .sp [((0, 0), 1), ((0, 0), 2)], .c (sptV ((0, 0), 1)), .c (sptV ((0, 0), 2)), .sp [((0, 0), 1), ((0, 0), 2)], .c (.bool true), .c (.bool true), .c (.bool true), .c (.pointer (some ⟨bn, 0, none⟩)), .c (.bool true), .c (.bool true), .c (.bool true), .c (.pointer (some ⟨bn, 0, none⟩)), .c (sptV ((0, 0), 1)), .c (.bool false), .c (.bool true), .c (.bool true), .c (.bool true), .c (.pointer (some ⟨bn, 0, none⟩)), .sp ([] : List SpotT), .c (.int .i64 0), .c (.bool true), .c (.bool true), .c (.bool true), .c (.bool false), .c (.bool true), .c (.bool true), .c (.bool true), .c (.pointer none), .c (.int .i64 0), .c (.bool true), .c (.bool true), .c (.bool true), .c (.pointer none), .c (.bool true), .c (.bool true), .c (.bool true), .c (.pointer none), .c (sptV ((0, 0), 1)), .c (.bool false), .c (.bool true), .c (.bool true), .c (.bool true), .c (.pointer none), .sp ([] : List SpotT), .c (.int .i64 0), .c (.bool true), .c (.bool true), .c (.bool true)]

end Go.Proofs.Ytglbefkfbnaijaa
