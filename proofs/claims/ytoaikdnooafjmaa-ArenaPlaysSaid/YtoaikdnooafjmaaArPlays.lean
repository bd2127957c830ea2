/- An arena has the states and generations that the document says (ArenaPlays), walked. -/
import Derived.Test.YtoaikdnooafjmaaArLives
import Derived.Test.YtoaikdnooafjmaaRefAr5
import Derived.Test.YtoaikdnooafjmaaLawTrip
import Derived.Lib.QuietBelow
namespace Go.Proofs.Ytoaikdnooafjmaa
open Go.RowKit

/-- An arena x, the document's arena y as the value V, the box X of the document's (cs: what it holds), and other boxes of the law's. -/
structure AP (w0 : World) (n B X : Nat) (x y : AR) (V : Value) (cs : List Value) (D : List (Nat × List Value)) (w : World) : Prop where
  aj : AJ w0 n B x (fun b => (b = X ∨ ∃ p ∈ D, p.1 = b) ∨ VB V b) w
  ra : RA w V y
  bx : Bx w X cs
  bs : ∀ p ∈ D, Bx w p.1 p.2 ∧ p.1 ≠ X
  nx : ¬ VB V X
theorem Bx.keep {w w' : World} {b : Nat} {vs : List Value} (h : Bx w b vs) (hk : w'.heap[b]? = w.heap[b]?) (hs : w.heap.size ≤ w'.heap.size) : Bx w' b vs :=
  ⟨Nat.lt_of_lt_of_le h.lt hs, fun j v hj => (World.cell?_of_block (w := w) hk).trans (h.c j v hj), fun j => (World.frozen?_of_block (w := w) hk).trans (h.f j)⟩
section
variable {w0 w w' : World} {n m B X : Nat} {x x' y y' : AR} {V V' : Value} {cs cs' : List Value} {D D' : List (Nat × List Value)}
theorem AP.below0 (h : AP w0 n B X x y V cs D w) : Below w0.heap.size w0 w := h.aj.below
theorem AP.more (h : AP w0 n B X x y V cs D w) (hm : n ≤ m) : AP w0 m B X x y V cs D w := { h with aj := h.aj.more hm }
theorem AP.doc (h : AP w0 n B X x y V cs D w) (hb : Below w.heap.size w w') (hr : RA w' V' y') (hv : ∀ b, VB V' b → VB V b ∨ w.heap.size ≤ b) : AP w0 n B X x y' V' cs D w' :=
  ⟨h.aj.write (M := fun _ => False) (Chg.of_below hb) (fun _ e => e.elim) (fun b e => by
    rcases e with e | e
    · exact .inl (.inl e)
    · exact (hv b e).imp .inr (fun h2 => ⟨h2, hr.lt e⟩)), hr, h.bx.below hb, fun p hp => ⟨(h.bs p hp).1.below hb, (h.bs p hp).2⟩, fun e => (hv X e).elim h.nx (fun h2 => by have := h.bx.lt; omega)⟩
theorem AP.later (h : AP w0 n B X x y V cs D w) (hb : Below w.heap.size w w') : AP w0 n B X x y V cs D w' := h.doc hb (h.ra.later hb) (fun _ e => .inl e)
theorem AP.box (h : AP w0 n B X x y V cs D w) (vs : List Value) (t : TypeId) : AP w0 n B X x y V cs ((w.heap.size, vs) :: D) (w.alloc (.cells vs.toArray t)) := by
  have hb := below_new w (.cells vs.toArray t)
  refine ⟨h.aj.write (M := fun _ => False) (Chg.of_below hb) (fun _ e => e.elim) (fun b e => ?_), h.ra.later hb, h.bx.below hb, fun p hp => ?_, h.nx⟩
  · rcases e with (e | ⟨p, hp, e⟩) | e
    · exact .inl (.inl (.inl e))
    · rcases List.mem_cons.1 hp with rfl | hp
      · exact .inr ⟨by simp only at e; omega, by simp only at e; rw [World.size_alloc]; omega⟩
      · exact .inl (.inl (.inr ⟨p, hp, e⟩))
    · exact .inl (.inr e)
  · rcases List.mem_cons.1 hp with rfl | hp
    · exact ⟨Bx.new w vs t, by have := h.bx.lt; show w.heap.size ≠ X; omega⟩
    · exact ⟨(h.bs p hp).1.below hb, (h.bs p hp).2⟩
theorem AP.sub (h : AP w0 n B X x y V cs D w) (hs : ∀ p ∈ D', p ∈ D) : AP w0 n B X x y V cs D' w :=
  ⟨h.aj.sub fun b e => by
    rcases e with (e | ⟨p, hp, e⟩) | e
    · exact .inl (.inl e)
    · exact .inl (.inr ⟨p, hs p hp, e⟩)
    · exact .inr e, h.ra, h.bx, fun p hp => h.bs p (hs p hp), h.nx⟩
theorem AP.prog (h : AP w0 n B X x y V cs D w) (hj : AJ w0 m B x' (fun b => (b = X ∨ ∃ p ∈ D, p.1 = b) ∨ VB V b) w') (hk : KeepA (fun b => (b = X ∨ ∃ p ∈ D, p.1 = b) ∨ VB V b) w w') : AP w0 m B X x' y V cs D w' := by
  have hlt : ∀ b, ((b = X ∨ ∃ p ∈ D, p.1 = b) ∨ VB V b) → b < w'.heap.size := fun b e => (hj.lt e).2
  refine ⟨hj, ?_, ?_, fun p hp => ?_, h.nx⟩
  · have hX := h.ra
    have hlt2 := fun b (e : VB V b) => hlt b (.inr e)
    obtain ⟨A1, c1, A2, c2, A3, c3, rfl, r1, r2, r3, r4, r5, b3, o3, r6, r7⟩ := hX
    have go : ∀ {A : Option Addr} {L : List Int}, (∀ b o, A = some ⟨b, o, none⟩ → VB (aV A1 (y.st.length + 1) c1 A2 (y.st.length + 1) c2 A3 y.fr.length c3) b) → Rd (Value.int .i64) w w.heap.size A L → Rd (Value.int .i64) w' w'.heap.size A L := fun hv hr i z hi => by
      obtain ⟨b, o, e, hb, hc⟩ := hr i z hi
      exact ⟨b, o, e, hlt2 b (hv b o e), (World.cell?_of_block (w := w) (hk b (.inr (hv b o e)))).trans hc⟩
    exact ⟨A1, c1, A2, c2, A3, c3, rfl, go (fun b o e => VB_aV.2 (.inl ⟨o, e⟩)) r1, go (fun b o e => VB_aV.2 (.inr (.inl ⟨o, e⟩))) r2, go (fun b o e => VB_aV.2 (.inr (.inr ⟨o, e⟩))) r3, r4, r5, b3, o3, r6, hlt2 b3 (VB_aV.2 (.inr (.inr ⟨o3, r6⟩)))⟩
  · have q := hk X (.inl (.inl rfl))
    exact ⟨hlt X (.inl (.inl rfl)), fun j v hj => (World.cell?_of_block (w := w) q).trans (h.bx.c j v hj), fun j => (World.frozen?_of_block (w := w) q).trans (h.bx.f j)⟩
  · have hJ : (p.1 = X ∨ ∃ q ∈ D, q.1 = p.1) ∨ VB V p.1 := .inl (.inr ⟨p, hp, rfl⟩)
    have q := hk p.1 hJ
    have hb := (h.bs p hp).1
    exact ⟨⟨hlt _ hJ, fun j v hj => (World.cell?_of_block (w := w) q).trans (hb.c j v hj), fun j => (World.frozen?_of_block (w := w) q).trans (hb.f j)⟩, (h.bs p hp).2⟩
/-- The document's box is written. -/
theorem AP.setX {u0 u1 u2 : Value} (h : AP w0 n B X x y V [u0, u1, u2] D w) (v0 v1 v2 : Value) : AP w0 n B X x y V [v0, v1, v2] D (((w.setCell ⟨X, 0, none⟩ v0).setCell ⟨X, 1, none⟩ v1).setCell ⟨X, 2, none⟩ v2) := by
  have hc : Chg (fun b => b = X) w (((w.setCell ⟨X, 0, none⟩ v0).setCell ⟨X, 1, none⟩ v1).setCell ⟨X, 2, none⟩ v2) := Chg.setCell (M := fun b => b = X) (Chg.setCell (M := fun b => b = X) (Chg.setCell (M := fun b => b = X) Chg.refl rfl v0) rfl v1) rfl v2
  refine ⟨h.aj.write hc (fun b e => .inl (.inl e)) (fun b e => .inl e), h.ra.keep (fun b hb => hc.block b (h.ra.lt hb) (fun e => h.nx (e ▸ hb))) hc.size, h.bx.put3 v0 v1 v2, fun p hp => ?_, h.nx⟩
  have hb := h.bs p hp
  exact ⟨hb.1.chg hc hb.2, hb.2⟩
theorem AP.cell (h : AP w0 n B X x y V cs D w) {p : Nat × List Value} (hp : p ∈ D) (j : Nat) {v : Value} (hv : p.2[j]? = some v) : w.cell? ⟨p.1, j, none⟩ = some v := (h.bs p hp).1.c j v hv
theorem AP.vals (h : AP w0 n B X x y V cs D w) : ∃ s1 s2 s3, V = .agg #[s1, s2, s3] := by
  obtain ⟨A1, c1, A2, c2, A3, c3, rfl, _⟩ := h.ra
  exact ⟨_, _, _, rfl⟩
end

set_option maxRecDepth 100000 in
set_option maxHeartbeats 16000000 in
theorem ArenaPlays_walk (slots : Int) (A : Option Addr) (zs : List (Int × Int × Int)) (c : Nat) (w : World) (hA : RdI3 w w.heap.size A zs) (hI : ∀ x ∈ zs, IsI x.1 ∧ IsI x.2.1 ∧ IsI x.2.2) (hl : zs.length ≤ 9223372036854775807) (_ : zs.length ≤ c) (_ : A = none → c = 0) :
    Calls Try.prog 6 #[.int .i64 slots, .slice A zs.length c] w fun e w' => e = .returned (.bool true) ∧ Below w.heap.size w w' := by
  have hmix : Try.prog.follows .mixedOrders = true := by kernel_rfl
  by_cases hlong : 60 < zs.length
  · have hi : (60 : Int) < (zs.length : Int) := by omega
    clear hA hI
    go_enter Try.func6, Try.ntmps6
    go_wp2_with fail
    refine (ar_lives_any _).mono ?_
    rintro e w1 ⟨rfl, hb1⟩
    go_wp2
    go_ret
    exact ⟨rfl, hb1⟩
  have hi : ¬ (60 : Int) < (zs.length : Int) := by omega
  by_cases hbad : slots < 1 ∨ 4096 < slots
  · have HN := Lib.hid (fun W => arNew_not slots hbad W)
    have HN2 := Lib.hid (fun W => RaNew_not slots hbad W)
    clear hA hI hbad
    go_enter Try.func6, Try.ntmps6
    go_wp2_with fail
    refine (HN.out _).mono ?_
    rintro e w1 ⟨rfl, rfl⟩
    go_wp2_with fail
    refine (HN2.out _).mono ?_
    rintro e w2 ⟨rfl, hb2⟩
    have HB2 := Lib.hid (Below.next hb2 (below_new w2 (.cells #[.slice none 0 0, .slice none 0 0, .slice none 0 0] 93)))
    clear hb2
    go_wp2_with fail
    refine (ar_lives_any _).mono ?_
    rintro e w3 ⟨rfl, hb3⟩
    have HB3 := Lib.hid (Below.next HB2.out hb3)
    clear hb3 HB2
    go_wp2
    go_ret
    exact ⟨rfl, HB3.out⟩
  obtain ⟨N, rfl⟩ : ∃ N : Nat, slots = (N : Int) := ⟨slots.toNat, by omega⟩
  have hN1 : 1 ≤ N := by omega
  have hN2 : N ≤ 4096 := by omega
  have HI := Lib.hid hI
  clear hI hbad
  go_enter Try.func6, Try.ntmps6
  go_wp2_with fail
  refine (arNew_aj N hN1 hN2 w).mono ?_
  rintro e w2 ⟨B, rfl, h2⟩
  go_wp2_with fail
  refine (RaNew_any N hN1 hN2 w2).mono ?_
  rintro e w3 ⟨V, rfl, hr, hb3, hvb⟩
  have H3 : ∀ s1 s2 s3, V = .agg #[s1, s2, s3] → AP w 0 B w3.heap.size (arNew N) (arNew N) V [s1, s2, s3] [] (w3.alloc (.cells #[s1, s2, s3] 93)) := fun s1 s2 s3 _ => by
    have hb := below_new w3 (.cells #[s1, s2, s3] 93)
    refine ⟨(h2.write (M := fun _ => False) (J' := VB V) (Chg.of_below hb3) (fun _ e => e.elim) (fun b e => .inr ⟨hvb b e, hr.lt e⟩)).write (M := fun _ => False) (Chg.of_below hb) (fun _ e => e.elim) (fun b e => ?_), hr.later hb, Bx.new w3 [s1, s2, s3] _, fun p hp => (by cases hp), fun e => by have := hr.lt e; omega⟩
    rcases e with (e | ⟨p, hp, _⟩) | e
    · exact .inr ⟨by omega, by rw [e]; simp⟩
    · cases hp
    · exact .inl e
  obtain ⟨A1, c1, A2, c2, A3, c3, rfl, _⟩ := hr
  have HX := Lib.hid (H3 _ _ _ rfl)
  have HA := Lib.hid hA
  clear h2 hb3 hvb H3 hA
  unfold aV at *
  generalize (arNew N).st.length + 1 = l1 at *
  generalize (arNew N).fr.length = l3 at *
  go_wp2
  go_loopw [50] (fun i wr => ∃ (k : Nat) (x : AR) (A1 : Option Addr) (l1 c1 : Nat) (A2 : Option Addr) (l2 c2 : Nat) (A3 : Option Addr) (l3 c3 : Nat), k ≤ zs.length ∧ i = .int .i64 k ∧
    AP w k B w3.heap.size x x (.agg #[.slice A1 l1 c1, .slice A2 l2 c2, .slice A3 l3 c3]) [.slice A1 l1 c1, .slice A2 l2 c2, .slice A3 l3 c3] [] wr) (fun i _ => zs.length - (intOf i).toNat)
  case atStart => exact ⟨0, _, _, _, _, _, _, _, _, _, _, Nat.zero_le _, rfl, HX.out⟩
  case round =>
    clear HX
    obtain ⟨k, x, A1, l1, c1, A2, l2, c2, A3, l3, c3, hk, rfl, hE⟩ := hrel
    by_cases hlt : k < zs.length
    · obtain ⟨d, hd⟩ : ∃ d, zs[k]? = some d := ⟨_, List.getElem?_eq_getElem hlt⟩
      obtain ⟨b, off, rfl, hbb, q0, q1, q2⟩ := HA.out k d hd
      obtain ⟨kd, v, t⟩ := d
      have hbe := hE.below0
      have r0 := (hbe.cell (p := ⟨b, off + k * 3, none⟩) hbb).trans q0
      have r1 := (hbe.cell (p := ⟨b, off + k * 3 + 1, none⟩) hbb).trans q1
      have r2 := (hbe.cell (p := ⟨b, off + k * 3 + 2, none⟩) hbb).trans q2
      clear q0 q1 q2 hd hbe
      simp only at r0 r1 r2
      have hkl : (k : Int) < (zs.length : Int) := by omega
      have hk0 : (0 : Int) ≤ (k : Int) := by omega
      have hk100 : k < 100 := by omega
      have HD := Lib.hid (hE.box [.int .i64 kd, .int .i64 v, .int .i64 t] 97)
      clear hE
      obtain ⟨E, hE⟩ : ∃ E, wr.heap.size = E := ⟨_, rfl⟩
      rw [hE] at HD
      generalize hX : w3.heap.size = X at *
      by_cases k0 : kd = 0
      · as_aux_lemma =>
          subst k0
          have x0 := HD.out.bx.c 0 _ rfl
          have x1 := HD.out.bx.c 1 _ rfl
          have x2 := HD.out.bx.c 2 _ rfl
          have HDA := Lib.hid (RaAlloc_any HD.out.ra HD.out.aj.fit)
          go_wp2_with fail
          refine HDA.out.mono ?_
          rintro e w4 ⟨V4, rfl, hr4, hb4, hv4⟩

          have hfl : AFit k (alX x) := HD.out.aj.fit.al
          have H4 := Lib.hid (HD.out.doc hb4 hr4 hv4)
          have HL6' : ((alX x).fr.length : Int) = arCnt (alX x) 0 := by rw [hfl.cn]; rfl
          obtain ⟨A4, c4, A5, c5, A6, c6, rfl, _⟩ := hr4
          unfold aV at *
          obtain ⟨y, hy⟩ : ∃ y, alX x = y := ⟨_, rfl⟩
          rw [hy] at H4 HL6'
          rw [hy]
          generalize hl6 : y.fr.length = l6 at *
          generalize y.st.length + 1 = l4 at *
          have HL6 := Lib.hid HL6'.symm
          have HY := Lib.hid hy
          clear hb4 hv4 HD HDA HL6' hfl hy hl6 x0 x1 x2 r0 r1 r2 

          go_upto_region 19 with (fail)
          have H5 := Lib.hid ((H4.out.box [.slice A4 l4 c4, .slice A5 l4 c5, .slice A6 l6 c6] 93).box [.int .i64 (alS x : Int), .int .i64 (alG x : Int)] 99)
          rw [World.size_alloc] at H5
          obtain ⟨Y, hY⟩ : ∃ Y, w4.heap.size = Y := ⟨_, rfl⟩
          obtain ⟨R, hR⟩ : ∃ R, w4.heap.size + 1 = R := ⟨_, rfl⟩
          rw [hR, hY] at H5
          rw [hR, hY]
          clear H4 hY hR

          generalize (w4.alloc (.cells #[.slice A4 l4 c4, .slice A5 l4 c5, .slice A6 l6 c6] 93)).alloc (.cells #[.int .i64 (alS x : Int), .int .i64 (alG x : Int)] 99) = W5 at *
          have y0 := H5.out.cell (p := (Y, [.slice A4 l4 c4, .slice A5 l4 c5, .slice A6 l6 c6])) (by simp) 0 rfl
          have y1 := H5.out.cell (p := (Y, [.slice A4 l4 c4, .slice A5 l4 c5, .slice A6 l6 c6])) (by simp) 1 rfl
          have y2 := H5.out.cell (p := (Y, [.slice A4 l4 c4, .slice A5 l4 c5, .slice A6 l6 c6])) (by simp) 2 rfl
          have x0 := H5.out.bx.c 0 _ rfl
          have x1 := H5.out.bx.c 1 _ rfl
          have x2 := H5.out.bx.c 2 _ rfl
          have f0 := H5.out.bx.f 0
          have f1 := H5.out.bx.f 1
          have f2 := H5.out.bx.f 2
          have H6 := Lib.hid (H5.out.setX (.slice A4 l4 c4) (.slice A5 l4 c5) (.slice A6 l6 c6))
          clear H5
          go_upto_region 20 with (fail)
          generalize ((W5.setCell ⟨X, 0, none⟩ (.slice A4 l4 c4)).setCell ⟨X, 1, none⟩ (.slice A5 l4 c5)).setCell ⟨X, 2, none⟩ (.slice A6 l6 c6) = W6 at *
          clear y0 y1 y2 x0 x1 x2 f0 f1 f2

          have HP := Lib.hid (arAlloc_aj H6.out.aj)
          go_wp2_with fail
          refine HP.out.mono ?_
          rintro e w7 ⟨rfl, hj7, hk7⟩
          have H7 := Lib.hid ((H6.out.prog hj7 hk7).box [.int .i64 (alS x : Int), .int .i64 (alG x : Int)] 99)
          clear hj7 hk7 HP H6
          go_upto_region 21 with (fail)
          obtain ⟨R2, hR2⟩ : ∃ R2, w7.heap.size = R2 := ⟨_, rfl⟩
          rw [hR2] at H7
          rw [hR2]
          clear hR2
          rw [HY.out] at H7
          generalize w7.alloc (.cells #[.int .i64 (alS x : Int), .int .i64 (alG x : Int)] 99) = W8 at *
          have p0 := H7.out.cell (p := (R2, [.int .i64 (alS x : Int), .int .i64 (alG x : Int)])) (by simp) 0 rfl
          have p1 := H7.out.cell (p := (R2, [.int .i64 (alS x : Int), .int .i64 (alG x : Int)])) (by simp) 1 rfl
          have p2 := H7.out.cell (p := (R, [.int .i64 (alS x : Int), .int .i64 (alG x : Int)])) (by simp) 0 rfl
          have p3 := H7.out.cell (p := (R, [.int .i64 (alS x : Int), .int .i64 (alG x : Int)])) (by simp) 1 rfl
          clear HY
          generalize alS x = sa at *
          generalize alG x = ga at *
          generalize alB x = ba at *
          have H9 := Lib.hid (H7.out.more (Nat.le_succ k))
          clear H7
          go_upto_region 26 with (fail)
          clear p0 p1 p2 p3

          have H10 := Lib.hid ((H9.out.more (Nat.le_refl _)).sub (D' := [(E, [.int .i64 0, .int .i64 v, .int .i64 t])]) (fun p hp => by simp at hp; simp [hp]))
          clear H9
          generalize W8 = W9 at *
          have e1' : W9.cell? ⟨E, 1, none⟩ = some (.int .i64 v) := H10.out.cell (p := (E, [.int .i64 0, .int .i64 v, .int .i64 t])) (by simp) 1 rfl
          have e2' : W9.cell? ⟨E, 2, none⟩ = some (.int .i64 t) := H10.out.cell (p := (E, [.int .i64 0, .int .i64 v, .int .i64 t])) (by simp) 2 rfl
          have e1 := cell_regrown e1'
          have e2 := cell_regrown e2'
          clear e1' e2'
          have x0 := cell_regrown (H10.out.bx.c 0 _ rfl)
          have x1 := cell_regrown (H10.out.bx.c 1 _ rfl)
          have x2 := cell_regrown (H10.out.bx.c 2 _ rfl)
          have HS1 : Hid (∀ W, Below W9.heap.size W9 W → Calls Try.prog 68 #[.pointer (some ⟨B, 0, none⟩), .int .i64 v] W fun e w' => e = .returned (.int .i64 (arSt y v)) ∧ Below W.heap.size W w') := Lib.hid fun W hb => (arState_aj (H10.out.later hb).aj v).mono fun _ _ ⟨h1, h2⟩ => ⟨h1, by rw [← h2]; exact Below.refl _ _⟩
          have HG1 : Hid (∀ W, Below W9.heap.size W9 W → Calls Try.prog 70 #[.pointer (some ⟨B, 0, none⟩), .int .i64 v] W fun e w' => e = .returned (.int .i64 (arGn y v)) ∧ Below W.heap.size W w') := Lib.hid fun W hb => (arGen_aj (H10.out.later hb).aj v).mono fun _ _ ⟨h1, h2⟩ => ⟨h1, by rw [← h2]; exact Below.refl _ _⟩
          obtain ⟨fc, hfc⟩ : ∃ fc : Int → Int, fc = arCnt y := ⟨_, rfl⟩
          have HC1 : Hid (∀ u W, Below W9.heap.size W9 W → Calls Try.prog 72 #[.pointer (some ⟨B, 0, none⟩), .int .i64 u] W fun e w' => e = .returned (.int .i64 (fc u)) ∧ Below W.heap.size W w') := Lib.hid fun u W hb => (arCount_aj (H10.out.later hb).aj u).mono fun _ _ ⟨h1, h2⟩ => ⟨by rw [h1, hfc], by rw [← h2]; exact Below.refl _ _⟩
          have hz0 : (fc 0 != (l6 : Int)) = false := by rw [hfc, HL6.out]; simp
          have HS2 : Hid (∀ W, Below W9.heap.size W9 W → Calls Try.prog 69 #[.agg #[.slice A4 l4 c4, .slice A5 l4 c5, .slice A6 l6 c6], .int .i64 v] W fun e w' => e = .returned (.int .i64 (arSt y v)) ∧ Below W.heap.size W w') := Lib.hid fun W hb => RaState_any (H10.out.later hb).ra v
          have HG2 : Hid (∀ W, Below W9.heap.size W9 W → Calls Try.prog 71 #[.agg #[.slice A4 l4 c4, .slice A5 l4 c5, .slice A6 l6 c6], .int .i64 v] W fun e w' => e = .returned (.int .i64 (arGn y v)) ∧ Below W.heap.size W w') := Lib.hid fun W hb => RaGen_any (H10.out.later hb).ra (H10.out.later hb).aj.fit.len v
          have HC2 : Hid (∀ W, Below W9.heap.size W9 W → Calls Try.prog 73 #[.agg #[.slice A4 l4 c4, .slice A5 l4 c5, .slice A6 l6 c6], .int .i64 t] W fun e w' => e = .returned (.int .i64 (fc t)) ∧ Below W.heap.size W w') := Lib.hid fun W hb => (RaCount_any (H10.out.later hb).ra (H10.out.later hb).aj.fit t).mono fun _ _ ⟨h1, h2⟩ => ⟨by rw [h1, hfc], h2⟩
          generalize arSt y v = sv at *
          generalize arGn y v = gv at *
          clear HL6 hfc
          refine wp_region_quiet_below hmix (by kernel_rfl) ?_
          repeat (go_big_quiet_step ((first
            | (go_at_call 68; exact Calls.regrown_of (HS1.out _ (below_regrown _ _ _)))
            | (go_at_call 69; exact Calls.regrown_of (HS2.out _ (below_regrown _ _ _)))
            | (go_at_call 70; exact Calls.regrown_of (HG1.out _ (below_regrown _ _ _)))
            | (go_at_call 71; exact Calls.regrown_of (HG2.out _ (below_regrown _ _ _)))
            | (go_at_call 72; exact Calls.regrown_of (HC1.out _ _ (below_regrown _ _ _)))
            | (go_at_call 73; exact Calls.regrown_of (HC2.out _ (below_regrown _ _ _))))))
          refine wpQuiet_nil ?_
          intro _ hw'
          obtain ⟨⟨dq, osq⟩, hw''⟩ := hw'
          subst hw''
          have H11 := Lib.hid ((H10.out.later (below_regrown W9 dq osq)).sub (D' := []) (fun p hp => by cases hp))
          clear e1 e2 x0 x1 x2 HS1 HG1 HC1 HS2 HG2 HC2 H10 hz0
          go_wp2
          go_roundw
          case rel => exact ⟨k + 1, y, _, _, _, _, _, _, _, _, _, by omega, by go_num, H11.out⟩
          case measure => simp [intOf]; omega
      by_cases k1 : kd = 1
      · as_aux_lemma =>
          subst k1
          have x0 := HD.out.bx.c 0 _ rfl
          have x1 := HD.out.bx.c 1 _ rfl
          have x2 := HD.out.bx.c 2 _ rfl
          have d1 := HD.out.cell (p := (E, [.int .i64 1, .int .i64 v, .int .i64 t])) (by simp) 1 rfl
          have d2 := HD.out.cell (p := (E, [.int .i64 1, .int .i64 v, .int .i64 t])) (by simp) 2 rfl
          have HDA := Lib.hid (RaMove_any HD.out.ra HD.out.aj.fit v t)
          go_wp2_with fail
          refine HDA.out.mono ?_
          rintro e w4 ⟨V4, rfl, hr4, hb4, hv4⟩

          have hfl : AFit k (arMvX x v t) := HD.out.aj.fit.moveX v t
          have H4 := Lib.hid (HD.out.doc hb4 hr4 hv4)
          have HL6' : ((arMvX x v t).fr.length : Int) = arCnt (arMvX x v t) 0 := by rw [hfl.cn]; rfl
          obtain ⟨A4, c4, A5, c5, A6, c6, rfl, _⟩ := hr4
          unfold aV at *
          obtain ⟨y, hy⟩ : ∃ y, arMvX x v t = y := ⟨_, rfl⟩
          rw [hy] at H4 HL6'
          rw [hy]
          generalize hl6 : y.fr.length = l6 at *
          generalize y.st.length + 1 = l4 at *
          have HL6 := Lib.hid HL6'.symm
          have HY := Lib.hid hy
          clear hb4 hv4 HD HDA HL6' hfl hy hl6 x0 x1 x2 r0 r1 r2 d1 d2

          go_upto_region 24 with (fail)
          have H5 := Lib.hid (H4.out.box [.slice A4 l4 c4, .slice A5 l4 c5, .slice A6 l6 c6] 93)
          obtain ⟨Y, hY⟩ : ∃ Y, w4.heap.size = Y := ⟨_, rfl⟩
          rw [hY] at H5
          rw [hY]
          clear H4 hY

          generalize w4.alloc (.cells #[.slice A4 l4 c4, .slice A5 l4 c5, .slice A6 l6 c6] 93) = W5 at *
          have y0 := H5.out.cell (p := (Y, [.slice A4 l4 c4, .slice A5 l4 c5, .slice A6 l6 c6])) (by simp) 0 rfl
          have y1 := H5.out.cell (p := (Y, [.slice A4 l4 c4, .slice A5 l4 c5, .slice A6 l6 c6])) (by simp) 1 rfl
          have y2 := H5.out.cell (p := (Y, [.slice A4 l4 c4, .slice A5 l4 c5, .slice A6 l6 c6])) (by simp) 2 rfl
          have x0 := H5.out.bx.c 0 _ rfl
          have x1 := H5.out.bx.c 1 _ rfl
          have x2 := H5.out.bx.c 2 _ rfl
          have f0 := H5.out.bx.f 0
          have f1 := H5.out.bx.f 1
          have f2 := H5.out.bx.f 2
          have H6 := Lib.hid (H5.out.setX (.slice A4 l4 c4) (.slice A5 l4 c5) (.slice A6 l6 c6))
          clear H5
          go_upto_region 25 with (fail)
          generalize ((W5.setCell ⟨X, 0, none⟩ (.slice A4 l4 c4)).setCell ⟨X, 1, none⟩ (.slice A5 l4 c5)).setCell ⟨X, 2, none⟩ (.slice A6 l6 c6) = W6 at *
          clear y0 y1 y2 x0 x1 x2 f0 f1 f2

          have d1 := H6.out.cell (p := (E, [.int .i64 1, .int .i64 v, .int .i64 t])) (by simp) 1 rfl
          have d2 := H6.out.cell (p := (E, [.int .i64 1, .int .i64 v, .int .i64 t])) (by simp) 2 rfl
          have HP := Lib.hid (arMove_aj H6.out.aj v t)
          go_wp2_with fail
          refine HP.out.mono ?_
          rintro e w7 ⟨rfl, hj7, hk7⟩
          have H7 := Lib.hid (H6.out.prog hj7 hk7)
          rw [HY.out] at H7
          clear hj7 hk7 HP H6 HY d1 d2
          generalize arMvB x v t = ba at *
          have H9 := Lib.hid (H7.out.more (Nat.le_succ k))
          clear H7
          go_upto_region 26 with (fail)

          have H10 := Lib.hid ((H9.out.more (Nat.le_refl _)).sub (D' := [(E, [.int .i64 1, .int .i64 v, .int .i64 t])]) (fun p hp => by simp at hp; simp [hp]))
          clear H9
          generalize w7 = W9 at *
          have e1' : W9.cell? ⟨E, 1, none⟩ = some (.int .i64 v) := H10.out.cell (p := (E, [.int .i64 1, .int .i64 v, .int .i64 t])) (by simp) 1 rfl
          have e2' : W9.cell? ⟨E, 2, none⟩ = some (.int .i64 t) := H10.out.cell (p := (E, [.int .i64 1, .int .i64 v, .int .i64 t])) (by simp) 2 rfl
          have e1 := cell_regrown e1'
          have e2 := cell_regrown e2'
          clear e1' e2'
          have x0 := cell_regrown (H10.out.bx.c 0 _ rfl)
          have x1 := cell_regrown (H10.out.bx.c 1 _ rfl)
          have x2 := cell_regrown (H10.out.bx.c 2 _ rfl)
          have HS1 : Hid (∀ W, Below W9.heap.size W9 W → Calls Try.prog 68 #[.pointer (some ⟨B, 0, none⟩), .int .i64 v] W fun e w' => e = .returned (.int .i64 (arSt y v)) ∧ Below W.heap.size W w') := Lib.hid fun W hb => (arState_aj (H10.out.later hb).aj v).mono fun _ _ ⟨h1, h2⟩ => ⟨h1, by rw [← h2]; exact Below.refl _ _⟩
          have HG1 : Hid (∀ W, Below W9.heap.size W9 W → Calls Try.prog 70 #[.pointer (some ⟨B, 0, none⟩), .int .i64 v] W fun e w' => e = .returned (.int .i64 (arGn y v)) ∧ Below W.heap.size W w') := Lib.hid fun W hb => (arGen_aj (H10.out.later hb).aj v).mono fun _ _ ⟨h1, h2⟩ => ⟨h1, by rw [← h2]; exact Below.refl _ _⟩
          obtain ⟨fc, hfc⟩ : ∃ fc : Int → Int, fc = arCnt y := ⟨_, rfl⟩
          have HC1 : Hid (∀ u W, Below W9.heap.size W9 W → Calls Try.prog 72 #[.pointer (some ⟨B, 0, none⟩), .int .i64 u] W fun e w' => e = .returned (.int .i64 (fc u)) ∧ Below W.heap.size W w') := Lib.hid fun u W hb => (arCount_aj (H10.out.later hb).aj u).mono fun _ _ ⟨h1, h2⟩ => ⟨by rw [h1, hfc], by rw [← h2]; exact Below.refl _ _⟩
          have hz0 : (fc 0 != (l6 : Int)) = false := by rw [hfc, HL6.out]; simp
          have HS2 : Hid (∀ W, Below W9.heap.size W9 W → Calls Try.prog 69 #[.agg #[.slice A4 l4 c4, .slice A5 l4 c5, .slice A6 l6 c6], .int .i64 v] W fun e w' => e = .returned (.int .i64 (arSt y v)) ∧ Below W.heap.size W w') := Lib.hid fun W hb => RaState_any (H10.out.later hb).ra v
          have HG2 : Hid (∀ W, Below W9.heap.size W9 W → Calls Try.prog 71 #[.agg #[.slice A4 l4 c4, .slice A5 l4 c5, .slice A6 l6 c6], .int .i64 v] W fun e w' => e = .returned (.int .i64 (arGn y v)) ∧ Below W.heap.size W w') := Lib.hid fun W hb => RaGen_any (H10.out.later hb).ra (H10.out.later hb).aj.fit.len v
          have HC2 : Hid (∀ W, Below W9.heap.size W9 W → Calls Try.prog 73 #[.agg #[.slice A4 l4 c4, .slice A5 l4 c5, .slice A6 l6 c6], .int .i64 t] W fun e w' => e = .returned (.int .i64 (fc t)) ∧ Below W.heap.size W w') := Lib.hid fun W hb => (RaCount_any (H10.out.later hb).ra (H10.out.later hb).aj.fit t).mono fun _ _ ⟨h1, h2⟩ => ⟨by rw [h1, hfc], h2⟩
          generalize arSt y v = sv at *
          generalize arGn y v = gv at *
          clear HL6 hfc
          refine wp_region_quiet_below hmix (by kernel_rfl) ?_
          repeat (go_big_quiet_step ((first
            | (go_at_call 68; exact Calls.regrown_of (HS1.out _ (below_regrown _ _ _)))
            | (go_at_call 69; exact Calls.regrown_of (HS2.out _ (below_regrown _ _ _)))
            | (go_at_call 70; exact Calls.regrown_of (HG1.out _ (below_regrown _ _ _)))
            | (go_at_call 71; exact Calls.regrown_of (HG2.out _ (below_regrown _ _ _)))
            | (go_at_call 72; exact Calls.regrown_of (HC1.out _ _ (below_regrown _ _ _)))
            | (go_at_call 73; exact Calls.regrown_of (HC2.out _ (below_regrown _ _ _))))))
          refine wpQuiet_nil ?_
          intro _ hw'
          obtain ⟨⟨dq, osq⟩, hw''⟩ := hw'
          subst hw''
          have H11 := Lib.hid ((H10.out.later (below_regrown W9 dq osq)).sub (D' := []) (fun p hp => by cases hp))
          clear e1 e2 x0 x1 x2 HS1 HG1 HC1 HS2 HG2 HC2 H10 hz0
          go_wp2
          go_roundw
          case rel => exact ⟨k + 1, y, _, _, _, _, _, _, _, _, _, by omega, by go_num, H11.out⟩
          case measure => simp [intOf]; omega
      · as_aux_lemma =>
          have k0 : (kd == 0) = false := by simpa using k0
          have k1 : (kd == 1) = false := by simpa using k1
          have x0 := HD.out.bx.c 0 _ rfl
          have x1 := HD.out.bx.c 1 _ rfl
          have x2 := HD.out.bx.c 2 _ rfl
          have d1 := HD.out.cell (p := (E, [.int .i64 kd, .int .i64 v, .int .i64 t])) (by simp) 1 rfl
          have d2 := HD.out.cell (p := (E, [.int .i64 kd, .int .i64 v, .int .i64 t])) (by simp) 2 rfl
          have HDA := Lib.hid (RaFree_any HD.out.ra HD.out.aj.fit (by omega) v)
          go_wp2_with fail
          refine HDA.out.mono ?_
          rintro e w4 ⟨V4, rfl, hr4, hb4, hv4⟩

          have hfl : AFit (k + 1) (arFrX x v) := HD.out.aj.fit.freeX v
          have H4 := Lib.hid (HD.out.doc hb4 hr4 hv4)
          have HL6' : ((arFrX x v).fr.length : Int) = arCnt (arFrX x v) 0 := by rw [hfl.cn]; rfl
          obtain ⟨A4, c4, A5, c5, A6, c6, rfl, _⟩ := hr4
          unfold aV at *
          obtain ⟨y, hy⟩ : ∃ y, arFrX x v = y := ⟨_, rfl⟩
          rw [hy] at H4 HL6'
          rw [hy]
          generalize hl6 : y.fr.length = l6 at *
          generalize y.st.length + 1 = l4 at *
          have HL6 := Lib.hid HL6'.symm
          have HY := Lib.hid hy
          clear hb4 hv4 HD HDA HL6' hfl hy hl6 x0 x1 x2 r0 r1 r2 d1 d2

          go_upto_region 15 with (fail)
          have H5 := Lib.hid (H4.out.box [.slice A4 l4 c4, .slice A5 l4 c5, .slice A6 l6 c6] 93)
          obtain ⟨Y, hY⟩ : ∃ Y, w4.heap.size = Y := ⟨_, rfl⟩
          rw [hY] at H5
          rw [hY]
          clear H4 hY

          generalize w4.alloc (.cells #[.slice A4 l4 c4, .slice A5 l4 c5, .slice A6 l6 c6] 93) = W5 at *
          have y0 := H5.out.cell (p := (Y, [.slice A4 l4 c4, .slice A5 l4 c5, .slice A6 l6 c6])) (by simp) 0 rfl
          have y1 := H5.out.cell (p := (Y, [.slice A4 l4 c4, .slice A5 l4 c5, .slice A6 l6 c6])) (by simp) 1 rfl
          have y2 := H5.out.cell (p := (Y, [.slice A4 l4 c4, .slice A5 l4 c5, .slice A6 l6 c6])) (by simp) 2 rfl
          have x0 := H5.out.bx.c 0 _ rfl
          have x1 := H5.out.bx.c 1 _ rfl
          have x2 := H5.out.bx.c 2 _ rfl
          have f0 := H5.out.bx.f 0
          have f1 := H5.out.bx.f 1
          have f2 := H5.out.bx.f 2
          have H6 := Lib.hid (H5.out.setX (.slice A4 l4 c4) (.slice A5 l4 c5) (.slice A6 l6 c6))
          clear H5
          go_upto_region 16 with (fail)
          generalize ((W5.setCell ⟨X, 0, none⟩ (.slice A4 l4 c4)).setCell ⟨X, 1, none⟩ (.slice A5 l4 c5)).setCell ⟨X, 2, none⟩ (.slice A6 l6 c6) = W6 at *
          clear y0 y1 y2 x0 x1 x2 f0 f1 f2

          have d1 := H6.out.cell (p := (E, [.int .i64 kd, .int .i64 v, .int .i64 t])) (by simp) 1 rfl
          have d2 := H6.out.cell (p := (E, [.int .i64 kd, .int .i64 v, .int .i64 t])) (by simp) 2 rfl
          have HP := Lib.hid (arFree_aj H6.out.aj (by omega) v)
          go_wp2_with fail
          refine HP.out.mono ?_
          rintro e w7 ⟨rfl, hj7, hk7⟩
          have H7 := Lib.hid (H6.out.prog hj7 hk7)
          rw [HY.out] at H7
          clear hj7 hk7 HP H6 HY d1 d2
          generalize arFrB x v = ba at *
          have H9 := Lib.hid (H7.out.more (Nat.le_refl _))
          clear H7
          go_upto_region 26 with (fail)

          have H10 := Lib.hid ((H9.out.more (Nat.le_refl _)).sub (D' := [(E, [.int .i64 kd, .int .i64 v, .int .i64 t])]) (fun p hp => by simp at hp; simp [hp]))
          clear H9
          generalize w7 = W9 at *
          have e1' : W9.cell? ⟨E, 1, none⟩ = some (.int .i64 v) := H10.out.cell (p := (E, [.int .i64 kd, .int .i64 v, .int .i64 t])) (by simp) 1 rfl
          have e2' : W9.cell? ⟨E, 2, none⟩ = some (.int .i64 t) := H10.out.cell (p := (E, [.int .i64 kd, .int .i64 v, .int .i64 t])) (by simp) 2 rfl
          have e1 := cell_regrown e1'
          have e2 := cell_regrown e2'
          clear e1' e2'
          have x0 := cell_regrown (H10.out.bx.c 0 _ rfl)
          have x1 := cell_regrown (H10.out.bx.c 1 _ rfl)
          have x2 := cell_regrown (H10.out.bx.c 2 _ rfl)
          have HS1 : Hid (∀ W, Below W9.heap.size W9 W → Calls Try.prog 68 #[.pointer (some ⟨B, 0, none⟩), .int .i64 v] W fun e w' => e = .returned (.int .i64 (arSt y v)) ∧ Below W.heap.size W w') := Lib.hid fun W hb => (arState_aj (H10.out.later hb).aj v).mono fun _ _ ⟨h1, h2⟩ => ⟨h1, by rw [← h2]; exact Below.refl _ _⟩
          have HG1 : Hid (∀ W, Below W9.heap.size W9 W → Calls Try.prog 70 #[.pointer (some ⟨B, 0, none⟩), .int .i64 v] W fun e w' => e = .returned (.int .i64 (arGn y v)) ∧ Below W.heap.size W w') := Lib.hid fun W hb => (arGen_aj (H10.out.later hb).aj v).mono fun _ _ ⟨h1, h2⟩ => ⟨h1, by rw [← h2]; exact Below.refl _ _⟩
          obtain ⟨fc, hfc⟩ : ∃ fc : Int → Int, fc = arCnt y := ⟨_, rfl⟩
          have HC1 : Hid (∀ u W, Below W9.heap.size W9 W → Calls Try.prog 72 #[.pointer (some ⟨B, 0, none⟩), .int .i64 u] W fun e w' => e = .returned (.int .i64 (fc u)) ∧ Below W.heap.size W w') := Lib.hid fun u W hb => (arCount_aj (H10.out.later hb).aj u).mono fun _ _ ⟨h1, h2⟩ => ⟨by rw [h1, hfc], by rw [← h2]; exact Below.refl _ _⟩
          have hz0 : (fc 0 != (l6 : Int)) = false := by rw [hfc, HL6.out]; simp
          have HS2 : Hid (∀ W, Below W9.heap.size W9 W → Calls Try.prog 69 #[.agg #[.slice A4 l4 c4, .slice A5 l4 c5, .slice A6 l6 c6], .int .i64 v] W fun e w' => e = .returned (.int .i64 (arSt y v)) ∧ Below W.heap.size W w') := Lib.hid fun W hb => RaState_any (H10.out.later hb).ra v
          have HG2 : Hid (∀ W, Below W9.heap.size W9 W → Calls Try.prog 71 #[.agg #[.slice A4 l4 c4, .slice A5 l4 c5, .slice A6 l6 c6], .int .i64 v] W fun e w' => e = .returned (.int .i64 (arGn y v)) ∧ Below W.heap.size W w') := Lib.hid fun W hb => RaGen_any (H10.out.later hb).ra (H10.out.later hb).aj.fit.len v
          have HC2 : Hid (∀ W, Below W9.heap.size W9 W → Calls Try.prog 73 #[.agg #[.slice A4 l4 c4, .slice A5 l4 c5, .slice A6 l6 c6], .int .i64 t] W fun e w' => e = .returned (.int .i64 (fc t)) ∧ Below W.heap.size W w') := Lib.hid fun W hb => (RaCount_any (H10.out.later hb).ra (H10.out.later hb).aj.fit t).mono fun _ _ ⟨h1, h2⟩ => ⟨by rw [h1, hfc], h2⟩
          generalize arSt y v = sv at *
          generalize arGn y v = gv at *
          clear HL6 hfc
          refine wp_region_quiet_below hmix (by kernel_rfl) ?_
          repeat (go_big_quiet_step ((first
            | (go_at_call 68; exact Calls.regrown_of (HS1.out _ (below_regrown _ _ _)))
            | (go_at_call 69; exact Calls.regrown_of (HS2.out _ (below_regrown _ _ _)))
            | (go_at_call 70; exact Calls.regrown_of (HG1.out _ (below_regrown _ _ _)))
            | (go_at_call 71; exact Calls.regrown_of (HG2.out _ (below_regrown _ _ _)))
            | (go_at_call 72; exact Calls.regrown_of (HC1.out _ _ (below_regrown _ _ _)))
            | (go_at_call 73; exact Calls.regrown_of (HC2.out _ (below_regrown _ _ _))))))
          refine wpQuiet_nil ?_
          intro _ hw'
          obtain ⟨⟨dq, osq⟩, hw''⟩ := hw'
          subst hw''
          have H11 := Lib.hid ((H10.out.later (below_regrown W9 dq osq)).sub (D' := []) (fun p hp => by cases hp))
          clear e1 e2 x0 x1 x2 HS1 HG1 HC1 HS2 HG2 HC2 H10 hz0
          go_wp2
          go_roundw
          case rel => exact ⟨k + 1, y, _, _, _, _, _, _, _, _, _, by omega, by go_num, H11.out⟩
          case measure => simp [intOf]; omega
    · have HBE := Lib.hid hE.below0
      clear hE
      go_wp2_with fail
      refine (ar_lives_any _).mono ?_
      rintro e w4 ⟨rfl, hb4⟩
      have HB4 := Lib.hid (HBE.out.trans (hb4.mono HBE.out.size))
      clear hb4
      go_wp2
      go_ret
      exact ⟨rfl, HB4.out⟩

end Go.Proofs.Ytoaikdnooafjmaa
