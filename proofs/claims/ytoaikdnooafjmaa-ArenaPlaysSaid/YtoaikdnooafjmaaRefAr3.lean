/- The document's arena (ganglionref21), by contract: Alloc. -/
import Derived.Test.YtoaikdnooafjmaaRefAr2
namespace Go.Proofs.Ytoaikdnooafjmaa
open Go.RowKit

theorem Bx.three (W : World) (vs us ts : List Value) (t t' t'' : TypeId) : Bx (((W.alloc (.cells vs.toArray t)).alloc (.cells us.toArray t')).alloc (.cells ts.toArray t'')) W.heap.size vs ∧ Bx (((W.alloc (.cells vs.toArray t)).alloc (.cells us.toArray t')).alloc (.cells ts.toArray t'')) (W.heap.size + 1) us ∧
    Bx (((W.alloc (.cells vs.toArray t)).alloc (.cells us.toArray t')).alloc (.cells ts.toArray t'')) (W.heap.size + 2) ts ∧ Below W.heap.size W (((W.alloc (.cells vs.toArray t)).alloc (.cells us.toArray t')).alloc (.cells ts.toArray t'')) := by
  obtain ⟨h1, h2, h3⟩ := Bx.two W vs us t t'
  have h4 := Bx.new ((W.alloc (.cells vs.toArray t)).alloc (.cells us.toArray t')) ts t''
  have hb := below_new ((W.alloc (.cells vs.toArray t)).alloc (.cells us.toArray t')) (.cells ts.toArray t'')
  rw [World.size_alloc, World.size_alloc] at h4
  exact ⟨h1.below hb, h2.below hb, h4, Below.next h3 hb⟩
section
variable {w : World} {V : Value} {x : AR} {n : Nat}
set_option maxRecDepth 100000 in
set_option maxHeartbeats 2000000 in
theorem RaAlloc_no (h : RA w V x) (h0 : x.fr = []) :
    Calls Try.prog 62 #[V] w fun e w' => e = .returned (.tuple #[V, .agg #[.int .i64 0, .int .i64 0], .bool false]) ∧ Below w.heap.size w w' := by
  obtain ⟨A1, c1, A2, c2, A3, c3, rfl, _⟩ := h
  rw [h0]
  obtain ⟨b1, b2, b3, b4⟩ := Bx.three w [.slice A1 (x.st.length + 1) c1, .slice A2 (x.st.length + 1) c2, .slice A3 0 c3] [.slice A1 (x.st.length + 1) c1, .slice A2 (x.st.length + 1) c2, .slice A3 0 c3] [.int .i64 0, .int .i64 0] 93 93 99
  have HB2 := Lib.hid b2
  have HB3 := Lib.hid b3
  have HB4 := Lib.hid b4
  clear b1 b2 b3 b4 h0
  unfold aV
  generalize x.st.length + 1 = l1 at *
  show Calls _ _ #[.agg #[.slice A1 l1 c1, .slice A2 l1 c2, .slice A3 0 c3]] w _
  go_enter Try.func62, Try.ntmps62
  go_wp2
  have q0 := HB2.out.c 0 _ rfl
  have q1 := HB2.out.c 1 _ rfl
  have q2 := HB2.out.c 2 _ rfl
  have p0 := HB3.out.c 0 _ rfl
  have p1 := HB3.out.c 1 _ rfl
  exact bodyPost_ret (v := .tuple #[.agg #[.slice A1 l1 c1, .slice A2 l1 c2, .slice A3 0 c3], .agg #[.int .i64 0, .int .i64 0], .bool false]) (by simp [results, Try.results62, go_sem]) rfl ⟨rfl, HB4.out⟩
set_option maxRecDepth 100000 in
set_option maxHeartbeats 4000000 in
theorem RaAlloc_yes (h : RA w V x) (hf : AFit n x) {F : List Nat} {s : Nat} (h0 : x.fr = F ++ [s]) :
    Calls Try.prog 62 #[V] w fun e w' => ∃ V', e = .returned (.tuple #[V', .agg #[.int .i64 (s : Int), .int .i64 ((x.gn.getD (s - 1) 0 : Nat) : Int)], .bool true]) ∧ RA w' V' (arAlE x F s) ∧ Below w.heap.size w w' ∧ ∀ b, VB V' b → VB V b ∨ w.heap.size ≤ b := by
  obtain ⟨A1, c1, A2, c2, A3, c3, rfl, r1, r2, r3, r4, r5, _, _, q6, q7⟩ := h
  clear q6 q7
  have hs := hf.fin s (by rw [h0]; simp)
  have hfr := hf.frl
  rw [h0] at r3 r4 hfr
  rw [h0]
  obtain ⟨m, hm⟩ : ∃ m, F.length = m := ⟨_, rfl⟩
  have hl3 : (F ++ [s]).length = m + 1 := by rw [List.length_append, hm]; rfl
  rw [hl3] at r4 hfr
  rw [hl3]
  obtain ⟨b3, o3, rfl, hb3, hc3⟩ := r3 m (s : Int) (by unfold natJ; rw [List.getElem?_map, List.getElem?_append_right (by omega), hm]; simp)
  obtain ⟨b2, o2, rfl, hb2, hc2⟩ := r2 s _ (by
    have := natJ_at (L := x.gn) (k := s - 1) (by rw [hf.len]; omega)
    rwa [show s - 1 + 1 = s by omega] at this)
  have hc3' := ((Bx.three w [.slice A1 (x.st.length + 1) c1, .slice (some ⟨b2, o2, none⟩) (x.st.length + 1) c2, .slice (some ⟨b3, o3, none⟩) (m + 1) c3] [.slice none 0 0, .slice none 0 0, .slice none 0 0] [.int .i64 0, .int .i64 0] 93 93 99).2.2.2.cell (p := ⟨b3, o3 + m, none⟩) hb3).trans hc3
  have HT := Lib.hid (fun W (hbl : Below w.heap.size w W) => RaSet_n (c := c1) (k := s - 1) (j := s) (rd_later r1 hbl) hf.few (by omega) 1 rfl (by omega))
  have HO : Hid (∀ W A c, Below w.heap.size w W → Rd (Value.int .i64) W W.heap.size A (0 :: natJ (x.st.set (s - 1) 1)) → RA W (aV A (x.st.length + 1) c (some ⟨b2, o2, none⟩) (x.st.length + 1) c2 (some ⟨b3, o3, none⟩) m c3) (arAlE x F s)) := Lib.hid fun W A c hbl hr =>
    ⟨A, c, some ⟨b2, o2, none⟩, c2, some ⟨b3, o3, none⟩, c3, by simp only [arAlE, List.length_set, hm], hr, rd_later r2 hbl, fun i z hi => by
      have hi2 : i < m := by
        have := (List.getElem?_eq_some_iff.1 hi).1
        rw [natJ_len] at this
        simp only [arAlE] at this
        omega
      exact rd_later r3 hbl i z (by
        unfold natJ at hi ⊢
        rw [List.getElem?_map] at hi ⊢
        rw [List.getElem?_append_left (by omega)]
        exact hi), by simp only [arAlE]; omega, r5, b3, o3, rfl, Nat.lt_of_lt_of_le hb3 hbl.size⟩
  have HC := Lib.hid (fun W (hbl : Below w.heap.size w W) => (hbl.cell (p := ⟨b2, o2 + s, none⟩) hb2).trans hc2)
  have hs0 : (0 : Int) ≤ (s : Int) := by omega
  have hs1 : (s : Int) < ((x.st.length + 1 : Nat) : Int) := by omega
  have hm0 : (0 : Int) ≤ (m : Int) := by omega
  have hm1 : (m : Int) ≤ (c3 : Int) := by omega
  have hm2 : m ≤ c3 := by omega
  have hm4 : (m : Int) < 4096 := by omega
  obtain ⟨q1, q2, q3, q4⟩ := Bx.three w [.slice A1 (x.st.length + 1) c1, .slice (some ⟨b2, o2, none⟩) (x.st.length + 1) c2, .slice (some ⟨b3, o3, none⟩) m c3] [.slice none 0 0, .slice none 0 0, .slice none 0 0] [.int .i64 0, .int .i64 0] 93 93 99
  have HB1 := Lib.hid q1
  have HB2 := Lib.hid q2
  have HB3 := Lib.hid q3
  have HB4 := Lib.hid q4
  clear q1 q2 q3 q4 r1 r2 r3 r4 r5 hf hs h0 hl3 hc2 hb2 hb3 hc3 hm hfr
  unfold aV at *
  generalize x.gn.getD (s - 1) 0 = g at *
  generalize x.st.length + 1 = l1 at *
  go_enter Try.func62, Try.ntmps62
  go_upto_region 6 with (fail)
  rw [show w.heap.size + 1 + 1 = w.heap.size + 2 by omega]
  generalize ((w.alloc (.cells #[.slice A1 l1 c1, .slice (some ⟨b2, o2, none⟩) l1 c2, .slice (some ⟨b3, o3, none⟩) m c3] 93)).alloc (.cells #[.slice none 0 0, .slice none 0 0, .slice none 0 0] 93)).alloc (.cells #[.int .i64 0, .int .i64 0] 99) = w3 at *
  have x0 := HB1.out.c 0 _ rfl
  clear hc3'
  go_wp2_with fail
  refine (HT.out _ HB4.out).mono ?_
  rintro e w4 ⟨A5, c5, rfl, hr5, hb4, hg5⟩
  clear x0
  have H5 := Lib.hid hr5
  have H6 := Lib.hid (HB1.out.below hb4)
  have H7 := Lib.hid (HB2.out.below hb4)
  have H7' := Lib.hid (HB3.out.below hb4)
  have HB5 := Lib.hid (Below.next HB4.out hb4)
  have x0 := H6.out.c 0 _ rfl
  have f0 := H6.out.f 0
  have H8 := Lib.hid (H6.out.set 0 (.slice A5 l1 c5))
  have H9 := Lib.hid (H7.out.other (a := ⟨w.heap.size, 0, none⟩) (by show w.heap.size ≠ w.heap.size + 1; omega) (.slice A5 l1 c5))
  have H10 := Lib.hid (H7'.out.other (a := ⟨w.heap.size, 0, none⟩) (by show w.heap.size ≠ w.heap.size + 2; omega) (.slice A5 l1 c5))
  have HBW := Lib.hid (bl1 (b := w.heap.size) (k := 0) HB5.out (Nat.le_refl _) (.slice A5 l1 c5))
  have HRW := Lib.hid (rd_set1 (v := .slice A5 l1 c5) H5.out (a := ⟨w.heap.size, 0, none⟩) (fun g o e => by have := hg5 g o e; have := HB1.out.lt; show w.heap.size ≠ g; omega))
  have HG5 : Hid (∀ g o, A5 = some ⟨g, o, none⟩ → w.heap.size + 1 ≠ g ∧ w.heap.size + 2 ≠ g) := Lib.hid fun g o e => by
    have := hg5 g o e
    have := HB3.out.lt
    omega
  have HGN : Hid (∀ g o, A5 = some ⟨g, o, none⟩ → w.heap.size ≤ g) := Lib.hid fun g o e => Nat.le_trans HB4.out.size (hg5 g o e)
  clear hb4 hr5 HB1 HB2 HB3 HB4 H5 H6 H7 H7' HB5 hg5 HT
  go_upto_region 7 with (fail)
  generalize w4.setCell ⟨w.heap.size, 0, none⟩ (.slice A5 l1 c5) = W4 at *
  clear x0 f0
  have x0 := H8.out.c 0 _ rfl
  have x1 := H8.out.c 1 _ rfl
  have x2 := H8.out.c 2 _ rfl
  have u0 := H9.out.c 0 _ rfl
  have u1 := H9.out.c 1 _ rfl
  have u2 := H9.out.c 2 _ rfl
  have f0 := H9.out.f 0
  have f1 := H9.out.f 1
  have f2 := H9.out.f 2
  have y0 := H10.out.c 0 _ rfl
  have y1 := H10.out.c 1 _ rfl
  have g0 := H10.out.f 0
  have g1 := H10.out.f 1
  have hcg := HC.out _ HBW.out
  have hcg2 := HC.out _ (below_put3 HBW.out (Nat.le_succ w.heap.size) (.slice A5 l1 c5) (.slice (some ⟨b2, o2, none⟩) l1 c2) (.slice (some ⟨b3, o3, none⟩) m c3))
  have HP1 := Lib.hid (H9.out.put3 (.slice A5 l1 c5) (.slice (some ⟨b2, o2, none⟩) l1 c2) (.slice (some ⟨b3, o3, none⟩) m c3))
  have HP2 := Lib.hid (((H10.out.other (a := ⟨w.heap.size + 1, 0, none⟩) (by show w.heap.size + 1 ≠ w.heap.size + 2; omega) (.slice A5 l1 c5)).other (a := ⟨w.heap.size + 1, 1, none⟩) (by show w.heap.size + 1 ≠ w.heap.size + 2; omega) (.slice (some ⟨b2, o2, none⟩) l1 c2)).other (a := ⟨w.heap.size + 1, 2, none⟩) (by show w.heap.size + 1 ≠ w.heap.size + 2; omega) (.slice (some ⟨b3, o3, none⟩) m c3))
  have HBF := Lib.hid (below_put3 HBW.out (Nat.le_succ w.heap.size) (.slice A5 l1 c5) (.slice (some ⟨b2, o2, none⟩) l1 c2) (.slice (some ⟨b3, o3, none⟩) m c3))
  have HRF := Lib.hid (rd_set1 (rd_set1 (rd_set1 HRW.out (a := ⟨w.heap.size + 1, 0, none⟩) (v := .slice A5 l1 c5) (fun g o e => (HG5.out g o e).1)) (a := ⟨w.heap.size + 1, 1, none⟩) (v := .slice (some ⟨b2, o2, none⟩) l1 c2) (fun g o e => (HG5.out g o e).1)) (a := ⟨w.heap.size + 1, 2, none⟩) (v := .slice (some ⟨b3, o3, none⟩) m c3) (fun g o e => (HG5.out g o e).1))
  have HFIN : Hid (∀ W, W = ((W4.setCell ⟨w.heap.size + 1, 0, none⟩ (.slice A5 l1 c5)).setCell ⟨w.heap.size + 1, 1, none⟩ (.slice (some ⟨b2, o2, none⟩) l1 c2)).setCell ⟨w.heap.size + 1, 2, none⟩ (.slice (some ⟨b3, o3, none⟩) m c3) →
      Bx ((W.setCell ⟨w.heap.size + 2, 0, none⟩ (.int .i64 (s : Int))).setCell ⟨w.heap.size + 2, 1, none⟩ (.int .i64 (g : Int))).drew (w.heap.size + 1) [.slice A5 l1 c5, .slice (some ⟨b2, o2, none⟩) l1 c2, .slice (some ⟨b3, o3, none⟩) m c3] ∧
      Bx ((W.setCell ⟨w.heap.size + 2, 0, none⟩ (.int .i64 (s : Int))).setCell ⟨w.heap.size + 2, 1, none⟩ (.int .i64 (g : Int))).drew (w.heap.size + 2) [.int .i64 (s : Int), .int .i64 (g : Int)] ∧
      RA ((W.setCell ⟨w.heap.size + 2, 0, none⟩ (.int .i64 (s : Int))).setCell ⟨w.heap.size + 2, 1, none⟩ (.int .i64 (g : Int))).drew (.agg #[.slice A5 l1 c5, .slice (some ⟨b2, o2, none⟩) l1 c2, .slice (some ⟨b3, o3, none⟩) m c3]) (arAlE x F s) ∧
      Below w.heap.size w ((W.setCell ⟨w.heap.size + 2, 0, none⟩ (.int .i64 (s : Int))).setCell ⟨w.heap.size + 2, 1, none⟩ (.int .i64 (g : Int))).drew) := Lib.hid (by
    rintro W rfl
    have hbl := (bl1 (b := w.heap.size + 2) (k := 1) (bl1 (b := w.heap.size + 2) (k := 0) HBF.out (by omega) (.int .i64 (s : Int))) (by omega) (.int .i64 (g : Int))).drew
    refine ⟨((HP1.out.other (a := ⟨w.heap.size + 2, 0, none⟩) (by show w.heap.size + 2 ≠ w.heap.size + 1; omega) _).other (a := ⟨w.heap.size + 2, 1, none⟩) (by show w.heap.size + 2 ≠ w.heap.size + 1; omega) _).drew, ((HP2.out.set 0 _).set 1 _).drew, HO.out _ A5 c5 hbl ?_, hbl⟩
    exact rd_later (rd_set1 (rd_set1 HRF.out (a := ⟨w.heap.size + 2, 0, none⟩) (fun g o e => (HG5.out g o e).2)) (a := ⟨w.heap.size + 2, 1, none⟩) (fun g o e => (HG5.out g o e).2)) (Below.refl _ _).drew)
  clear H8 H9 H10 HC HP1 HP2 HBF HRF HO HRW HG5
  go_region
  go_wp2
  obtain ⟨k1, k2, k3, k4⟩ := HFIN.out _ rfl
  have q0 := k1.c 0 _ rfl
  have q1 := k1.c 1 _ rfl
  have q2 := k1.c 2 _ rfl
  have p0 := k2.c 0 _ rfl
  have p1 := k2.c 1 _ rfl
  exact bodyPost_ret (v := .tuple #[.agg #[.slice A5 l1 c5, .slice (some ⟨b2, o2, none⟩) l1 c2, .slice (some ⟨b3, o3, none⟩) m c3], .agg #[.int .i64 (s : Int), .int .i64 (g : Int)], .bool true]) (by simp [results, Try.results62, go_sem, q0, q1, q2, p0, p1]) rfl ⟨_, rfl, k3, k4, VB.turn (.inr HGN.out) (.inl rfl) (.inl rfl)⟩
end

end Go.Proofs.Ytoaikdnooafjmaa
