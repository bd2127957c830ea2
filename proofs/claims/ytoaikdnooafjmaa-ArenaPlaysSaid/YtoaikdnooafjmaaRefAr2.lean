/- The document's arena (ganglionref21), by contract: set, Move, Alloc, New. -/
import Derived.Test.YtoaikdnooafjmaaRefAr
import Derived.Laws.OwnMore
import Derived.Deep.AppendLies
namespace Go.Proofs.Ytoaikdnooafjmaa
open Go.RowKit

theorem Bx.two (W : World) (vs us : List Value) (t t' : TypeId) : Bx ((W.alloc (.cells vs.toArray t)).alloc (.cells us.toArray t')) W.heap.size vs ∧ Bx ((W.alloc (.cells vs.toArray t)).alloc (.cells us.toArray t')) (W.heap.size + 1) us ∧
    Below W.heap.size W ((W.alloc (.cells vs.toArray t)).alloc (.cells us.toArray t')) := by
  have h2 := Bx.new (W.alloc (.cells vs.toArray t)) us t'
  rw [World.size_alloc] at h2
  exact ⟨(Bx.new W vs t).below (below_new _ _), h2, Below.next (below_new _ _) (below_new _ _)⟩
set_option maxRecDepth 100000 in
set_option maxHeartbeats 2000000 in
theorem RaSet_any (A : Option Addr) (zs : List Int) (c : Nat) (w : World) (hA : Rd (Value.int .i64) w w.heap.size A zs) (hl : zs.length ≤ 5000) (k : Nat) (hk : k < zs.length) (v : Int) :
    Calls Try.prog 143 #[.slice A zs.length c, .int .i64 (k : Int), .int .i64 v] w (IntsNew (zs.set k v) w) := by
  obtain ⟨i0, hi0, hz0, hz1, hz2⟩ := info_parts info_int
  cases A with
  | none =>
    have hn := hA.none_nil
    rw [hn] at hk
    cases hk
  | some ad =>
    have hb0 : ∀ o, Below w.heap.size w (w.alloc o) := fun o => (Below.refl _ w).alloc (Nat.le_refl _) o
    have hk0 : (0 : Int) ≤ (k : Int) := by omega
    have hk1 : (k : Int) < (zs.length : Int) := by omega
    go_enter Try.func143, Try.ntmps143
    go_upto_region 2 with (at_builtin; refine wpList_append_own _ rfl _ _ 38 rfl w.heap.size 3 i0 (.int .i64 0) 1 8 Try.underlying38 hi0 hz0 hz1 hz2 rfl (by decide) _ _ _ rfl (World.ownsRow_made w #[] 0 (Nat.le_refl _) (Nat.zero_le _) rfl) ad zs.length c (zs.map (Value.int .i64)) rfl ?c1 ?c2 ints_one ?c3 ?c4 ?c5 ?_)
    case c1 => simp
    case c2 => exact ((hA.below (hb0 _)).more (B' := w.heap.size) (Nat.le_refl _)).news
    case c3 => unfold maxLen; omega
    case c4 => omega
    case c5 => simp
    intro v' w1 hown hgrow _
    have hown2 : w1.ownsRow w.heap.size 3 1 v' zs.length (zs.map (Value.int .i64)) := by simpa using hown
    have hB : Below w.heap.size w w1 := (hb0 _).grown hgrow (by simp) (by intro k hk; simp [Value.ownBlock] at hk; omega)
    clear hown hgrow hb0
    obtain ⟨A1, c1, rfl, _, _⟩ := ownSlice hown2
    obtain ⟨g, rfl, hg1, hg2⟩ := ownPos hown2 (by omega)
    rcases hown2.2 with ⟨hv, _⟩ | ⟨g', cap, cur, hv, _, hh, hc1, hc2, hc3, hc4⟩
    · injection hv with hv; cases hv
    · injection hv with hv hv1 hv2
      injection hv with hv
      injection hv with hv
      subst hv hv2
      have hcell : w1.cell? ⟨g, k, none⟩ = cur[k]? := cell_of_row _ _ k _ _ (0, 0) hh
      have hlt : k < cur.size := by omega
      have hcell2 : w1.cell? ⟨g, k, none⟩ = some cur[k] := hcell.trans (Array.getElem?_eq_getElem hlt)
      have hfr : w1.frozen? ⟨g, k, none⟩ = false := by simp only [World.frozen?]; rw [hh]; simp
      have hres : Hid (IntsNew (zs.set k v) w (.returned (.slice (some ⟨g, 0, none⟩) zs.length c1)) (w1.setCell ⟨g, k, none⟩ (.int .i64 v))) := Lib.hid <| by
        refine ⟨some ⟨g, 0, none⟩, c1, by rw [List.length_set], fun j z hj => ⟨g, 0, rfl, hg1, by rw [World.size_setCell]; exact hg2, ?_⟩, hB.setCell (p := ⟨g, k, none⟩) hg1 _⟩
        rw [Nat.zero_add]
        by_cases e : k = j
        · subst e
          rw [List.getElem?_set_self (by omega)] at hj
          injection hj with hj
          rw [← hj]
          exact World.cell?_setCell_same _ _ _ hcell2
        · rw [List.getElem?_set_ne e] at hj
          rw [World.cell?_setCell_other _ _ _ _ (fun e2 => e (by injection e2))]
          obtain ⟨b, off, e1, e2, e3⟩ := Rd.of_own (f := Value.int .i64) hown2 j z hj
          injection e1 with e1
          injection e1 with e1 e4
          subst e1 e4
          rw [Nat.zero_add] at e3
          exact e3
      clear hA hown2 hh hc4 hB hcell hc3
      go_wp2
      go_ret
      exact hres.out
/-- .. of an arena's states, or generations. -/
theorem RaSet_n {w : World} {A : Option Addr} {L : List Nat} {c k : Nat} (hA : Rd (Value.int .i64) w w.heap.size A (0 :: natJ L)) (hl : L.length ≤ 4096) (hk : k < L.length) (v : Nat) {l : Nat} (hll : L.length + 1 = l) {j : Nat} (hj : k + 1 = j) :
    Calls Try.prog 143 #[.slice A l c, .int .i64 (j : Int), .int .i64 (v : Int)] w fun r w' => ∃ A' c', r = .returned (.slice A' l c') ∧ Rd (Value.int .i64) w' w'.heap.size A' (0 :: natJ (L.set k v)) ∧ Below w.heap.size w w' ∧ ∀ g o, A' = some ⟨g, o, none⟩ → w.heap.size ≤ g := by
  subst hll hj
  have hlen : ((0 : Int) :: natJ L).length = L.length + 1 := by rw [List.length_cons, natJ_len]
  have := RaSet_any A (0 :: natJ L) c w hA (by omega) (k + 1) (by omega) (v : Int)
  rw [hlen] at this
  refine this.mono ?_
  rintro r w' ⟨A', c', e, hr, hb⟩
  rw [natJ_set] at e hr
  have hlen' : ((0 : Int) :: natJ (L.set k v)).length = L.length + 1 := by rw [List.length_cons, natJ_len, List.length_set]
  rw [hlen'] at e
  refine ⟨A', c', e, fun i z hi => ?_, hb, fun g o eg => ?_⟩
  · obtain ⟨b, off, e1, _, e2, e3⟩ := hr i z hi
    exact ⟨b, off, e1, e2, e3⟩
  · obtain ⟨b, off, e1, e2, _, _⟩ := hr 0 0 rfl
    rw [eg] at e1
    injection e1 with e1
    injection e1 with e1
    omega
section
variable {w : World} {V : Value} {x : AR} {n : Nat}
set_option maxRecDepth 100000 in
set_option maxHeartbeats 2000000 in
theorem RaMove_not (h : RA w V x) (v t : Int) (hb : arMvB x v t = false) :
    Calls Try.prog 64 #[V, .int .i64 v, .int .i64 t] w fun e w' => e = .returned (.tuple #[V, .bool false]) ∧ Below w.heap.size w w' := by
  have h' := h
  obtain ⟨A1, c1, A2, c2, A3, c3, rfl, _⟩ := h
  obtain ⟨b1, b2, b3⟩ := Bx.two w [.slice A1 (x.st.length + 1) c1, .slice A2 (x.st.length + 1) c2, .slice A3 x.fr.length c3] [.slice none 0 0, .slice none 0 0, .slice none 0 0] 93 93
  have HS := Lib.hid (RaState_any (h'.later b3) v)
  have HB1 := Lib.hid b1
  have HB2 := Lib.hid b2
  have HB3 := Lib.hid b3
  clear b1 b2 b3 h'
  have hd := of_decide_eq_false (show decide _ = false from hb)
  clear hb
  unfold aV at *
  generalize arSt x v = sv at *
  generalize x.st.length + 1 = l1 at *
  generalize x.fr.length = l3 at *
  rcases (show (sv = 1 ∧ t ≠ 2) ∨ (sv = 2 ∧ t ≠ 3) ∨ (sv = 3 ∧ t ≠ 4) ∨ (sv ≠ 1 ∧ sv ≠ 2 ∧ sv ≠ 3) by omega) with ⟨rfl, ht⟩ | ⟨rfl, ht⟩ | ⟨rfl, ht⟩ | ⟨h1, h2, h3⟩
  · have ht2 : (t == 2) = false := by simpa using ht
    clear hd ht
    go_enter Try.func64, Try.ntmps64
    go_wp2_with fail
    refine HS.out.mono ?_
    rintro e w3 ⟨rfl, hb3⟩
    have H1 := Lib.hid (HB1.out.below hb3)
    have H2 := Lib.hid (HB2.out.below hb3)
    have HBB := Lib.hid (Below.next HB3.out hb3)
    have x0 := H1.out.c 0 _ rfl
    have x1 := H1.out.c 1 _ rfl
    have x2 := H1.out.c 2 _ rfl
    have u0 := H2.out.c 0 _ rfl
    have u1 := H2.out.c 1 _ rfl
    have u2 := H2.out.c 2 _ rfl
    have f0 := H2.out.f 0
    have f1 := H2.out.f 1
    have f2 := H2.out.f 2
    have HP := Lib.hid (H2.out.put3 (.slice A1 l1 c1) (.slice A2 l1 c2) (.slice A3 l3 c3))
    clear hb3 HB1 HB2 HB3 HS H1 H2
    go_wp2
    have q0 := HP.out.c 0 _ rfl
    have q1 := HP.out.c 1 _ rfl
    have q2 := HP.out.c 2 _ rfl
    exact bodyPost_ret (v := .tuple #[.agg #[.slice A1 l1 c1, .slice A2 l1 c2, .slice A3 l3 c3], .bool false]) (by simp [results, Try.results64, go_sem, q0, q1, q2]) rfl ⟨rfl, below_put3 HBB.out (Nat.le_succ _) _ _ _⟩
  · have ht2 : (t == 3) = false := by simpa using ht
    clear hd ht
    go_enter Try.func64, Try.ntmps64
    go_wp2_with fail
    refine HS.out.mono ?_
    rintro e w3 ⟨rfl, hb3⟩
    have H1 := Lib.hid (HB1.out.below hb3)
    have H2 := Lib.hid (HB2.out.below hb3)
    have HBB := Lib.hid (Below.next HB3.out hb3)
    have x0 := H1.out.c 0 _ rfl
    have x1 := H1.out.c 1 _ rfl
    have x2 := H1.out.c 2 _ rfl
    have u0 := H2.out.c 0 _ rfl
    have u1 := H2.out.c 1 _ rfl
    have u2 := H2.out.c 2 _ rfl
    have f0 := H2.out.f 0
    have f1 := H2.out.f 1
    have f2 := H2.out.f 2
    have HP := Lib.hid (H2.out.put3 (.slice A1 l1 c1) (.slice A2 l1 c2) (.slice A3 l3 c3))
    clear hb3 HB1 HB2 HB3 HS H1 H2
    go_wp2
    have q0 := HP.out.c 0 _ rfl
    have q1 := HP.out.c 1 _ rfl
    have q2 := HP.out.c 2 _ rfl
    exact bodyPost_ret (v := .tuple #[.agg #[.slice A1 l1 c1, .slice A2 l1 c2, .slice A3 l3 c3], .bool false]) (by simp [results, Try.results64, go_sem, q0, q1, q2]) rfl ⟨rfl, below_put3 HBB.out (Nat.le_succ _) _ _ _⟩
  · have ht2 : (t == 4) = false := by simpa using ht
    clear hd ht
    go_enter Try.func64, Try.ntmps64
    go_wp2_with fail
    refine HS.out.mono ?_
    rintro e w3 ⟨rfl, hb3⟩
    have H1 := Lib.hid (HB1.out.below hb3)
    have H2 := Lib.hid (HB2.out.below hb3)
    have HBB := Lib.hid (Below.next HB3.out hb3)
    have x0 := H1.out.c 0 _ rfl
    have x1 := H1.out.c 1 _ rfl
    have x2 := H1.out.c 2 _ rfl
    have u0 := H2.out.c 0 _ rfl
    have u1 := H2.out.c 1 _ rfl
    have u2 := H2.out.c 2 _ rfl
    have f0 := H2.out.f 0
    have f1 := H2.out.f 1
    have f2 := H2.out.f 2
    have HP := Lib.hid (H2.out.put3 (.slice A1 l1 c1) (.slice A2 l1 c2) (.slice A3 l3 c3))
    clear hb3 HB1 HB2 HB3 HS H1 H2
    go_wp2
    have q0 := HP.out.c 0 _ rfl
    have q1 := HP.out.c 1 _ rfl
    have q2 := HP.out.c 2 _ rfl
    exact bodyPost_ret (v := .tuple #[.agg #[.slice A1 l1 c1, .slice A2 l1 c2, .slice A3 l3 c3], .bool false]) (by simp [results, Try.results64, go_sem, q0, q1, q2]) rfl ⟨rfl, below_put3 HBB.out (Nat.le_succ _) _ _ _⟩
  · have h1 : (sv == 1) = false := by simpa using h1
    have h2 : (sv == 2) = false := by simpa using h2
    have h3 : (sv == 3) = false := by simpa using h3
    clear hd
    go_enter Try.func64, Try.ntmps64
    go_wp2_with fail
    refine HS.out.mono ?_
    rintro e w3 ⟨rfl, hb3⟩
    have H1 := Lib.hid (HB1.out.below hb3)
    have H2 := Lib.hid (HB2.out.below hb3)
    have HBB := Lib.hid (Below.next HB3.out hb3)
    have x0 := H1.out.c 0 _ rfl
    have x1 := H1.out.c 1 _ rfl
    have x2 := H1.out.c 2 _ rfl
    have u0 := H2.out.c 0 _ rfl
    have u1 := H2.out.c 1 _ rfl
    have u2 := H2.out.c 2 _ rfl
    have f0 := H2.out.f 0
    have f1 := H2.out.f 1
    have f2 := H2.out.f 2
    have HP := Lib.hid (H2.out.put3 (.slice A1 l1 c1) (.slice A2 l1 c2) (.slice A3 l3 c3))
    clear hb3 HB1 HB2 HB3 HS H1 H2
    go_wp2
    have q0 := HP.out.c 0 _ rfl
    have q1 := HP.out.c 1 _ rfl
    have q2 := HP.out.c 2 _ rfl
    exact bodyPost_ret (v := .tuple #[.agg #[.slice A1 l1 c1, .slice A2 l1 c2, .slice A3 l3 c3], .bool false]) (by simp [results, Try.results64, go_sem, q0, q1, q2]) rfl ⟨rfl, below_put3 HBB.out (Nat.le_succ _) _ _ _⟩
set_option maxRecDepth 100000 in
set_option maxHeartbeats 2000000 in
theorem RaMove_yes (h : RA w V x) (hf : AFit n x) (v t : Int) (hb : arMvB x v t = true) :
    Calls Try.prog 64 #[V, .int .i64 v, .int .i64 t] w fun e w' => ∃ V', e = .returned (.tuple #[V', .bool true]) ∧ RA w' V' (arMvX x v t) ∧ Below w.heap.size w w' ∧ ∀ b, VB V' b → VB V b ∨ w.heap.size ≤ b := by
  have h' := h
  obtain ⟨A1, c1, A2, c2, A3, c3, rfl, r1, r2, r3, r4, r5, b6, o6, r6, r7⟩ := h
  obtain ⟨b1, b2, b3⟩ := Bx.two w [.slice A1 (x.st.length + 1) c1, .slice A2 (x.st.length + 1) c2, .slice A3 x.fr.length c3] [.slice none 0 0, .slice none 0 0, .slice none 0 0] 93 93
  obtain ⟨k, s, rfl, hk, rfl, hs2, hs4, hsg, hx⟩ := arMv_nat hb
  have HS := Lib.hid (RaState_any (h'.later b3) ((k : Int) + 1))
  rw [arSt_in hk] at HS
  rw [hx]
  have HT := Lib.hid (fun W (hbl : Below w.heap.size w W) => RaSet_n (c := c1) (rd_later r1 hbl) hf.few hk s rfl rfl)
  have HO : Hid (∀ W A c, Below w.heap.size w W → Rd (Value.int .i64) W W.heap.size A (0 :: natJ (x.st.set k s)) → RA W (aV A (x.st.length + 1) c A2 (x.st.length + 1) c2 A3 x.fr.length c3) { x with st := x.st.set k s }) := Lib.hid fun W A c hbl hr =>
    ⟨A, c, A2, c2, A3, c3, by simp only [List.length_set], hr, rd_later r2 hbl, rd_later r3 hbl, r4, r5, b6, o6, r6, Nat.lt_of_lt_of_le r7 hbl.size⟩
  have HB1 := Lib.hid b1
  have HB2 := Lib.hid b2
  have HB3 := Lib.hid b3
  clear b1 b2 b3 h' hb r1 r2 r3 r4 r5 r6 r7 hf hx
  unfold aV at *
  generalize x.st.getD k 0 = g at *
  rw [show (k : Int) + 1 = ((k + 1 : Nat) : Int) by omega] at HS
  rw [show (k : Int) + 1 = ((k + 1 : Nat) : Int) by omega]
  generalize k + 1 = j at *
  generalize x.st.length + 1 = l1 at *
  generalize x.fr.length = l3 at *
  rcases (show g = 1 ∧ s = 2 ∨ g = 2 ∧ s = 3 ∨ g = 3 ∧ s = 4 by omega) with ⟨rfl, rfl⟩ | ⟨rfl, rfl⟩ | ⟨rfl, rfl⟩
  all_goals
    go_enter Try.func64, Try.ntmps64
    go_wp2_with fail
    refine HS.out.mono ?_
    rintro e w3 ⟨rfl, hb3⟩
    have H1 := Lib.hid (HB1.out.below hb3)
    have H2 := Lib.hid (HB2.out.below hb3)
    have HBB := Lib.hid (Below.next HB3.out hb3)
    have x0 := H1.out.c 0 _ rfl
    clear hb3 HB1 HB2 HB3 HS
    go_wp2_with fail
    refine (HT.out _ HBB.out).mono ?_
    rintro e w4 ⟨A5, c5, rfl, hr5, hb4, hg5⟩
    clear x0
    have H5 := Lib.hid hr5
    have H6 := Lib.hid (H1.out.below hb4)
    have H7 := Lib.hid (H2.out.below hb4)
    have HB5 := Lib.hid (Below.next HBB.out hb4)
    have x0 := H6.out.c 0 _ rfl
    have f0 := H6.out.f 0
    have H8 := Lib.hid (H6.out.set 0 (.slice A5 l1 c5))
    have H9 := Lib.hid (H7.out.other (a := ⟨w.heap.size, 0, none⟩) (by show w.heap.size ≠ w.heap.size + 1; omega) (.slice A5 l1 c5))
    have HBW := Lib.hid (bl1 (b := w.heap.size) (k := 0) HB5.out (Nat.le_refl _) (.slice A5 l1 c5))
    have HRW := Lib.hid (rd_set1 (v := .slice A5 l1 c5) H5.out (a := ⟨w.heap.size, 0, none⟩) (fun g o e => by have := hg5 g o e; have := H1.out.lt; show w.heap.size ≠ g; omega))
    have HG5 : Hid (∀ g o, A5 = some ⟨g, o, none⟩ → w.heap.size + 1 ≠ g) := Lib.hid fun g o e => by
      have := hg5 g o e
      have := H2.out.lt
      omega
    have HGN : Hid (∀ g o, A5 = some ⟨g, o, none⟩ → w.heap.size ≤ g) := Lib.hid fun g o e => Nat.le_trans HBB.out.size (hg5 g o e)
    clear hb4 hr5 HBB H1 H2 H5 H6 H7 HB5 hg5 HT
    go_upto_region 5 with (fail)
    generalize w4.setCell ⟨w.heap.size, 0, none⟩ (.slice A5 l1 c5) = W4 at *
    clear x0 f0
    have x0 := H8.out.c 0 _ rfl
    have x1 := H8.out.c 1 _ rfl
    have x2 := H8.out.c 2 _ rfl
    have u0 := H9.out.c 0 _ rfl
    have u1 := H9.out.c 1 _ rfl
    have u2 := H9.out.c 2 _ rfl
    have f0 := H9.out.f 0
    have f1 := H9.out.f 1
    have f2 := H9.out.f 2
    have HP := Lib.hid (H9.out.put3 (.slice A5 l1 c5) (.slice A2 l1 c2) (.slice A3 l3 c3))
    have HBF := Lib.hid (below_put3 HBW.out (Nat.le_succ w.heap.size) (.slice A5 l1 c5) (.slice A2 l1 c2) (.slice A3 l3 c3))
    have HRF := Lib.hid (HO.out _ A5 c5 HBF.out (rd_set1 (rd_set1 (rd_set1 HRW.out (a := ⟨w.heap.size + 1, 0, none⟩) HG5.out) (a := ⟨w.heap.size + 1, 1, none⟩) HG5.out) (a := ⟨w.heap.size + 1, 2, none⟩) HG5.out))
    go_wp2
    have q0 := HP.out.c 0 _ rfl
    have q1 := HP.out.c 1 _ rfl
    have q2 := HP.out.c 2 _ rfl
    exact bodyPost_ret (v := .tuple #[.agg #[.slice A5 l1 c5, .slice A2 l1 c2, .slice A3 l3 c3], .bool true]) (by simp [results, Try.results64, go_sem, q0, q1, q2]) rfl ⟨_, rfl, HRF.out, HBF.out, VB.turn (.inr HGN.out) (.inl rfl) (.inl rfl)⟩
set_option maxRecDepth 100000 in
set_option maxHeartbeats 2000000 in
theorem RaMove_any (h : RA w V x) (hf : AFit n x) (v t : Int) :
    Calls Try.prog 64 #[V, .int .i64 v, .int .i64 t] w fun e w' => ∃ V', e = .returned (.tuple #[V', .bool (arMvB x v t)]) ∧ RA w' V' (arMvX x v t) ∧ Below w.heap.size w w' ∧ ∀ b, VB V' b → VB V b ∨ w.heap.size ≤ b := by
  cases hb : arMvB x v t with
  | false =>
    have e : arMvX x v t = x := by unfold arMvX; rw [hb]; rfl
    rw [e]
    exact (RaMove_not h v t hb).mono fun _ _ ⟨h1, h2⟩ => ⟨V, h1, h.later h2, h2, fun _ e => .inl e⟩
  | true => exact RaMove_yes h hf v t hb
end

end Go.Proofs.Ytoaikdnooafjmaa
