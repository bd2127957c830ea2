/- The document's arena (ganglionref21), by contract: Free. -/
import Derived.Test.YtoaikdnooafjmaaRefAr4
import Derived.Deep.AppendLies
import Derived.StillTailTactics
namespace Go.Proofs.Ytoaikdnooafjmaa
open Go.RowKit

theorem rd_chg2 {M : Nat → Prop} {W W' : World} {A : Option Addr} {L : List Int} (h : Rd (Value.int .i64) W W.heap.size A L) (hc : Chg M W W') (hg : ∀ g o, A = some ⟨g, o, none⟩ → ¬ M g) : Rd (Value.int .i64) W' W'.heap.size A L := fun i z hi => by
  obtain ⟨b, off, e, hb, hcell⟩ := h i z hi
  exact ⟨b, off, e, Nat.lt_of_lt_of_le hb hc.size, (hc.cell (p := ⟨b, off + i, none⟩) hb (hg b off e)).trans hcell⟩
section
variable {w : World} {V : Value} {x : AR} {n : Nat}
set_option maxRecDepth 100000 in
set_option maxHeartbeats 2000000 in
theorem RaFree_not (h : RA w V x) (v : Int) (hb : arFrB x v = false) :
    Calls Try.prog 66 #[V, .int .i64 v] w fun e w' => e = .returned (.tuple #[V, .bool false]) ∧ Below w.heap.size w w' := by
  have h' := h
  obtain ⟨A1, c1, A2, c2, A3, c3, rfl, _⟩ := h
  obtain ⟨b1, b2, b3⟩ := Bx.two w [.slice A1 (x.st.length + 1) c1, .slice A2 (x.st.length + 1) c2, .slice A3 x.fr.length c3] [.slice none 0 0, .slice none 0 0, .slice none 0 0] 93 93
  have HS := Lib.hid (RaState_any (h'.later b3) v)
  have HB1 := Lib.hid b1
  have HB2 := Lib.hid b2
  have HB3 := Lib.hid b3
  clear b1 b2 b3 h'
  have hd := of_decide_eq_false (show decide _ = false from hb)
  clear hb
  unfold aV at *
  generalize arSt x v = sv at *
  generalize x.st.length + 1 = l1 at *
  generalize x.fr.length = l3 at *
  have h1 : (sv != 1) = true := by simpa using fun e => hd (.inl e)
  have h2 : (sv != 4) = true := by simpa using fun e => hd (.inr e)
  clear hd
  go_enter Try.func66, Try.ntmps66
  go_wp2_with fail
  refine HS.out.mono ?_
  rintro e w3 ⟨rfl, hb3⟩
  have H1 := Lib.hid (HB1.out.below hb3)
  have H2 := Lib.hid (HB2.out.below hb3)
  have HBB := Lib.hid (Below.next HB3.out hb3)
  have x0 := H1.out.c 0 _ rfl
  have x1 := H1.out.c 1 _ rfl
  have x2 := H1.out.c 2 _ rfl
  have u0 := H2.out.c 0 _ rfl
  have u1 := H2.out.c 1 _ rfl
  have u2 := H2.out.c 2 _ rfl
  have f0 := H2.out.f 0
  have f1 := H2.out.f 1
  have f2 := H2.out.f 2
  have HP := Lib.hid (H2.out.put3 (.slice A1 l1 c1) (.slice A2 l1 c2) (.slice A3 l3 c3))
  clear hb3 HB1 HB2 HB3 HS H1 H2
  go_wp2
  have q0 := HP.out.c 0 _ rfl
  have q1 := HP.out.c 1 _ rfl
  have q2 := HP.out.c 2 _ rfl
  exact bodyPost_ret (v := .tuple #[.agg #[.slice A1 l1 c1, .slice A2 l1 c2, .slice A3 l3 c3], .bool false]) (by simp [results, Try.results66, go_sem, q0, q1, q2]) rfl ⟨rfl, below_put3 HBB.out (Nat.le_succ _) _ _ _⟩
set_option maxRecDepth 100000 in
set_option maxHeartbeats 8000000 in
theorem RaFree_yes (h : RA w V x) (hf : AFit n x) (hn : n < 100000) (v : Int) (hb : arFrB x v = true) :
    Calls Try.prog 66 #[V, .int .i64 v] w fun e w' => ∃ V', e = .returned (.tuple #[V', .bool true]) ∧ RA w' V' (arFrX x v) ∧ Below w.heap.size w w' ∧ ∀ b, VB V' b → VB V b ∨ w.heap.size ≤ b := by
  have h' := h
  obtain ⟨i1, hi1, hy0, hy1, hy2⟩ := info_parts info_int_ar
  obtain ⟨A1, c1, A2, c2, A3, c3, rfl, r1, r2, r3, r4, r5, b6, o6, rfl, r6⟩ := h
  obtain ⟨ad3, had3⟩ : ∃ a : Addr, (⟨b6, o6, none⟩ : Addr) = a := ⟨_, rfl⟩
  rw [had3] at r3 h'
  rw [had3]
  clear had3
  obtain ⟨b1, b2, b3⟩ := Bx.two w [.slice A1 (x.st.length + 1) c1, .slice A2 (x.st.length + 1) c2, .slice (some ad3) x.fr.length c3] [.slice none 0 0, .slice none 0 0, .slice none 0 0] 93 93
  obtain ⟨k, rfl, hk, hst, hx⟩ := arFr_nat hb
  have HS := Lib.hid (RaState_any (h'.later b3) ((k : Int) + 1))
  rw [arSt_in hk] at HS
  rw [hx]
  have hfl := hf.frl
  have hgn := hf.gb k
  obtain ⟨bg, og, rfl, hbg, hcg⟩ := r2 (k + 1) _ (natJ_at (by rw [hf.len]; exact hk))
  have HT := Lib.hid (fun W (hbl : Below w.heap.size w W) => RaSet_n (c := c1) (rd_later r1 hbl) hf.few hk 0 rfl rfl)
  have HT2 := Lib.hid (fun W (hbl : Below w.heap.size w W) => RaSet_n (c := c2) (l := x.st.length + 1) (rd_later r2 hbl) (by rw [hf.len]; exact hf.few) (by rw [hf.len]; exact hk) (x.gn.getD k 0 + 1) (by rw [hf.len]) rfl)
  have HR3 := Lib.hid (fun W (hbl : Below w.heap.size w W) => rd_later r3 hbl)
  have HO : Hid (∀ W A c A' c' gg cap, Rd (Value.int .i64) W W.heap.size A (0 :: natJ (x.st.set k 0)) → Rd (Value.int .i64) W W.heap.size A' (0 :: natJ (x.gn.set k (x.gn.getD k 0 + 1))) →
      Rd (Value.int .i64) W W.heap.size (some ⟨gg, 0, none⟩) (natJ (x.fr ++ [k + 1])) → x.fr.length + 1 ≤ cap → cap ≤ 9223372036854775807 → gg < W.heap.size → RA W (aV A (x.st.length + 1) c A' (x.st.length + 1) c' (some ⟨gg, 0, none⟩) (x.fr.length + 1) cap) (arFrE x k)) := Lib.hid fun W A c A' c' gg cap e1 e2 e3 e4 e5 e6 =>
    ⟨A, c, A', c', some ⟨gg, 0, none⟩, cap, by simp only [arFrE, List.length_set, List.length_append, List.length_singleton], e1, e2, e3, by simp only [arFrE, List.length_append, List.length_singleton]; exact e4, e5, gg, 0, rfl, e6⟩
  have HC := Lib.hid (fun W (hbl : Below w.heap.size w W) => (hbl.cell (p := ⟨bg, og + (k + 1), none⟩) hbg).trans hcg)
  have HB1 := Lib.hid b1
  have HB2 := Lib.hid b2
  have HB3 := Lib.hid b3
  have hk0 : (0 : Int) ≤ ((k + 1 : Nat) : Int) := by omega
  have hk1 : ((k + 1 : Nat) : Int) < ((x.st.length + 1 : Nat) : Int) := by omega
  clear b1 b2 b3 h' hb r1 r2 r3 r4 r5 r6 hf hx hcg hbg
  unfold aV at *
  generalize hgg : x.gn.getD k 0 = g at *
  generalize hss : x.st.getD k 0 = st at *
  have hg0 : (g : Int) < 100000 := by omega
  rw [show (k : Int) + 1 = ((k + 1 : Nat) : Int) by omega] at HS
  rw [show (k : Int) + 1 = ((k + 1 : Nat) : Int) by omega]
  obtain ⟨j, hj⟩ : ∃ j, k + 1 = j := ⟨_, rfl⟩
  rw [hj] at hk0 hk1 HT HT2 HS HC HO
  rw [hj]
  generalize x.st.length + 1 = l1 at *
  generalize hl3 : x.fr.length = l3 at *
  have HL3 := Lib.hid hl3
  rw [show ((g + 1 : Nat) : Int) = (g : Int) + 1 by omega] at HT2
  clear hl3 hgn hgg hss hj hk
  rcases hst with rfl | rfl
  all_goals
    go_enter Try.func66, Try.ntmps66
    go_wp2_with fail
    refine HS.out.mono ?_
    rintro e w3 ⟨rfl, hb3⟩
    have H1 := Lib.hid (HB1.out.below hb3)
    have H2 := Lib.hid (HB2.out.below hb3)
    have HBB := Lib.hid (Below.next HB3.out hb3)
    have x0 := H1.out.c 0 _ rfl
    clear hb3 HB1 HB2 HB3 HS
    go_wp2_with fail
    refine (HT.out _ HBB.out).mono ?_
    rintro e w4 ⟨A5, c5, rfl, hr5, hb4, hg5⟩
    clear x0
    have H5 := Lib.hid hr5
    have H6 := Lib.hid (H1.out.below hb4)
    have H7 := Lib.hid (H2.out.below hb4)
    have HB5 := Lib.hid (Below.next HBB.out hb4)
    have x0 := H6.out.c 0 _ rfl
    have f0 := H6.out.f 0
    have H8 := Lib.hid (H6.out.set 0 (.slice A5 l1 c5))
    have H9 := Lib.hid (H7.out.other (a := ⟨w.heap.size, 0, none⟩) (by show w.heap.size ≠ w.heap.size + 1; omega) (.slice A5 l1 c5))
    have HBW := Lib.hid (bl1 (b := w.heap.size) (k := 0) HB5.out (Nat.le_refl _) (.slice A5 l1 c5))
    have HCW : Hid (Chg (fun b => b = w.heap.size ∨ b = w.heap.size + 1) w4 (w4.setCell ⟨w.heap.size, 0, none⟩ (.slice A5 l1 c5))) := Lib.hid (Chg.refl.setCell (.inl rfl) _)
    have HG5 : Hid (∀ g o, A5 = some ⟨g, o, none⟩ → ¬ (g = w.heap.size ∨ g = w.heap.size + 1)) := Lib.hid fun g o e => by
      have := hg5 g o e
      have := H2.out.lt
      omega
    have HGN5 : Hid (∀ g o, A5 = some ⟨g, o, none⟩ → w.heap.size ≤ g) := Lib.hid fun g o e => Nat.le_trans HBB.out.size (hg5 g o e)
    clear hb4 hr5 HBB H1 H2 H6 H7 HB5 hg5 HT
    go_upto_region 5 with (fail)
    generalize w4.setCell ⟨w.heap.size, 0, none⟩ (.slice A5 l1 c5) = W4 at *
    clear x0 f0
    have x1 := H8.out.c 1 _ rfl
    have hcg := HC.out _ HBW.out
    go_still_tail 9, (by kernel_rfl)
    change wpList _ _ _ _ _ W4.drew
    have H8' := Lib.hid H8.out.drew
    have H9' := Lib.hid H9.out.drew
    have HBW' := Lib.hid HBW.out.drew
    have HCW' := Lib.hid HCW.out.drew
    clear x1 hcg H8 H9 HBW HCW HC
    generalize W4.drew = W5 at *
    go_wp2_with fail
    refine (HT2.out _ HBW'.out).mono ?_
    rintro e w5 ⟨A6, c6, rfl, hr6, hb5, hg6⟩
    have H6 := Lib.hid (H8'.out.below hb5)
    have H7 := Lib.hid (H9'.out.below hb5)
    have HB5 := Lib.hid (Below.next HBW'.out hb5)
    have HR6 := Lib.hid hr6
    have x1 := H6.out.c 1 _ rfl
    have f1 := H6.out.f 1
    have H10 := Lib.hid (H6.out.set 1 (.slice A6 l1 c6))
    have H11 := Lib.hid (H7.out.other (a := ⟨w.heap.size, 1, none⟩) (by show w.heap.size ≠ w.heap.size + 1; omega) (.slice A6 l1 c6))
    have HB6 := Lib.hid (bl1 (b := w.heap.size) (k := 1) HB5.out (Nat.le_refl _) (.slice A6 l1 c6))
    have HC5 : Hid (Chg (fun b => b = w.heap.size ∨ b = w.heap.size + 1) w5 (w5.setCell ⟨w.heap.size, 1, none⟩ (.slice A6 l1 c6))) := Lib.hid (Chg.refl.setCell (.inl rfl) _)
    have HC4 : Hid (Chg (fun b => b = w.heap.size ∨ b = w.heap.size + 1) w4 (w5.setCell ⟨w.heap.size, 1, none⟩ (.slice A6 l1 c6))) := Lib.hid ((HCW'.out.trans (M' := fun b => b = w.heap.size ∨ b = w.heap.size + 1) (Chg.of_below hb5) (fun b e => .inl e)).setCell (.inl rfl) _)
    have HG6 : Hid (∀ g o, A6 = some ⟨g, o, none⟩ → ¬ (g = w.heap.size ∨ g = w.heap.size + 1)) := Lib.hid fun g o e => by
      have := hg6 g o e
      have := H9'.out.lt
      omega
    have HGN6 : Hid (∀ g o, A6 = some ⟨g, o, none⟩ → w.heap.size ≤ g) := Lib.hid fun g o e => Nat.le_trans HBW'.out.size (hg6 g o e)
    clear hb5 hr6 hg6 H6 H7 HB5 H8' H9' HBW' HCW' HT2
    go_upto_region 6 with (fail)
    generalize w5.setCell ⟨w.heap.size, 1, none⟩ (.slice A6 l1 c6) = W6 at *
    clear x1 f1
    have x2 := H10.out.c 2 _ rfl
    have hr3 := HR3.out _ HB6.out
    have HNW : Hid (∀ i u, ((natJ x.fr).map (Value.int .i64))[i]? = some u → (W6.alloc (.cells #[] 3)).cell? (ad3.add i) = some u) := Lib.hid ((hr3.below (below_new W6 (.cells #[] 3))).more (B' := W6.heap.size) (Nat.le_refl _)).news
    have HLN : Hid (((natJ x.fr).map (Value.int .i64)).length = l3 * 1) := Lib.hid (by rw [List.length_map, natJ_len, HL3.out, Nat.mul_one])
    have HO0 : Hid ((W6.alloc (.cells #[] 3)).ownsRow W6.heap.size 3 1 (.slice (some ⟨W6.heap.size, 0, none⟩) 0 0) 0 []) := Lib.hid (World.ownsRow_made W6 #[] 0 (Nat.le_refl _) (Nat.zero_le _) rfl)
    have HX2 := Lib.hid ((below_new W6 (.cells #[] 3)).cell (p := ⟨w.heap.size, 2, none⟩) H10.out.lt |>.trans x2)
    have x2' := HX2.out
    clear hr3 x2 HR3
    go_wp2_with (at_builtin; refine wpList_append_own _ rfl _ _ 38 rfl W6.heap.size 3 i1 (.int .i64 0) 1 8 Try.underlying38 hi1 hy0 hy1 hy2 rfl (by decide) (.slice (some ⟨W6.heap.size, 0, none⟩) 0 0) 0 [] rfl HO0.out ad3 l3 c3 ((natJ x.fr).map (Value.int .i64)) rfl HLN.out HNW.out ints_one (by unfold maxLen; omega) (by omega) (by simp) ?_)
    intro v' w7 hown hgrow _
    have hB7 : Below W6.heap.size W6 w7 := (below_new W6 (.cells #[] 3)).grown hgrow (by simp) (by intro g hg; simp [Value.ownBlock] at hg; omega)
    have hown2 : w7.ownsRow W6.heap.size 3 1 v' l3 ((natJ x.fr).map (Value.int .i64)) := by simpa using hown
    clear hgrow hown HNW HLN HO0 HX2 x2'
    obtain ⟨A7, c7, rfl, _, _⟩ := ownSlice hown2
    have H12 := Lib.hid (H10.out.below hB7)
    have H13 := Lib.hid (H11.out.below hB7)
    have HB7 := Lib.hid (Below.next HB6.out hB7)
    have HC47 := Lib.hid (HC4.out.trans (M' := fun b => b = w.heap.size ∨ b = w.heap.size + 1) (Chg.of_below hB7) (fun b e => .inl e))
    have HC57 := Lib.hid (HC5.out.trans (M' := fun b => b = w.heap.size ∨ b = w.heap.size + 1) (Chg.of_below hB7) (fun b e => .inl e))
    have hW6 := hB7.size
    have hPl := H10.out.lt
    have hPl2 := H11.out.lt
    have HNE : Hid (∀ b, b < W6.heap.size → some b ≠ (Value.slice A7 l3 c7).ownBlock) := Lib.hid fun b hb e => by have := (hown2.lt b e.symm).1; omega
    have HR := Lib.hid (hown2.alloc (.cells #[.int .i64 (j : Int)] 3))
    have C1 := Lib.hid ((below_new w7 (.cells #[.int .i64 (j : Int)] 3)).cell (p := ⟨w.heap.size, 2, none⟩) (Nat.lt_of_lt_of_le hPl hW6) |>.trans (H12.out.c 2 _ rfl))
    have F1 := Lib.hid ((below_new w7 (.cells #[.int .i64 (j : Int)] 3)).frozen (p := ⟨w.heap.size, 2, none⟩) (Nat.lt_of_lt_of_le hPl hW6) |>.trans (H12.out.f 2))
    have HNW : Hid (∀ i u, [Value.int .i64 (j : Int)][i]? = some u → (w7.alloc (.cells #[.int .i64 (j : Int)] 3)).cell? (Addr.add ⟨w7.heap.size, 0, none⟩ i) = some u) := Lib.hid fun i u hj => by
      match i, hj with
      | 0, hj => simp at hj; subst hj; simp [Addr.add]
    have HON : Hid (∀ u ∈ [Value.int .i64 (j : Int)], u.oneCell' = true) := Lib.hid fun u hu => by simp at hu; subst hu; rfl
    have HS7 := Lib.hid hW6
    have HS4 := Lib.hid HC4.out.size
    have HS5 := Lib.hid HC5.out.size
    have HSW := Lib.hid HB6.out.size
    clear hB7 hown2 HC4 HC5 HB6 H10 H11 hW6
    have hb0 : W6.heap.size ≤ (w7.alloc (.cells #[.int .i64 (j : Int)] 3)).heap.size := by rw [World.size_alloc]; have := HS7.out; omega
    go_wp2_with (at_builtin; refine wpList_append_lies _ rfl _ _ 38 rfl W6.heap.size 3 i1 (.int .i64 0) 1 8 Try.underlying38 hi1 hy0 hy1 hy2 rfl (by decide) (.slice A7 l3 c7) l3 ((natJ x.fr).map (Value.int .i64)) rfl HR.out ⟨w7.heap.size, 0, none⟩ 1 1 [.int .i64 (j : Int)] rfl rfl HNW.out HON.out (by decide) (by unfold maxLen; omega) (by omega) hb0 (w7.heap.size + 1) (by simp) ?_)
    intro gg cap w8 hown8 hgrow8 hat8 hlt8
    have q0 := hgrow8.cell C1.out (HNE.out _ hPl)
    have q1 := (World.frozen?_of_block (a := ⟨w.heap.size, 2, none⟩) (hgrow8.block w.heap.size (by rw [World.size_alloc]; have := HS7.out; show w.heap.size < _; omega) (HNE.out _ hPl))).trans F1.out
    have hkeep : ∀ {b : Nat} {vs : List Value}, Bx w7 b vs → b < W6.heap.size → Bx w8 b vs := fun {b vs} h hb => by
      have h1 := h.below (below_new w7 (.cells #[.int .i64 (j : Int)] 3))
      have q := hgrow8.block b h1.lt (HNE.out _ hb)
      exact ⟨Nat.lt_of_lt_of_le h1.lt hgrow8.size, fun i v hj => (World.cell?_of_block q).trans (h1.c i v hj), fun i => (World.frozen?_of_block q).trans (h1.f i)⟩
    have hch : Chg (fun b => W6.heap.size ≤ b) w7 w8 := (Chg.of_below (below_new w7 (.cells #[.int .i64 (j : Int)] 3))).trans (M' := fun b => W6.heap.size ≤ b) ⟨hgrow8.os, hgrow8.tape, hgrow8.output, hgrow8.size, fun b hb hn => hgrow8.block b hb (HNE.out _ (by omega))⟩ (fun b e => .inl e)
    have H14 := Lib.hid ((hkeep H12.out hPl).set 2 (.slice (some ⟨gg, 0, none⟩) (l3 + 1) cap))
    have H15 := Lib.hid ((hkeep H13.out hPl2).other (a := ⟨w.heap.size, 2, none⟩) (by show w.heap.size ≠ w.heap.size + 1; omega) (.slice (some ⟨gg, 0, none⟩) (l3 + 1) cap))
    have hsz : W6.heap.size ≤ w8.heap.size := Nat.le_trans HS7.out hch.size
    have HB8 : Hid (Below w.heap.size w (w8.setCell ⟨w.heap.size, 2, none⟩ (.slice (some ⟨gg, 0, none⟩) (l3 + 1) cap))) := Lib.hid (bl1 (b := w.heap.size) (k := 2) (HB7.out.trans (hch.below (fun b e => Nat.le_trans HSW.out e) (Nat.le_trans HSW.out HS7.out))) (Nat.le_refl _) _)
    have HC48 : Hid (Chg (fun b => (b = w.heap.size ∨ b = w.heap.size + 1) ∨ W6.heap.size ≤ b) w4 (w8.setCell ⟨w.heap.size, 2, none⟩ (.slice (some ⟨gg, 0, none⟩) (l3 + 1) cap))) := Lib.hid (((HC47.out.mono (fun b e => .inl e)).trans (M' := fun b => (b = w.heap.size ∨ b = w.heap.size + 1) ∨ W6.heap.size ≤ b) (hch.mono (fun b e => .inr e)) (fun b e => .inl e)).setCell (.inl (.inl rfl)) _)
    have HC58 : Hid (Chg (fun b => (b = w.heap.size ∨ b = w.heap.size + 1) ∨ W6.heap.size ≤ b) w5 (w8.setCell ⟨w.heap.size, 2, none⟩ (.slice (some ⟨gg, 0, none⟩) (l3 + 1) cap))) := Lib.hid (((HC57.out.mono (fun b e => .inl e)).trans (M' := fun b => (b = w.heap.size ∨ b = w.heap.size + 1) ∨ W6.heap.size ≤ b) (hch.mono (fun b e => .inr e)) (fun b e => .inl e)).setCell (.inl (.inl rfl)) _)
    have hgg : W6.heap.size ≤ gg := (hown8.lt gg rfl).1
    have hc89 : l3 + 1 ≤ cap ∧ cap ≤ 9223372036854775807 := by
      obtain ⟨A9, c9, hv9, hc9, hm9⟩ := ownSlice hown8
      injection hv9 with _ _ h3
      rw [h3]
      exact ⟨hc9, hm9⟩
    obtain ⟨hc9, hm9⟩ := hc89
    have HR8 : Hid (Rd (Value.int .i64) (w8.setCell ⟨w.heap.size, 2, none⟩ (.slice (some ⟨gg, 0, none⟩) (l3 + 1) cap)) (w8.setCell ⟨w.heap.size, 2, none⟩ (.slice (some ⟨gg, 0, none⟩) (l3 + 1) cap)).heap.size (some ⟨gg, 0, none⟩) (natJ (x.fr ++ [j]))) := Lib.hid (by
      refine rd_set1 ?_ (a := ⟨w.heap.size, 2, none⟩) (fun g o e => by
        injection e with e
        injection e with e
        show w.heap.size ≠ g
        omega)
      refine Rd.of_own (e := 3) (base := W6.heap.size) (n := l3 + 1) (cap := cap) (f := Value.int .i64) ?_
      have : (natJ (x.fr ++ [j])).map (Value.int .i64) = (natJ x.fr).map (Value.int .i64) ++ [.int .i64 (j : Int)] := by unfold natJ; simp
      rw [this]
      exact hown8)
    have HGG : Hid (w.heap.size ≠ gg ∧ w.heap.size + 1 ≠ gg ∧ l3 + 1 ≤ cap ∧ cap ≤ 9223372036854775807) := Lib.hid ⟨by omega, by omega, hc9, hm9⟩
    have HGL : Hid (gg < (w8.setCell ⟨w.heap.size, 2, none⟩ (.slice (some ⟨gg, 0, none⟩) (l3 + 1) cap)).heap.size ∧ w.heap.size ≤ gg) := Lib.hid ⟨by rw [World.size_setCell]; exact hlt8, Nat.le_trans HSW.out hgg⟩
    have HN5 : Hid (∀ g o, A5 = some ⟨g, o, none⟩ → g < W6.heap.size) := Lib.hid fun g o e => by
      obtain ⟨b, off, e1, e2, _⟩ := H5.out 0 0 rfl
      rw [e] at e1
      injection e1 with e1
      injection e1 with e1
      have := HS4.out
      omega
    have HN6 : Hid (∀ g o, A6 = some ⟨g, o, none⟩ → g < W6.heap.size) := Lib.hid fun g o e => by
      obtain ⟨b, off, e1, e2, _⟩ := HR6.out 0 0 rfl
      rw [e] at e1
      injection e1 with e1
      injection e1 with e1
      have := HS5.out
      omega
    clear hown8 hgrow8 hat8 hlt8 hkeep hch hsz hc9 hm9 hgg HNE HR C1 F1 HNW HON HS7 HS4 HS5 HSW hb0 HB7 HC47 HC57 H12 H13 hPl hPl2
    go_upto_region 7 with (fail)
    generalize w8.setCell ⟨w.heap.size, 2, none⟩ (.slice (some ⟨gg, 0, none⟩) (l3 + 1) cap) = W9 at *
    clear q0 q1
    have x0 := H14.out.c 0 _ rfl
    have x1 := H14.out.c 1 _ rfl
    have x2 := H14.out.c 2 _ rfl
    have u0 := H15.out.c 0 _ rfl
    have u1 := H15.out.c 1 _ rfl
    have u2 := H15.out.c 2 _ rfl
    have f0 := H15.out.f 0
    have f1 := H15.out.f 1
    have f2 := H15.out.f 2
    have HP := Lib.hid (H15.out.put3 (.slice A5 l1 c5) (.slice A6 l1 c6) (.slice (some ⟨gg, 0, none⟩) (l3 + 1) cap))
    have HBF := Lib.hid (below_put3 HB8.out (Nat.le_succ w.heap.size) (.slice A5 l1 c5) (.slice A6 l1 c6) (.slice (some ⟨gg, 0, none⟩) (l3 + 1) cap))
    have HCF : Hid (Chg (fun b => (b = w.heap.size ∨ b = w.heap.size + 1) ∨ W6.heap.size ≤ b) W9 (((W9.setCell ⟨w.heap.size + 1, 0, none⟩ (.slice A5 l1 c5)).setCell ⟨w.heap.size + 1, 1, none⟩ (.slice A6 l1 c6)).setCell ⟨w.heap.size + 1, 2, none⟩ (.slice (some ⟨gg, 0, none⟩) (l3 + 1) cap))) := Lib.hid (((Chg.refl.setCell (.inl (.inr rfl)) _).setCell (.inl (.inr rfl)) _).setCell (.inl (.inr rfl)) _)
    have HRF := Lib.hid (HO.out _ A5 c5 A6 c6 gg cap (rd_chg2 H5.out (HC48.out.trans HCF.out (fun b e => .inl e)) (fun g o e h => by have := HG5.out g o e; have := HN5.out g o e; omega))
      (rd_chg2 HR6.out (HC58.out.trans HCF.out (fun b e => .inl e)) (fun g o e h => by have := HG6.out g o e; have := HN6.out g o e; omega))
      (rd_set1 (rd_set1 (rd_set1 HR8.out (a := ⟨w.heap.size + 1, 0, none⟩) (v := .slice A5 l1 c5) (fun g o e => by injection e with e; injection e with e; have := HGG.out.2.1; show w.heap.size + 1 ≠ g; omega)) (a := ⟨w.heap.size + 1, 1, none⟩) (v := .slice A6 l1 c6) (fun g o e => by injection e with e; injection e with e; have := HGG.out.2.1; show w.heap.size + 1 ≠ g; omega)) (a := ⟨w.heap.size + 1, 2, none⟩) (v := .slice (some ⟨gg, 0, none⟩) (l3 + 1) cap) (fun g o e => by injection e with e; injection e with e; have := HGG.out.2.1; show w.heap.size + 1 ≠ g; omega)) HGG.out.2.2.1 HGG.out.2.2.2 (by simp only [World.size_setCell]; exact HGL.out.1))
    clear H14 H15 HB8 HC48 HC58 HR8 HN5 HN6 HCF HGG HG5 HG6 H5 HR6 HO HL3
    go_wp2
    have q0 := HP.out.c 0 _ rfl
    have q1 := HP.out.c 1 _ rfl
    have q2 := HP.out.c 2 _ rfl
    exact bodyPost_ret (v := .tuple #[.agg #[.slice A5 l1 c5, .slice A6 l1 c6, .slice (some ⟨gg, 0, none⟩) (l3 + 1) cap], .bool true]) (by simp [results, Try.results66, go_sem, q0, q1, q2]) rfl ⟨_, rfl, HRF.out, HBF.out, VB.turn (.inr HGN5.out) (.inr HGN6.out) (.inr fun g o e => by injection e with e; injection e with e; have := HGL.out.2; omega)⟩
set_option maxRecDepth 100000 in
theorem RaFree_any (h : RA w V x) (hf : AFit n x) (hn : n < 100000) (v : Int) :
    Calls Try.prog 66 #[V, .int .i64 v] w fun e w' => ∃ V', e = .returned (.tuple #[V', .bool (arFrB x v)]) ∧ RA w' V' (arFrX x v) ∧ Below w.heap.size w w' ∧ ∀ b, VB V' b → VB V b ∨ w.heap.size ≤ b := by
  cases hb : arFrB x v with
  | false =>
    have e : arFrX x v = x := by unfold arFrX; rw [hb]; rfl
    rw [e]
    exact (RaFree_not h v hb).mono fun _ _ ⟨h1, h2⟩ => ⟨V, h1, h.later h2, h2, fun _ e => .inl e⟩
  | true => exact RaFree_yes h hf hn v hb
theorem RaAlloc_any (h : RA w V x) (hf : AFit n x) :
    Calls Try.prog 62 #[V] w fun e w' => ∃ V', e = .returned (.tuple #[V', .agg #[.int .i64 (alS x : Nat), .int .i64 (alG x : Nat)], .bool (alB x)]) ∧ RA w' V' (alX x) ∧ Below w.heap.size w w' ∧ ∀ b, VB V' b → VB V b ∨ w.heap.size ≤ b := by
  rcases al_cases x with ⟨h0, e1, e2, e3, e4⟩ | ⟨F, s, h0, e1, e2, e3, e4⟩
  · rw [e1, e2, e3, e4]
    exact (RaAlloc_no h h0).mono fun _ _ ⟨h1, h2⟩ => ⟨V, h1, h.later h2, h2, fun _ e => .inl e⟩
  · rw [e1, e2, e3, e4]
    exact RaAlloc_yes h hf h0
end

end Go.Proofs.Ytoaikdnooafjmaa
