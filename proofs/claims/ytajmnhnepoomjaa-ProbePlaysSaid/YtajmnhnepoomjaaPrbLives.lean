/- The probes of the law's own question (lives), walked. -/
import Derived.Test.YtajmnhnepoomjaaPrbOffer
import Derived.Test.YtajmnhnepoomjaaRankSame
namespace Go.Proofs.Ytajmnhnepoomjaa
open Go.RowKit Go.Shelf Go.Sort Go.Lib Go.Maps

theorem vec_lit (W : World) (x : Int) (hx : -2147483648 ≤ x ∧ x ≤ 2147483647) (t : TypeId) : VecB (W.alloc (.cells #[.int .i32 x] t)) (W.alloc (.cells #[.int .i32 x] t)).heap.size (some ⟨W.heap.size, 0, none⟩) [x] := by
  refine ⟨fun k z hz => ?_, by simp, Lib.hid fun z hz => by simp at hz; subst hz; exact hx⟩
  match k, hz with
  | 0, hz => simp at hz; subst hz; exact ⟨W.heap.size, 0, rfl, by simp, by go_cell⟩
theorem rdS_lit (W : World) (a b c : Int) : RdS (W.alloc (.cells #[.int .u64 a, .int .u64 b, .int .i64 c] 62)) (W.alloc (.cells #[.int .u64 a, .int .u64 b, .int .i64 c] 62)).heap.size (some ⟨W.heap.size, 0, none⟩) [((a, b), c)] := by
  intro k z hz
  match k, hz with
  | 0, hz => simp at hz; subst hz; exact ⟨W.heap.size, 0, rfl, by simp, by go_cell, by go_cell, by go_cell⟩

section
variable {rs : List HSp} {P : Nat → Prop} {X W : World} {bp bm bq bl : Nat} {Q : Option Addr} {q : List Int} {cq : Nat} {mask : Int} {m nK : Nat} {K : List Int} {L O : List SpotT}
/-- An item whose vector was just written down is offered. -/
theorem offer_lit (h : PrbW rs P X W bp bm bq bl Q q cq mask m nK K L O) (s id x tg d : Int) (hx : -2147483648 ≤ x ∧ x ≤ 2147483647) (hs : -9223372036854775808 ≤ s ∧ s ≤ 9223372036854775807) (hK : K.contains s = false) (hn : nK < 100000) (hL : L.length < 100000) (hO : O.length < 100000) (hd : (satN (distN q [x] (max q.length 1)) : Int) = d) (O' : List SpotT) (hO' : (if bits .and .u64 tg mask = mask then O ++ [((d, id), s)] else O) = O') :
    Calls Try.prog 28 #[.pointer (some ⟨bp, 0, none⟩), .int .i64 s, .agg #[.int .u64 id, .slice (some ⟨W.heap.size, 0, none⟩) 1 1, .int .u64 tg]] (W.alloc (.cells #[.int .i32 x] 21)) fun e W' => e = .returned (.bool true) ∧ PrbW rs P X W' bp bm bq bl Q q cq mask m (nK + 1) (K ++ [s]) (L ++ [((d, id), s)]) O' ∧ Stay P W W' := by
  have hb := below_new3 W (.cells #[.int .i32 x] 21)
  have h1 := h.adds hb
  have hv := h.vec
  have hst := h.stay hb
  have hc := pOffer_new h1 s hs ⟨id, some ⟨W.heap.size, 0, none⟩, [x], 1, tg⟩ ⟨vec_lit W x hx _, fun b o mm e _ => by injection e with e; injection e with e; subst e; exact .inr ⟨Nat.le_refl _, by simp⟩⟩ hK hn hL hO
  rw [show distI q ⟨id, some ⟨W.heap.size, 0, none⟩, [x], 1, tg⟩ = d from hd] at hc
  simp only at hc
  rw [hO'] at hc
  refine hc.mono ?_
  rintro e W' ⟨he, h2, hs2⟩
  have hs3 := hst.trans (hs2.less (fun _ hk => .inl hk))
  exact ⟨he, h2.less (fun _ hk => .inl hk) (hv.stay hs3), hs3⟩
/-- An item with no vector is offered. -/
theorem offer_zero (h : PrbW rs P X W bp bm bq bl Q q cq mask m nK K L O) (s id tg d : Int) (hs : -9223372036854775808 ≤ s ∧ s ≤ 9223372036854775807) (hK : K.contains s = false) (hn : nK < 100000) (hL : L.length < 100000) (hO : O.length < 100000) (hd : (satN (distN q [] (max q.length 0)) : Int) = d) (O' : List SpotT) (hO' : (if bits .and .u64 tg mask = mask then O ++ [((d, id), s)] else O) = O') :
    Calls Try.prog 28 #[.pointer (some ⟨bp, 0, none⟩), .int .i64 s, .agg #[.int .u64 id, .slice none 0 0, .int .u64 tg]] W fun e W' => e = .returned (.bool true) ∧ PrbW rs P X W' bp bm bq bl Q q cq mask m (nK + 1) (K ++ [s]) (L ++ [((d, id), s)]) O' ∧ Stay P W W' := by
  have hc := pOffer_new h s hs ⟨id, none, [], 0, tg⟩ VecIn.nil hK hn hL hO
  rw [show distI q ⟨id, none, [], 0, tg⟩ = d from hd] at hc
  simp only at hc
  rw [hO'] at hc
  exact hc
theorem not_map (h : PrbW rs P X W bp bm bq bl Q q cq mask m nK K L O) {b i : Nat} {v : Value} (hc : W.cell? ⟨b, i, none⟩ = some v) : b ≠ bm := fun e => by
  subst e
  obtain ⟨es, clk, e1, _⟩ := h.own
  simp [World.cell?, e1] at hc
end

def sA : SpotT := ((9, 9), 4)
def sB : SpotT := ((1, 8), 5)
def sC : SpotT := ((0, 7), 6)
def sN : SpotT := ((0, 0), 1)
theorem sort3 : sortS [sA, sB, sC] = [sC, sB, sA] := sortS_eq (by decide) (by decide)
theorem sort2 : sortS [sB, sA] = [sB, sA] := sortS_eq (by decide) (by decide)
theorem sort1 : sortS [sA] = [sA] := sortS_eq (by decide) (by decide)
theorem sortO : sortS [sA, sB] = [sB, sA] := sortS_eq (by decide) (by decide)
theorem sortN : sortS [sN] = [sN] := sortS_eq (by decide) (by decide)
theorem keepO : keepS 1 [sA, sB] = [sB] := by unfold keepS; rw [sortO]; rfl
theorem keepN : keepS 0 [sN] = [] := by unfold keepS; rw [sortN]; rfl
theorem lastO : lastS 1 [sA, sB] = sB := by unfold lastS; rw [keepO]; rfl
theorem hope3 : hopeB 1 [sA, sB, sC] [sA, sB] = true := by unfold hopeB; rw [lastO, keepO, sort3]; decide
theorem hope2 : hopeB 1 [sB, sA] [sA, sB] = true := by unfold hopeB; rw [lastO, keepO, sort2]; decide
theorem hope1 : hopeB 1 [sA] [sA, sB] = false := by unfold hopeB; rw [lastO, keepO, sort1]; decide
theorem hopeN : hopeB 0 [sN] [sN] = false := by unfold hopeB; rw [keepN]; decide
theorem want3 : wantL 1 [sA, sB, sC] [sA, sB] = [sB, sA] := by unfold wantL; rw [hope3, sort3]; rfl
theorem want2 : wantL 1 [sB, sA] [sA, sB] = [sA] := by unfold wantL; rw [hope2, sort2]; rfl
theorem num3 : wantN 1 [sA, sB, sC] [sA, sB] = 6 := by unfold wantN; rw [hope3, sort3]; rfl
theorem num2 : wantN 1 [sB, sA] [sA, sB] = 5 := by unfold wantN; rw [hope2, sort2]; rfl
theorem num1 : wantN 1 [sA] [sA, sB] = 0 := by unfold wantN; rw [hope1]; rfl
theorem numN : wantN 0 [sN] [sN] = 0 := by unfold wantN; rw [hopeN]; rfl
theorem best1 : bestN 1 = 1 := by decide
theorem best0 : bestN 0 = 0 := by decide


set_option maxRecDepth 100000 in
set_option maxHeartbeats 8000000 in
theorem prb_lives_any (w : World) : Calls Try.prog 23 #[] w fun e w' => e = .returned (.bool true) ∧ Below w.heap.size w w' := by
  have hb0 := below_new3 w (.cells #[.int .i32 0] 21)
  have HB0 := Lib.hid hb0
  have hn := pNew_any (Fam.nil (P := fun k => k < (w.alloc (.cells #[.int .i32 0] 21)).heap.size) (w.alloc (.cells #[.int .i32 0] 21)) (fun _ h => h)) (some ⟨w.heap.size, 0, none⟩) [0] 1 1 1 (vec_lit w 0 (by decide) _) (by decide)
  rw [best1] at hn
  have HN := Lib.hid hn
  clear hn hb0
  go_enter Try.func23, Try.ntmps23
  go_wp2_with fail
  generalize hX0 : w.alloc (.cells #[.int .i32 0] 21) = X at *
  clear hX0
  refine HN.out.mono ?_
  rintro e W2 ⟨V, bp, bm, bq, bl, Q, cq, rfl, -, hbW, h1⟩
  have HX2 := Lib.hid (HB0.out.trans (hbW.mono HB0.out.size))
  generalize (fun k => k < X.heap.size ∨ (X.heap.size ≤ k ∧ k < V.heap.size)) = P1 at *
  have hn2 := pNew_any h1.fam none [] 0 0 0 VecB.nil (by decide)
  rw [best0] at hn2
  have HN2 := Lib.hid hn2
  have H1 := Lib.hid h1
  clear hn2 h1 HN hbW
  go_wp2_with fail
  refine HN2.out.mono ?_
  rintro e W3 ⟨V2, bp2, bm2, bq2, bl2, Q2, cq2, rfl, -, hbW, h2⟩
  generalize hP2 : (fun k => (P1 k ∨ k = bm ∨ k = bp) ∨ (W2.heap.size ≤ k ∧ k < V2.heap.size)) = P2 at *
  have hpP : ∀ k, (P1 k ∨ k = bm ∨ k = bp) → P2 k := by rw [← hP2]; exact fun _ hk => .inl hk
  have hm2 : bm ≠ bm2 := fun e => h2.pm (hpP bm2 (.inr (.inl e.symm)))
  clear hP2
  have hlt1 := H1.out.own.lt
  have hbm3 : W3.heap[bm]? = W2.heap[bm]? := hbW.block bm hlt1
  have hp2 : bp2 ≠ bm := fun e => by
    have hc := h2.c0
    rw [e] at hc
    obtain ⟨es, clk, e1, _⟩ := H1.out.own
    simp [World.cell?, hbm3, e1] at hc
  have hvec := ((H1.out.vec.below hbW).less (P' := fun k => P1 k ∨ k = bm2 ∨ k = bp2) (fun _ hk => .inl hk))
  have h3 := H1.out.again (R := fun k => P2 k ∨ k = bm2 ∨ k = bp2) (ss := [⟨bq2, none, []⟩, ⟨bl2, some 0, []⟩]) (rs' := []) (P' := fun k => P1 k ∨ k = bm2 ∨ k = bp2) h2.fam (fun k hk => hbW.block k (hk.elim (fun e => e ▸ H1.out.lp) (fun e => e ▸ hlt1))) (by
      rintro k ((hk | hk | hk) | hk)
      · exact .inl (hpP k (.inl hk))
      · exact .inr (.inl hk)
      · exact .inr (.inr hk)
      · exact .inl (hpP k (.inr hk))) hvec (by
      rintro k (hk | rfl | rfl)
      · exact Nat.lt_of_lt_of_le (H1.out.pl k hk) hbW.size
      · exact h2.own.lt
      · exact h2.lp) hbW.size (by
      rintro (hk | hk | hk)
      · exact H1.out.pm hk
      · exact hm2 hk
      · exact hp2 hk.symm)
  have HPP := Lib.hid hpP
  have HM2 := Lib.hid (And.intro hm2 hp2)
  have H2 := Lib.hid h2
  have HX3 := Lib.hid (HX2.out.trans (hbW.mono HX2.out.size))
  have HQ3 : Hid (VecIn P1 W3 Q [0]) := H1.out.vec.below hbW
  clear hbW h2 hpP hm2 hlt1 hbm3 hp2 hvec HN2
  have HO1 := Lib.hid (offer_lit h3 4 9 3 1 9 (by decide) (by decide) (by decide) (by decide) (by decide) (by decide) (by decide) [sA] (by decide))
  have HB3 := Lib.hid h3.below
  clear h3
  go_wp2_with fail
  refine HO1.out.mono ?_
  rintro e W4 ⟨rfl, h4, hs4⟩
  have HS4 := Lib.hid hs4
  have HO2 := Lib.hid (offer_lit h4 5 8 1 3 1 (by decide) (by decide) (by decide) (by decide) (by decide) (by decide) (by decide) [sA, sB] (by decide))
  clear h4 hs4 HO1
  go_wp2_with fail
  refine HO2.out.mono ?_
  rintro e W5 ⟨rfl, h5, hs5⟩
  have HS5 := Lib.hid (HS4.out.trans hs5)
  have HO3 := Lib.hid (pOffer_old h5 4 (by decide) ⟨0, none, [], 0, 0⟩ (by decide))
  have H5 := Lib.hid h5
  clear h5 hs5 HO2 HS4
  go_wp2_with fail
  refine HO3.out.mono ?_
  rintro e W6 ⟨rfl, hb6⟩
  have h6 := H5.out.later hb6
  have HS6 := Lib.hid (HS5.out.trans (H5.out.stay hb6))
  have HO4 := Lib.hid (offer_zero h6 6 7 0 0 (by decide) (by decide) (by decide) (by decide) (by decide) (by decide) [sA, sB] (by decide))
  clear h6 hb6 HO3 H5 HS5
  go_wp2_with fail
  refine HO4.out.mono ?_
  rintro e W7 ⟨rfl, h7, hs7⟩
  have HS7 := Lib.hid (HS6.out.trans hs7)
  have HW7 := Lib.hid (pWaits_any h7)
  have H7 := Lib.hid h7
  clear h7 hs7 HO4 HS6
  go_wp2_with fail
  refine HW7.out.mono ?_
  rintro e W7' ⟨rfl, rfl⟩
  have HT1 := Lib.hid (pWant_any H7.out (by decide) 6 true hope3 num3)
  clear HW7 H7
  go_wp2_with fail
  refine HT1.out.mono ?_
  rintro e W8 ⟨rfl, h8, hs8⟩
  have HS8 := Lib.hid (HS7.out.trans hs8)
  rw [show wantL 1 (([] ++ [((9, 9), 4)] ++ [((1, 8), 5)]) ++ [((0, 7), 6)]) [sA, sB] = [sB, sA] from want3] at h8
  have HT2 := Lib.hid (pWant_any h8 (by decide) 5 true hope2 num2)
  clear h8 hs8 HT1 HS7
  go_wp2_with fail
  refine HT2.out.mono ?_
  rintro e W9 ⟨rfl, h9, hs9⟩
  have HS9 := Lib.hid (HS8.out.trans hs9)
  rw [want2] at h9
  have HT3 := Lib.hid (pWant_any h9 (by decide) 0 false hope1 num1)
  clear h9 hs9 HT2 HS8
  go_wp2_with fail
  refine HT3.out.mono ?_
  rintro e WA ⟨rfl, hA, hsA⟩
  have HSA := Lib.hid (HS9.out.trans hsA)
  rw [show wantL 1 [sA] [sA, sB] = [sA] from by unfold wantL; rw [hope1]; rfl] at hA
  have HA := Lib.hid hA
  clear hA hsA HT3 HS9
  have h2 := H2.out.again (R := fun k => (P1 k ∨ k = bm2 ∨ k = bp2) ∨ k = bm ∨ k = bp) (ss := [⟨bq, none, [sA]⟩, ⟨bl, some 1, [sA, sB]⟩]) (rs' := []) (P' := fun k => P1 k ∨ k = bm ∨ k = bp) HA.out.fam (fun k hk => HSA.out.blk k (hk.elim (fun e => .inr (.inr e)) (fun e => .inr (.inl e)))) (by
      rintro k ((hk | hk) | hk)
      · exact .inl (.inl hk)
      · exact .inr hk
      · exact .inl (.inr hk)) VecIn.nil (by
      rintro k (hk | rfl | rfl)
      · exact HA.out.pl k (.inl hk)
      · exact HA.out.own.lt
      · exact HA.out.lp) HSA.out.size (fun hk => H2.out.pm (HPP.out _ hk))
  have HOZ := Lib.hid (offer_zero h2 1 0 0 0 (by decide) (by decide) (by decide) (by decide) (by decide) (by decide) [sN] (by decide))
  clear h2
  go_wp2_with fail
  refine HOZ.out.mono ?_
  rintro e WB ⟨rfl, hB, hsB⟩
  have HSB := Lib.hid hsB
  have HTZ := Lib.hid (pWant_any hB (by decide) 0 false hopeN numN)
  clear hB hsB HOZ
  go_wp2_with fail
  refine HTZ.out.mono ?_
  rintro e WC ⟨rfl, hC, hsC⟩
  rw [show wantL 0 ([] ++ [((0, 0), 1)]) [sN] = [sN] from by show wantL 0 [sN] [sN] = [sN]; unfold wantL; rw [hopeN]; rfl] at hC
  have hsC2 := HSB.out.trans hsC
  have h1 := HA.out.again (R := fun k => (P1 k ∨ k = bm ∨ k = bp) ∨ k = bm2 ∨ k = bp2) (ss := [⟨bq2, none, [sN]⟩, ⟨bl2, some 0, [sN]⟩]) (rs' := []) (P' := fun k => P1 k ∨ k = bm2 ∨ k = bp2) hC.fam (fun k hk => hsC2.blk k (hk.elim (fun e => .inr (.inr e)) (fun e => .inr (.inl e)))) (by
      rintro k ((hk | hk) | hk)
      · exact .inl (.inl hk)
      · exact .inr hk
      · exact .inl (.inr hk)) ⟨by
        have hv := HA.out.vec.less (P' := fun k => P1 k ∨ k = bm2 ∨ k = bp2) (fun _ hk => hk)
        have hv3 := (HQ3.out.stay (HSA.out.less (fun _ hk => .inl hk))).stay (hsC2.less (fun _ hk => .inl hk))
        exact hv3.v, fun b o mm e hn => .inl (HQ3.out.p b o mm e hn)⟩ (by
      rintro k (hk | rfl | rfl)
      · exact hC.pl k (.inl hk)
      · exact hC.own.lt
      · exact hC.lp) hsC2.size HA.out.pm
  have HC1 := Lib.hid h1
  have HBC := Lib.hid hC.below
  clear h1 hC hsC hsC2 HTZ HSB HA HSA
  go_wp2_with fail
  refine (pWant_nil WC).mono ?_
  rintro e WC' ⟨rfl, rfl⟩
  have HK1 := Lib.hid (pKnows_val HC1.out 4 (by decide) true (by decide))
  go_wp2_with fail
  refine HK1.out.mono ?_
  rintro e WD ⟨rfl, hbD⟩
  have HD := Lib.hid (HC1.out.later hbD)
  have HK2 := Lib.hid (pKnows_val HD.out 7 (by decide) false (by decide))
  clear hbD HK1 HC1
  go_wp2_with fail
  refine HK2.out.mono ?_
  rintro e WE ⟨rfl, hbE⟩
  have HE := Lib.hid (HD.out.later hbE)
  have HF := Lib.hid (pFound_any HE.out (by decide))
  clear hbE HK2 HD
  go_wp2_with fail
  refine HF.out.mono ?_
  rintro e WF ⟨AF, cF, rfl, hrF, -, -, hbF⟩
  rw [keepO] at hrF ⊢
  have hbG := below_new3 WF (.cells #[.int .u64 1, .int .u64 8, .int .i64 5] 62)
  have HSM := Lib.hid (SameS_refl AF (some ⟨WF.heap.size, 0, none⟩) [sB] cF 1 _ ((hrF.below hbG).more hbG.size) (rdS_lit WF 1 8 5) (by decide))
  have HBG := Lib.hid (((HB0.out.trans (HE.out.below.mono HB0.out.size)).trans (hbF.mono (Nat.le_trans HB0.out.size HE.out.below.size))).trans (hbG.mono (Nat.le_trans (Nat.le_trans HB0.out.size HE.out.below.size) hbF.size)))
  clear hrF hbF hbG HE HF
  go_wp2_with fail
  refine HSM.out.mono ?_
  rintro e WH ⟨rfl, hd⟩
  have HBH := Lib.hid (HBG.out.trans ((hd.below _).mono (Nat.le_trans HBG.out.size (Nat.le_refl _))))
  clear hd HSM HBG
  go_wp2_with fail
  refine (pOffer_nil 1 ⟨0, none, [], 0, 0⟩ WH).mono ?_
  rintro e WI ⟨rfl, hbI⟩
  have HBI := Lib.hid (HBH.out.trans (hbI.mono HBH.out.size))
  clear hbI HBH
  go_wp2_with fail
  refine (pFound_nil WI).mono ?_
  rintro e WI' ⟨rfl, rfl⟩
  go_wp2_with fail
  refine (pWaits_nil WI).mono ?_
  rintro e WI' ⟨rfl, rfl⟩
  go_wp2_with fail
  refine (pKnows_nil 1 WI).mono ?_
  rintro e WI' ⟨rfl, rfl⟩
  go_wp2
  go_ret
  exact ⟨rfl, HBI.out⟩

end Go.Proofs.Ytajmnhnepoomjaa
