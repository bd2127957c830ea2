/- probe.Offer, by contract. -/
import Derived.Test.YtajmnhnepoomjaaPrb
import Derived.StillTailTactics
import Derived.Deep.DeepCutAuto
import Derived.Deep.CutBlock
namespace Go.Proofs.Ytajmnhnepoomjaa
open Go.RowKit Go.Shelf Go.Sort Go.Lib Go.Maps

theorem Stay.cell {P : Nat → Prop} {W W' : World} (h : Stay P W W') {a : Addr} (ha : P a.block) : W'.cell? a = W.cell? a := World.cell?_of_block (h.blk a.block ha)
theorem SpC.stay {P : Nat → Prop} {W W' : World} {k : Nat} {s : SpotT} (h : SpC W k s) (hs : Stay P W W') (hk : P k) : SpC W' k s := h.same (hs.blk k hk)

set_option maxRecDepth 100000 in
set_option maxHeartbeats 1000000 in
theorem pOffer_old {rs : List HSp} {P : Nat → Prop} {X W : World} {bp bm bq bl : Nat} {Q : Option Addr} {q : List Int} {cq : Nat} {mask : Int} {m nK : Nat} {K : List Int} {L O : List SpotT} (h : PrbW rs P X W bp bm bq bl Q q cq mask m nK K L O) (s : Int) (hs : -9223372036854775808 ≤ s ∧ s ≤ 9223372036854775807) (z : ItT) (hK : K.contains s = true) :
    Calls Try.prog 28 #[.pointer (some ⟨bp, 0, none⟩), .int .i64 s, itV z] W fun e W' => e = .returned (.bool false) ∧ Below W.heap.size W W' := by
  obtain ⟨id, ZA, zv, zc, tg⟩ := z
  unfold itV
  have hbA := below_new3 W (.cells #[.int .u64 id, .slice ZA zv.length zc, .int .u64 tg] 36)
  have hc := pKnows_any (h.later hbA) s hs
  rw [hK] at hc
  have HC := Lib.hid hc
  have HBA := Lib.hid hbA
  clear h hs hK hc hbA
  go_enter Try.func28, Try.ntmps28
  go_wp2_with fail
  refine HC.out.mono ?_
  rintro e W1 ⟨rfl, hb1⟩
  have HB1 := Lib.hid (HBA.out.trans (hb1.mono HBA.out.size))
  clear hb1
  go_wp2
  go_ret
  exact ⟨rfl, HB1.out⟩

/-- What the spot's region keeps. -/
theorem offer_all {X W : World} {bp D : Nat} {id : Int} {Q ZA : Option Addr} {n c zn zc : Nat} (hp : bp < X.heap.size) (hlt : D < X.heap.size) (hq : X.cell? ⟨bp, 0, none⟩ = some (.slice Q n c)) (h0 : X.cell? ⟨D, 0, none⟩ = some (.int .u64 id)) (h1 : X.cell? ⟨D, 1, none⟩ = some (.slice ZA zn zc)) (hb : Below X.heap.size X W) :
    Below X.heap.size X W ∧ W.cell? ⟨bp, 0, none⟩ = some (.slice Q n c) ∧ W.cell? ⟨D, 0, none⟩ = some (.int .u64 id) ∧ W.cell? ⟨D, 1, none⟩ = some (.slice ZA zn zc) :=
  ⟨hb, (hb.cell (p := ⟨bp, 0, none⟩) hp).trans hq, (hb.cell (p := ⟨D, 0, none⟩) hlt).trans h0, (hb.cell (p := ⟨D, 1, none⟩) hlt).trans h1⟩
theorem below_al {X W : World} (h : Below X.heap.size X W) (o : Obj) : Below X.heap.size X (W.alloc o) := h.alloc h.size o
theorem offer_new1 {X W : World} (h : Below ((X.alloc (.cells #[.int .u64 0, .int .u64 0, .int .i64 0] 62)).drew).heap.size (X.alloc (.cells #[.int .u64 0, .int .u64 0, .int .i64 0] 62)).drew W) :
    W.cell? ⟨X.heap.size, 0, none⟩ = some (.int .u64 0) ∧ W.cell? ⟨X.heap.size, 1, none⟩ = some (.int .u64 0) ∧ W.cell? ⟨X.heap.size, 2, none⟩ = some (.int .i64 0) ∧ W.frozen? ⟨X.heap.size, 0, none⟩ = false ∧ W.frozen? ⟨X.heap.size, 1, none⟩ = false ∧ W.frozen? ⟨X.heap.size, 2, none⟩ = false := by
  have hlt : X.heap.size < ((X.alloc (.cells #[.int .u64 0, .int .u64 0, .int .i64 0] 62)).drew).heap.size := by simp
  exact ⟨(h.cell (p := ⟨X.heap.size, 0, none⟩) hlt).trans (by go_cell), (h.cell (p := ⟨X.heap.size, 1, none⟩) hlt).trans (by go_cell), (h.cell (p := ⟨X.heap.size, 2, none⟩) hlt).trans (by go_cell), (h.frozen (p := ⟨X.heap.size, 0, none⟩) hlt).trans (by go_simp), (h.frozen (p := ⟨X.heap.size, 1, none⟩) hlt).trans (by go_simp), (h.frozen (p := ⟨X.heap.size, 2, none⟩) hlt).trans (by go_simp)⟩
theorem offer_new2 {X W : World} (h : Below (X.drew.alloc (.cells #[.int .u64 0, .int .u64 0, .int .i64 0] 62)).heap.size (X.drew.alloc (.cells #[.int .u64 0, .int .u64 0, .int .i64 0] 62)) W) :
    W.cell? ⟨X.heap.size, 0, none⟩ = some (.int .u64 0) ∧ W.cell? ⟨X.heap.size, 1, none⟩ = some (.int .u64 0) ∧ W.cell? ⟨X.heap.size, 2, none⟩ = some (.int .i64 0) ∧ W.frozen? ⟨X.heap.size, 0, none⟩ = false ∧ W.frozen? ⟨X.heap.size, 1, none⟩ = false ∧ W.frozen? ⟨X.heap.size, 2, none⟩ = false := offer_new1 h
theorem below_dr {X W : World} {B : Nat} (h : Below B X W) : Below B X W.drew := h.trans (below_draws _ 1 _)

set_option maxRecDepth 100000 in
set_option maxHeartbeats 4000000 in
theorem pOffer_new {rs : List HSp} {P : Nat → Prop} {X W : World} {bp bm bq bl : Nat} {Q : Option Addr} {q : List Int} {cq : Nat} {mask : Int} {m nK : Nat} {K : List Int} {L O : List SpotT} (h : PrbW rs P X W bp bm bq bl Q q cq mask m nK K L O) (s : Int) (hs : -9223372036854775808 ≤ s ∧ s ≤ 9223372036854775807) (z : ItT) (hz : VecIn P W z.A z.vec) (hK : K.contains s = false) (hn : nK < 100000) (hL : L.length < 100000) (hO : O.length < 100000) :
    Calls Try.prog 28 #[.pointer (some ⟨bp, 0, none⟩), .int .i64 s, itV z] W fun e W' => e = .returned (.bool true) ∧ PrbW rs P X W' bp bm bq bl Q q cq mask m (nK + 1) (K ++ [s]) (L ++ [((distI q z, z.id), s)]) (if bits .and .u64 z.tags mask = mask then O ++ [((distI q z, z.id), s)] else O) ∧ Stay P W W' := by
  have mixed : Try.prog.follows .mixedOrders = true := by kernel_rfl
  obtain ⟨id, ZA, zv, zc, tg⟩ := z
  simp only at hz ⊢
  unfold itV
  have HDI : Hid (distI q ⟨id, ZA, zv, zc, tg⟩ = satN (distN q zv (max q.length zv.length))) := rfl
  generalize distI q ⟨id, ZA, zv, zc, tg⟩ = dd at *
  obtain ⟨O', hO'⟩ : ∃ O', (if bits .and .u64 tg mask = mask then O ++ [((dd, id), s)] else O) = O' := ⟨_, rfl⟩
  rw [hO']
  have HOO := Lib.hid hO'
  clear hO'
  have hbA := below_new3 W (.cells #[.int .u64 id, .slice ZA zv.length zc, .int .u64 tg] 36)
  have h1 := h.adds hbA
  have hz1 := (hz.below hbA).less (P' := fun k => P k ∨ (W.heap.size ≤ k ∧ k < (W.alloc (.cells #[.int .u64 id, .slice ZA zv.length zc, .int .u64 tg] 36)).heap.size)) (fun _ hk => .inl hk)
  have hst1 := h.stay hbA
  have hD : P W.heap.size ∨ (W.heap.size ≤ W.heap.size ∧ W.heap.size < (W.alloc (.cells #[.int .u64 id, .slice ZA zv.length zc, .int .u64 tg] 36)).heap.size) := .inr ⟨Nat.le_refl _, by simp⟩
  have d0 : (W.alloc (.cells #[.int .u64 id, .slice ZA zv.length zc, .int .u64 tg] 36)).cell? ⟨W.heap.size, 0, none⟩ = some (.int .u64 id) := by go_cell
  have d1 : (W.alloc (.cells #[.int .u64 id, .slice ZA zv.length zc, .int .u64 tg] 36)).cell? ⟨W.heap.size, 1, none⟩ = some (.slice ZA zv.length zc) := by go_cell
  have d2 : (W.alloc (.cells #[.int .u64 id, .slice ZA zv.length zc, .int .u64 tg] 36)).cell? ⟨W.heap.size, 2, none⟩ = some (.int .u64 tg) := by go_cell
  have hc := pKnows_any h1 s hs
  rw [hK] at hc
  have HC := Lib.hid hc
  have HVP := Lib.hid h.vec
  have HNN := Lib.hid (And.intro hn (And.intro hL hO))
  have HST1 := Lib.hid hst1
  have hkey : keyOf Try.prog 3 (.int .i64 s) = some (.int .i64 s) := keyOf_int_mk Try.underlying3 (wfI hs)
  clear h hs hK hc hbA hz hst1 hn hL hO
  go_enter Try.func28, Try.ntmps28
  go_wp2_with fail
  generalize hPP : (fun k => P k ∨ (W.heap.size ≤ k ∧ k < (W.alloc (.cells #[.int .u64 id, .slice ZA zv.length zc, .int .u64 tg] 36)).heap.size)) = P1 at *
  have HP1 : Hid (∀ k, P k → P1 k) := by rw [← hPP]; exact fun _ hk => .inl hk
  have HD : Hid (P1 W.heap.size) := by rw [← hPP]; exact hD
  clear hPP hD
  generalize W.alloc (.cells #[.int .u64 id, .slice ZA zv.length zc, .int .u64 tg] 36) = X1 at *
  generalize hDD : W.heap.size = D at *
  clear hDD
  refine HC.out.mono ?_
  rintro e X2 ⟨rfl, hb2⟩
  have h2 := h1.later hb2
  have hs2 := h1.stay hb2
  have hz2 := hz1.below hb2
  have e0 := (hs2.cell (a := ⟨D, 0, none⟩) HD.out).trans d0
  have e1 := (hs2.cell (a := ⟨D, 1, none⟩) HD.out).trans d1
  have e2 := (hs2.cell (a := ⟨D, 2, none⟩) HD.out).trans d2
  have HST2 := Lib.hid (HST1.out.trans (hs2.less HP1.out))
  have hown := h2.own
  have c2 := h2.c2
  have H2 := Lib.hid h2
  have HZ2 := Lib.hid hz2
  have hnn := HNN.out.1
  clear h1 h2 hs2 hb2 hz1 hz2 d0 d1 d2 HC HST1
  go_upto_region 4 with (at_mapUpdate; refine wpList_mapUpdate_own _ rfl _ _ _ 110 rfl 3 123 lawI Try.underlying110 (unitElem (H := Unit)) bm nK _ rfl hown (by unfold maxLen; omega) _ _ _ rfl rfl hkey _ [] unitElem_mk ?_; intro X3 hown1 hgrow1)
  go_frame
  obtain ⟨h3, hs3⟩ := H2.out.stored hgrow1 hown1
  have x0 := (hs3.cell (a := ⟨D, 0, none⟩) HD.out).trans e0
  have x1 := (hs3.cell (a := ⟨D, 1, none⟩) HD.out).trans e1
  have x2 := (hs3.cell (a := ⟨D, 2, none⟩) HD.out).trans e2
  have HZ3 := Lib.hid (HZ2.out.stay hs3)
  have HST3 := Lib.hid (HST2.out.trans (hs3.less HP1.out))
  have HX2 := Lib.hid x2
  have hD3 : D < X3.heap.size := h3.pl D HD.out
  have hall := fun W (hb : Below X3.heap.size X3 W) => offer_all (W := W) h3.lp hD3 h3.c0 x0 x1 hb
  have HALL := Lib.hid hall
  have HDT : Hid (∀ W, Below X3.heap.size X3 W → Calls Try.prog 21 #[.slice Q q.length cq, .slice ZA zv.length zc] W fun e w' => e = .returned (.int .u64 dd) ∧ Below X3.heap.size X3 w' ∧ Below W.heap.size W w') := Lib.hid fun W hb => (VecB.dist (h3.vec.v.below hb) (HZ3.out.v.below hb) hb.size cq zc).mono fun _ _ ⟨he, h2⟩ => ⟨by rw [he, HDI.out], hb.trans (h2.mono hb.size), h2⟩
  have H3 := Lib.hid h3
  have hX0 := Below.refl X3.heap.size X3
  clear h3 hs3 x0 x1 x2 hD3 hall hown1 hgrow1 hown c2 H2 HZ2 hnn hkey e0 e1 e2 HDI
  go_cut [7] (fun p wx => ∃ E, p = .pointer (some ⟨E, 0, none⟩) ∧ X3.heap.size ≤ E ∧ E < wx.heap.size ∧ SpC wx E ((dd, id), s) ∧ Below X3.heap.size X3 wx)
  case first =>
    go_region_held3 (fun W => Below X3.heap.size X3 W ∧ W.cell? ⟨bp, 0, none⟩ = some (.slice Q q.length cq) ∧ W.cell? ⟨D, 0, none⟩ = some (.int .u64 id) ∧ W.cell? ⟨D, 1, none⟩ = some (.slice ZA zv.length zc))
      (with_reducible first | assumption | exact HALL.out _ (Below.set3 (by assumption) (Nat.le_refl _) _ _ _) | exact HALL.out _ (Below.set3 (And.left (by assumption)) (Nat.le_refl _) _ _ _) | exact HALL.out _ (by assumption) | exact HALL.out _ (below_dr (by assumption)) | exact HALL.out _ (And.left (by assumption)) | exact HALL.out _ (below_dr (And.left (by assumption))) | exact HALL.out _ (below_al (by assumption) _) | exact HALL.out _ (below_al (And.left (by assumption)) _) | exact HALL.out _ (below_al (below_dr (by assumption)) _) | exact HALL.out _ (below_al (below_dr (And.left (by assumption))) _))
      (first
        | (go_at_call 21; (with_reducible refine Calls.mono (HDT.out _ (And.left (by assumption))) ?_); rintro e W1 ⟨rfl, hb1, hb2⟩; (with_reducible first | have hq := @offer_new1 X3 W1 hb2 | have hq := @offer_new2 X3 W1 hb2 | have hq := trivial); clear hb2; try obtain ⟨q0, q1, q2, r0, r1, r2⟩ := hq))
    all_goals
      go_wp2
      go_meet
      first
        | exact ⟨_, rfl, hb1.size, by simp, SpC.new _ _ _ _, below_al hb1 _⟩
        | exact ⟨_, rfl, Nat.le_refl _, by have := World.block_lt_of_cell? _ _ q0; simpa using this, set3_cells q0 q1 q2 _ _ _, Below.set3 hb1 (Nat.le_refl _) _ _ _⟩
  case rest =>
    obtain ⟨E, rfl, hE1, hE2, hsp, hbc⟩ := hcut
    have h4 := H3.out.adds hbc
    have hs4 := H3.out.stay hbc
    have HS4 := Lib.hid (HST3.out.trans (hs4.less HP1.out))
    have hy2 := (hs4.cell (a := ⟨D, 2, none⟩) HD.out).trans HX2.out
    have hE : P1 E ∨ (X3.heap.size ≤ E ∧ E < wc.heap.size) := .inr ⟨hE1, hE2⟩
    have hsub : ∀ k, P1 k → P1 k ∨ (X3.heap.size ≤ k ∧ k < wc.heap.size) := fun _ hk => .inl hk
    generalize hP2 : (fun k => P1 k ∨ (X3.heap.size ≤ k ∧ k < wc.heap.size)) = P2 at *
    have HE : Hid (P2 E) := by rw [← hP2]; exact hE
    have HP2 : Hid (∀ k, P1 k → P2 k) := by rw [← hP2]; exact hsub
    have HY2 := Lib.hid hy2
    have H4 := Lib.hid h4
    have HSP := Lib.hid hsp
    have HPU : Hid (Calls Try.prog 81 #[.pointer (some ⟨bq, 0, none⟩), .agg #[.int .u64 dd, .int .u64 id, .int .i64 s]] wc.drew fun e W' => e = .returned (.tuple #[]) ∧ PrbW rs P2 X W' bp bm bq bl Q q cq mask m (nK + 1) (K ++ [s]) (L ++ [((dd, id), s)]) O ∧ Stay P2 wc W') := by
      have hd := below_draws wc 1 wc.heap.size
      refine ((H4.out.later hd).fam.push (i := 0) rfl ((dd, id), s) HNN.out.2.1).mono ?_
      rintro e W' ⟨he, hf, hst⟩
      obtain ⟨g1, g2⟩ := (H4.out.later hd).heaps (L' := L ++ [((dd, id), s)]) (O' := O) hf hst
      exact ⟨he, g1, (H4.out.stay hd).trans g2⟩
    have c3 := h4.c3
    obtain ⟨z0, z1, z2⟩ := hsp
    simp only at z0 z1 z2
    clear h4 hs4 hy2 hE hsub hP2 hbc hE1 hE2 HALL HDT H3 hX0 HST3 HZ3 HX2
    go_wp2_with fail
    go_still_tail 5, mixed
    go_wp2_with fail
    refine HPU.out.mono ?_
    rintro e W5 ⟨rfl, h5, hs5⟩
    have H5 := Lib.hid h5
    have HS5 := Lib.hid (HS4.out.trans (hs5.less (fun k hk => HP2.out k (HP1.out k hk))))
    have HSP5 := Lib.hid (HSP.out.stay hs5 HE.out)
    have y2 := (hs5.cell (a := ⟨D, 2, none⟩) (HP2.out _ HD.out)).trans HY2.out
    have c1 := h5.c1
    have HTG : Hid (∀ W, Calls Try.prog 82 #[.int .u64 tg, .int .u64 mask] W fun e w' => e = .returned (.bool (bits .and .u64 tg mask == mask)) ∧ w' = W) := Lib.hid fun W => (tagHas_any tg mask W).mono fun _ _ ⟨he, h⟩ => ⟨he, h.symm⟩
    clear h5 hs5 z0 z1 z2 c3 HPU HS4 H4 HSP
    by_cases ht : bits .and .u64 tg mask = mask
    · rw [show (bits .and .u64 tg mask == mask) = true by simpa using ht] at HTG
      have HIT : Hid (O' = O ++ [((dd, id), s)]) := HOO.out.symm.trans (if_pos ht)
      clear ht
      go_wp2_with fail
      go_big_quiet ((go_at_call 82; exact Calls.quiet_of_same (HTG.out _)))
      have hd := below_draws W5 nq W5.heap.size
      have h6 := H5.out.later hd
      have hs6 := H5.out.stay hd
      have hsp6 := HSP5.out.stay hs6 HE.out
      have HS6 := Lib.hid (HS5.out.trans (hs6.less (fun k hk => HP2.out k (HP1.out k hk))))
      generalize W5.drewN nq = W6 at *
      have HOF : Hid (Calls Try.prog 83 #[.pointer (some ⟨bl, 0, none⟩), .agg #[.int .u64 dd, .int .u64 id, .int .i64 s]] W6.drew fun e W' => e = .returned (.bool (offQ m O ((dd, id), s))) ∧ PrbW rs P2 X W' bp bm bq bl Q q cq mask m (nK + 1) (K ++ [s]) (L ++ [((dd, id), s)]) (O ++ [((dd, id), s)]) ∧ Stay P2 W6 W') := by
        have hd := below_draws W6 1 W6.heap.size
        refine ((h6.later hd).fam.offer (i := 1) rfl ((dd, id), s) HNN.out.2.2).mono ?_
        rintro e W' ⟨he, hf, hst⟩
        obtain ⟨g1, g2⟩ := (h6.later hd).heaps (L' := L ++ [((dd, id), s)]) (O' := O ++ [((dd, id), s)]) hf hst
        exact ⟨he, g1, (h6.stay hd).trans g2⟩
      have c4 := h6.c4
      obtain ⟨z0, z1, z2⟩ := hsp6
      simp only at z0 z1 z2
      clear h6 hs6 hd c1 y2 HTG
      go_wp2_with fail
      go_still_tail 5, mixed
      go_wp2_with fail
      refine HOF.out.mono ?_
      rintro e W7 ⟨rfl, h7, hs7⟩
      have HS7 := Lib.hid (HS6.out.trans (hs7.less (fun k hk => HP2.out k (HP1.out k hk))))
      have H7 := Lib.hid (h7.less (fun k hk => HP2.out k (HP1.out k hk)) (HVP.out.stay HS7.out))
      clear h7 hs7 z0 z1 z2 c4 HOF
      go_wp2
      go_ret
      exact ⟨rfl, by rw [HIT.out]; exact H7.out, HS7.out⟩
    · rw [show (bits .and .u64 tg mask == mask) = false by simpa using ht] at HTG
      have HIT : Hid (O' = O) := HOO.out.symm.trans (if_neg ht)
      clear ht
      go_wp2_with fail
      go_big_quiet ((go_at_call 82; exact Calls.quiet_of_same (HTG.out _)))
      have hd := below_draws W5 nq W5.heap.size
      have h6 := H5.out.later hd
      have hs6 := H5.out.stay hd
      have HS6 := Lib.hid (HS5.out.trans (hs6.less (fun k hk => HP2.out k (HP1.out k hk))))
      generalize W5.drewN nq = W6 at *
      have H7 := Lib.hid (h6.less (fun k hk => HP2.out k (HP1.out k hk)) (HVP.out.stay HS6.out))
      clear h6 hs6 hd c1 y2 HTG
      go_wp2
      go_ret
      exact ⟨rfl, by rw [HIT.out]; exact H7.out, HS6.out⟩

end Go.Proofs.Ytajmnhnepoomjaa
