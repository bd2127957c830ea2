/- The document's map of ids (ganglionref22), by contract: Drop. -/
import Derived.Test.YtoaikdnooafjmaaRefIm2
import Derived.BigRegion
import Derived.Deep.CutBlock
namespace Go.Proofs.Ytoaikdnooafjmaa
open Go.RowKit

theorem drop_fin {w W6 : World} {R Y : Nat} {u0 u1 u2 y0 y1 : Value} (gs gg : Int) (hR : Bx W6 R [u0, u1, u2]) (hY : Bx W6 Y [y0, y1]) (hRY : R ≠ Y) (hB : Below w.heap.size w W6) (h1 : w.heap.size ≤ R) (h2 : w.heap.size ≤ Y) (c0 c1 c2 : Value) : ∀ W, W = ((W6.setCell ⟨R, 0, none⟩ c0).setCell ⟨R, 1, none⟩ c1).setCell ⟨R, 2, none⟩ c2 →
    Bx ((W.setCell ⟨Y, 0, none⟩ (.int .i64 gs)).setCell ⟨Y, 1, none⟩ (.int .i64 gg)).drew R [c0, c1, c2] ∧ Bx ((W.setCell ⟨Y, 0, none⟩ (.int .i64 gs)).setCell ⟨Y, 1, none⟩ (.int .i64 gg)).drew Y [.int .i64 gs, .int .i64 gg] ∧ Below w.heap.size w ((W.setCell ⟨Y, 0, none⟩ (.int .i64 gs)).setCell ⟨Y, 1, none⟩ (.int .i64 gg)).drew ∧
    ∀ b, b ≠ R → b ≠ Y → ((W.setCell ⟨Y, 0, none⟩ (.int .i64 gs)).setCell ⟨Y, 1, none⟩ (.int .i64 gg)).drew.heap[b]? = W6.heap[b]? := by
  rintro W rfl
  have k1 := (((hR.put3 c0 c1 c2).other (a := ⟨Y, 0, none⟩) (fun e => hRY e.symm) (.int .i64 gs)).other (a := ⟨Y, 1, none⟩) (fun e => hRY e.symm) (.int .i64 gg)).drew
  have k2 := (((((hY.other (a := ⟨R, 0, none⟩) hRY c0).other (a := ⟨R, 1, none⟩) hRY c1).other (a := ⟨R, 2, none⟩) hRY c2).set 0 (.int .i64 gs)).set 1 (.int .i64 gg)).drew
  have k3 := (bl1 (b := Y) (k := 1) (bl1 (b := Y) (k := 0) (below_put3 hB h1 c0 c1 c2) h2 (.int .i64 gs)) h2 (.int .i64 gg)).drew
  refine ⟨k1, k2, k3, fun b e1 e2 => ?_⟩
  have hdr : ∀ Z : World, Z.drew.heap = Z.heap := fun _ => rfl
  rw [hdr]
  rw [Below.heap_setCell _ ⟨Y, 1, none⟩ _ _ e2, Below.heap_setCell _ ⟨Y, 0, none⟩ _ _ e2, Below.heap_setCell _ ⟨R, 2, none⟩ _ _ e1, Below.heap_setCell _ ⟨R, 1, none⟩ _ _ e1, Below.heap_setCell _ ⟨R, 0, none⟩ _ _ e1]
section
variable {w : World} {V : Value} {x : IX} {m : Nat}
set_option maxRecDepth 100000 in
set_option maxHeartbeats 4000000 in
theorem RmDrop_not (h : RM w V x) (hlen : x.L.length ≤ 100000) (k : Int) (hh : imHas x k = false) : Calls Try.prog 79 #[V, .int .u64 k] w fun e w' => e = .returned (.tuple #[V, .agg #[.int .i64 (imGet x k).1, .int .i64 (imGet x k).2], .bool false]) ∧ Below w.heap.size w w' := by
  have h' := h
  obtain ⟨A, c, rfl, hr, hl⟩ := h
  obtain ⟨b1, b2, b3, b4⟩ := Bx.tri w [.int .i64 (x.n : Int), .slice A x.L.length c, .int .i64 (x.v : Int)] [.int .i64 0, .slice none 0 0, .int .i64 0] [.int .i64 0, .int .i64 0] 115 115 99
  have HG := Lib.hid (RmGet_any (h'.later b4) hlen k)
  rw [hh] at HG
  have HB1 := Lib.hid b1
  have HB2 := Lib.hid b2
  have HB3 := Lib.hid b3
  have HB40 := Lib.hid b4
  clear b1 b2 b3 b4 h' hr hl hh hlen
  unfold mV at *
  generalize imGet x k = gr at *
  generalize x.L.length = ll at *
  generalize x.n = n at *
  generalize x.v = vv at *
  obtain ⟨gs, gg⟩ := gr
  go_enter Try.func79, Try.ntmps79
  go_wp2_with fail
  refine HG.out.mono ?_
  rintro e w3 ⟨rfl, hb3⟩
  have hb5 := below_new w3 (.cells #[.int .i64 gs, .int .i64 gg] 99)
  have hb6 := Below.next hb3 hb5
  have HX2 := Lib.hid (HB1.out.below hb6)
  have HR2 := Lib.hid (HB2.out.below hb6)
  have HY2 := Lib.hid (HB3.out.below hb6)
  have HT2 := Lib.hid (Bx.new w3 [.int .i64 gs, .int .i64 gg] 99)
  have HB6 := Lib.hid (Below.next HB40.out hb6)
  have hlt3 := HB3.out.lt
  have hs3 := hb3.size
  go_upto_region 3 with (fail)
  generalize w3.alloc (.cells #[.int .i64 gs, .int .i64 gg] 99) = W6 at *
  rw [show w.heap.size + 1 + 1 = w.heap.size + 2 by omega]
  obtain ⟨T, hT⟩ : ∃ T, w3.heap.size = T := ⟨_, rfl⟩
  obtain ⟨R, hR⟩ : ∃ R, w.heap.size + 1 = R := ⟨_, rfl⟩
  obtain ⟨Y, hY⟩ : ∃ Y, w.heap.size + 2 = Y := ⟨_, rfl⟩
  obtain ⟨P, hP⟩ : ∃ P, w.heap.size = P := ⟨_, rfl⟩
  have HNE : Hid (T ≠ R ∧ R ≠ Y) := Lib.hid ⟨by omega, by omega⟩
  have HRW0 : Hid (w.heap.size ≤ R ∧ w.heap.size ≤ Y) := Lib.hid ⟨by omega, by omega⟩
  rw [hP] at HX2
  rw [hR] at HR2
  rw [hY] at HY2
  rw [hT] at HT2
  rw [hR, hY, hT, hP]
  clear hP hR hY hT hb3 hb5 hb6 HB1 HB2 HB3 HB40 HG hlt3 hs3
  have x0 := HX2.out.c 0 _ rfl
  have x1 := HX2.out.c 1 _ rfl
  have x2 := HX2.out.c 2 _ rfl
  have u0 := HR2.out.c 0 _ rfl
  have u1 := HR2.out.c 1 _ rfl
  have u2 := HR2.out.c 2 _ rfl
  have f0 := HR2.out.f 0
  have f1 := HR2.out.f 1
  have f2 := HR2.out.f 2
  have y0 := HY2.out.c 0 _ rfl
  have y1 := HY2.out.c 1 _ rfl
  have g0 := HY2.out.f 0
  have g1 := HY2.out.f 1
  have t0 := HT2.out.c 0 _ rfl
  have t1 := HT2.out.c 1 _ rfl
  have hTR : T ≠ R := HNE.out.1
  have hRY : R ≠ Y := HNE.out.2
  have t0' := (((HT2.out.other (a := ⟨R, 0, none⟩) (fun e => hTR e.symm) (.int .i64 (n : Int))).other (a := ⟨R, 1, none⟩) (fun e => hTR e.symm) (.slice A ll c)).other (a := ⟨R, 2, none⟩) (fun e => hTR e.symm) (.int .i64 (vv : Int))).c 0 _ rfl
  have t1' := (((HT2.out.other (a := ⟨R, 0, none⟩) (fun e => hTR e.symm) (.int .i64 (n : Int))).other (a := ⟨R, 1, none⟩) (fun e => hTR e.symm) (.slice A ll c)).other (a := ⟨R, 2, none⟩) (fun e => hTR e.symm) (.int .i64 (vv : Int))).c 1 _ rfl
  have HFIN := Lib.hid (drop_fin gs gg HR2.out HY2.out hRY HB6.out HRW0.out.1 HRW0.out.2 (.int .i64 (n : Int)) (.slice A ll c) (.int .i64 (vv : Int)))
  have y0' := (HY2.out.other (a := ⟨R, 0, none⟩) hRY (.int .i64 (n : Int))).c 0 _ rfl
  have y1' := ((HY2.out.other (a := ⟨R, 0, none⟩) hRY (.int .i64 (n : Int))).other (a := ⟨R, 1, none⟩) hRY (.slice A ll c)).c 1 _ rfl
  have y2' := (((HY2.out.other (a := ⟨R, 0, none⟩) hRY (.int .i64 (n : Int))).other (a := ⟨R, 1, none⟩) hRY (.slice A ll c)).other (a := ⟨R, 2, none⟩) hRY (.int .i64 (vv : Int))).c 0 _ rfl
  have y3' := (((HY2.out.other (a := ⟨R, 0, none⟩) hRY (.int .i64 (n : Int))).other (a := ⟨R, 1, none⟩) hRY (.slice A ll c)).other (a := ⟨R, 2, none⟩) hRY (.int .i64 (vv : Int))).c 1 _ rfl
  clear HX2 HR2 HY2 HT2 HB6 hTR hRY
  go_region
  go_wp2
  obtain ⟨k1, k2, k3, k4⟩ := HFIN.out _ rfl
  have q0 := k1.c 0 _ rfl
  have q1 := k1.c 1 _ rfl
  have q2 := k1.c 2 _ rfl
  have p0 := k2.c 0 _ rfl
  have p1 := k2.c 1 _ rfl
  exact bodyPost_ret (v := .tuple #[.agg #[.int .i64 (n : Int), .slice A ll c, .int .i64 (vv : Int)], .agg #[.int .i64 gs, .int .i64 gg], .bool false]) (by simp [results, Try.results79, go_sem, q0, q1, q2, p0, p1]) rfl ⟨rfl, k3⟩
theorem VBm_agg {a d : Value} {A : Option Addr} {l c b : Nat} (h : VBm (.agg #[a, .slice A l c, d]) b) : ∃ o, A = some ⟨b, o, none⟩ := by
  obtain ⟨n', A', l', c', v', e, h⟩ := h
  unfold mV at e
  injection e with e
  injection e with e
  injection e with _ e
  injection e with e _
  injection e with e
  rw [e]
  exact h
theorem delI_snoc (P : List EntI) (e : EntI) (k : Int) : (e.1 = k → delI (P ++ [e]) k = delI P k) ∧ (e.1 ≠ k → delI (P ++ [e]) k = delI P k ++ [e]) := by
  unfold delI
  constructor
  · intro h
    rw [List.filter_append, List.filter_cons_of_neg (by simp [h])]
    simp
  · intro h
    rw [List.filter_append, List.filter_cons_of_pos (by simpa using h)]
    rfl
set_option maxRecDepth 100000 in
set_option maxHeartbeats 8000000 in
theorem RmDrop_had (h : RM w V x) (hf : IFit m x) (hm : m < 90000) (k : Int) (hh : imHas x k = true) : Calls Try.prog 79 #[V, .int .u64 k] w fun e w' => ∃ V', e = .returned (.tuple #[V', .agg #[.int .i64 (imGet x k).1, .int .i64 (imGet x k).2], .bool true]) ∧ RM w' V' (imDrop x k) ∧ Below w.heap.size w w' ∧ ∀ b, VBm V' b → VBm V b ∨ w.heap.size ≤ b := by
  have h' := h
  have hlen : x.L.length ≤ 90000 := by have := hf.len; omega
  have hv9 : (x.v : Int) < 90000 := by have := hf.ver; omega
  obtain ⟨i0, hi0, hz0, hz1, hz2⟩ := info_parts info_namedR
  obtain ⟨A, c, rfl, hr, hl⟩ := h
  obtain ⟨b1, b2, b3, b4⟩ := Bx.tri w [.int .i64 (x.n : Int), .slice A x.L.length c, .int .i64 (x.v : Int)] [.int .i64 0, .slice none 0 0, .int .i64 0] [.int .i64 0, .int .i64 0] 115 115 99
  have HG := Lib.hid (RmGet_any (h'.later b4) (by omega) k)
  rw [hh] at HG
  have HRL := Lib.hid (hr.below b4)
  have HB1 := Lib.hid b1
  have HB2 := Lib.hid b2
  have HB3 := Lib.hid b3
  have HB40 := Lib.hid b4
  have hdrop : imDrop x k = ⟨x.n, delI x.L k, x.v + 1⟩ := by unfold imDrop; rw [hh]; rfl
  rw [hdrop]
  clear b1 b2 b3 b4 h' hr hl hh hf hdrop
  unfold mV at *
  generalize imGet x k = gr at *
  generalize hll : x.L.length = ll at *
  have HLL := Lib.hid hll
  generalize x.L = L at *
  generalize x.n = n at *
  generalize x.v = vv at *
  clear hll
  obtain ⟨gs, gg⟩ := gr
  have HO : Hid (∀ W lA lc, ∀ {base dl : Nat}, (delI L k).length = dl → W.ownsRow base 157 3 (.slice lA dl lc) dl (cellsN (delI L k)) → RM W (.agg #[.int .i64 (n : Int), .slice lA dl lc, .int .i64 ((vv : Int) + 1)]) ⟨n, delI L k, vv + 1⟩) := Lib.hid fun W lA lc {base dl} hdl hrow =>
    ⟨lA, lc, by simp only [mV, hdl, Int.natCast_add]; rfl, RdN.of_row hrow hdl, fun b o e => by
      subst e
      exact (hrow.lt b (by
        rcases hrow.2 with ⟨hv, _⟩ | ⟨g', cap, cur, hv, _⟩
        · cases hv
        · injection hv with hv
          injection hv with hv
          injection hv with h1 h2
          rw [h1, h2]
          rfl)).2⟩
  go_enter Try.func79, Try.ntmps79
  go_wp2_with fail
  refine HG.out.mono ?_
  rintro e w3 ⟨rfl, hb3⟩
  have hb5 := below_new w3 (.cells #[.int .i64 gs, .int .i64 gg] 99)
  have hb6 := Below.next hb3 hb5
  have HX := Lib.hid (HB1.out.below hb6)
  have HRS := Lib.hid (HB2.out.below hb6)
  have HYS := Lib.hid (HB3.out.below hb6)
  have HTS := Lib.hid (Bx.new w3 [.int .i64 gs, .int .i64 gg] 99)
  have HL4 := Lib.hid (HRL.out.below hb6)
  have HB4 := Lib.hid (Below.next HB40.out hb6)
  have hlt3 := HB3.out.lt
  have hs3 := hb3.size
  go_upto_region 4 with (fail)
  generalize w3.alloc (.cells #[.int .i64 gs, .int .i64 gg] 99) = W4 at *
  rw [show w.heap.size + 1 + 1 = w.heap.size + 2 by omega]
  obtain ⟨T, hT⟩ : ∃ T, w3.heap.size = T := ⟨_, rfl⟩
  obtain ⟨R, hR⟩ : ∃ R, w.heap.size + 1 = R := ⟨_, rfl⟩
  obtain ⟨Y, hY⟩ : ∃ Y, w.heap.size + 2 = Y := ⟨_, rfl⟩
  obtain ⟨P, hP⟩ : ∃ P, w.heap.size = P := ⟨_, rfl⟩
  have HNE : Hid (T ≠ R ∧ R ≠ Y) := Lib.hid ⟨by omega, by omega⟩
  have HPN : Hid (P ≠ R ∧ P ≠ Y ∧ P ≠ T) := Lib.hid ⟨by omega, by omega, by omega⟩
  have HRW0 : Hid (w.heap.size ≤ R ∧ w.heap.size ≤ Y) := Lib.hid ⟨by omega, by omega⟩
  have HP0 : Hid (w.heap.size ≤ P) := Lib.hid (by omega)
  rw [hP] at HX
  rw [hR] at HRS
  rw [hY] at HYS
  rw [hT] at HTS
  rw [hR, hY, hT, hP]
  clear hP hR hY hT hb3 hb5 hb6 HB1 HB2 HB3 HB40 HG hlt3 hs3 HRL
  have x0 := HX.out.c 0 _ rfl
  have x1 := HX.out.c 1 _ rfl
  have x2 := HX.out.c 2 _ rfl
  go_upto_block 0 with (fail)
  go_cut [9] from 11 to 37 (fun lv wc => RW W4 wc lv (delI L k))
  case first =>
    go_wp2_with fail
    go_loopw [9, 25] (fun lv iv wr => ∃ i : Nat, i ≤ ll ∧ iv = .int .i64 (i : Int) ∧ RW W4 wr lv (delI (L.take i) k)) (fun _ iv _ => ll - (intOf iv).toNat)
    case atStart => exact ⟨0, Nat.zero_le _, rfl, RW.nil W4⟩
    case round =>
      obtain ⟨i, hi, rfl, hrw⟩ := hrel
      obtain ⟨lA, lc, hlv, _, _⟩ := ownSlice hrw.row
      subst hlv
      by_cases hil : i < ll
      · as_aux_lemma =>
        have hiL : i < L.length := by rw [HLL.out]; exact hil
        obtain ⟨b, rfl, _, hb, n0, n1, n2⟩ := (HL4.out.below hrw.be) i _ (List.getElem?_eq_getElem hiL)
        have htk : L.take (i + 1) = L.take i ++ [L[i]] := List.take_succ_eq_append_getElem hiL
        have hpl : (delI (L.take i) k).length ≤ i := Nat.le_trans (List.length_filter_le _ _) (by rw [List.length_take]; omega)
        have hst := delI_snoc (L.take i) (L[i]) k
        rw [← htk] at hst
        obtain ⟨e, he⟩ : ∃ e, L[i] = e := ⟨_, rfl⟩
        rw [he] at n0 n1 n2 hst
        obtain ⟨eid, es, eg⟩ := e
        simp only at n0 n1 n2 hst
        have hii : (i : Int) < (ll : Int) := by omega
        have hi0' : (0 : Int) ≤ (i : Int) := by omega
        generalize delI (L.take i) k = pl at *
        generalize hpn : pl.length = pn at *
        have HRW := Lib.hid (hrw.box (.cells #[.int .u64 eid, .int .i64 es, .int .i64 eg] 157))
        have HY := Lib.hid (Bx.new wr [.int .u64 eid, .int .i64 es, .int .i64 eg] 157)
        have HPL := Lib.hid hpn
        have hpn9 : pn ≤ 90001 := by omega
        clear hrw he htk hpn
        by_cases hke : eid = k
        · have HST := Lib.hid (hst.1 hke)
          clear hst
          subst hke
          go_wp2
          go_roundw
          case rel => exact ⟨i + 1, by omega, by go_num, by rw [HST.out]; have := HRW.out; rw [HPL.out] at *; exact this⟩
          case measure => simp [intOf]; omega
        · have HST := Lib.hid (hst.2 hke)
          have hke2 : (eid != k) = true := by simpa using hke
          clear hst hke
          go_upto_region 9 with (fail)
          obtain ⟨Y2, hY2⟩ : ∃ Y2, wr.heap.size = Y2 := ⟨_, rfl⟩
          rw [hY2] at HY
          rw [hY2]
          generalize wr.alloc (.cells #[.int .u64 eid, .int .i64 es, .int .i64 eg] 157) = W5 at *
          clear n0 n1 n2 hY2
          have y0 := HY.out.c 0 _ rfl
          have y1 := HY.out.c 1 _ rfl
          have y2 := HY.out.c 2 _ rfl
          have HRO : Hid ((W5.alloc (.cells #[.int .u64 eid, .int .i64 es, .int .i64 eg] 157)).ownsRow W4.heap.size 157 3 (.slice lA pn lc) pn (cellsN pl)) := Lib.hid (by have := (HRW.out.box (.cells #[.int .u64 eid, .int .i64 es, .int .i64 eg] 157)).row; rw [HPL.out] at this; exact this)
          have HNW := Lib.hid (World.news_of_block (w := W5.alloc (.cells #[.int .u64 eid, .int .i64 es, .int .i64 eg] 157)) (B := W5.heap.size) (cs := #[.int .u64 eid, .int .i64 es, .int .i64 eg]) (t := 157) (fr := (0, 0)) (heap_alloc_last W5 _))
          have hbase : W4.heap.size ≤ (W5.alloc (.cells #[.int .u64 eid, .int .i64 es, .int .i64 eg] 157)).heap.size := by rw [World.size_alloc]; have := HRW.out.be.size; omega
          go_wp2_with (at_builtin; refine wpList_append_own _ rfl _ _ 113 rfl W4.heap.size 157 i0 _ 3 24 Try.underlying113 hi0 hz0 hz1 hz2 rfl (by decide) (.slice lA pn lc) pn (cellsN pl) rfl HRO.out ⟨W5.heap.size, 0, none⟩ 1 1 [.int .u64 eid, .int .i64 es, .int .i64 eg] rfl rfl HNW.out (by simp [Value.oneCell']) (by unfold maxLen; omega) (by omega) hbase ?_; intro v' w10 hown hgrow _; have HOWN := Lib.hid hown; have HGR := Lib.hid hgrow; clear hown hgrow)
          have HF := Lib.hid ((HRW.out.box (.cells #[.int .u64 eid, .int .i64 es, .int .i64 eg] 157)).add HPL.out (e := (eid, es, eg)) HOWN.out HGR.out)
          clear HRW HRO HNW HOWN HGR y0 y1 y2 HY HPL
          go_roundw
          case rel => exact ⟨i + 1, by omega, by go_num, by rw [HST.out]; exact HF.out⟩
          case measure => simp [intOf]; omega
      · obtain rfl : i = ll := by omega
        have htk : L.take i = L := by rw [← HLL.out, List.take_length]
        have HTK := Lib.hid htk
        clear htk
        go_wp2
        go_meet
        have htk := HTK.out
        rw [htk] at hrw
        rw [htk]
        exact hrw
  case rest =>
      clear x0 x1 x2
      have hrw := hcut
      obtain ⟨lA, lc, rfl, hlc1, hlc2⟩ := ownSlice hrw.row
      clear hcut hlc1 hlc2
      obtain ⟨wr, hwr⟩ : ∃ wr, wc = wr := ⟨_, rfl⟩
      rw [hwr] at hrw
      rw [hwr]
      clear hwr
      generalize hdl : (delI L k).length = dl at *
      have hrow := hrw.row
      rw [hdl] at hrow
      have HROW := Lib.hid hrow
      have HDL := Lib.hid hdl
      have HBE := Lib.hid hrw.be
      clear hrow hdl hrw
      have hX1 := HX.out.below HBE.out
      have hR1 := HRS.out.below HBE.out
      have hY1 := HYS.out.below HBE.out
      have hT1 := HTS.out.below HBE.out
      have x0 := hX1.c 0 _ rfl
      have x1 := hX1.c 1 _ rfl
      have x2 := hX1.c 2 _ rfl
      have f1 := hX1.f 1
      have f2 := hX1.f 2
      have HX2 := Lib.hid ((hX1.set 1 (.slice lA dl lc)).set 2 (.int .i64 ((vv : Int) + 1)))
      have HR2 := Lib.hid ((hR1.other (a := ⟨P, 1, none⟩) HPN.out.1 (.slice lA dl lc)).other (a := ⟨P, 2, none⟩) HPN.out.1 (.int .i64 ((vv : Int) + 1)))
      have HY2 := Lib.hid ((hY1.other (a := ⟨P, 1, none⟩) HPN.out.2.1 (.slice lA dl lc)).other (a := ⟨P, 2, none⟩) HPN.out.2.1 (.int .i64 ((vv : Int) + 1)))
      have HT2 := Lib.hid ((hT1.other (a := ⟨P, 1, none⟩) HPN.out.2.2 (.slice lA dl lc)).other (a := ⟨P, 2, none⟩) HPN.out.2.2 (.int .i64 ((vv : Int) + 1)))
      have HB6 := Lib.hid (bl1 (b := P) (k := 2) (bl1 (b := P) (k := 1) (HB4.out.trans (HBE.out.mono HB4.out.size)) HP0.out (.slice lA dl lc)) HP0.out (.int .i64 ((vv : Int) + 1)))
      have HRR : Hid (((wr.setCell ⟨P, 1, none⟩ (.slice lA dl lc)).setCell ⟨P, 2, none⟩ (.int .i64 ((vv : Int) + 1))).ownsRow W4.heap.size 157 3 (.slice lA dl lc) dl (cellsN (delI L k))) := Lib.hid (ownsRow_same HROW.out (fun g hg => by
        have := (HROW.out.lt g hg).1
        have := HX.out.lt
        rw [Below.heap_setCell _ _ _ _ (by show g ≠ P; omega), Below.heap_setCell _ _ _ _ (by show g ≠ P; omega)]))
      have HLE := Lib.hid HB4.out.size
      have HLTR := Lib.hid (And.intro HRS.out.lt HYS.out.lt)
      clear hX1 hR1 hY1 hT1 HROW HX HRS HYS HTS HB4 HBE HL4
      go_upto_region 13 with (fail)
      generalize (wr.setCell ⟨P, 1, none⟩ (.slice lA dl lc)).setCell ⟨P, 2, none⟩ (.int .i64 ((vv : Int) + 1)) = W6 at *
      generalize hve : (vv : Int) + 1 = v9 at *
      clear x0 x1 x2 f1 f2 hi0 hz0 hz1 hz2 hlen hve hv9
      have x0 := HX2.out.c 0 _ rfl
      have x1 := HX2.out.c 1 _ rfl
      have x2 := HX2.out.c 2 _ rfl
      have u0 := HR2.out.c 0 _ rfl
      have u1 := HR2.out.c 1 _ rfl
      have u2 := HR2.out.c 2 _ rfl
      have f0 := HR2.out.f 0
      have f1 := HR2.out.f 1
      have f2 := HR2.out.f 2
      have y0 := HY2.out.c 0 _ rfl
      have y1 := HY2.out.c 1 _ rfl
      have g0 := HY2.out.f 0
      have g1 := HY2.out.f 1
      have t0 := HT2.out.c 0 _ rfl
      have t1 := HT2.out.c 1 _ rfl
      have hTR : T ≠ R := HNE.out.1
      have hRY : R ≠ Y := HNE.out.2
      have t0' := (((HT2.out.other (a := ⟨R, 0, none⟩) (fun e => hTR e.symm) (.int .i64 (n : Int))).other (a := ⟨R, 1, none⟩) (fun e => hTR e.symm) (.slice lA dl lc)).other (a := ⟨R, 2, none⟩) (fun e => hTR e.symm) (.int .i64 v9)).c 0 _ rfl
      have t1' := (((HT2.out.other (a := ⟨R, 0, none⟩) (fun e => hTR e.symm) (.int .i64 (n : Int))).other (a := ⟨R, 1, none⟩) (fun e => hTR e.symm) (.slice lA dl lc)).other (a := ⟨R, 2, none⟩) (fun e => hTR e.symm) (.int .i64 v9)).c 1 _ rfl
      have HFIN := Lib.hid (drop_fin gs gg HR2.out HY2.out hRY HB6.out HRW0.out.1 HRW0.out.2 (.int .i64 (n : Int)) (.slice lA dl lc) (.int .i64 v9))
      have y0' := (HY2.out.other (a := ⟨R, 0, none⟩) hRY (.int .i64 (n : Int))).c 0 _ rfl
      have y1' := ((HY2.out.other (a := ⟨R, 0, none⟩) hRY (.int .i64 (n : Int))).other (a := ⟨R, 1, none⟩) hRY (.slice lA dl lc)).c 1 _ rfl
      have y2' := (((HY2.out.other (a := ⟨R, 0, none⟩) hRY (.int .i64 (n : Int))).other (a := ⟨R, 1, none⟩) hRY (.slice lA dl lc)).other (a := ⟨R, 2, none⟩) hRY (.int .i64 v9)).c 0 _ rfl
      have y3' := (((HY2.out.other (a := ⟨R, 0, none⟩) hRY (.int .i64 (n : Int))).other (a := ⟨R, 1, none⟩) hRY (.slice lA dl lc)).other (a := ⟨R, 2, none⟩) hRY (.int .i64 v9)).c 1 _ rfl
      clear HX2 HR2 HY2 HT2 HB6 hTR hRY
      go_region
      go_wp2
      obtain ⟨k1, k2, k3, k4⟩ := HFIN.out _ rfl
      have q0 := k1.c 0 _ rfl
      have q1 := k1.c 1 _ rfl
      have q2 := k1.c 2 _ rfl
      have p0 := k2.c 0 _ rfl
      have p1 := k2.c 1 _ rfl
      have hrw9 := ownsRow_same HRR.out (fun g hg => k4 g (by have := (HRR.out.lt g hg).1; have := HLTR.out.1; omega) (by have := (HRR.out.lt g hg).1; have := HLTR.out.2; omega))
      exact bodyPost_ret (v := .tuple #[.agg #[.int .i64 (n : Int), .slice lA dl lc, .int .i64 v9], .agg #[.int .i64 gs, .int .i64 gg], .bool true]) (by simp [results, Try.results79, go_sem, q0, q1, q2, p0, p1]) rfl ⟨_, rfl, HO.out _ lA lc rfl hrw9, k3, fun b hb => .inr (by
        obtain ⟨o, e⟩ := VBm_agg hb
        have := HLE.out
        rcases HRR.out.2 with ⟨hv, _⟩ | ⟨g', cap, cur, hv, hg', _⟩
        · injection hv with hv
          rw [hv] at e
          cases e
        · injection hv with hv
          rw [hv] at e
          injection e with e
          injection e with e
          omega)⟩
theorem RmPut_any (h : RM w V x) (hf : IFit m x) (hm : m < 90000) (k s g : Int) : Calls Try.prog 77 #[V, .int .u64 k, .agg #[.int .i64 s, .int .i64 g]] w fun e w' => ∃ V', e = .returned (.tuple #[V', .bool (!imHas x k)]) ∧ RM w' V' (imPut x k (s, g)) ∧ Below w.heap.size w w' ∧ ∀ b, VBm V' b → VBm V b ∨ w.heap.size ≤ b := by
  cases hh : imHas x k with
  | true =>
    have e : imPut x k (s, g) = x := by unfold imPut; rw [if_pos hh]
    rw [e]
    exact (RmPut_had h (by have := hf.len; omega) k s g hh).mono fun _ _ ⟨h1, h2⟩ => ⟨V, h1, h.later h2, h2, fun _ e => .inl e⟩
  | false => exact RmPut_not h hf hm k s g hh
theorem RmDrop_any (h : RM w V x) (hf : IFit m x) (hm : m < 90000) (k : Int) : Calls Try.prog 79 #[V, .int .u64 k] w fun e w' => ∃ V', e = .returned (.tuple #[V', .agg #[.int .i64 (imGet x k).1, .int .i64 (imGet x k).2], .bool (imHas x k)]) ∧ RM w' V' (imDrop x k) ∧ Below w.heap.size w w' ∧ ∀ b, VBm V' b → VBm V b ∨ w.heap.size ≤ b := by
  cases hh : imHas x k with
  | false =>
    have e : imDrop x k = x := by unfold imDrop; rw [if_neg (by rw [hh]; decide)]
    rw [e]
    exact (RmDrop_not h (by have := hf.len; omega) k hh).mono fun _ _ ⟨h1, h2⟩ => ⟨V, h1, h.later h2, h2, fun _ e => .inl e⟩
  | true => exact RmDrop_had h hf hm k hh
end

end Go.Proofs.Ytoaikdnooafjmaa
