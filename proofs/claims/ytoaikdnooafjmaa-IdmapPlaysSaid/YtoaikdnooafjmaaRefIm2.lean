/- The document's map of ids (ganglionref22), by contract: Put, Drop. -/
import Derived.Test.YtoaikdnooafjmaaRefIm
import Derived.Test.YtoaikdnooafjmaaImPlain
import Derived.Test.YtoaikdnooafjmaaRacAt
import Derived.Deep.AppendLies
import Derived.Deep.WholeRow
namespace Go.Proofs.Ytoaikdnooafjmaa
open Go.RowKit

theorem Bx.tri (W : World) (vs us ts : List Value) (t t' t'' : TypeId) : Bx (((W.alloc (.cells vs.toArray t)).alloc (.cells us.toArray t')).alloc (.cells ts.toArray t'')) W.heap.size vs ∧ Bx (((W.alloc (.cells vs.toArray t)).alloc (.cells us.toArray t')).alloc (.cells ts.toArray t'')) (W.heap.size + 1) us ∧
    Bx (((W.alloc (.cells vs.toArray t)).alloc (.cells us.toArray t')).alloc (.cells ts.toArray t'')) (W.heap.size + 2) ts ∧ Below W.heap.size W (((W.alloc (.cells vs.toArray t)).alloc (.cells us.toArray t')).alloc (.cells ts.toArray t'')) := by
  have h1 := Bx.new W vs t
  have h2 := Bx.new (W.alloc (.cells vs.toArray t)) us t'
  have h4 := Bx.new ((W.alloc (.cells vs.toArray t)).alloc (.cells us.toArray t')) ts t''
  have hb1 := below_new (W.alloc (.cells vs.toArray t)) (.cells us.toArray t')
  have hb2 := below_new ((W.alloc (.cells vs.toArray t)).alloc (.cells us.toArray t')) (.cells ts.toArray t'')
  rw [World.size_alloc] at h2
  rw [World.size_alloc, World.size_alloc] at h4
  exact ⟨(h1.below hb1).below hb2, h2.below hb2, h4, Below.next (Below.next (below_new W _) hb1) hb2⟩
/-- The blocks of its list. -/
def VBm (V : Value) (b : Nat) : Prop := ∃ n A l c v, V = mV n A l c v ∧ ∃ o, A = some ⟨b, o, none⟩
theorem VBm_mV {n : Nat} {A : Option Addr} {l c v b : Nat} : VBm (mV n A l c v) b ↔ ∃ o, A = some ⟨b, o, none⟩ := by
  constructor
  · rintro ⟨n', A', l', c', v', e, h⟩
    unfold mV at e
    injection e with e
    injection e with e
    injection e with _ e
    injection e with e _
    injection e with e
    rw [e]
    exact h
  · exact fun h => ⟨_, _, _, _, _, rfl, h⟩
theorem RM.lt {w : World} {V : Value} {x : IX} (h : RM w V x) {b : Nat} (hb : VBm V b) : b < w.heap.size := by
  obtain ⟨A, c, rfl, _, hl⟩ := h
  obtain ⟨o, e⟩ := VBm_mV.1 hb
  exact hl b o e
theorem RM.keep {w w' : World} {V : Value} {x : IX} (h : RM w V x) (hk : ∀ b, VBm V b → w'.heap[b]? = w.heap[b]?) (hlt : ∀ b, VBm V b → b < w'.heap.size) : RM w' V x := by
  obtain ⟨A, c, rfl, hr, hl⟩ := h
  refine ⟨A, c, rfl, fun i e he => ?_, fun b o q => hlt b (VBm_mV.2 ⟨o, q⟩)⟩
  obtain ⟨b, h1, h2, h3, c0, c1, c2⟩ := hr i e he
  have q := hk b (VBm_mV.2 ⟨0, h1⟩)
  exact ⟨b, h1, h2, hlt b (VBm_mV.2 ⟨0, h1⟩), (World.cell?_of_block (w := w) q).trans c0, (World.cell?_of_block (w := w) q).trans c1, (World.cell?_of_block (w := w) q).trans c2⟩
theorem RdN.of_row {w : World} {base n c : Nat} {A : Option Addr} {L : List EntI} (h : w.ownsRow base 157 3 (.slice A n c) n (cellsN L)) (hn : L.length = n) : RdN w 0 A L := fun i e he => by
  have hi : i < L.length := (List.getElem?_eq_some_iff.1 he).1
  obtain ⟨g, rfl, _, hg⟩ := ownPos h (by omega)
  have hL : L[i] = e := by
    have := List.getElem?_eq_getElem hi
    rw [he] at this
    injection this with this
    exact this.symm
  have q : ∀ j, j < 3 → w.cell? ⟨g, i * 3 + j, none⟩ = some ((encN e)[j]!) := fun j hj => by
    rw [h.cellAt (i * 3 + j) (by omega), cellsN_get L i j hi hj, hL]
  exact ⟨g, rfl, Nat.zero_le _, hg, q 0 (by decide), q 1 (by decide), q 2 (by decide)⟩

/-- A list that a loop gathers, in memory laid since W4. -/
structure RW (W4 w : World) (lv : Value) (l : List EntI) : Prop where
  row : w.ownsRow W4.heap.size 157 3 lv l.length (cellsN l)
  be : Below W4.heap.size W4 w
theorem RW.nil (W4 : World) : RW W4 W4 (.slice none 0 0) [] := ⟨World.ownsRow_nil _ _ _ _, Below.refl _ _⟩
theorem RW.box {W4 w : World} {lv : Value} {l : List EntI} (h : RW W4 w lv l) (o : Obj) : RW W4 (w.alloc o) lv l := ⟨h.row.alloc o, Below.next h.be (below_new w o)⟩
theorem RW.later {W4 w w' : World} {lv : Value} {l : List EntI} (h : RW W4 w lv l) (hb : Below w.heap.size w w') : RW W4 w' lv l := ⟨ownsRow_same h.row fun g hg => hb.block g (h.row.lt g hg).2, Below.next h.be hb⟩
theorem RW.add {W4 w w2 : World} {lv v' : Value} {l : List EntI} (h : RW W4 w lv l) {n : Nat} (hn : l.length = n) {e : EntI} (hown : w2.ownsRow W4.heap.size 157 3 v' (n + 1) (cellsN l ++ encN e)) (hg : w.grownBy w2 lv.ownBlock) : RW W4 w2 v' (l ++ [e]) := by
  subst hn
  exact ⟨by rw [List.length_append, cellsN_snoc]; exact hown, h.be.grown hg h.be.size (fun q e => (h.row.lt q e).1)⟩

/-- What is gathered of the first ones, when an id is put. -/
def putL (k : Int) (r : RefT) (P : List EntI) : List EntI := if (P.any fun e => decide (k < e.1)) = true then insI P k r else P
theorem insI_any {k : Int} {r : RefT} : ∀ (P t : List EntI), (P.any fun e => decide (k < e.1)) = true → insI (P ++ t) k r = insI P k r ++ t
  | [], t, h => by cases h
  | a :: P, t, h => by
    rw [List.cons_append, insI, insI]
    by_cases ha : k < a.1
    · rw [if_pos ha, if_pos ha]; rfl
    · rw [if_neg ha, if_neg ha, insI_any P t (by simpa [ha] using h)]; rfl
theorem insI_none {k : Int} {r : RefT} : ∀ (P t : List EntI), (P.any fun e => decide (k < e.1)) = false → insI (P ++ t) k r = P ++ insI t k r
  | [], t, _ => rfl
  | a :: P, t, h => by
    rw [List.any_cons, Bool.or_eq_false_iff] at h
    have ha := of_decide_eq_false h.1
    rw [List.cons_append, insI, if_neg ha, insI_none P t h.2]
    rfl
section
variable {k : Int} {r : RefT} {P : List EntI} {e : EntI}
theorem putL_done (h : (P.any fun e => decide (k < e.1)) = true) : ((P ++ [e]).any fun e => decide (k < e.1)) = true ∧ putL k r (P ++ [e]) = putL k r P ++ [e] := by
  have h2 : ((P ++ [e]).any fun e => decide (k < e.1)) = true := by rw [List.any_append, h]; rfl
  refine ⟨h2, ?_⟩
  unfold putL
  rw [if_pos h2, if_pos h, insI_any P [e] h]
theorem putL_now (h : (P.any fun e => decide (k < e.1)) = false) (hk : k < e.1) : ((P ++ [e]).any fun e => decide (k < e.1)) = true ∧ putL k r (P ++ [e]) = putL k r P ++ [(k, r)] ++ [e] := by
  have h2 : ((P ++ [e]).any fun e => decide (k < e.1)) = true := by rw [List.any_append, h]; simpa using hk
  refine ⟨h2, ?_⟩
  unfold putL
  rw [if_pos h2, if_neg (by rw [h]; decide), insI_none P [e] h, insI, if_pos hk]
  simp
theorem putL_not (h : (P.any fun e => decide (k < e.1)) = false) (hk : ¬ k < e.1) : ((P ++ [e]).any fun e => decide (k < e.1)) = false ∧ putL k r (P ++ [e]) = putL k r P ++ [e] := by
  have h2 : ((P ++ [e]).any fun e => decide (k < e.1)) = false := by rw [List.any_append, h]; simpa using hk
  refine ⟨h2, ?_⟩
  unfold putL
  rw [if_neg (by rw [h2]; decide), if_neg (by rw [h]; decide)]
theorem putL_end (h : (P.any fun e => decide (k < e.1)) = false) : insI P k r = putL k r P ++ [(k, r)] := by
  unfold putL
  rw [if_neg (by rw [h]; decide)]
  have := insI_none (r := r) P [] h
  rw [List.append_nil] at this
  exact this
theorem putL_all (h : (P.any fun e => decide (k < e.1)) = true) : insI P k r = putL k r P := by
  unfold putL
  rw [if_pos h]
theorem putL_len : (putL k r P).length ≤ P.length + 1 := by
  unfold putL
  split
  · rw [insI_len]; exact Nat.le_refl _
  · omega
end
theorem info_namedR : (Try.prog.info? 157).map (fun i => (i.zero, i.size, i.bytes)) = some (some (.agg #[.int .u64 0, .int .i64 0, .int .i64 0]), 3, 24) := by kernel_rfl

section
variable {w : World} {V : Value} {x : IX} {m : Nat}
set_option maxRecDepth 100000 in
set_option maxHeartbeats 4000000 in
theorem RmPut_had (h : RM w V x) (hlen : x.L.length ≤ 100000) (k s g : Int) (hh : imHas x k = true) : Calls Try.prog 77 #[V, .int .u64 k, .agg #[.int .i64 s, .int .i64 g]] w fun e w' => e = .returned (.tuple #[V, .bool false]) ∧ Below w.heap.size w w' := by
  have h' := h
  obtain ⟨A, c, rfl, hr, hl⟩ := h
  obtain ⟨b1, b2, b3, b4⟩ := Bx.tri w [.int .i64 (x.n : Int), .slice A x.L.length c, .int .i64 (x.v : Int)] [.int .i64 s, .int .i64 g] [.int .i64 0, .slice none 0 0, .int .i64 0] 115 99 115
  have HG := Lib.hid (RmGet_any (h'.later b4) hlen k)
  rw [hh] at HG
  have HB1 := Lib.hid b1
  have HB3 := Lib.hid b3
  have HB4 := Lib.hid b4
  clear b1 b2 b3 b4 h' hr hl hh hlen
  unfold mV at *
  generalize imGet x k = gr at *
  generalize x.L.length = ll at *
  generalize x.n = n at *
  generalize x.v = vv at *
  obtain ⟨gs, gg⟩ := gr
  go_enter Try.func77, Try.ntmps77
  go_wp2_with fail
  refine HG.out.mono ?_
  rintro e w3 ⟨rfl, hb3⟩
  have hb5 := Below.next hb3 (below_new w3 (.cells #[.int .i64 gs, .int .i64 gg] 99))
  have H1 := Lib.hid (HB1.out.below hb5)
  have H2 := Lib.hid (HB3.out.below hb5)
  have HBB := Lib.hid (Below.next HB4.out hb5)
  clear hb3 hb5 HB1 HB3 HB4 HG
  go_upto_region 3 with (fail)
  generalize w3.alloc (.cells #[.int .i64 gs, .int .i64 gg] 99) = W4 at *
  have x0 := H1.out.c 0 _ rfl
  have x1 := H1.out.c 1 _ rfl
  have x2 := H1.out.c 2 _ rfl
  have u0 := H2.out.c 0 _ rfl
  have u1 := H2.out.c 1 _ rfl
  have u2 := H2.out.c 2 _ rfl
  have f0 := H2.out.f 0
  have f1 := H2.out.f 1
  have f2 := H2.out.f 2
  have HP := Lib.hid (H2.out.put3 (.int .i64 (n : Int)) (.slice A ll c) (.int .i64 (vv : Int)))
  clear H1 H2
  rw [show w.heap.size + 1 + 1 = w.heap.size + 2 by omega]
  go_wp2
  have q0 := HP.out.c 0 _ rfl
  have q1 := HP.out.c 1 _ rfl
  have q2 := HP.out.c 2 _ rfl
  exact bodyPost_ret (v := .tuple #[.agg #[.int .i64 (n : Int), .slice A ll c, .int .i64 (vv : Int)], .bool false]) (by simp [results, Try.results77, go_sem, q0, q1, q2]) rfl ⟨rfl, below_put3 HBB.out (by omega) _ _ _⟩
set_option maxRecDepth 100000 in
set_option maxHeartbeats 8000000 in
theorem RmPut_not (h : RM w V x) (hf : IFit m x) (hm : m < 90000) (k s g : Int) (hh : imHas x k = false) : Calls Try.prog 77 #[V, .int .u64 k, .agg #[.int .i64 s, .int .i64 g]] w fun e w' => ∃ V', e = .returned (.tuple #[V', .bool true]) ∧ RM w' V' (imPut x k (s, g)) ∧ Below w.heap.size w w' ∧ ∀ b, VBm V' b → VBm V b ∨ w.heap.size ≤ b := by
  have h' := h
  have hlen : x.L.length ≤ 90000 := by have := hf.len; omega
  have hv9 : (x.v : Int) < 90000 := by have := hf.ver; omega
  obtain ⟨i0, hi0, hz0, hz1, hz2⟩ := info_parts info_namedR
  obtain ⟨A, c, rfl, hr, hl⟩ := h
  obtain ⟨b1, b2, b3, b4⟩ := Bx.tri w [.int .i64 (x.n : Int), .slice A x.L.length c, .int .i64 (x.v : Int)] [.int .i64 s, .int .i64 g] [.int .i64 0, .slice none 0 0, .int .i64 0] 115 99 115
  have HG := Lib.hid (RmGet_any (h'.later b4) (by omega) k)
  rw [hh] at HG
  have HRL := Lib.hid (hr.below b4)
  have HB1 := Lib.hid b1
  have HB2 := Lib.hid b2
  have HB3 := Lib.hid b3
  have HB40 := Lib.hid b4
  have hput : imPut x k (s, g) = ⟨x.n, insI x.L k (s, g), x.v + 1⟩ := by unfold imPut; rw [hh]; rfl
  rw [hput]
  clear b1 b2 b3 b4 h' hr hl hh hf hput
  unfold mV at *
  generalize imGet x k = gr at *
  generalize hll : x.L.length = ll at *
  have HLL := Lib.hid hll
  generalize x.L = L at *
  generalize x.n = n at *
  generalize x.v = vv at *
  clear hll
  obtain ⟨gs, gg⟩ := gr
  have HO : Hid (∀ W lA lc, ∀ {base : Nat}, W.ownsRow base 157 3 (.slice lA (ll + 1) lc) (ll + 1) (cellsN (insI L k (s, g))) → RM W (.agg #[.int .i64 (n : Int), .slice lA (ll + 1) lc, .int .i64 ((vv : Int) + 1)]) ⟨n, insI L k (s, g), vv + 1⟩) := Lib.hid fun W lA lc {base} hrow =>
    ⟨lA, lc, by simp only [mV, insI_len, HLL.out, Int.natCast_add]; rfl, RdN.of_row hrow (by rw [insI_len, HLL.out]), fun b o e => by
      subst e
      exact (hrow.lt b (by
        rcases hrow.2 with ⟨hv, _⟩ | ⟨g', cap, cur, hv, _⟩
        · cases hv
        · injection hv with hv
          injection hv with hv
          injection hv with h1 h2
          rw [h1, h2]
          rfl)).2⟩
  go_enter Try.func77, Try.ntmps77
  go_wp2_with fail
  refine HG.out.mono ?_
  rintro e w3 ⟨rfl, hb3⟩
  have hb5 := Below.next hb3 (below_new w3 (.cells #[.int .i64 gs, .int .i64 gg] 99))
  have HX := Lib.hid (HB1.out.below hb5)
  have HRB := Lib.hid (HB2.out.below hb5)
  have HRS := Lib.hid (HB3.out.below hb5)
  have HL4 := Lib.hid (HRL.out.below hb5)
  have HB4 := Lib.hid (Below.next HB40.out hb5)
  clear hb3 hb5 HB1 HB2 HB3 HG HRL HB40
  go_upto_region 4 with (fail)
  generalize w3.alloc (.cells #[.int .i64 gs, .int .i64 gg] 99) = W4 at *
  rw [show w.heap.size + 1 + 1 = w.heap.size + 2 by omega]
  obtain ⟨P, hP⟩ : ∃ P, w.heap.size = P := ⟨_, rfl⟩
  have HP0 : Hid (w.heap.size ≤ P) := Lib.hid (by omega)
  obtain ⟨R, hR⟩ : ∃ R, w.heap.size + 2 = R := ⟨_, rfl⟩
  obtain ⟨Q, hQ⟩ : ∃ Q, w.heap.size + 1 = Q := ⟨_, rfl⟩
  have HR0 : Hid (w.heap.size ≤ R) := Lib.hid (by omega)
  have hPR : P ≠ R := by omega
  rw [hP] at HX
  rw [hR] at HRS
  rw [hQ] at HRB
  rw [hR, hQ, hP]
  clear hP hR hQ
  have x0 := HX.out.c 0 _ rfl
  have x1 := HX.out.c 1 _ rfl
  have x2 := HX.out.c 2 _ rfl
  go_wp2
  go_loopw [10, 11, 25] (fun lv dv iv wr => ∃ i : Nat, i ≤ ll ∧ iv = .int .i64 (i : Int) ∧ dv = .bool ((L.take i).any fun e => decide (k < e.1)) ∧ RW W4 wr lv (putL k (s, g) (L.take i))) (fun _ _ iv _ => ll - (intOf iv).toNat)
  case atStart => exact ⟨0, Nat.zero_le _, rfl, rfl, RW.nil W4⟩
  case round =>
    clear x0 x1 x2
    obtain ⟨i, hi, rfl, rfl, hrw⟩ := hrel
    obtain ⟨lA, lc, hlv, _, _⟩ := ownSlice hrw.row
    subst hlv
    by_cases hil : i < ll
    · as_aux_lemma =>
      have hiL : i < L.length := by rw [HLL.out]; exact hil
      obtain ⟨b, rfl, _, hb, n0, n1, n2⟩ := (HL4.out.below hrw.be) i _ (List.getElem?_eq_getElem hiL)
      have HQ : Hid (∀ q, (Value.slice lA (putL k (s, g) (L.take i)).length lc).ownBlock = some q → q < wr.heap.size) := Lib.hid fun q e => (hrw.row.lt q e).2
      have htk : L.take (i + 1) = L.take i ++ [L[i]] := List.take_succ_eq_append_getElem hiL
      have hpl : (putL k (s, g) (L.take i)).length ≤ i + 1 := Nat.le_trans putL_len (by rw [List.length_take]; omega)
      have HTK := Lib.hid htk
      clear htk
      generalize hT2 : L.take (i + 1) = T2 at *
      have HT2 := Lib.hid hT2
      clear hT2
      generalize L.take i = T1 at *
      obtain ⟨e, he⟩ : ∃ e, L[i] = e := ⟨_, rfl⟩
      rw [he] at n0 n1 n2 HTK
      obtain ⟨eid, es, eg⟩ := e
      simp only at n0 n1 n2
      have hii : (i : Int) < (ll : Int) := by omega
      have hi0' : (0 : Int) ≤ (i : Int) := by omega
      have HRW := Lib.hid (hrw.box (.cells #[.int .u64 eid, .int .i64 es, .int .i64 eg] 157))
      have HY := Lib.hid (Bx.new wr [.int .u64 eid, .int .i64 es, .int .i64 eg] 157)
      generalize hpn : (putL k (s, g) T1).length = pn at *
      have HPN := Lib.hid hpn
      have hpn9 : pn ≤ 90001 := by omega
      clear hrw he hpl hpn
      go_upto_region 9 with (fail)
      obtain ⟨Y, hY⟩ : ∃ Y, wr.heap.size = Y := ⟨_, rfl⟩
      rw [hY] at HY HQ
      rw [hY]
      generalize wr.alloc (.cells #[.int .u64 eid, .int .i64 es, .int .i64 eg] 157) = W5 at *
      clear n0 n1 n2 hY
      have y0 := HY.out.c 0 _ rfl
      have HYN : Hid (∀ q, (Value.slice lA pn lc).ownBlock = some q → q < Y) := Lib.hid HQ.out
      cases hd : (T1.any fun e => decide (k < e.1)) with
      | true =>
        have hst := putL_done (r := (s, g)) (e := (eid, es, eg)) hd
        rw [← HTK.out] at hst
        have HST := Lib.hid hst
        clear hst hd HTK
        have y1 := HY.out.c 1 _ rfl
        have y2 := HY.out.c 2 _ rfl
        obtain ⟨pl, hplist⟩ : ∃ pl, putL k (s, g) T1 = pl := ⟨_, rfl⟩
        rw [hplist] at HRW HPN HST
        clear hplist

        have HRO : Hid ((W5.alloc (.cells #[.int .u64 eid, .int .i64 es, .int .i64 eg] 157)).ownsRow W4.heap.size 157 3 (.slice lA pn lc) pn (cellsN pl)) := Lib.hid (by have := (HRW.out.box (.cells #[.int .u64 eid, .int .i64 es, .int .i64 eg] 157)).row; rw [HPN.out] at this; exact this)
        have HNW := Lib.hid (World.news_of_block (w := W5.alloc (.cells #[.int .u64 eid, .int .i64 es, .int .i64 eg] 157)) (B := W5.heap.size) (cs := #[.int .u64 eid, .int .i64 es, .int .i64 eg]) (t := 157) (fr := (0, 0)) (heap_alloc_last W5 _))
        have hbase : W4.heap.size ≤ (W5.alloc (.cells #[.int .u64 eid, .int .i64 es, .int .i64 eg] 157)).heap.size := by rw [World.size_alloc]; have := HRW.out.be.size; omega
        go_wp2_with (at_builtin; refine wpList_append_own _ rfl _ _ 113 rfl W4.heap.size 157 i0 _ 3 24 Try.underlying113 hi0 hz0 hz1 hz2 rfl (by decide) (.slice lA pn lc) pn (cellsN pl) rfl HRO.out ⟨W5.heap.size, 0, none⟩ 1 1 [.int .u64 eid, .int .i64 es, .int .i64 eg] rfl rfl HNW.out (by simp [Value.oneCell']) (by unfold maxLen; omega) (by omega) hbase ?_; intro v' w10 hown hgrow _; have HOWN := Lib.hid hown; have HGR := Lib.hid hgrow; clear hown hgrow)

        have HF := Lib.hid ((HRW.out.box (.cells #[.int .u64 eid, .int .i64 es, .int .i64 eg] 157)).add HPN.out (e := (eid, es, eg)) HOWN.out HGR.out)
        clear HRW HRO HNW HOWN HGR y0 y1 y2 HY HPN
        go_roundw
        case rel => exact ⟨i + 1, by omega, by go_num, by rw [HT2.out, HST.out.1], by rw [HT2.out, HST.out.2]; exact HF.out⟩
        case measure => simp [intOf]; omega
      | false =>
        by_cases hke : k < eid
        · have hst := putL_now (r := (s, g)) (e := (eid, es, eg)) hd hke
          rw [← HTK.out] at hst
          have HST := Lib.hid hst
          clear hst hd HTK
          have hrb := HRB.out.below HRW.out.be
          have p0 := hrb.c 0 _ rfl
          have p1 := hrb.c 1 _ rfl
          clear hrb
          obtain ⟨pl, hplist⟩ : ∃ pl, putL k (s, g) T1 = pl := ⟨_, rfl⟩
          rw [hplist] at HRW HPN HST
          clear hplist

          have HRO : Hid ((W5.alloc (.cells #[.int .u64 k, .int .i64 s, .int .i64 g] 157)).ownsRow W4.heap.size 157 3 (.slice lA pn lc) pn (cellsN pl)) := Lib.hid (by have := (HRW.out.box (.cells #[.int .u64 k, .int .i64 s, .int .i64 g] 157)).row; rw [HPN.out] at this; exact this)
          have HNW := Lib.hid (World.news_of_block (w := W5.alloc (.cells #[.int .u64 k, .int .i64 s, .int .i64 g] 157)) (B := W5.heap.size) (cs := #[.int .u64 k, .int .i64 s, .int .i64 g]) (t := 157) (fr := (0, 0)) (heap_alloc_last W5 _))
          have hbase : W4.heap.size ≤ (W5.alloc (.cells #[.int .u64 k, .int .i64 s, .int .i64 g] 157)).heap.size := by rw [World.size_alloc]; have := HRW.out.be.size; omega
          go_upto_region 12 with (at_builtin; refine wpList_append_own _ rfl _ _ 113 rfl W4.heap.size 157 i0 _ 3 24 Try.underlying113 hi0 hz0 hz1 hz2 rfl (by decide) (.slice lA pn lc) pn (cellsN pl) rfl HRO.out ⟨W5.heap.size, 0, none⟩ 1 1 [.int .u64 k, .int .i64 s, .int .i64 g] rfl rfl HNW.out (by simp [Value.oneCell']) (by unfold maxLen; omega) (by omega) hbase ?_; intro v' w10 hown hgrow _; have HOWN := Lib.hid hown; have HGR := Lib.hid hgrow; clear hown hgrow)
          have HRW6 := Lib.hid ((HRW.out.box (.cells #[.int .u64 k, .int .i64 s, .int .i64 g] 157)).add HPN.out (e := (k, s, g)) HOWN.out HGR.out)
          have hy6 : Bx w10 Y [.int .u64 eid, .int .i64 es, .int .i64 eg] := by
            have h1 := HY.out.below (below_new W5 (.cells #[.int .u64 k, .int .i64 s, .int .i64 g] 157))
            have hne : some Y ≠ (Value.slice lA pn lc).ownBlock := fun q => by
              have := (HYN.out Y q.symm)
              omega
            have q := HGR.out.block Y h1.lt hne
            exact ⟨Nat.lt_of_lt_of_le h1.lt HGR.out.size, fun i v hj => (World.cell?_of_block q).trans (h1.c i v hj), fun i => (World.frozen?_of_block q).trans (h1.f i)⟩
          have HY6 := Lib.hid hy6
          clear hy6 HRW HRO HNW HOWN HGR HY p0 p1 y0 hbase
          have HPN6 : Hid ((pl ++ [(k, (s, g))]).length = pn + 1) := Lib.hid (by rw [List.length_append, HPN.out]; rfl)
          obtain ⟨lA6, lc6, rfl, _, _⟩ := ownSlice HRW6.out.row
          rw [HPN6.out]
          obtain ⟨pl6, hpl6⟩ : ∃ pl6, pl ++ [(k, (s, g))] = pl6 := ⟨_, rfl⟩
          rw [hpl6] at HRW6 HPN6 HST
          rw [HPN6.out] at HRW6
          have HPN := HPN6
          clear hpl6
          have y0 := HY6.out.c 0 _ rfl
          have y1 := HY6.out.c 1 _ rfl
          have y2 := HY6.out.c 2 _ rfl

          have HRO : Hid ((w10.alloc (.cells #[.int .u64 eid, .int .i64 es, .int .i64 eg] 157)).ownsRow W4.heap.size 157 3 (.slice lA6 (pn + 1) lc6) (pn + 1) (cellsN pl6)) := Lib.hid (by have := (HRW6.out.box (.cells #[.int .u64 eid, .int .i64 es, .int .i64 eg] 157)).row; rw [HPN6.out] at this; exact this)
          have HNW := Lib.hid (World.news_of_block (w := w10.alloc (.cells #[.int .u64 eid, .int .i64 es, .int .i64 eg] 157)) (B := w10.heap.size) (cs := #[.int .u64 eid, .int .i64 es, .int .i64 eg]) (t := 157) (fr := (0, 0)) (heap_alloc_last w10 _))
          have hbase : W4.heap.size ≤ (w10.alloc (.cells #[.int .u64 eid, .int .i64 es, .int .i64 eg] 157)).heap.size := by rw [World.size_alloc]; have := HRW6.out.be.size; omega
          go_wp2_with (at_builtin; refine wpList_append_own _ rfl _ _ 113 rfl W4.heap.size 157 i0 _ 3 24 Try.underlying113 hi0 hz0 hz1 hz2 rfl (by decide) (.slice lA6 (pn + 1) lc6) (pn + 1) (cellsN pl6) rfl HRO.out ⟨w10.heap.size, 0, none⟩ 1 1 [.int .u64 eid, .int .i64 es, .int .i64 eg] rfl rfl HNW.out (by simp [Value.oneCell']) (by unfold maxLen; omega) (by omega) hbase ?_; intro v' w11 hown hgrow _; have HOWN2 := Lib.hid hown; have HGR2 := Lib.hid hgrow; clear hown hgrow)

          have HF := Lib.hid ((HRW6.out.box (.cells #[.int .u64 eid, .int .i64 es, .int .i64 eg] 157)).add HPN6.out (e := (eid, es, eg)) HOWN2.out HGR2.out)
          clear HRW6 HRO HNW HOWN2 HGR2 y0 y1 y2 HY6 HPN6 HPN
          go_roundw
          case rel => exact ⟨i + 1, by omega, by go_num, by rw [HT2.out, HST.out.1], by rw [HT2.out, HST.out.2]; exact HF.out⟩
          case measure => simp [intOf]; omega
        · have hst := putL_not (r := (s, g)) (e := (eid, es, eg)) hd hke
          rw [← HTK.out] at hst
          have HST := Lib.hid hst
          clear hst hd HTK
          have y1 := HY.out.c 1 _ rfl
          have y2 := HY.out.c 2 _ rfl
          obtain ⟨pl, hplist⟩ : ∃ pl, putL k (s, g) T1 = pl := ⟨_, rfl⟩
          rw [hplist] at HRW HPN HST
          clear hplist

          have HRO : Hid ((W5.alloc (.cells #[.int .u64 eid, .int .i64 es, .int .i64 eg] 157)).ownsRow W4.heap.size 157 3 (.slice lA pn lc) pn (cellsN pl)) := Lib.hid (by have := (HRW.out.box (.cells #[.int .u64 eid, .int .i64 es, .int .i64 eg] 157)).row; rw [HPN.out] at this; exact this)
          have HNW := Lib.hid (World.news_of_block (w := W5.alloc (.cells #[.int .u64 eid, .int .i64 es, .int .i64 eg] 157)) (B := W5.heap.size) (cs := #[.int .u64 eid, .int .i64 es, .int .i64 eg]) (t := 157) (fr := (0, 0)) (heap_alloc_last W5 _))
          have hbase : W4.heap.size ≤ (W5.alloc (.cells #[.int .u64 eid, .int .i64 es, .int .i64 eg] 157)).heap.size := by rw [World.size_alloc]; have := HRW.out.be.size; omega
          go_wp2_with (at_builtin; refine wpList_append_own _ rfl _ _ 113 rfl W4.heap.size 157 i0 _ 3 24 Try.underlying113 hi0 hz0 hz1 hz2 rfl (by decide) (.slice lA pn lc) pn (cellsN pl) rfl HRO.out ⟨W5.heap.size, 0, none⟩ 1 1 [.int .u64 eid, .int .i64 es, .int .i64 eg] rfl rfl HNW.out (by simp [Value.oneCell']) (by unfold maxLen; omega) (by omega) hbase ?_; intro v' w10 hown hgrow _; have HOWN := Lib.hid hown; have HGR := Lib.hid hgrow; clear hown hgrow)

          have HF := Lib.hid ((HRW.out.box (.cells #[.int .u64 eid, .int .i64 es, .int .i64 eg] 157)).add HPN.out (e := (eid, es, eg)) HOWN.out HGR.out)
          clear HRW HRO HNW HOWN HGR y0 y1 y2 HY HPN
          go_roundw
          case rel => exact ⟨i + 1, by omega, by go_num, by rw [HT2.out, HST.out.1], by rw [HT2.out, HST.out.2]; exact HF.out⟩
          case measure => simp [intOf]; omega
    · as_aux_lemma =>
      obtain rfl : i = ll := by omega
      have htk : L.take i = L := by rw [← HLL.out, List.take_length]
      rw [htk] at hrw
      rw [htk]
      clear htk
      have hx0 := HX.out.below hrw.be
      have HRW0 := Lib.hid hrw
      clear hrw hx0
      obtain ⟨lA0, hlA0⟩ : ∃ a, lA = a := ⟨_, rfl⟩
      obtain ⟨lc0, hlc0⟩ : ∃ a, lc = a := ⟨_, rfl⟩
      rw [hlA0, hlc0] at HRW0
      rw [hlA0, hlc0]
      clear hlA0 hlc0
      cases hd : (L.any fun e => decide (k < e.1)) with
      | true =>
        have hpa := putL_all (r := (s, g)) hd
        have hrw := HRW0.out
        have hlen : (putL k (s, g) L).length = i + 1 := by rw [← hpa, insI_len, HLL.out]
        rw [hlen] at hrw
        rw [← hpa] at hrw
        rw [hlen]
        clear hlen
        have HRW : Hid (RW W4 wr (.slice lA0 (i + 1) lc0) (insI L k (s, g))) := Lib.hid hrw
        clear HRW0 hrw hpa hd
        go_upto_region 16 with (fail)
        have hrl : (insI L k (s, g)).length = i + 1 := by rw [insI_len, HLL.out]
        have hrow9 := HRW.out.row
        rw [hrl] at hrow9
        have HROW := Lib.hid hrow9
        clear hrow9 hrl

        have hX1 := HX.out.below HRW.out.be
        have hR1 := HRS.out.below HRW.out.be
        have x0 := hX1.c 0 _ rfl
        have x1 := hX1.c 1 _ rfl
        have x2 := hX1.c 2 _ rfl
        have f1 := hX1.f 1
        have f2 := hX1.f 2
        have HX2 := Lib.hid ((hX1.set 1 (.slice lA0 (i + 1) lc0)).set 2 (.int .i64 ((vv : Int) + 1)))
        have HR2 := Lib.hid ((hR1.other (a := ⟨P, 1, none⟩) (by show P ≠ R; omega) (.slice lA0 (i + 1) lc0)).other (a := ⟨P, 2, none⟩) (by show P ≠ R; omega) (.int .i64 ((vv : Int) + 1)))
        have HB2 := Lib.hid (bl1 (b := P) (k := 2) (bl1 (b := P) (k := 1) (HB4.out.trans (HRW.out.be.mono HB4.out.size)) HP0.out (.slice lA0 (i + 1) lc0)) HP0.out (.int .i64 ((vv : Int) + 1)))
        have HRW2 : Hid (((wr.setCell ⟨P, 1, none⟩ (.slice lA0 (i + 1) lc0)).setCell ⟨P, 2, none⟩ (.int .i64 ((vv : Int) + 1))).ownsRow W4.heap.size 157 3 (.slice lA0 (i + 1) lc0) (i + 1) (cellsN (insI L k (s, g)))) := Lib.hid (ownsRow_same HROW.out (fun g hg => by
          have := (HROW.out.lt g hg).1
          have := HX.out.lt
          rw [Below.heap_setCell _ _ _ _ (by show g ≠ P; omega), Below.heap_setCell _ _ _ _ (by show g ≠ P; omega)]))
        clear hX1 hR1
        go_upto_region 18 with (fail)
        generalize (wr.setCell ⟨P, 1, none⟩ (.slice lA0 (i + 1) lc0)).setCell ⟨P, 2, none⟩ (.int .i64 ((vv : Int) + 1)) = W6 at *
        clear x0 x1 x2 f1 f2
        have x0 := HX2.out.c 0 _ rfl
        have x1 := HX2.out.c 1 _ rfl
        have x2 := HX2.out.c 2 _ rfl
        have u0 := HR2.out.c 0 _ rfl
        have u1 := HR2.out.c 1 _ rfl
        have u2 := HR2.out.c 2 _ rfl
        have f0 := HR2.out.f 0
        have f1 := HR2.out.f 1
        have f2 := HR2.out.f 2

        have HP := Lib.hid (HR2.out.put3 (.int .i64 (n : Int)) (.slice lA0 (i + 1) lc0) (.int .i64 ((vv : Int) + 1)))
        have HBF := Lib.hid (below_put3 HB2.out HR0.out (.int .i64 (n : Int)) (.slice lA0 (i + 1) lc0) (.int .i64 ((vv : Int) + 1)))
        have HRF : Hid ((((W6.setCell ⟨R, 0, none⟩ (.int .i64 (n : Int))).setCell ⟨R, 1, none⟩ (.slice lA0 (i + 1) lc0)).setCell ⟨R, 2, none⟩ (.int .i64 ((vv : Int) + 1))).ownsRow W4.heap.size 157 3 (.slice lA0 (i + 1) lc0) (i + 1) (cellsN (insI L k (s, g)))) := Lib.hid (ownsRow_same HRW2.out (fun g hg => by
          have := (HRW2.out.lt g hg).1
          have := HRS.out.lt
          rw [Below.heap_setCell _ _ _ _ (by show g ≠ R; omega), Below.heap_setCell _ _ _ _ (by show g ≠ R; omega), Below.heap_setCell _ _ _ _ (by show g ≠ R; omega)]))
        have HLE := Lib.hid HB4.out.size
        clear HX2 HR2 HB2 HRW2 HROW HX HRS HB4 HRW
        go_wp2
        have q0 := HP.out.c 0 _ rfl
        have q1 := HP.out.c 1 _ rfl
        have q2 := HP.out.c 2 _ rfl
        exact bodyPost_ret (v := .tuple #[.agg #[.int .i64 (n : Int), .slice lA0 (i + 1) lc0, .int .i64 ((vv : Int) + 1)], .bool true]) (by simp [results, Try.results77, go_sem, q0, q1, q2]) rfl ⟨_, rfl, HO.out _ lA0 lc0 HRF.out, HBF.out, fun b hb => .inr (by
          obtain ⟨o, e⟩ := (VBm_mV (n := n) (A := lA0) (l := (i + 1)) (c := lc0) (v := vv + 1)).1 hb
          have := HLE.out
          rcases HRF.out.2 with ⟨hv, _⟩ | ⟨g', cap, cur, hv, hg', _⟩
          · injection hv with hv
            rw [hv] at e
            cases e
          · injection hv with hv
            rw [hv] at e
            injection e with e
            injection e with e
            omega)⟩
      | false =>
        have hpe := putL_end (r := (s, g)) hd
        have hpl : (putL k (s, g) L).length = i := by
          have := congrArg List.length hpe
          rw [insI_len, List.length_append, HLL.out] at this
          simpa using this.symm
        rw [hpl] at HRW0
        rw [hpl]
        have hrb := HRB.out.below HRW0.out.be
        have p0 := hrb.c 0 _ rfl
        have p1 := hrb.c 1 _ rfl
        have HPE := Lib.hid hpe
        have HPL := Lib.hid hpl
        clear hrb hpe hpl hd
        obtain ⟨pl, hplist⟩ : ∃ pl, putL k (s, g) L = pl := ⟨_, rfl⟩
        rw [hplist] at HRW0 HPL HPE
        clear hplist

        have HRO : Hid ((wr.alloc (.cells #[.int .u64 k, .int .i64 s, .int .i64 g] 157)).ownsRow W4.heap.size 157 3 (.slice lA0 i lc0) i (cellsN pl)) := Lib.hid (by have := (HRW0.out.box (.cells #[.int .u64 k, .int .i64 s, .int .i64 g] 157)).row; rw [HPL.out] at this; exact this)
        have HNW := Lib.hid (World.news_of_block (w := wr.alloc (.cells #[.int .u64 k, .int .i64 s, .int .i64 g] 157)) (B := wr.heap.size) (cs := #[.int .u64 k, .int .i64 s, .int .i64 g]) (t := 157) (fr := (0, 0)) (heap_alloc_last wr _))
        have hbase : W4.heap.size ≤ (wr.alloc (.cells #[.int .u64 k, .int .i64 s, .int .i64 g] 157)).heap.size := by rw [World.size_alloc]; have := HRW0.out.be.size; omega
        go_upto_region 16 with (at_builtin; refine wpList_append_own _ rfl _ _ 113 rfl W4.heap.size 157 i0 _ 3 24 Try.underlying113 hi0 hz0 hz1 hz2 rfl (by decide) (.slice lA0 i lc0) i (cellsN pl) rfl HRO.out ⟨wr.heap.size, 0, none⟩ 1 1 [.int .u64 k, .int .i64 s, .int .i64 g] rfl rfl HNW.out (by simp [Value.oneCell']) (by unfold maxLen; omega) (by omega) hbase ?_; intro v' w10 hown hgrow _; have HOWN := Lib.hid hown; have HGR := Lib.hid hgrow; clear hown hgrow)

        have hrw9 := (HRW0.out.box (.cells #[.int .u64 k, .int .i64 s, .int .i64 g] 157)).add HPL.out (e := (k, s, g)) HOWN.out HGR.out
        rw [← HPE.out] at hrw9
        have HRW := Lib.hid hrw9
        clear hrw9 HRW0 HRO HNW HOWN HGR p0 p1 hbase HPE HPL
        have hrl : (insI L k (s, g)).length = i + 1 := by rw [insI_len, HLL.out]
        have hrow9 := HRW.out.row
        rw [hrl] at hrow9
        have HROW := Lib.hid hrow9
        clear hrow9 hrl

        have hX1 := HX.out.below HRW.out.be
        have hR1 := HRS.out.below HRW.out.be
        obtain ⟨lA, lc, rfl, _, _⟩ := ownSlice HROW.out
        have x0 := hX1.c 0 _ rfl
        have x1 := hX1.c 1 _ rfl
        have x2 := hX1.c 2 _ rfl
        have f1 := hX1.f 1
        have f2 := hX1.f 2
        have HX2 := Lib.hid ((hX1.set 1 (.slice lA (i + 1) lc)).set 2 (.int .i64 ((vv : Int) + 1)))
        have HR2 := Lib.hid ((hR1.other (a := ⟨P, 1, none⟩) (by show P ≠ R; omega) (.slice lA (i + 1) lc)).other (a := ⟨P, 2, none⟩) (by show P ≠ R; omega) (.int .i64 ((vv : Int) + 1)))
        have HB2 := Lib.hid (bl1 (b := P) (k := 2) (bl1 (b := P) (k := 1) (HB4.out.trans (HRW.out.be.mono HB4.out.size)) HP0.out (.slice lA (i + 1) lc)) HP0.out (.int .i64 ((vv : Int) + 1)))
        have HRW2 : Hid (((w10.setCell ⟨P, 1, none⟩ (.slice lA (i + 1) lc)).setCell ⟨P, 2, none⟩ (.int .i64 ((vv : Int) + 1))).ownsRow W4.heap.size 157 3 (.slice lA (i + 1) lc) (i + 1) (cellsN (insI L k (s, g)))) := Lib.hid (ownsRow_same HROW.out (fun g hg => by
          have := (HROW.out.lt g hg).1
          have := HX.out.lt
          rw [Below.heap_setCell _ _ _ _ (by show g ≠ P; omega), Below.heap_setCell _ _ _ _ (by show g ≠ P; omega)]))
        clear hX1 hR1
        go_upto_region 18 with (fail)
        generalize (w10.setCell ⟨P, 1, none⟩ (.slice lA (i + 1) lc)).setCell ⟨P, 2, none⟩ (.int .i64 ((vv : Int) + 1)) = W6 at *
        clear x0 x1 x2 f1 f2
        have x0 := HX2.out.c 0 _ rfl
        have x1 := HX2.out.c 1 _ rfl
        have x2 := HX2.out.c 2 _ rfl
        have u0 := HR2.out.c 0 _ rfl
        have u1 := HR2.out.c 1 _ rfl
        have u2 := HR2.out.c 2 _ rfl
        have f0 := HR2.out.f 0
        have f1 := HR2.out.f 1
        have f2 := HR2.out.f 2

        have HP := Lib.hid (HR2.out.put3 (.int .i64 (n : Int)) (.slice lA (i + 1) lc) (.int .i64 ((vv : Int) + 1)))
        have HBF := Lib.hid (below_put3 HB2.out HR0.out (.int .i64 (n : Int)) (.slice lA (i + 1) lc) (.int .i64 ((vv : Int) + 1)))
        have HRF : Hid ((((W6.setCell ⟨R, 0, none⟩ (.int .i64 (n : Int))).setCell ⟨R, 1, none⟩ (.slice lA (i + 1) lc)).setCell ⟨R, 2, none⟩ (.int .i64 ((vv : Int) + 1))).ownsRow W4.heap.size 157 3 (.slice lA (i + 1) lc) (i + 1) (cellsN (insI L k (s, g)))) := Lib.hid (ownsRow_same HRW2.out (fun g hg => by
          have := (HRW2.out.lt g hg).1
          have := HRS.out.lt
          rw [Below.heap_setCell _ _ _ _ (by show g ≠ R; omega), Below.heap_setCell _ _ _ _ (by show g ≠ R; omega), Below.heap_setCell _ _ _ _ (by show g ≠ R; omega)]))
        have HLE := Lib.hid HB4.out.size
        clear HX2 HR2 HB2 HRW2 HROW HX HRS HB4 HRW
        go_wp2
        have q0 := HP.out.c 0 _ rfl
        have q1 := HP.out.c 1 _ rfl
        have q2 := HP.out.c 2 _ rfl
        exact bodyPost_ret (v := .tuple #[.agg #[.int .i64 (n : Int), .slice lA (i + 1) lc, .int .i64 ((vv : Int) + 1)], .bool true]) (by simp [results, Try.results77, go_sem, q0, q1, q2]) rfl ⟨_, rfl, HO.out _ lA lc HRF.out, HBF.out, fun b hb => .inr (by
          obtain ⟨o, e⟩ := (VBm_mV (n := n) (A := lA) (l := (i + 1)) (c := lc) (v := vv + 1)).1 hb
          have := HLE.out
          rcases HRF.out.2 with ⟨hv, _⟩ | ⟨g', cap, cur, hv, hg', _⟩
          · injection hv with hv
            rw [hv] at e
            cases e
          · injection hv with hv
            rw [hv] at e
            injection e with e
            injection e with e
            omega)⟩
end


end Go.Proofs.Ytoaikdnooafjmaa
