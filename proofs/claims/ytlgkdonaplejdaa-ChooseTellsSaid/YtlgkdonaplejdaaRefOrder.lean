/- The document's order of candidates (ganglionref10), by contract. -/
import Derived.Test.YtlgkdonaplejdaaChooseApart
import Derived.Test.YtlgkdonaplejdaaRefDist
namespace Go.Proofs.Ytlgkdonaplejdaa
open Go.RowKit Go.Shelf Go.Sort Go.Lib

def natV (t : Nat) : Value := .int .i64 (t : Int)
def cand (zs : List SpotT) (its : List ItT) (t : Nat) : TagC := ((spAt zs t, vecOf (itAt its t)), t)
theorem candsL_map (zs : List SpotT) (its : List ItT) : candsL zs its = (List.range zs.length).map (cand zs its) := rfl
/-- In order, and of all places so far. -/
structure OrdTo (zs : List SpotT) (its : List ItT) (i : Nat) (L : List Nat) : Prop where
  perm : L.Perm (List.range i)
  sort : (L.map (cand zs its)).Pairwise ltX
theorem OrdTo.nil {zs : List SpotT} {its : List ItT} : OrdTo zs its 0 [] := ⟨List.Perm.refl _, by simp⟩
theorem OrdTo.len {zs : List SpotT} {its : List ItT} {i : Nat} {L : List Nat} (h : OrdTo zs its i L) : L.length = i := by simpa using h.perm.length_eq
theorem OrdTo.lt {zs : List SpotT} {its : List ItT} {i : Nat} {L : List Nat} (h : OrdTo zs its i L) : ∀ t ∈ L, t < i := fun t ht => by simpa using h.perm.mem_iff.1 ht
theorem OrdTo.next {zs : List SpotT} {its : List ItT} {i : Nat} {L : List Nat} (h : OrdTo zs its i L) (j : Nat) (hj : j ≤ L.length) (hR : ∀ x ∈ L.drop j, ltS (spAt zs i) (spAt zs x) = true) (hP : ∀ q (hq : q < L.length), j = q + 1 → ltS (spAt zs i) (spAt zs L[q]) = false) : OrdTo zs its (i + 1) (L.take j ++ i :: L.drop j) := by
  have hs := h.sort
  have e : (L.take j ++ L.drop j).map (cand zs its) = L.map (cand zs its) := by rw [List.take_append_drop]
  rw [← e, List.map_append, List.pairwise_append] at hs
  have hR' : ∀ x ∈ L.drop j, ltX (cand zs its i) (cand zs its x) := fun x hx => .inl (hR x hx)
  have hP' : ∀ x ∈ L.take j, ltX (cand zs its x) (cand zs its i) := by
    intro x hx
    obtain ⟨p, hp, rfl⟩ := List.getElem_of_mem hx
    rw [List.length_take] at hp
    obtain ⟨q, hq⟩ : ∃ q, min j L.length = q + 1 := ⟨min j L.length - 1, by omega⟩
    have hqL : q < L.length := by omega
    have hlast : ltX (cand zs its L[q]) (cand zs its i) := by
      exact .inr ⟨hP q hqL (by omega), h.lt _ (List.getElem_mem _)⟩
    rw [List.getElem_take]
    by_cases hpq : p = q
    · subst hpq; exact hlast
    · refine ltX_trans ?_ hlast
      have := (List.pairwise_iff_getElem.1 h.sort) p q (by simp; omega) (by simpa using hqL) (by omega)
      simpa using this
  refine ⟨?_, ?_⟩
  · rw [List.range_succ]
    refine List.perm_middle.trans ?_
    rw [List.take_append_drop]
    exact (List.Perm.cons i h.perm).trans (List.perm_append_singleton i _).symm
  · rw [List.map_append, List.map_cons, List.pairwise_append]
    refine ⟨hs.1, ?_, ?_⟩
    · rw [List.pairwise_cons]
      refine ⟨?_, hs.2.1⟩
      intro y hy
      obtain ⟨x, hx, rfl⟩ := List.mem_map.1 hy
      exact hR' x hx
    · intro a ha b hb
      obtain ⟨x, hx, rfl⟩ := List.mem_map.1 ha
      rcases List.mem_cons.1 hb with rfl | hb
      · exact hP' x hx
      · exact hs.2.2 _ ha _ hb
/-- The row while a number is moved to its place. -/
def rowO (L : List Nat) (j : Nat) (x : Int) : List Value := (L.take j).map natV ++ .int .i64 x :: (L.drop j).map natV
theorem rowO_len (L : List Nat) (j : Nat) (x : Int) : (rowO L j x).length = L.length + 1 := by
  unfold rowO
  rw [List.length_append, List.length_cons, List.length_map, List.length_map, List.length_take, List.length_drop]
  omega
theorem rowO_start (L : List Nat) (k : Nat) (hk : L.length = k) (x : Int) : rowO L k x = L.map natV ++ [.int .i64 x] := by
  unfold rowO
  rw [List.take_of_length_le (by omega), List.drop_eq_nil_of_le (by omega)]
  rfl
theorem rowO_get {L : List Nat} {q : Nat} (x : Int) (hq : q < L.length) : (rowO L (q + 1) x)[q]? = some (natV L[q]) := by
  unfold rowO
  rw [List.getElem?_append_left (by simp; omega), List.getElem?_map, List.getElem?_take, if_pos (by omega), List.getElem?_eq_getElem hq]
  rfl
theorem rowO_set {L : List Nat} {j : Nat} (x y : Int) (hj : j ≤ L.length) : (rowO L j x).set j (.int .i64 y) = rowO L j y := by
  unfold rowO
  have hl : ((L.take j).map natV).length = j := by rw [List.length_map, List.length_take]; omega
  rw [List.set_append_right _ _ (by omega), hl, Nat.sub_self, List.set_cons_zero]
theorem rowO_down {L : List Nat} {q : Nat} (hq : q < L.length) : rowO L (q + 1) (L[q] : Int) = rowO L q (L[q] : Int) := by
  unfold rowO
  rw [List.take_succ_eq_append_getElem hq, List.drop_eq_getElem_cons hq, List.map_append, List.map_cons, List.append_assoc]
  rfl
theorem rowO_hole {L : List Nat} {j : Nat} (x : Int) (hj : j ≤ L.length) : (rowO L j x)[j]? = some (.int .i64 x) := by
  unfold rowO
  have hl : ((L.take j).map natV).length = j := by rw [List.length_map, List.length_take]; omega
  rw [List.getElem?_append_right (by omega), hl, Nat.sub_self, List.getElem?_cons_zero]
theorem rowO_end (L : List Nat) (j i : Nat) : rowO L j (i : Int) = (L.take j ++ i :: L.drop j).map natV := by
  unfold rowO
  rw [List.map_append, List.map_cons]
  rfl
def OrderC (zs : List SpotT) (its : List ItT) (w : World) (e : Ending) (W : World) : Prop :=
  ∃ (L : List Nat) (A : Option Addr) (c : Nat), e = .returned (.slice A zs.length c) ∧ OrdTo zs its zs.length L ∧ W.ownsRow w.heap.size 3 1 (.slice A zs.length c) zs.length (L.map natV) ∧ Below w.heap.size w W
theorem refSpot_val (x y : SpotT) (W : World) (b : Bool) (h : ltS x y = b) :
    Calls Try.prog 83 #[.agg #[.int .u64 x.1.1, .int .u64 x.1.2, .int .i64 x.2], .agg #[.int .u64 y.1.1, .int .u64 y.1.2, .int .i64 y.2]] W fun e w' => e = .returned (.bool b) ∧ Grown W w' := h ▸ refSpot_any x y W

set_option maxRecDepth 100000 in
set_option maxHeartbeats 4000000 in
theorem refOrder_any (its : List ItT) (A : Option Addr) (zs : List SpotT) (ca : Nat) (w : World) (hA : RdS w w.heap.size A zs) (hl : zs.length ≤ 1000) :
    Calls Try.prog 126 #[.slice A zs.length ca] w (OrderC zs its w) := by
  have mixed : Try.prog.follows .mixedOrders = true := by kernel_rfl
  obtain ⟨i2, hq0, hq1, hq2, hq3⟩ := info_parts info_int
  have HA := Lib.hid hA
  have HL := Lib.hid hl
  clear hA hl
  go_enter Try.func126, Try.ntmps126
  go_wp2
  go_loopw [8, 3] (fun i v wr => ∃ (k : Nat) (L : List Nat), k ≤ zs.length ∧ i = .int .i64 k ∧ Hid (OrdTo zs its k L) ∧ wr.ownsRow w.heap.size 3 1 v k (L.map natV) ∧ Below w.heap.size w wr) (fun i _ _ => zs.length - (intOf i).toNat)
  case atStart => exact ⟨0, [], Nat.zero_le _, rfl, OrdTo.nil, World.ownsRow_nil _ _ _ _, Below.refl _ _⟩
  case round =>
    obtain ⟨k, L, hk, rfl, HO, hown, hbel⟩ := hrel
    have hl1 := HL.out
    have hsz := hbel.size
    by_cases hlt : k < zs.length
    · have hkl : (k : Int) < (zs.length : Int) := by omega
      have hk0 : (0 : Int) ≤ (k : Int) := by omega
      have hkn : ((k : Int)).toNat = k := Int.toNat_natCast k
      obtain ⟨v3, hv3⟩ : ∃ v, u3 = v := ⟨_, rfl⟩
      subst hv3
      have hvl : ∃ A c, u3 = .slice A k c := by obtain ⟨A, c, h, _, _⟩ := ownSlice hown; exact ⟨A, c, h⟩
      obtain ⟨A3, c3, rfl⟩ := hvl
      go_wp2_with (at_builtin; refine wpList_append_lies _ rfl _ _ 44 rfl w.heap.size 3 i2 (.int .i64 0) 1 8 Try.underlying44 hq0 hq1 hq2 hq3 rfl (by decide) _ k (L.map natV) rfl (hown.alloc _) ⟨wr.heap.size, 0, none⟩ 1 1 [.int .i64 (k : Int)] rfl rfl (World.news_of_block (cs := #[.int .i64 (k : Int)]) (t := 3) (fr := (0, 0)) (heap_alloc_new wr _)) (by simp [Value.oneCell']) (by decide) (by unfold maxLen; omega) (by omega) (by simp; omega) (wr.heap.size + 1) (by simp) ?_; intro g cap W3 hown3 hgrow hat hlt3)
      have hb3 := ownBase (hown.alloc (.cells #[.int .i64 (k : Int)] 3)) (hbel.alloc hbel.size (.cells #[.int .i64 (k : Int)] 3)) (Nat.le_refl _) (by simp; omega) hgrow
      have HLL := Lib.hid HO.out.len
      have hown4 : W3.ownsRow w.heap.size 3 1 (.slice (some ⟨g, 0, none⟩) (k + 1) cap) (k + 1) (rowO L k (k : Int)) := by rw [rowO_start L k HLL.out]; exact hown3
      clear hgrow hat hlt3 hown hown3 hbel hsz
      go_wp2
      go_loopw [5] (fun v wq => ∃ (j : Nat) (x : Int), j ≤ k ∧ v = .int .i64 j ∧ wq.ownsRow w.heap.size 3 1 (.slice (some ⟨g, 0, none⟩) (k + 1) cap) (k + 1) (rowO L j x) ∧ Hid (∀ y ∈ L.drop j, ltS (spAt zs k) (spAt zs y) = true) ∧ Below w.heap.size w wq) (fun v _ => (intOf v).toNat)
      case atStart => exact ⟨k, k, Nat.le_refl _, rfl, hown4, by rw [Hid, List.drop_eq_nil_of_le (by rw [HLL.out]; exact Nat.le_refl _)]; simp, hb3⟩
      case round =>
        clear hown4 hb3
        obtain ⟨j, x, hj, rfl, hown, HR, hbel⟩ := hrel
        have hgw : g < wr.heap.size := by
          obtain ⟨g', e, _, h⟩ := ownPos hown (by omega)
          injection e with e
          injection e with e
          omega
        have hgb : w.heap.size ≤ g := by
          obtain ⟨g', e, h, _⟩ := ownPos hown (by omega)
          injection e with e
          injection e with e
          omega
        have hjL : j ≤ L.length := by have := HLL.out; omega
        have HOW := Lib.hid hown
        have HB := Lib.hid hbel
        rcases Nat.eq_zero_or_pos j with rfl | hjp
        · have HN : Hid (OrdTo zs its (k + 1) (L.take 0 ++ k :: L.drop 0)) := HO.out.next 0 hjL HR.out (fun q _ h => by omega)
          clear hown hbel
          go_wp2_with fail
          go_big_quiet (fail)
          have hY := own_below HOW.out (below_draws wr nq wr.heap.size)
          have HBY := Lib.hid (HB.out.trans ((below_draws wr nq wr.heap.size).mono HB.out.size))
          generalize wr.drewN nq = Y at *
          have c0 : Y.cell? ⟨g, 0, none⟩ = some (.int .i64 x) := by rw [hY.cellAt 0 (by omega)]; exact rowO_hole x hjL
          have f0 := hY.frozenAt 0
          have hst := (hY.stored 0 (.int .i64 (k : Int))).1
          rw [rowO_set x (k : Int) hjL, rowO_end] at hst
          have HST := Lib.hid hst
          have HBS := Lib.hid (HBY.out.setCell hgb (p := ⟨g, 0, none⟩) (.int .i64 (k : Int)))
          have hk1 : (0 : Int) < ((k + 1 : Nat) : Int) := by omega
          clear hY hst HOW HB HR
          go_wp2
          go_roundw
          case rel => exact ⟨k + 1, _, by omega, by go_num, HN, HST.out, HBS.out⟩
          case measure => simp [intOf]; omega
        · obtain ⟨q, rfl⟩ : ∃ q, j = q + 1 := ⟨j - 1, by omega⟩
          have hqL : q < L.length := by omega
          have htk : L[q] < k := HO.out.lt _ (List.getElem_mem hqL)
          obtain ⟨b, off, rfl, hb, y0, y1, y2⟩ := (HA.out.below hbel) k _ (spAt_lt hlt)
          obtain ⟨b', off', he, hb', p0, p1, p2⟩ := (HA.out.below hbel) L[q] _ (spAt_lt (show L[q] < zs.length by omega))
          injection he with he
          injection he with e1 e2
          subst e1 e2
          have hcq : wr.cell? ⟨g, q, none⟩ = some (.int .i64 (L[q] : Int)) := by rw [hown.cellAt q (by omega), rowO_get x hqL]; rfl
          have HNF : Hid (ltS (spAt zs k) (spAt zs L[q]) = false → OrdTo zs its (k + 1) (L.take (q + 1) ++ k :: L.drop (q + 1))) := Lib.hid fun hr => HO.out.next (q + 1) hjL HR.out (fun q' hq' h => by
              have e : q' = q := by omega
              subst e
              exact hr)
          have HNT : Hid (ltS (spAt zs k) (spAt zs L[q]) = true → ∀ y ∈ L.drop q, ltS (spAt zs k) (spAt zs y) = true) := Lib.hid fun hr y hy => by
            rw [List.drop_eq_getElem_cons hqL] at hy
            rcases List.mem_cons.1 hy with rfl | hy
            · exact hr
            · exact HR.out y hy
          have HDN : Hid (rowO L (q + 1) (L[q] : Int) = rowO L q (L[q] : Int)) := rowO_down hqL
          have HGQ : Hid (∀ x, (rowO L (q + 1) x)[q]? = some (.int .i64 (L[q] : Int))) := Lib.hid fun x => rowO_get x hqL
          generalize L[q] = t at *
          generalize spAt zs k = s at *
          generalize spAt zs t = u at *
          obtain ⟨r, hr⟩ : ∃ r, ltS s u = r := ⟨_, rfl⟩
          rw [hr] at HNF HNT
          obtain ⟨⟨sa, sb⟩, sc⟩ := s
          obtain ⟨⟨ua, ub⟩, uc⟩ := u
          simp only at y0 y1 y2 p0 p1 p2
          have hbw := HB.out.size
          have g0 := fun n os => cell_grown (n := n) (os := os) (a := ⟨b, off + k * 3, none⟩) (Nat.lt_of_lt_of_le hb hbw) y0
          have g1 := fun n os => cell_grown (n := n) (os := os) (a := ⟨b, off + k * 3 + 1, none⟩) (Nat.lt_of_lt_of_le hb hbw) y1
          have g2 := fun n os => cell_grown (n := n) (os := os) (a := ⟨b, off + k * 3 + 2, none⟩) (Nat.lt_of_lt_of_le hb hbw) y2
          have f0 := fun n os => cell_grown (n := n) (os := os) (a := ⟨b, off + t * 3, none⟩) (Nat.lt_of_lt_of_le hb hbw) p0
          have f1 := fun n os => cell_grown (n := n) (os := os) (a := ⟨b, off + t * 3 + 1, none⟩) (Nat.lt_of_lt_of_le hb hbw) p1
          have f2 := fun n os => cell_grown (n := n) (os := os) (a := ⟨b, off + t * 3 + 2, none⟩) (Nat.lt_of_lt_of_le hb hbw) p2
          have f3 := fun n os => cell_grown (n := n) (os := os) (a := ⟨g, q, none⟩) hgw hcq
          have hq1 : q ≤ 1000 := by omega
          have hqi : (q : Int) ≤ 1000 := by omega
          have hq0 : (0 : Int) ≤ (q : Int) := by omega
          have hq2 : ((q : Int)).toNat = q := Int.toNat_natCast q
          have hq3 : IntKind.i64.wrap (q : Int) = (q : Int) := by rw [IntKind.wrap_i64]; omega
          have hq4 : (q : Int) < ((k + 1 : Nat) : Int) := by omega
          have hq5 : (q : Int) < (k : Int) + 1 := by omega
          have hq6 : (q : Int) + 1 < (k : Int) + 1 := by omega
          have hq7 : ((q + 1 : Nat) : Int) - 1 = (q : Int) := by omega
          have hq8 : ((q + 1 : Nat) : Int) < ((k + 1 : Nat) : Int) := by omega
          have hq9 : (((q + 1 : Nat) : Int)).toNat = q + 1 := Int.toNat_natCast _
          have ht0 : (0 : Int) ≤ (t : Int) := by omega
          have ht1 : (t : Int) < (zs.length : Int) := by omega
          have ht2 : ((t : Int)).toNat = t := Int.toNat_natCast t
          have hgq : (0 : Int) < ((q + 1 : Nat) : Int) := by omega
          have hgd : decide ((0 : Int) < ((q + 1 : Nat) : Int)) = true := by simp
          clear hown hbel y0 y1 y2 p0 p1 p2 hcq
          go_wp2_with fail
          refine wp_region_quiet_grown (by assumption) (by kernel_rfl) ?_
          repeat (go_big_quiet_step ((go_at_call 83; exact Calls.grown_of (refSpot_val ((_, _), _) ((_, _), _) _ _ (by assumption)))))
          refine wpQuiet_nil ?_
          intro _ hw'
          obtain ⟨⟨nq, osq⟩, hw''⟩ := hw'
          subst hw''
          have hGB : Below wr.heap.size wr (grow (wr.drewN nq) osq) := (show Grown wr (grow (wr.drewN nq) osq) from ⟨nq, osq, rfl⟩).below
          have hY := own_below HOW.out hGB
          have HBY := Lib.hid (HB.out.trans (hGB.mono HB.out.size))
          clear g0 g1 g2 f0 f1 f2 f3 hGB
          generalize grow (wr.drewN nq) osq = Y at *
          have c0 : Y.cell? ⟨g, q + 1, none⟩ = some (.int .i64 x) := by rw [hY.cellAt (q + 1) (by omega)]; exact rowO_hole x hjL
          have c1 : Y.cell? ⟨g, q, none⟩ = some (.int .i64 (t : Int)) := by rw [hY.cellAt q (by omega)]; exact HGQ.out x
          have f0 := hY.frozenAt (q + 1)
          cases r
          · have hst := (hY.stored (q + 1) (.int .i64 (k : Int))).1
            rw [rowO_set x (k : Int) hjL, rowO_end] at hst
            have HST := Lib.hid hst
            have HBS := Lib.hid (HBY.out.setCell hgb (p := ⟨g, q + 1, none⟩) (.int .i64 (k : Int)))
            clear hY hst HOW HB HR HNT hr
            go_wp2
            go_roundw
            case rel => exact ⟨k + 1, _, by omega, by go_num, HNF.out rfl, HST.out, HBS.out⟩
            case measure => simp [intOf]; omega
          · have hst := (hY.stored (q + 1) (.int .i64 (t : Int))).1
            rw [rowO_set x (t : Int) hjL, HDN.out] at hst
            have HST := Lib.hid hst
            have HBS := Lib.hid (HBY.out.setCell hgb (p := ⟨g, q + 1, none⟩) (.int .i64 (t : Int)))
            clear hY hst HOW HB HR HNF hr
            go_wp2
            go_roundw
            case rel => exact ⟨q, (t : Int), by omega, by go_num, HST.out, HNT.out rfl, HBS.out⟩
            case measure => simp [intOf]
    · obtain rfl : k = zs.length := by omega
      obtain ⟨A3, c3, rfl, _, _⟩ := ownSlice hown
      go_wp2
      go_ret
      exact ⟨L, A3, c3, rfl, HO.out, hown, hbel⟩

end Go.Proofs.Ytlgkdonaplejdaa
