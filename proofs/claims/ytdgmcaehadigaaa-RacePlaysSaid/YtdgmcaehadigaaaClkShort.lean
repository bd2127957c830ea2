/- clock's short, Short, Tick, join, Join, by contract. -/
import Derived.Test.YtdgmcaehadigaaaClkFns
import Derived.Test.YtdgmcaehadigaaaClkClone
namespace Go.Proofs.Ytdgmcaehadigaaa
open Go.RowKit

theorem slice_num (b m : Nat) (hm : m ≤ 65) (x : Int) (hx : x = (m : Int)) (w : World) :
    (Instr.sliceAt 175 (.pointer (some ⟨b, 0, none⟩)) none (some (.int .i64 x)) none).run Try.prog w = .ok (.slice (some ⟨b, 0, none⟩) m 65) w := by
  subst hx
  have hs : ∀ w, (sizeOf 3).run Try.prog w = .ok 1 w := fun w => Try.sizeOf3 w
  have h1 : (0 : Int) ≤ (m : Int) := by omega
  simp [Instr.sliceAt, Instr.sliceBounds, Instr.sliceBound, asIntOf, Instr.sureAddr, run_underlying Try.underlying175, hs, h1, Addr.add]
  intro h
  omega

set_option maxRecDepth 100000 in
set_option maxHeartbeats 2000000 in
theorem short_any (N : List Int) (hN : IsNum N) (w : World) :
    Calls Try.prog 114 #[.agg (cellsA N)] w (IntsOut (shortL N) w) := by
  have h1 := Arr.new w N 175
  have hb : Below w.heap.size w (w.alloc (.cells (cellsA N) 175)) := (Below.refl _ w).alloc (Nat.le_refl _) _
  have hR : ∀ m, Rd (Value.int .i64) (w.alloc (.cells (cellsA N) 175)) (w.alloc (.cells (cellsA N) 175)).heap.size (some ⟨w.heap.size, 0, none⟩) (N.take m) := fun m k z hz => by
    have : N[k]? = some z := by
      rw [List.getElem?_take] at hz
      split at hz
      · exact hz
      · cases hz
    exact h1.rd (by simp) k z this
  have hl : ∀ m, m ≤ 65 → (N.take m).length = m := fun m hm => by rw [List.length_take, hN.1]; omega
  have HN := Lib.hid hN
  have H1 := Lib.hid h1
  have HB := Lib.hid hb
  have HR := Lib.hid hR
  have HL := Lib.hid hl
  clear hN h1 hb hR hl
  go_enter Try.func114, Try.ntmps114
  go_wp2
  go_loop [3] (fun i => ∃ e : Nat, e ≤ 65 ∧ i = .int .i64 e ∧ Hid (endN N 65 = endN N e)) (fun i => (intOf i).toNat)
  case atStart => exact ⟨65, Nat.le_refl _, rfl, rfl⟩
  case round =>
    obtain ⟨e, he, rfl, HE⟩ := hrel
    have hs : ∀ m, endN N m = m → endN N 65 = m → shortL N = N.take m := fun m _ h2 => by rw [shortL, h2]
    have HS := Lib.hid hs
    clear hs
    rcases Nat.eq_zero_or_pos e with rfl | hpos
    · have HT : Hid (shortL N = N.take 0) := HS.out 0 rfl HE.out
      have HLL := Lib.hid (HL.out 0 (by omega))
      go_wp2_with fail
      refine Calls.mono (Clone_any (some ⟨w.heap.size, 0, none⟩) (N.take 0) 65 _ (HR.out 0) (by simp) (fun h => by cases h)) ?_
      rw [← HT.out]
      rintro e w' ⟨A, c, rfl, hr, h2, h3, h4, hb2⟩
      have HO := Lib.hid (show IntsOut (shortL N) w (.returned (.slice A (shortL N).length c)) w' from ⟨A, c, rfl, hr, h2, h3, h4, Below.next HB.out hb2⟩)
      clear hr h2 h3 h4 hb2
      go_wp2
      go_ret
      exact HO.out
    · obtain ⟨k, rfl⟩ : ∃ k, e = k + 1 := ⟨e - 1, by omega⟩
      obtain ⟨hc, _⟩ := H1.out k _ (List.getElem?_eq_getElem (by rw [HN.out.1]; omega))
      have hg : N.getD k 0 = N[k]'(by rw [HN.out.1]; omega) := by
        rw [List.getD_eq_getElem?_getD, List.getElem?_eq_getElem (by rw [HN.out.1]; omega)]; rfl
      have HG := Lib.hid hg
      clear hg
      generalize N[k]'(by rw [HN.out.1]; omega) = z at *
      have hk0 : (0 : Int) < ((k + 1 : Nat) : Int) := by omega
      have hk1 : (0 : Int) ≤ (k : Int) := by omega
      have hk2 : (k : Int) < 65 := by omega
      have hk3 : IntKind.i64.wrap (((k + 1 : Nat) : Int) - 1) = (k : Int) := by
        rw [IntWalk.i64_in _ (by omega)]; omega
      by_cases hz : z = 0
      · subst hz
        have HEN : Hid (endN N 65 = endN N k) := HE.out.trans (endN_step HG.out)
        go_wp2
        go_round
        case rel => exact ⟨k, by omega, by go_num, HEN⟩
        case measure => simp [intOf]
      · have hst : endN N (k + 1) = k + 1 := endN_stop (by rw [HG.out]; exact hz)
        have HT : Hid (shortL N = N.take (k + 1)) := HS.out (k + 1) hst (HE.out.trans hst)
        have HLL := Lib.hid (HL.out (k + 1) he)
        have hsl := slice_num w.heap.size (k + 1) he ((k : Int) + 1) (by omega)
        go_wp2_with fail
        have hq := Clone_any (some ⟨w.heap.size, 0, none⟩) (N.take (k + 1)) 65 _ (HR.out (k + 1)) (by rw [HLL.out]; omega) (fun h => by cases h)
        rw [HLL.out] at hq
        refine Calls.mono hq ?_
        rw [← HT.out]
        rintro e w' ⟨A, c, rfl, hr, h2, h3, h4, hb2⟩
        have HO := Lib.hid (show IntsOut (shortL N) w (.returned (.slice A (shortL N).length c)) w' from ⟨A, c, rfl, hr, h2, h3, h4, Below.next HB.out hb2⟩)
        clear hr h2 h3 h4 hb2
        go_wp2
        go_ret
        exact HO.out

theorem Short_any (A : Option Addr) (zs : List Int) (c : Nat) (w : World) (hA : Rd (Value.int .i64) w w.heap.size A zs) (hl : zs.length ≤ 9223372036854775807) :
    Calls Try.prog 84 #[.slice A zs.length c] w (IntsOut (shortL (numL zs)) w) := by
  go_enter Try.func84, Try.ntmps84
  go_wp2_with fail
  refine (numbersOf_any A zs c _ hA hl).mono ?_
  rintro e w1 ⟨rfl, hb1⟩
  go_wp2_with fail
  refine (short_any _ (numL_num zs) _).mono ?_
  rintro e w2 ⟨A2, c2, rfl, hr, h2, h3, h4, hb2⟩
  have HO := Lib.hid (show IntsOut (shortL (numL zs)) w (.returned (.slice A2 (shortL (numL zs)).length c2)) w2 from ⟨A2, c2, rfl, hr, h2, h3, h4, Below.next hb1 hb2⟩)
  clear hr h2 h3 h4 hb2 hb1 hA
  generalize shortL (numL zs) = L at *
  go_wp2
  go_ret
  exact HO.out

/-- Joined up to worker k. -/
def joinTo (M N : List Int) (k : Nat) : List Int := (List.range 65).map fun j => if j < k then max (M.getD j 0) (N.getD j 0) else M.getD j 0
theorem joinTo_len (M N : List Int) (k : Nat) : (joinTo M N k).length = 65 := by simp [joinTo]
theorem joinTo_zero {M : List Int} (N : List Int) (hM : M.length = 65) : joinTo M N 0 = M := num_ext (joinTo_len _ _ _) hM fun k hk => by
  rw [joinTo, range_getD _ _ _ _ hk, if_neg (Nat.not_lt_zero _)]
theorem joinTo_all (M N : List Int) : joinTo M N 65 = joinN M N := num_ext (joinTo_len _ _ _) (joinN_len _ _) fun k hk => by
  rw [joinTo, range_getD _ _ _ _ hk, if_pos hk, joinN_at _ _ hk]
theorem joinTo_at (M N : List Int) {k : Nat} (hk : k < 65) : (joinTo M N k).getD k 0 = M.getD k 0 := by
  rw [joinTo, range_getD _ _ _ _ hk, if_neg (Nat.lt_irrefl k)]
theorem joinTo_step (M N : List Int) {k : Nat} (hk : k < 65) : (joinTo M N k).set k (max (M.getD k 0) (N.getD k 0)) = joinTo M N (k + 1) := by
  refine num_ext (by rw [List.length_set, joinTo_len]) (joinTo_len _ _ _) fun j hj => ?_
  rw [set_getD _ _ _ _ (by rw [joinTo_len]; exact hk), joinTo, joinTo, range_getD _ _ _ _ hj, range_getD _ _ _ _ hj]
  by_cases e : k = j
  · subst e; rw [if_pos rfl, if_pos (Nat.lt_succ_self _)]
  · rw [if_neg e]
    by_cases h : j < k
    · rw [if_pos h, if_pos (by omega)]
    · rw [if_neg h, if_neg (by omega)]
theorem getD_at {N : List Int} {k : Nat} (h : k < N.length) : N[k]? = some (N.getD k 0) := by
  rw [List.getD_eq_getElem?_getD, List.getElem?_eq_getElem h]; rfl

set_option maxRecDepth 100000 in
set_option maxHeartbeats 4000000 in
theorem join_any (M N : List Int) (hM : M.length = 65) (hN : N.length = 65) (w : World) :
    Calls Try.prog 131 #[.agg (cellsA M), .agg (cellsA N)] w (NumsOut (joinN M N) w) := by
  have hz := zero_num
  have HM := Lib.hid hM
  have HN := Lib.hid hN
  have hs : Hid (Arr (((w.alloc (.cells (cellsA M) 175)).alloc (.cells (cellsA N) 175)).alloc (.cells (cellsA zeroN) 175)) w.heap.size (joinTo M N 0) ∧
      Arr (((w.alloc (.cells (cellsA M) 175)).alloc (.cells (cellsA N) 175)).alloc (.cells (cellsA zeroN) 175)) (w.heap.size + 1) N ∧
      Arr (((w.alloc (.cells (cellsA M) 175)).alloc (.cells (cellsA N) 175)).alloc (.cells (cellsA zeroN) 175)) (w.heap.size + 2) zeroN ∧
      Below w.heap.size w (((w.alloc (.cells (cellsA M) 175)).alloc (.cells (cellsA N) 175)).alloc (.cells (cellsA zeroN) 175))) := by
    have a1 := Arr.new w M 175
    have a2 := Arr.new (w.alloc (.cells (cellsA M) 175)) N 175
    have a3 := Arr.new ((w.alloc (.cells (cellsA M) 175)).alloc (.cells (cellsA N) 175)) zeroN 175
    have bn : ∀ (W : World) o, Below W.heap.size W (W.alloc o) := fun W o => (Below.refl _ W).alloc (Nat.le_refl _) o
    have a1' := (a1.below (bn _ (.cells (cellsA N) 175)) (by simp)).below (bn _ (.cells (cellsA zeroN) 175)) (by simp; omega)
    have a2' := a2.below (bn _ (.cells (cellsA zeroN) 175)) (by simp)
    simp only [World.size_alloc] at a2' a3
    rw [Hid, joinTo_zero N hM]
    exact ⟨a1', a2', a3, (((Below.refl _ w).alloc (Nat.le_refl _) _).alloc (by simp) _).alloc (by simp; omega) _⟩
  clear hM hN
  go_enter Try.func131, Try.ntmps131
  go_wp2
  go_loopw [6] (fun i wr => ∃ k : Nat, k ≤ 65 ∧ i = .int .i64 k ∧ Arr wr w.heap.size (joinTo M N k) ∧ Arr wr (w.heap.size + 1) N ∧ Arr wr (w.heap.size + 2) zeroN ∧ Below w.heap.size w wr) (fun i _ => 65 - (intOf i).toNat)
  case atStart => exact ⟨0, Nat.zero_le _, rfl, hs.out.1, hs.out.2.1, hs.out.2.2.1, hs.out.2.2.2⟩
  case round =>
    obtain ⟨k, hk, rfl, ha1, ha2, ha3, hbel⟩ := hrel
    by_cases hlt : k < 65
    · obtain ⟨c1, f1⟩ := ha1 k _ (getD_at (by rw [joinTo_len]; exact hlt))
      obtain ⟨c2, _⟩ := ha2 k _ (getD_at (by rw [HN.out]; exact hlt))
      rw [joinTo_at _ _ hlt] at c1
      have hst := ha1.store k (max (M.getD k 0) (N.getD k 0))
      rw [joinTo_step _ _ hlt] at hst
      have HS := Lib.hid hst
      have HO2 := Lib.hid (ha2.other (c := w.heap.size) (by omega) k (.int .i64 (max (M.getD k 0) (N.getD k 0))))
      have HO3 := Lib.hid (ha3.other (c := w.heap.size) (by omega) k (.int .i64 (max (M.getD k 0) (N.getD k 0))))
      have HBS := Lib.hid (hbel.setCell (p := ⟨w.heap.size, k, none⟩) (Nat.le_refl _) (.int .i64 (max (M.getD k 0) (N.getD k 0))))
      generalize M.getD k 0 = x at *
      generalize N.getD k 0 = y at *
      clear ha1 ha2 ha3 hbel hst
      have hk0 : (0 : Int) ≤ (k : Int) := by omega
      have hk1 : (k : Int) < 65 := by omega
      have hm : max x y = if x < y then y else x := by split <;> omega
      rw [hm] at HS HO2 HO3 HBS
      clear hm
      go_wp2
      go_region
      go_wp2
      go_roundw
      case rel => exact ⟨k + 1, by omega, by go_num, HS.out, HO2.out, HO3.out, HBS.out.trans (below_draws _ 1 _)⟩
      case measure => simp [intOf]; omega
    · obtain rfl : k = 65 := by omega
      rw [joinTo_all] at ha1
      have HF := Lib.hid (ha3.setCells (M := joinN M N) (by rw [joinN_len]; rfl))
      have HG := Lib.hid (below_setCells ((joinN M N).map (Value.int .i64)) 0 hbel (b := w.heap.size + 2) (by omega))
      go_wp2_with (first | (refine wpList_loadN rfl _ rfl _ rfl _ ha1 (joinN_len _ _) ?_) | (refine wpList_storeN rfl _ _ rfl _ rfl _ rfl _ ha3 rfl (joinN_len _ _) ?_))
      have hr := load_num _ _ HF.out (joinN_len M N)
      refine bodyPost_ret (v := .agg (cellsA (joinN M N))) ?_ rfl ⟨rfl, HG.out⟩
      exact results_cell _ rfl _ _ rfl _ hr

theorem Join_any (A B : Option Addr) (zs ys : List Int) (c d : Nat) (w : World) (hA : Rd (Value.int .i64) w w.heap.size A zs) (hB : Rd (Value.int .i64) w w.heap.size B ys) (hl : zs.length ≤ 9223372036854775807) (hk : ys.length ≤ 9223372036854775807) :
    Calls Try.prog 111 #[.slice A zs.length c, .slice B ys.length d] w (IntsOut (shortL (joinN (numL zs) (numL ys))) w) := by
  have HA := Lib.hid hA
  have HB := Lib.hid hB
  clear hA hB
  go_enter Try.func111, Try.ntmps111
  go_wp2_with fail
  refine (numbersOf_any A zs c _ HA.out hl).mono ?_
  rintro e w1 ⟨rfl, hb1⟩
  have HB1 := Lib.hid ((HB.out.below hb1).more hb1.size)
  go_wp2_with fail
  refine (numbersOf_any B ys d _ HB1.out hk).mono ?_
  rintro e w2 ⟨rfl, hb2⟩
  have hb2' := Below.next hb1 hb2
  clear hb1 hb2 HB HB1 HA
  go_wp2_with fail
  refine (join_any (numL zs) (numL ys) (numL_len _) (numL_len _) _).mono ?_
  rintro e w3 ⟨rfl, hb3⟩
  have hb3' := Below.next hb2' hb3
  clear hb2' hb3
  go_wp2_with fail
  refine (short_any _ (joinN_num (numL_num zs)) _).mono ?_
  rintro e w4 ⟨A2, c2, rfl, hr, h2, h3, h4, hb4⟩
  have HO := Lib.hid (show IntsOut (shortL (joinN (numL zs) (numL ys))) w (.returned (.slice A2 (shortL (joinN (numL zs) (numL ys))).length c2)) w4 from ⟨A2, c2, rfl, hr, h2, h3, h4, Below.next hb3' hb4⟩)
  clear hr h2 h3 h4 hb4 hb3'
  generalize shortL (joinN (numL zs) (numL ys)) = L at *
  go_wp2
  go_ret
  exact HO.out

set_option maxHeartbeats 2000000 in
theorem Tick_any (A : Option Addr) (zs : List Int) (c : Nat) (x : Int) (w : World) (hA : Rd (Value.int .i64) w w.heap.size A zs) (hl : zs.length ≤ 9223372036854775807) :
    Calls Try.prog 70 #[.slice A zs.length c, .int .i64 x] w (IntsOut (shortL (tickN (numL zs) x)) w) := by
  have hz := zero_num
  have HI := Lib.hid (numL_num zs)
  have HA := Lib.hid hA
  clear hA
  have hn := HI.out.1
  have key : ∀ (T : List Int) (wk : World), IsNum T → Below w.heap.size w wk → Calls Try.prog 114 #[.agg (cellsA T)] wk (IntsOut (shortL T) w) := fun T wk hT hb =>
    (short_any T hT wk).mono fun e w' ⟨A2, c2, he, hr, h2, h3, h4, hb4⟩ => ⟨A2, c2, he, hr, h2, h3, h4, Below.next hb hb4⟩
  have HK := Lib.hid key
  clear key
  generalize hN : numL zs = N at *
  have HC : Hid (∀ w, Rd (Value.int .i64) w w.heap.size A zs → Calls Try.prog 112 #[.slice A zs.length c] w (NumsOut N w)) := Lib.hid fun w h => hN ▸ numbersOf_any A zs c w h hl
  clear hN hl
  by_cases h1 : 0 ≤ x ∧ x ≤ 64
  · obtain ⟨k, rfl⟩ : ∃ k : Nat, x = (k : Int) := ⟨x.toNat, by omega⟩
    have hk : k < 65 := by omega
    have HW := Lib.hid (show decide (0 ≤ (k : Int) ∧ (k : Int) ≤ 64) = true from decide_eq_true h1)
    have hk0 : (0 : Int) ≤ (k : Int) := h1.1
    have hk1 : (k : Int) < 65 := by omega
    have hge := HI.out.2 k
    have HG := Lib.hid (getD_at (N := N) (k := k) (by omega))
    have HT : Hid (tickN N (k : Int) = if N.getD k 0 < 4611686018427387904 then N.set k (N.getD k 0 + 1) else N) := by
      rw [Hid, tickN, Int.toNat_natCast]
      by_cases h : N.getD k 0 < 4611686018427387904
      · rw [if_pos ⟨h1, h⟩, if_pos h]
      · rw [if_neg (fun e => h e.2), if_neg h]
    have HTN := Lib.hid (tickN_num HI.out (k : Int))
    clear h1
    generalize N.getD k 0 = z at *
    go_enter Try.func70, Try.ntmps70
    go_wp2_with fail
    refine (HC.out _ HA.out).mono ?_
    rintro e w1 ⟨rfl, hb1⟩
    have ha1 := Arr.new w1 zeroN 175
    have ha2 := ha1.setCells (M := N) (by rw [hn]; rfl)
    have hbl := below_setCells (N.map (Value.int .i64)) 0 (hb1.alloc hb1.size (.cells (cellsA zeroN) 175)) (b := w1.heap.size) hb1.size
    go_wp2_with (refine wpList_storeN rfl _ _ rfl _ rfl N rfl _ ha1 rfl hn ?_)
    obtain ⟨wk, hwk⟩ : ∃ wk, (w1.alloc (.cells (cellsA zeroN) 175)).setCells w1.heap.size 0 (N.map (Value.int .i64)) = wk := ⟨_, rfl⟩
    rw [hwk] at ha2 hbl ⊢
    have hsz := hb1.size
    generalize w1.heap.size = b at *
    clear ha1 hwk hb1 HC HA
    obtain ⟨c1, f1⟩ := ha2 k z HG.out
    have hst := ha2.store k (z + 1)
    have hbs := hbl.setCell (p := ⟨b, k, none⟩) hsz (.int .i64 (z + 1))
    refine (isWorker_any _ _).mono ?_
    rw [HW.out]
    rintro e w' ⟨rfl, rfl⟩
    by_cases hzz : z < 4611686018427387904
    · rw [Hid, if_pos hzz] at HT
      have hw1 : IntKind.i64.wrap (z + 1) = z + 1 := IntWalk.i64_in _ (by omega)
      rw [HT] at HTN
      have HT2 := Lib.hid HT
      have hl2 : (N.set k (z + 1)).length = 65 := by rw [List.length_set, hn]
      have HKK := Lib.hid (fun wk hb => HK.out _ wk HTN.out hb)
      clear HT HK
      generalize N.set k (z + 1) = T at *
      go_wp2_with (refine wpList_loadN rfl _ rfl _ rfl T hst hl2 ?_)
      refine (HKK.out _ hbs).mono ?_
      rintro e w' ⟨A2, c2, rfl, hr, h2, h3, h4, hb4⟩
      have HO := Lib.hid (show IntsOut (shortL T) w (.returned (.slice A2 (shortL T).length c2)) w' from ⟨A2, c2, rfl, hr, h2, h3, h4, hb4⟩)
      clear hr h2 h3 h4 hb4
      go_wp2
      go_ret
      rw [HT2.out]
      exact HO.out
    · rw [Hid, if_neg hzz] at HT
      rw [HT] at HTN
      have HT2 := Lib.hid HT
      have HKK := Lib.hid (fun wk hb => HK.out _ wk HTN.out hb)
      clear HT HK hst hbs
      go_wp2_with (refine wpList_loadN rfl _ rfl _ rfl N ha2 hn ?_)
      refine (HKK.out _ hbl).mono ?_
      rintro e w' ⟨A2, c2, rfl, hr, h2, h3, h4, hb4⟩
      have HO := Lib.hid (show IntsOut (shortL N) w (.returned (.slice A2 (shortL N).length c2)) w' from ⟨A2, c2, rfl, hr, h2, h3, h4, hb4⟩)
      clear hr h2 h3 h4 hb4
      go_wp2
      go_ret
      rw [HT2.out]
      exact HO.out
  · have HW := Lib.hid (show decide (0 ≤ x ∧ x ≤ 64) = false from decide_eq_false h1)
    rw [tick_none (fun e => h1 e.1)]
    clear h1
    go_enter Try.func70, Try.ntmps70
    go_wp2_with fail
    refine (HC.out _ HA.out).mono ?_
    rintro e w1 ⟨rfl, hb1⟩
    have ha1 := Arr.new w1 zeroN 175
    have ha2 := ha1.setCells (M := N) (by rw [hn]; rfl)
    have hbl := below_setCells (N.map (Value.int .i64)) 0 (hb1.alloc hb1.size (.cells (cellsA zeroN) 175)) (b := w1.heap.size) hb1.size
    go_wp2_with (refine wpList_storeN rfl _ _ rfl _ rfl N rfl _ ha1 rfl hn ?_)
    obtain ⟨wk, hwk⟩ : ∃ wk, (w1.alloc (.cells (cellsA zeroN) 175)).setCells w1.heap.size 0 (N.map (Value.int .i64)) = wk := ⟨_, rfl⟩
    rw [hwk] at ha2 hbl ⊢
    generalize w1.heap.size = b at *
    clear ha1 hwk hb1 HC HA
    refine (isWorker_any _ _).mono ?_
    rw [HW.out]
    rintro e w' ⟨rfl, rfl⟩
    have HKK := Lib.hid (fun wk hb => HK.out _ wk HI.out hb)
    clear HK
    go_wp2_with (refine wpList_loadN rfl _ rfl _ rfl N ha2 hn ?_)
    refine (HKK.out _ hbl).mono ?_
    rintro e w' ⟨A2, c2, rfl, hr, h2, h3, h4, hb4⟩
    have HO := Lib.hid (show IntsOut (shortL N) w (.returned (.slice A2 (shortL N).length c2)) w' from ⟨A2, c2, rfl, hr, h2, h3, h4, hb4⟩)
    clear hr h2 h3 h4 hb4
    generalize shortL N = L at *
    go_wp2
    go_ret
    exact HO.out

end Go.Proofs.Ytdgmcaehadigaaa
