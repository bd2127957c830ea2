/- The functions of package clock that leave numbers, by contract: what they leave lies in new memory. -/
import Derived.Test.YtdgmcaehadigaaaClkShort
namespace Go.Proofs.Ytdgmcaehadigaaa
open Go.RowKit

/-- Numbers that a call leaves in blocks that it has laid. -/
def IntsNew (L : List Int) (w : World) (e : Ending) (w' : World) : Prop :=
  ∃ A c, e = .returned (.slice A L.length c) ∧ (∀ k z, L[k]? = some z → ∃ b off, A = some ⟨b, off, none⟩ ∧ w.heap.size ≤ b ∧ b < w'.heap.size ∧ w'.cell? ⟨b, off + k, none⟩ = some (.int .i64 z)) ∧ Below w.heap.size w w'
theorem IntsNew.of_own {L : List Int} {w w' : World} {v : Value} (h : w'.ownsRow w.heap.size 3 1 v L.length (L.map (Value.int .i64))) (hb : Below w.heap.size w w') : IntsNew L w (.returned v) w' := by
  obtain ⟨A, c, rfl, _, _⟩ := ownSlice h
  refine ⟨A, c, rfl, fun k z hk => ?_, hb⟩
  obtain ⟨b, off, hA, hlt, hc⟩ := Rd.of_own (f := Value.int .i64) h k z hk
  refine ⟨b, off, hA, ?_, hlt, hc⟩
  rcases h.2 with ⟨hv, _⟩ | ⟨g, cap, cur, hv, hg, _⟩
  · injection hv with hv; rw [hv] at hA; cases hA
  · injection hv with hv
    rw [hv] at hA
    injection hA with hA
    injection hA with hA
    omega
theorem IntsNew.later {L : List Int} {w0 w w' : World} {e : Ending} (hb : Below w0.heap.size w0 w) (h : IntsNew L w e w') : IntsNew L w0 e w' := by
  obtain ⟨A, c, he, hr, hb2⟩ := h
  exact ⟨A, c, he, fun k z hk => by
    obtain ⟨b, off, hA, h1, h2, h3⟩ := hr k z hk
    exact ⟨b, off, hA, Nat.le_trans hb.size h1, h2, h3⟩, Below.next hb hb2⟩

set_option maxHeartbeats 2000000 in
theorem Clone_new (A : Option Addr) (zs : List Int) (c : Nat) (w : World) (hA : Rd (Value.int .i64) w w.heap.size A zs) (hl : zs.length ≤ 100000) (hcA : A = none → c = 0) :
    Calls Try.prog 132 #[.slice A zs.length c] w (IntsNew zs w) := by
  obtain ⟨i0, hi0, hz0, hz1, hz2⟩ := info_parts info_int
  cases A with
  | none =>
    have hn := hA.none_nil
    subst hn
    obtain rfl := hcA rfl
    have q : ∀ (w : World) (a : Option Addr) (n c n' c' : Nat), (binOp .eql 38 (.slice a n c) (.slice none n' c')).run Try.prog w = .ok (.bool a.isNone) w := fun w a n c n' c' => Lib.run_eql_slice_nil w _ _ a n c n' c' Try.underlying38
    go_enter Try.func132, Try.ntmps132
    go_wp2
    go_ret
    exact ⟨none, 0, rfl, fun k z hk => by simp at hk, Below.refl _ _⟩
  | some ad =>
    have q : ∀ (w : World) (a : Option Addr) (n c n' c' : Nat), (binOp .eql 38 (.slice a n c) (.slice none n' c')).run Try.prog w = .ok (.bool a.isNone) w := fun w a n c n' c' => Lib.run_eql_slice_nil w _ _ a n c n' c' Try.underlying38
    have hb0 : ∀ o, Below w.heap.size w (w.alloc o) := fun o => (Below.refl _ w).alloc (Nat.le_refl _) o
    clear hcA
    go_enter Try.func132, Try.ntmps132
    go_wp2_with (at_builtin; refine wpList_append_own _ rfl _ _ 38 rfl w.heap.size 3 i0 (.int .i64 0) 1 8 Try.underlying38 hi0 hz0 hz1 hz2 rfl (by decide) _ _ _ rfl (World.ownsRow_made w #[] 0 (Nat.le_refl _) (Nat.zero_le _) rfl) ad zs.length c (zs.map (Value.int .i64)) rfl ?c1 ?c2 ints_one ?c3 ?c4 ?c5 ?_)
    case c1 => simp
    case c2 => exact ((hA.below (hb0 _)).more (B' := w.heap.size) (Nat.le_refl _)).news
    case c3 => unfold maxLen; omega
    case c4 => omega
    case c5 => simp
    intro v' w1 hown hgrow _
    have hown2 : w1.ownsRow w.heap.size 3 1 v' zs.length (zs.map (Value.int .i64)) := by simpa using hown
    have hB : Below w.heap.size w w1 := (hb0 _).grown hgrow (by simp) (by intro k hk; simp [Value.ownBlock] at hk; omega)
    clear hown hgrow q hb0
    go_wp2
    go_ret
    exact IntsNew.of_own hown2 hB

set_option maxRecDepth 100000 in
set_option maxHeartbeats 2000000 in
theorem short_new (N : List Int) (hN : IsNum N) (w : World) :
    Calls Try.prog 114 #[.agg (cellsA N)] w (IntsNew (shortL N) w) := by
  have h1 := Arr.new w N 175
  have hb : Below w.heap.size w (w.alloc (.cells (cellsA N) 175)) := (Below.refl _ w).alloc (Nat.le_refl _) _
  have hR : ∀ m, Rd (Value.int .i64) (w.alloc (.cells (cellsA N) 175)) (w.alloc (.cells (cellsA N) 175)).heap.size (some ⟨w.heap.size, 0, none⟩) (N.take m) := fun m k z hz => by
    have : N[k]? = some z := by
      rw [List.getElem?_take] at hz
      split at hz
      · exact hz
      · cases hz
    exact h1.rd (by simp) k z this
  have hl : ∀ m, m ≤ 65 → (N.take m).length = m := fun m hm => by rw [List.length_take, hN.1]; omega
  have HN := Lib.hid hN
  have H1 := Lib.hid h1
  have HB := Lib.hid hb
  have HR := Lib.hid hR
  have HL := Lib.hid hl
  clear hN h1 hb hR hl
  go_enter Try.func114, Try.ntmps114
  go_wp2
  go_loop [3] (fun i => ∃ e : Nat, e ≤ 65 ∧ i = .int .i64 e ∧ Hid (endN N 65 = endN N e)) (fun i => (intOf i).toNat)
  case atStart => exact ⟨65, Nat.le_refl _, rfl, rfl⟩
  case round =>
    obtain ⟨e, he, rfl, HE⟩ := hrel
    have hs : ∀ m, endN N m = m → endN N 65 = m → shortL N = N.take m := fun m _ h2 => by rw [shortL, h2]
    have HS := Lib.hid hs
    clear hs
    rcases Nat.eq_zero_or_pos e with rfl | hpos
    · have HT : Hid (shortL N = N.take 0) := HS.out 0 rfl HE.out
      have HLL := Lib.hid (HL.out 0 (by omega))
      go_wp2_with fail
      refine Calls.mono (Clone_new (some ⟨w.heap.size, 0, none⟩) (N.take 0) 65 _ (HR.out 0) (by simp) (fun h => by cases h)) ?_
      rw [← HT.out]
      rintro e w' ⟨A, c, rfl, hr, hb2⟩
      have HO := Lib.hid (show IntsNew (shortL N) w (.returned (.slice A (shortL N).length c)) w' from IntsNew.later HB.out ⟨A, c, rfl, hr, hb2⟩)
      clear hr hb2
      go_wp2
      go_ret
      exact HO.out
    · obtain ⟨k, rfl⟩ : ∃ k, e = k + 1 := ⟨e - 1, by omega⟩
      obtain ⟨hc, _⟩ := H1.out k _ (List.getElem?_eq_getElem (by rw [HN.out.1]; omega))
      have hg : N.getD k 0 = N[k]'(by rw [HN.out.1]; omega) := by
        rw [List.getD_eq_getElem?_getD, List.getElem?_eq_getElem (by rw [HN.out.1]; omega)]; rfl
      have HG := Lib.hid hg
      clear hg
      generalize N[k]'(by rw [HN.out.1]; omega) = z at *
      have hk0 : (0 : Int) < ((k + 1 : Nat) : Int) := by omega
      have hk1 : (0 : Int) ≤ (k : Int) := by omega
      have hk2 : (k : Int) < 65 := by omega
      have hk3 : IntKind.i64.wrap (((k + 1 : Nat) : Int) - 1) = (k : Int) := by
        rw [IntWalk.i64_in _ (by omega)]; omega
      by_cases hz : z = 0
      · subst hz
        have HEN : Hid (endN N 65 = endN N k) := HE.out.trans (endN_step HG.out)
        go_wp2
        go_round
        case rel => exact ⟨k, by omega, by go_num, HEN⟩
        case measure => simp [intOf]
      · have hst : endN N (k + 1) = k + 1 := endN_stop (by rw [HG.out]; exact hz)
        have HT : Hid (shortL N = N.take (k + 1)) := HS.out (k + 1) hst (HE.out.trans hst)
        have HLL := Lib.hid (HL.out (k + 1) he)
        have hsl := slice_num w.heap.size (k + 1) he ((k : Int) + 1) (by omega)
        go_wp2_with fail
        have hq := Clone_new (some ⟨w.heap.size, 0, none⟩) (N.take (k + 1)) 65 _ (HR.out (k + 1)) (by rw [HLL.out]; omega) (fun h => by cases h)
        rw [HLL.out] at hq
        refine Calls.mono hq ?_
        rw [← HT.out]
        rintro e w' ⟨A, c, rfl, hr, hb2⟩
        have HO := Lib.hid (show IntsNew (shortL N) w (.returned (.slice A (shortL N).length c)) w' from IntsNew.later HB.out ⟨A, c, rfl, hr, hb2⟩)
        clear hr hb2
        go_wp2
        go_ret
        exact HO.out

theorem Join_new (A B : Option Addr) (zs ys : List Int) (c d : Nat) (w : World) (hA : Rd (Value.int .i64) w w.heap.size A zs) (hB : Rd (Value.int .i64) w w.heap.size B ys) (hl : zs.length ≤ 9223372036854775807) (hk : ys.length ≤ 9223372036854775807) :
    Calls Try.prog 111 #[.slice A zs.length c, .slice B ys.length d] w (IntsNew (shortL (joinN (numL zs) (numL ys))) w) := by
  have HA := Lib.hid hA
  have HB := Lib.hid hB
  clear hA hB
  go_enter Try.func111, Try.ntmps111
  go_wp2_with fail
  refine (numbersOf_any A zs c _ HA.out hl).mono ?_
  rintro e w1 ⟨rfl, hb1⟩
  have HB1 := Lib.hid ((HB.out.below hb1).more hb1.size)
  go_wp2_with fail
  refine (numbersOf_any B ys d _ HB1.out hk).mono ?_
  rintro e w2 ⟨rfl, hb2⟩
  have hb2' := Below.next hb1 hb2
  clear hb1 hb2 HB HB1 HA
  go_wp2_with fail
  refine (join_any (numL zs) (numL ys) (numL_len _) (numL_len _) _).mono ?_
  rintro e w3 ⟨rfl, hb3⟩
  have hb3' := Below.next hb2' hb3
  clear hb2' hb3
  go_wp2_with fail
  refine (short_new _ (joinN_num (numL_num zs)) _).mono ?_
  rintro e w4 ⟨A2, c2, rfl, hr, hb4⟩
  have HO := Lib.hid (show IntsNew (shortL (joinN (numL zs) (numL ys))) w (.returned (.slice A2 (shortL (joinN (numL zs) (numL ys))).length c2)) w4 from IntsNew.later hb3' ⟨A2, c2, rfl, hr, hb4⟩)
  clear hr hb4 hb3'
  generalize shortL (joinN (numL zs) (numL ys)) = L at *
  go_wp2
  go_ret
  exact HO.out

set_option maxHeartbeats 2000000 in
theorem Tick_new (A : Option Addr) (zs : List Int) (c : Nat) (x : Int) (w : World) (hA : Rd (Value.int .i64) w w.heap.size A zs) (hl : zs.length ≤ 9223372036854775807) :
    Calls Try.prog 70 #[.slice A zs.length c, .int .i64 x] w (IntsNew (shortL (tickN (numL zs) x)) w) := by
  have hz := zero_num
  have HI := Lib.hid (numL_num zs)
  have HA := Lib.hid hA
  clear hA
  have hn := HI.out.1
  have key : ∀ (T : List Int) (wk : World), IsNum T → Below w.heap.size w wk → Calls Try.prog 114 #[.agg (cellsA T)] wk (IntsNew (shortL T) w) := fun T wk hT hb =>
    (short_new T hT wk).mono fun e w' h => IntsNew.later hb h
  have HK := Lib.hid key
  clear key
  generalize hN : numL zs = N at *
  have HC : Hid (∀ w, Rd (Value.int .i64) w w.heap.size A zs → Calls Try.prog 112 #[.slice A zs.length c] w (NumsOut N w)) := Lib.hid fun w h => hN ▸ numbersOf_any A zs c w h hl
  clear hN hl
  by_cases h1 : 0 ≤ x ∧ x ≤ 64
  · obtain ⟨k, rfl⟩ : ∃ k : Nat, x = (k : Int) := ⟨x.toNat, by omega⟩
    have hk : k < 65 := by omega
    have HW := Lib.hid (show decide (0 ≤ (k : Int) ∧ (k : Int) ≤ 64) = true from decide_eq_true h1)
    have hk0 : (0 : Int) ≤ (k : Int) := h1.1
    have hk1 : (k : Int) < 65 := by omega
    have hge := HI.out.2 k
    have HG := Lib.hid (getD_at (N := N) (k := k) (by omega))
    have HT : Hid (tickN N (k : Int) = if N.getD k 0 < 4611686018427387904 then N.set k (N.getD k 0 + 1) else N) := by
      rw [Hid, tickN, Int.toNat_natCast]
      by_cases h : N.getD k 0 < 4611686018427387904
      · rw [if_pos ⟨h1, h⟩, if_pos h]
      · rw [if_neg (fun e => h e.2), if_neg h]
    have HTN := Lib.hid (tickN_num HI.out (k : Int))
    clear h1
    generalize N.getD k 0 = z at *
    go_enter Try.func70, Try.ntmps70
    go_wp2_with fail
    refine (HC.out _ HA.out).mono ?_
    rintro e w1 ⟨rfl, hb1⟩
    have ha1 := Arr.new w1 zeroN 175
    have ha2 := ha1.setCells (M := N) (by rw [hn]; rfl)
    have hbl := below_setCells (N.map (Value.int .i64)) 0 (hb1.alloc hb1.size (.cells (cellsA zeroN) 175)) (b := w1.heap.size) hb1.size
    go_wp2_with (refine wpList_storeN rfl _ _ rfl _ rfl N rfl _ ha1 rfl hn ?_)
    obtain ⟨wk, hwk⟩ : ∃ wk, (w1.alloc (.cells (cellsA zeroN) 175)).setCells w1.heap.size 0 (N.map (Value.int .i64)) = wk := ⟨_, rfl⟩
    rw [hwk] at ha2 hbl ⊢
    have hsz := hb1.size
    generalize w1.heap.size = b at *
    clear ha1 hwk hb1 HC HA
    obtain ⟨c1, f1⟩ := ha2 k z HG.out
    have hst := ha2.store k (z + 1)
    have hbs := hbl.setCell (p := ⟨b, k, none⟩) hsz (.int .i64 (z + 1))
    refine (isWorker_any _ _).mono ?_
    rw [HW.out]
    rintro e w' ⟨rfl, rfl⟩
    by_cases hzz : z < 4611686018427387904
    · rw [Hid, if_pos hzz] at HT
      have hw1 : IntKind.i64.wrap (z + 1) = z + 1 := IntWalk.i64_in _ (by omega)
      rw [HT] at HTN
      have HT2 := Lib.hid HT
      have hl2 : (N.set k (z + 1)).length = 65 := by rw [List.length_set, hn]
      have HKK := Lib.hid (fun wk hb => HK.out _ wk HTN.out hb)
      clear HT HK
      generalize N.set k (z + 1) = T at *
      go_wp2_with (refine wpList_loadN rfl _ rfl _ rfl T hst hl2 ?_)
      refine (HKK.out _ hbs).mono ?_
      rintro e w' ⟨A2, c2, rfl, hr, hb4⟩
      have HO := Lib.hid (show IntsNew (shortL T) w (.returned (.slice A2 (shortL T).length c2)) w' from ⟨A2, c2, rfl, hr, hb4⟩)
      clear hr hb4
      go_wp2
      go_ret
      rw [HT2.out]
      exact HO.out
    · rw [Hid, if_neg hzz] at HT
      rw [HT] at HTN
      have HT2 := Lib.hid HT
      have HKK := Lib.hid (fun wk hb => HK.out _ wk HTN.out hb)
      clear HT HK hst hbs
      go_wp2_with (refine wpList_loadN rfl _ rfl _ rfl N ha2 hn ?_)
      refine (HKK.out _ hbl).mono ?_
      rintro e w' ⟨A2, c2, rfl, hr, hb4⟩
      have HO := Lib.hid (show IntsNew (shortL N) w (.returned (.slice A2 (shortL N).length c2)) w' from ⟨A2, c2, rfl, hr, hb4⟩)
      clear hr hb4
      go_wp2
      go_ret
      rw [HT2.out]
      exact HO.out
  · have HW := Lib.hid (show decide (0 ≤ x ∧ x ≤ 64) = false from decide_eq_false h1)
    rw [tick_none (fun e => h1 e.1)]
    clear h1
    go_enter Try.func70, Try.ntmps70
    go_wp2_with fail
    refine (HC.out _ HA.out).mono ?_
    rintro e w1 ⟨rfl, hb1⟩
    have ha1 := Arr.new w1 zeroN 175
    have ha2 := ha1.setCells (M := N) (by rw [hn]; rfl)
    have hbl := below_setCells (N.map (Value.int .i64)) 0 (hb1.alloc hb1.size (.cells (cellsA zeroN) 175)) (b := w1.heap.size) hb1.size
    go_wp2_with (refine wpList_storeN rfl _ _ rfl _ rfl N rfl _ ha1 rfl hn ?_)
    obtain ⟨wk, hwk⟩ : ∃ wk, (w1.alloc (.cells (cellsA zeroN) 175)).setCells w1.heap.size 0 (N.map (Value.int .i64)) = wk := ⟨_, rfl⟩
    rw [hwk] at ha2 hbl ⊢
    generalize w1.heap.size = b at *
    clear ha1 hwk hb1 HC HA
    refine (isWorker_any _ _).mono ?_
    rw [HW.out]
    rintro e w' ⟨rfl, rfl⟩
    have HKK := Lib.hid (fun wk hb => HK.out _ wk HI.out hb)
    clear HK
    go_wp2_with (refine wpList_loadN rfl _ rfl _ rfl N ha2 hn ?_)
    refine (HKK.out _ hbl).mono ?_
    rintro e w' ⟨A2, c2, rfl, hr, hb4⟩
    have HO := Lib.hid (show IntsNew (shortL N) w (.returned (.slice A2 (shortL N).length c2)) w' from ⟨A2, c2, rfl, hr, hb4⟩)
    clear hr hb4
    generalize shortL N = L at *
    go_wp2
    go_ret
    exact HO.out

end Go.Proofs.Ytdgmcaehadigaaa
