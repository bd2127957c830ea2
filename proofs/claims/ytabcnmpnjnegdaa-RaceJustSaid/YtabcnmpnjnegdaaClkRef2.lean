/- The document's Tick, Join and Compare, by contract. -/
import Derived.Test.YtabcnmpnjnegdaaClkRef
namespace Go.Proofs.Ytabcnmpnjnegdaa
open Go.RowKit

theorem made_ints {w : World} {B m c : Nat} {A : Option Addr} (h : w.ownsRow B 3 1 (.slice A m c) m (madeCells (Value.int .i64 0).cells (m * 1)).toList) :
    w.ownsRow B 3 1 (.slice A m c) m ((List.replicate m 0).map (Value.int .i64)) := by
  simpa [toList_madeCells_one, Value.cells] using h
theorem Arr.of_own {w : World} {base b n c : Nat} {e : TypeId} {S : List Int} (h : w.ownsRow base e 1 (.slice (some ⟨b, 0, none⟩) n c) n (S.map (Value.int .i64))) : Arr w b S := by
  intro j z hj
  have hjl : j < S.length := (List.getElem?_eq_some_iff.1 hj).1
  have hl : S.length = n := by simpa using h.1
  refine ⟨?_, h.frozenAt j⟩
  rw [h.cellAt j (by omega), List.getElem?_map, hj]
  rfl
theorem own_lt {w : World} {base : Nat} {e : TypeId} {size n c g k : Nat} {xs : List Value} (h : w.ownsRow base e size (.slice (some ⟨g, 0, none⟩) n c) k xs) : g < w.heap.size := by
  rcases h.2 with ⟨h1, _⟩ | ⟨g', cap, cur, h1, _, hh, _⟩
  · cases h1
  · injection h1 with h1 _ _
    injection h1 with h1
    injection h1 with h1 _
    subst h1
    exact (Array.getElem?_eq_some_iff.1 hh).1
theorem refShort_at (b n : Nat) (N : List Int) (hN : IsNum N) (hn : n = 65) (w : World) (hA : Arr w b N) (hb : b < w.heap.size) :
    Calls Try.prog 14 #[.slice (some ⟨b, 0, none⟩) n n] w (IntsOut (shortL N) w) := by
  have := refShort_any (some ⟨b, 0, none⟩) N n w (hA.rd hb)
  rw [numL_is hN, hN.1, ← hn] at this
  exact this

set_option maxRecDepth 100000 in
set_option maxHeartbeats 4000000 in
theorem refTick_any (A : Option Addr) (zs : List Int) (c : Nat) (x : Int) (w : World) (hA : Rd (Value.int .i64) w w.heap.size A zs) :
    Calls Try.prog 16 #[.slice A zs.length c, .int .i64 x] w (IntsOut (shortL (tickN (numL zs) x)) w) := by
  obtain ⟨i0, hi0, hz0, hz1, hz2⟩ := info_parts info_int
  by_cases hx : 0 ≤ x ∧ x ≤ 64
  · obtain ⟨q, rfl⟩ : ∃ q : Nat, x = (q : Int) := ⟨x.toNat, by omega⟩
    have hq0 : (0 : Int) ≤ (q : Int) := hx.1
    have hq1 : (q : Int) ≤ 64 := hx.2
    have hq2 : (q : Int) < 65 := by omega
    have hat : atZ zs (q : Int) = (numL zs).getD q 0 := by rw [atZ, if_pos hx, Int.toNat_natCast]
    have HAT := Lib.hid hat
    have hge := (numL_num zs).2 q
    by_cases hlt : (numL zs).getD q 0 < 4611686018427387904
    · have ht : tickN (numL zs) (q : Int) = (numL zs).set q ((numL zs).getD q 0 + 1) := by
        rw [tickN, Int.toNat_natCast, if_pos ⟨hx, hlt⟩]
      have HT := Lib.hid ht
      have HTN : Hid (IsNum ((numL zs).set q ((numL zs).getD q 0 + 1))) := by rw [Hid, ← ht]; exact tickN_num (numL_num zs) _
      have HG := Lib.hid (getD_at (N := numL zs) (k := q) (by rw [numL_len]; omega))
      clear hx hat ht
      generalize (numL zs).getD q 0 = z at *
      have hw1 : IntKind.i64.wrap (z + 1) = z + 1 := IntWalk.i64_in _ (by omega)
      have hzl : ¬ 4611686018427387904 ≤ z := by omega
      have hb8 : i0.bytes * 65 ≤ 281474976710656 := by rw [hz2]; omega
      have hml : 65 ≤ maxLen := by unfold maxLen; omega
      go_enter Try.func16, Try.ntmps16
      go_wp2_with fail
      refine (refAt_any A zs c _ _ hA).mono ?_
      rw [HAT.out]
      rintro e w' ⟨rfl, rfl⟩
      go_wp2_with (at_make; refine wpList_make_full _ rfl _ _ _ rfl w.heap.size 3 i0 (.int .i64 0) 1 Try.underlying22 hi0 hz0 hz1 _ _ _ _ 65 rfl rfl rfl rfl hb8 hml (Nat.le_refl _) ?_; intro w1 hown hgr)
      have hb1 : Below w.heap.size w w1 := (Below.refl _ _).grown hgr (Nat.le_refl _) (fun _ h => by cases h)
      have harr := Arr.of_own (made_ints hown)
      have hlt1 := own_lt hown
      have harr' : Arr w1 w.heap.size (numTo zs 0) := by rw [numTo_zero]; exact harr
      clear hown hgr harr hi0 hz0 hz1 hz2 hb8 hml
      go_loopw [24] (fun i wr => ∃ k : Nat, k ≤ 65 ∧ i = .int .i64 k ∧ Arr wr w.heap.size (numTo zs k) ∧ Below w.heap.size w wr ∧ w.heap.size < wr.heap.size) (fun i _ => 65 - (intOf i).toNat)
      case atStart => exact ⟨0, Nat.zero_le _, rfl, harr', hb1, hlt1⟩
      case round =>
        obtain ⟨k, hk, rfl, ha, hbel, hlt2⟩ := hrel
        by_cases hk65 : k < 65
        · obtain ⟨c1, f1⟩ := ha k _ (List.getElem?_eq_getElem (by rw [numTo_len]; exact hk65))
          generalize (numTo zs k)[k]'(by rw [numTo_len]; exact hk65) = u at c1
          have HS := Lib.hid (ha.store k (atN zs k))
          rw [numTo_step zs k hk65] at HS
          have HBS := Lib.hid (hbel.setCell (p := ⟨w.heap.size, k, none⟩) (Nat.le_refl _) (.int .i64 (atN zs k)))
          have HR := Lib.hid (hA.below hbel)
          have HE := Lib.hid (atZ_nat zs hk65)
          generalize atN zs k = y at *
          clear ha hbel
          have hk0 : (0 : Int) ≤ (k : Int) := by omega
          have hk1 : (k : Int) < 65 := by omega
          go_wp2_with fail
          refine (refAt_any A zs c _ _ HR.out).mono ?_
          rw [HE.out]
          rintro e w' ⟨rfl, rfl⟩
          go_wp2
          go_roundw
          case rel => exact ⟨k + 1, by omega, by go_num, HS.out, HBS.out, by simpa using hlt2⟩
          case measure => simp [intOf]; omega
        · obtain rfl : k = 65 := by omega
          rw [numTo_all] at ha
          obtain ⟨c1, f1⟩ := ha q z HG.out
          have hst := ha.store q (z + 1)
          have HBS := Lib.hid (hbel.setCell (p := ⟨w.heap.size, q, none⟩) (Nat.le_refl _) (.int .i64 (z + 1)))
          have hlt3 : w.heap.size < (wr.setCell ⟨w.heap.size, q, none⟩ (.int .i64 (z + 1))).heap.size := by simpa using hlt2
          have HC := Lib.hid (refShort_at w.heap.size 65 _ HTN.out rfl _ hst hlt3)
          clear ha hbel hst hlt3 hlt2
          generalize (numL zs).set q (z + 1) = T at *
          go_wp2_with fail
          refine HC.out.mono ?_
          rintro e w' ⟨A2, c2, rfl, hr, h2, h3, h4, hb2⟩
          have HO := Lib.hid (show IntsOut (shortL T) w (.returned (.slice A2 (shortL T).length c2)) w' from ⟨A2, c2, rfl, hr, h2, h3, h4, HBS.out.trans (hb2.mono (by simpa using HBS.out.size))⟩)
          clear hr h2 h3 h4 hb2 HC
          go_wp2
          go_ret
          rw [HT.out]
          exact HO.out
    · have HT : Hid (tickN (numL zs) (q : Int) = numL zs) := by rw [Hid]; exact tick_none (fun h => hlt (by have := h.2; rwa [Int.toNat_natCast] at this))
      clear hx hat
      generalize (numL zs).getD q 0 = z at *
      have hzl : 4611686018427387904 ≤ z := by omega
      go_enter Try.func16, Try.ntmps16
      go_wp2_with fail
      refine (refAt_any A zs c _ _ hA).mono ?_
      rw [HAT.out]
      rintro e w' ⟨rfl, rfl⟩
      go_wp2_with fail
      refine (refShort_any A zs c _ hA).mono ?_
      rintro e w' ⟨A2, c2, rfl, hr, h2, h3, h4, hb2⟩
      have HO := Lib.hid (show IntsOut (shortL (numL zs)) w (.returned (.slice A2 (shortL (numL zs)).length c2)) w' from ⟨A2, c2, rfl, hr, h2, h3, h4, hb2⟩)
      clear hr h2 h3 h4 hb2
      go_wp2
      go_ret
      rw [HT.out]
      exact HO.out
  · have HT : Hid (tickN (numL zs) x = numL zs) := by rw [Hid]; exact tick_none (fun h => hx h.1)
    have hcs : x < 0 ∨ (0 ≤ x ∧ 64 < x) := by omega
    clear hx
    rcases hcs with h1 | ⟨h1, h2⟩
    all_goals
      go_enter Try.func16, Try.ntmps16
      go_wp2_with fail
      refine (refShort_any A zs c _ hA).mono ?_
      rintro e w' ⟨A2, c2, rfl, hr, h2, h3, h4, hb2⟩
      have HO := Lib.hid (show IntsOut (shortL (numL zs)) w (.returned (.slice A2 (shortL (numL zs)).length c2)) w' from ⟨A2, c2, rfl, hr, h2, h3, h4, hb2⟩)
      clear hr h2 h3 h4 hb2
      go_wp2
      go_ret
      rw [HT.out]
      exact HO.out

/-- Joined up to worker k; nothing behind. -/
def jnTo (M N : List Int) (k : Nat) : List Int := (List.range 65).map fun j => if j < k then max (M.getD j 0) (N.getD j 0) else 0
theorem jnTo_len (M N : List Int) (k : Nat) : (jnTo M N k).length = 65 := by simp [jnTo]
theorem jnTo_zero (M N : List Int) : jnTo M N 0 = List.replicate 65 0 := num_ext (jnTo_len _ _ _) rfl fun k hk => by
  rw [jnTo, range_getD _ _ _ _ hk, if_neg (Nat.not_lt_zero _), List.getD_eq_getElem?_getD, List.getElem?_replicate, if_pos hk]
  rfl
theorem jnTo_all (M N : List Int) : jnTo M N 65 = joinN M N := num_ext (jnTo_len _ _ _) (joinN_len _ _) fun k hk => by
  rw [jnTo, range_getD _ _ _ _ hk, if_pos hk, joinN_at _ _ hk]
theorem jnTo_step (M N : List Int) {k : Nat} (hk : k < 65) : (jnTo M N k).set k (max (M.getD k 0) (N.getD k 0)) = jnTo M N (k + 1) := by
  refine num_ext (by rw [List.length_set, jnTo_len]) (jnTo_len _ _ _) fun j hj => ?_
  rw [set_getD _ _ _ _ (by rw [jnTo_len]; exact hk), jnTo, jnTo, range_getD _ _ _ _ hj, range_getD _ _ _ _ hj]
  by_cases e : k = j
  · subst e; rw [if_pos rfl, if_pos (Nat.lt_succ_self _)]
  · rw [if_neg e]
    by_cases h : j < k
    · rw [if_pos h, if_pos (by omega)]
    · rw [if_neg h, if_neg (by omega)]

set_option maxRecDepth 100000 in
set_option maxHeartbeats 4000000 in
theorem refJoin_any (A B : Option Addr) (zs ys : List Int) (c d : Nat) (w : World) (hA : Rd (Value.int .i64) w w.heap.size A zs) (hB : Rd (Value.int .i64) w w.heap.size B ys) :
    Calls Try.prog 18 #[.slice A zs.length c, .slice B ys.length d] w (IntsOut (shortL (joinN (numL zs) (numL ys))) w) := by
  obtain ⟨i0, hi0, hz0, hz1, hz2⟩ := info_parts info_int
  have HTN : Hid (IsNum (joinN (numL zs) (numL ys))) := Lib.hid (joinN_num (numL_num zs))
  have hb8 : i0.bytes * 65 ≤ 281474976710656 := by rw [hz2]; omega
  have hml : 65 ≤ maxLen := by unfold maxLen; omega
  go_enter Try.func18, Try.ntmps18
  go_wp2_with (at_make; refine wpList_make_full _ rfl _ _ _ rfl w.heap.size 3 i0 (.int .i64 0) 1 Try.underlying22 hi0 hz0 hz1 _ _ _ _ 65 rfl rfl rfl rfl hb8 hml (Nat.le_refl _) ?_; intro w1 hown hgr)
  have hb1 : Below w.heap.size w w1 := (Below.refl _ _).grown hgr (Nat.le_refl _) (fun _ h => by cases h)
  have harr := Arr.of_own (made_ints hown)
  have hlt1 := own_lt hown
  have harr' : Arr w1 w.heap.size (jnTo (numL zs) (numL ys) 0) := by rw [jnTo_zero]; exact harr
  clear hown hgr harr hi0 hz0 hz1 hz2 hb8 hml
  go_loopw [10] (fun i wr => ∃ k : Nat, k ≤ 65 ∧ i = .int .i64 k ∧ Arr wr w.heap.size (jnTo (numL zs) (numL ys) k) ∧ Below w.heap.size w wr ∧ w.heap.size < wr.heap.size) (fun i _ => 65 - (intOf i).toNat)
  case atStart => exact ⟨0, Nat.zero_le _, rfl, harr', hb1, hlt1⟩
  case round =>
    obtain ⟨k, hk, rfl, ha, hbel, hlt2⟩ := hrel
    by_cases hk65 : k < 65
    · obtain ⟨c1, f1⟩ := ha k _ (List.getElem?_eq_getElem (by rw [jnTo_len]; exact hk65))
      generalize (jnTo (numL zs) (numL ys) k)[k]'(by rw [jnTo_len]; exact hk65) = u at c1
      have hst := ha.store k (max ((numL zs).getD k 0) ((numL ys).getD k 0))
      rw [jnTo_step _ _ hk65] at hst
      have hbs := hbel.setCell (p := ⟨w.heap.size, k, none⟩) (Nat.le_refl _) (.int .i64 (max ((numL zs).getD k 0) ((numL ys).getD k 0)))
      have HR := Lib.hid (hA.below hbel)
      have HR2 := Lib.hid (hB.below hbel)
      have HE := Lib.hid ((atZ_nat zs hk65).trans (numL_at zs k).symm)
      have HE2 := Lib.hid ((atZ_nat ys hk65).trans (numL_at ys k).symm)
      generalize (numL zs).getD k 0 = x at *
      generalize (numL ys).getD k 0 = y at *
      have hm : max x y = if x < y then y else x := by split <;> omega
      rw [hm] at hst hbs
      have HS := Lib.hid hst
      have HBS := Lib.hid hbs
      clear ha hbel hst hbs hm
      have hk0 : (0 : Int) ≤ (k : Int) := by omega
      have hk1 : (k : Int) < 65 := by omega
      go_wp2_with fail
      refine (refAt_any A zs c _ _ HR.out).mono ?_
      rw [HE.out]
      rintro e w' ⟨rfl, rfl⟩
      go_wp2_with fail
      refine (refAt_any B ys d _ _ HR2.out).mono ?_
      rw [HE2.out]
      rintro e w' ⟨rfl, rfl⟩
      by_cases hxy : x < y
      · rw [Hid, if_pos hxy] at HS HBS
        have HS := Lib.hid HS
        have HBS := Lib.hid HBS
        go_wp2
        go_roundw
        case rel => exact ⟨k + 1, by omega, by go_num, HS.out, HBS.out, by simpa using hlt2⟩
        case measure => simp [intOf]; omega
      · rw [Hid, if_neg hxy] at HS HBS
        have HS := Lib.hid HS
        have HBS := Lib.hid HBS
        go_wp2
        go_roundw
        case rel => exact ⟨k + 1, by omega, by go_num, HS.out, HBS.out, by simpa using hlt2⟩
        case measure => simp [intOf]; omega
    · obtain rfl : k = 65 := by omega
      rw [jnTo_all] at ha
      have HC := Lib.hid (refShort_at w.heap.size 65 _ HTN.out rfl _ ha hlt2)
      clear ha hlt2
      generalize joinN (numL zs) (numL ys) = T at *
      go_wp2_with fail
      refine HC.out.mono ?_
      rintro e w' ⟨A2, c2, rfl, hr, h2, h3, h4, hb2⟩
      have HO := Lib.hid (show IntsOut (shortL T) w (.returned (.slice A2 (shortL T).length c2)) w' from ⟨A2, c2, rfl, hr, h2, h3, h4, Below.next hbel hb2⟩)
      clear hr h2 h3 h4 hb2 HC
      go_wp2
      go_ret
      exact HO.out

/-- Is there one of the first k workers whose number is less? -/
def lessTo (M N : List Int) (k : Nat) : Bool := (List.range k).any fun j => decide (M.getD j 0 < N.getD j 0)
theorem lessTo_zero (M N : List Int) : lessTo M N 0 = false := rfl
theorem lessTo_step (M N : List Int) (k : Nat) : lessTo M N (k + 1) = (lessTo M N k || decide (M.getD k 0 < N.getD k 0)) := by
  rw [lessTo, List.range_succ, List.any_append]
  simp [lessTo]
theorem lessTo_false {M N : List Int} (hM : M.length = 65) : lessTo M N 65 = false ↔ joinN N M = M := by
  rw [joinN_le hM, lessTo, List.any_eq_false]
  constructor
  · intro h k hk
    have := h k (List.mem_range.2 hk)
    simp only [decide_eq_true_eq] at this
    omega
  · intro h k hk
    have := h k (List.mem_range.1 hk)
    simp only [decide_eq_true_eq]
    omega
theorem cmpN_less {M N : List Int} (hM : M.length = 65) (hN : N.length = 65) :
    cmpN M N = if lessTo M N 65 = true then (if lessTo N M 65 = true then 2 else -1) else (if lessTo N M 65 = true then 1 else 0) := by
  have h1 := lessTo_false (N := N) hM
  have h2 := lessTo_false (N := M) hN
  rw [joinN_comm] at h1
  unfold cmpN
  cases l1 : lessTo M N 65 <;> cases l2 : lessTo N M 65
  · have e1 := h1.1 l1
    have e2 := h2.1 l2
    rw [if_pos (e1.symm.trans e2)]
    rfl
  · have e1 := h1.1 l1
    have e2 : ¬ joinN M N = N := fun e => by rw [h2.2 e] at l2; cases l2
    rw [if_neg (fun e : M = N => e2 (e ▸ e1)), if_neg e2, if_pos e1]
    rfl
  · have e2 := h2.1 l2
    have e1 : ¬ joinN M N = M := fun e => by rw [h1.2 e] at l1; cases l1
    rw [if_neg (fun e : M = N => e1 (by rw [e2, e])), if_pos e2]
    rfl
  · have e1 : ¬ joinN M N = M := fun e => by rw [h1.2 e] at l1; cases l1
    have e2 : ¬ joinN M N = N := fun e => by rw [h2.2 e] at l2; cases l2
    rw [if_neg (fun e : M = N => e1 (by rw [e, joinN_self hN])), if_neg e2, if_neg e1]
    rfl

set_option maxRecDepth 100000 in
set_option maxHeartbeats 4000000 in
theorem refCompare_any (A B : Option Addr) (zs ys : List Int) (c d : Nat) (w : World) (hA : Rd (Value.int .i64) w w.heap.size A zs) (hB : Rd (Value.int .i64) w w.heap.size B ys) :
    Calls Try.prog 20 #[.slice A zs.length c, .slice B ys.length d] w fun e w' => e = .returned (.int .i64 (cmpN (numL zs) (numL ys))) ∧ w = w' := by
  have HR := Lib.hid hA
  have HR2 := Lib.hid hB
  have HC := Lib.hid (cmpN_less (numL_len zs) (numL_len ys))
  clear hA hB
  go_enter Try.func20, Try.ntmps20
  go_wp2
  go_loop [5, 6, 7] (fun l m i => ∃ (k : Nat) (p q : Bool), k ≤ 65 ∧ i = .int .i64 k ∧ l = .bool p ∧ m = .bool q ∧ Hid (lessTo (numL zs) (numL ys) k = p ∧ lessTo (numL ys) (numL zs) k = q)) (fun _ _ i => 65 - (intOf i).toNat)
  case atStart => exact ⟨0, false, false, Nat.zero_le _, rfl, rfl, rfl, ⟨rfl, rfl⟩⟩
  case round =>
    obtain ⟨k, p, q, hk, rfl, rfl, rfl, HL⟩ := hrel
    by_cases hk65 : k < 65
    · have HE := Lib.hid ((atZ_nat zs hk65).trans (numL_at zs k).symm)
      have HE2 := Lib.hid ((atZ_nat ys hk65).trans (numL_at ys k).symm)
      have HS1 := Lib.hid (lessTo_step (numL zs) (numL ys) k)
      have HS2 := Lib.hid (lessTo_step (numL ys) (numL zs) k)
      generalize (numL zs).getD k 0 = x at *
      generalize (numL ys).getD k 0 = y at *
      have hk1 : (k : Int) ≤ 64 := by omega
      have HNX : Hid (lessTo (numL zs) (numL ys) (k + 1) = (p || decide (x < y)) ∧ lessTo (numL ys) (numL zs) (k + 1) = (q || decide (y < x))) := by
        rw [Hid, HS1.out, HS2.out, HL.out.1, HL.out.2]
        exact ⟨rfl, rfl⟩
      clear HS1 HS2 HL
      cases p
      · go_wp2_with fail
        refine (refAt_any A zs c _ _ HR.out).mono ?_
        rw [HE.out]
        rintro e w' ⟨rfl, rfl⟩
        go_wp2_with fail
        refine (refAt_any B ys d _ _ HR2.out).mono ?_
        rw [HE2.out]
        rintro e w' ⟨rfl, rfl⟩
        cases q
        · go_wp2_with fail
          refine (refAt_any A zs c _ _ HR.out).mono ?_
          rw [HE.out]
          rintro e w' ⟨rfl, rfl⟩
          go_wp2_with fail
          refine (refAt_any B ys d _ _ HR2.out).mono ?_
          rw [HE2.out]
          rintro e w' ⟨rfl, rfl⟩
          go_wp2
          go_round
          case rel => exact ⟨k + 1, _, _, by omega, by go_num, rfl, rfl, HNX.out⟩
          case measure => simp [intOf]; omega
        · go_wp2
          go_round
          case rel => exact ⟨k + 1, _, _, by omega, by go_num, rfl, rfl, HNX.out⟩
          case measure => simp [intOf]; omega
      · cases q
        · go_wp2_with fail
          refine (refAt_any A zs c _ _ HR.out).mono ?_
          rw [HE.out]
          rintro e w' ⟨rfl, rfl⟩
          go_wp2_with fail
          refine (refAt_any B ys d _ _ HR2.out).mono ?_
          rw [HE2.out]
          rintro e w' ⟨rfl, rfl⟩
          go_wp2
          go_round
          case rel => exact ⟨k + 1, _, _, by omega, by go_num, rfl, rfl, HNX.out⟩
          case measure => simp [intOf]; omega
        · go_wp2
          go_round
          case rel => exact ⟨k + 1, _, _, by omega, by go_num, rfl, rfl, HNX.out⟩
          case measure => simp [intOf]; omega
    · obtain rfl : k = 65 := by omega
      have HCC := HC.out
      rw [HL.out.1, HL.out.2] at HCC
      have HCF := Lib.hid HCC
      clear HCC HC HL
      cases p <;> cases q
      all_goals
        go_wp2
        go_ret
        exact ⟨ret_int HCF.out.symm, rfl⟩

end Go.Proofs.Ytabcnmpnjnegdaa
