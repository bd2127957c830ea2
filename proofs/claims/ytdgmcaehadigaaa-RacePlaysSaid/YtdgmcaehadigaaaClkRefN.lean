/- The document's own clocks (At, Short, Tick, Join), by contract: what they tell lies in new memory. -/
import Derived.Test.YtdgmcaehadigaaaClkNew
import Derived.Deep.DeepCutAuto
import Derived.Deep.CutBlock
namespace Go.Proofs.Ytdgmcaehadigaaa
open Go.RowKit

/-- Numbers told in new memory. -/
def IntsZ (L : List Int) (w : World) (e : Ending) (w' : World) : Prop :=
  ∃ A c, e = .returned (.slice A L.length c) ∧ Rd (Value.int .i64) w' w'.heap.size A L ∧ (A = none → c = 0) ∧ L.length ≤ c ∧ c ≤ 9223372036854775807 ∧ Below w.heap.size w w' ∧ ∀ g o, A = some ⟨g, o, none⟩ → w.heap.size ≤ g
set_option maxHeartbeats 1000000 in
theorem refAt_any (A : Option Addr) (zs : List Int) (c : Nat) (x : Int) (w : World) {B : Nat} (hA : Rd (Value.int .i64) w B A zs) :
    Calls Try.prog 78 #[.slice A zs.length c, .int .i64 x] w fun e w' => e = .returned (.int .i64 (atZ zs x)) ∧ w = w' := by
  by_cases h1 : 0 ≤ x ∧ x ≤ 64
  · obtain ⟨k, rfl⟩ : ∃ k : Nat, x = (k : Int) := ⟨x.toNat, by omega⟩
    by_cases h2 : k < zs.length
    · obtain ⟨b, off, rfl, hb, hc⟩ := hA.at_ h2
      have he : atZ zs (k : Int) = max zs[k] 0 := by
        rw [atZ, if_pos h1, Int.toNat_natCast, numL_at, atN, if_pos (by omega), List.getD_eq_getElem?_getD, List.getElem?_eq_getElem h2]
        rfl
      have HE := Lib.hid he
      generalize zs[k] = z at *
      have hk0 : (0 : Int) ≤ (k : Int) := h1.1
      have hk1 : (k : Int) < (zs.length : Int) := by omega
      have hk2 : (k : Int) ≤ 64 := h1.2
      clear he h1
      go_enter Try.func78, Try.ntmps78
      go_wp2
      all_goals
        go_ret
        exact ⟨ret_int (by have := HE.out; omega), rfl⟩
    · have he : atZ zs (k : Int) = 0 := by
        rw [atZ, if_pos h1, Int.toNat_natCast, numL_at, atN, if_pos (by omega), List.getD_eq_getElem?_getD, List.getElem?_eq_none (by omega)]
        rfl
      have HE := Lib.hid he
      have hk0 : (0 : Int) ≤ (k : Int) := h1.1
      have hk1 : ¬ (k : Int) < (zs.length : Int) := by omega
      have hk3 : (k : Int) ≤ 64 := h1.2
      clear he h1
      go_enter Try.func78, Try.ntmps78
      go_wp2
      go_ret
      exact ⟨ret_int HE.out.symm, rfl⟩
  · have HE := Lib.hid (show atZ zs x = 0 from if_neg h1)
    by_cases h2 : 0 ≤ x
    · have h3 : (64 : Int) < x := by omega
      clear h1
      go_enter Try.func78, Try.ntmps78
      go_wp2
      go_ret
      exact ⟨ret_int HE.out.symm, rfl⟩
    · clear h1
      go_enter Try.func78, Try.ntmps78
      go_wp2
      go_ret
      exact ⟨ret_int HE.out.symm, rfl⟩

def sliceLen : Value → Nat
  | .slice _ n _ => n
  | _ => 0
theorem atZ_nat (zs : List Int) {k : Nat} (h : k < 65) : atZ zs (k : Int) = atN zs k := by
  rw [atZ, if_pos (by omega), Int.toNat_natCast, numL_at]
theorem take_num_succ (zs : List Int) (k : Nat) (h : k < 65) : (numL zs).take (k + 1) = (numL zs).take k ++ [atN zs k] := by
  rw [List.take_add_one, getD_at (by rw [numL_len]; exact h), numL_at]
  rfl

set_option maxRecDepth 100000 in
set_option maxHeartbeats 2000000 in
theorem refShort_any (A : Option Addr) (zs : List Int) (c : Nat) (w : World) (hA : Rd (Value.int .i64) w w.heap.size A zs) :
    Calls Try.prog 115 #[.slice A zs.length c] w (IntsZ (shortL (numL zs)) w) := by
  obtain ⟨i0, hi0, hz0, hz1, hz2⟩ := info_parts info_int
  have HS := Lib.hid (short_min zs)
  obtain ⟨m, hm⟩ : ∃ m, min 65 zs.length = m := ⟨_, rfl⟩
  rw [hm] at HS
  have hm65 : m ≤ 65 := by omega
  have hmz : m ≤ zs.length := by omega
  have hme : m = 65 ∨ m = zs.length := by omega
  go_enter Try.func115, Try.ntmps115
  go_wp2
  go_loopw [3, 4] (fun v i wr => ∃ k : Nat, k ≤ m ∧ i = .int .i64 k ∧ wr.ownsRow w.heap.size 3 1 v k (((numL zs).take k).map (Value.int .i64)) ∧ Below w.heap.size w wr) (fun _ i _ => m - (intOf i).toNat)
  case atStart => exact ⟨0, Nat.zero_le _, rfl, World.ownsRow_nil _ _ _ _, Below.refl _ _⟩
  case round =>
    obtain ⟨k, hk, rfl, hown, hbel⟩ := hrel
    have hsz : w.heap.size ≤ wr.heap.size := hbel.size
    by_cases hlt : k < m
    · have HT := Lib.hid (take_num_succ zs k (by omega))
      have HE := Lib.hid (atZ_nat zs (show k < 65 by omega))
      generalize atN zs k = z at *
      have hk1 : (k : Int) ≤ 64 := by omega
      have hk2 : (k : Int) < (zs.length : Int) := by omega
      have HR := Lib.hid (hA.below hbel)
      clear hme hm
      go_wp2_with fail
      refine (refAt_any A zs c _ _ HR.out).mono ?_
      rw [HE.out]
      rintro e w' ⟨rfl, rfl⟩
      go_wp2_with (at_builtin; refine wpList_append_own _ rfl _ _ 38 rfl w.heap.size 3 i0 (.int .i64 0) 1 8 Try.underlying38 hi0 hz0 hz1 hz2 rfl (by decide) _ _ _ rfl (hown.alloc _) ⟨wr.heap.size, 0, none⟩ 1 1 [.int .i64 z] rfl rfl ?c1 ?c2 ?c3 ?c4 ?c5 ?_)
      case c1 =>
        intro j u hj
        match j, hj with
        | 0, hj => simp at hj; subst hj; simp [Addr.add]
      case c2 => intro u hu; simp at hu; subst hu; rfl
      case c3 => unfold maxLen; omega
      case c4 => omega
      case c5 => simp; omega
      intro v' w2 hown2 hgrow _
      have hB2 := ownBase (hown.alloc _) (hbel.alloc hsz _) (Nat.le_refl _) (by simp; omega) hgrow
      have hown3 : w2.ownsRow w.heap.size 3 1 v' (k + 1) (((numL zs).take (k + 1)).map (Value.int .i64)) := by
        rw [HT.out, List.map_append, List.map_take]; exact hown2
      clear hgrow hown hown2
      go_wp2
      go_roundw
      case rel => exact ⟨k + 1, by omega, by go_num, hown3, hB2⟩
      case measure => simp [intOf]; omega
    · obtain rfl : k = m := by omega
      clear hk hlt
      have hlen : ((numL zs).take k).length = k := by rw [List.length_take, numL_len]; omega
      obtain ⟨PA, pc, rfl, hkc, hpc⟩ := ownSlice hown
      have hnone : PA = none → pc = 0 := fun h => by
        subst h
        rcases hown.2 with ⟨hv, _⟩ | ⟨g, cap, cur, hv, _⟩
        · injection hv
        · injection hv with hv; cases hv
      have HNO := Lib.hid hnone
      have HZ := Lib.hid (show ∀ g o, PA = some ⟨g, o, none⟩ → w.heap.size ≤ g from fun g o e => (hown.lt g (by rw [e]; rfl)).1)
      have hR : Rd (Value.int .i64) wr wr.heap.size PA ((numL zs).take k) := Rd.of_own (n := k) hown
      have HR := Lib.hid hR
      have HB := Lib.hid hbel
      have HLE := Lib.hid hlen
      clear hown hnone hR hbel hlen hA hsz hi0 hz0 hz1 hz2
      have hcase : ¬ (k : Int) ≤ 64 ∨ ((k : Int) ≤ 64 ∧ ¬ (k : Int) < (zs.length : Int)) := by omega
      have hk65 : k ≤ 65 := hm65
      clear hme hm hmz hm65
      rcases hcase with h64 | ⟨h64, hkz⟩
      all_goals
        go_wp2
        go_loop [3] (fun v => ∃ e : Nat, e ≤ k ∧ v = .slice PA e pc ∧ Hid (endN (numL zs) k = endN (numL zs) e)) (fun v => sliceLen v)
        case atStart => exact ⟨k, Nat.le_refl _, rfl, rfl⟩
        case round =>
          obtain ⟨e, he, rfl, HE⟩ := hrel
          rcases Nat.eq_zero_or_pos e with rfl | hpos
          · have HT : Hid (shortL (numL zs) = []) := by rw [Hid, HS.out, HE.out]; rfl
            go_wp2
            go_ret
            rw [HT.out]
            exact ⟨PA, pc, rfl, Rd.nil, HNO.out, by simp, hpc, HB.out, HZ.out⟩
          · obtain ⟨j, rfl⟩ : ∃ j, e = j + 1 := ⟨e - 1, by omega⟩
            have hjl : j < ((numL zs).take k).length := by rw [HLE.out]; omega
            obtain ⟨b, off, rfl, hbb, hc⟩ := HR.out.at_ hjl
            have hz : ((numL zs).take k)[j] = (numL zs).getD j 0 := by
              rw [List.getElem_take, List.getD_eq_getElem?_getD, List.getElem?_eq_getElem (by rw [numL_len]; omega)]
              rfl
            rw [hz] at hc
            have hst : (numL zs).getD j 0 = 0 → endN (numL zs) (j + 1) = endN (numL zs) j := endN_step
            have hsp : ¬ (numL zs).getD j 0 = 0 → endN (numL zs) (j + 1) = j + 1 := endN_stop
            have HST := Lib.hid hst
            have HSP := Lib.hid hsp
            clear hst hsp hz
            generalize (numL zs).getD j 0 = z at *
            have hj0 : (0 : Int) ≤ (j : Int) := by omega
            have hj1 : (0 : Int) < ((j + 1 : Nat) : Int) := by omega
            have hj2 : (j : Int) < ((j + 1 : Nat) : Int) := by omega
            have hj3 : IntKind.i64.wrap (((j + 1 : Nat) : Int) - 1) = (j : Int) := by rw [IntWalk.i64_in _ (by omega)]; omega
            have hjc : (j : Int) ≤ (pc : Int) := by omega
            have hpc0 : ¬ pc = 0 := by omega
            by_cases hz : z = 0
            · have HEN : Hid (endN (numL zs) k = endN (numL zs) j) := HE.out.trans (HST.out hz)
              subst hz
              go_wp2
              go_round
              case rel => exact ⟨j, by omega, rfl, HEN⟩
              case measure => simp [sliceLen]
            · have hq := HSP.out hz
              have HT : Hid (shortL (numL zs) = (numL zs).take (j + 1)) := by rw [Hid, HS.out, HE.out, hq]
              have HL : Hid (((numL zs).take (j + 1)).length = j + 1) := by rw [Hid, List.length_take, numL_len]; omega
              have HRR : Hid (Rd (Value.int .i64) wr wr.heap.size (some ⟨b, off, none⟩) ((numL zs).take (j + 1))) := Lib.hid fun i u hi => by
                refine HR.out i u ?_
                rw [List.getElem?_take] at hi ⊢
                split at hi
                · rename_i hij
                  rw [if_pos (by omega)]
                  exact hi
                · cases hi
              clear hq
              go_wp2
              go_ret
              rw [HT.out]
              exact ⟨some ⟨b, off, none⟩, pc, by rw [HL.out]; rfl, HRR.out, HNO.out, by rw [HL.out]; omega, hpc, HB.out, HZ.out⟩

theorem made_ints {w : World} {B m c : Nat} {A : Option Addr} (h : w.ownsRow B 3 1 (.slice A m c) m (madeCells (Value.int .i64 0).cells (m * 1)).toList) :
    w.ownsRow B 3 1 (.slice A m c) m ((List.replicate m 0).map (Value.int .i64)) := by
  simpa [toList_madeCells_one, Value.cells] using h
theorem Arr.of_own {w : World} {base b n c : Nat} {e : TypeId} {S : List Int} (h : w.ownsRow base e 1 (.slice (some ⟨b, 0, none⟩) n c) n (S.map (Value.int .i64))) : Arr w b S := by
  intro j z hj
  have hjl : j < S.length := (List.getElem?_eq_some_iff.1 hj).1
  have hl : S.length = n := by simpa using h.1
  refine ⟨?_, h.frozenAt j⟩
  rw [h.cellAt j (by omega), List.getElem?_map, hj]
  rfl
theorem own_lt {w : World} {base : Nat} {e : TypeId} {size n c g k : Nat} {xs : List Value} (h : w.ownsRow base e size (.slice (some ⟨g, 0, none⟩) n c) k xs) : g < w.heap.size := by
  rcases h.2 with ⟨h1, _⟩ | ⟨g', cap, cur, h1, _, hh, _⟩
  · cases h1
  · injection h1 with h1 _ _
    injection h1 with h1
    injection h1 with h1 _
    subst h1
    exact (Array.getElem?_eq_some_iff.1 hh).1
theorem refShort_at (b n : Nat) (N : List Int) (hN : IsNum N) (hn : n = 65) (w : World) (hA : Arr w b N) (hb : b < w.heap.size) :
    Calls Try.prog 115 #[.slice (some ⟨b, 0, none⟩) n n] w (IntsZ (shortL N) w) := by
  have := refShort_any (some ⟨b, 0, none⟩) N n w (hA.rd hb)
  rw [numL_is hN, hN.1, ← hn] at this
  exact this

set_option maxRecDepth 100000 in
set_option maxHeartbeats 4000000 in
theorem refTick_any (A : Option Addr) (zs : List Int) (c : Nat) (x : Int) (w : World) (hA : Rd (Value.int .i64) w w.heap.size A zs) :
    Calls Try.prog 76 #[.slice A zs.length c, .int .i64 x] w (IntsZ (shortL (tickN (numL zs) x)) w) := by
  obtain ⟨i0, hi0, hz0, hz1, hz2⟩ := info_parts info_int
  by_cases hx : 0 ≤ x ∧ x ≤ 64
  · obtain ⟨q, rfl⟩ : ∃ q : Nat, x = (q : Int) := ⟨x.toNat, by omega⟩
    have hq0 : (0 : Int) ≤ (q : Int) := hx.1
    have hq1 : (q : Int) ≤ 64 := hx.2
    have hq2 : (q : Int) < 65 := by omega
    have hat : atZ zs (q : Int) = (numL zs).getD q 0 := by rw [atZ, if_pos hx, Int.toNat_natCast]
    have HAT := Lib.hid hat
    have hge := (numL_num zs).2 q
    by_cases hlt : (numL zs).getD q 0 < 4611686018427387904
    · have ht : tickN (numL zs) (q : Int) = (numL zs).set q ((numL zs).getD q 0 + 1) := by
        rw [tickN, Int.toNat_natCast, if_pos ⟨hx, hlt⟩]
      have HT := Lib.hid ht
      have HTN : Hid (IsNum ((numL zs).set q ((numL zs).getD q 0 + 1))) := by rw [Hid, ← ht]; exact tickN_num (numL_num zs) _
      have HG := Lib.hid (getD_at (N := numL zs) (k := q) (by rw [numL_len]; omega))
      clear hx hat ht
      generalize (numL zs).getD q 0 = z at *
      have hw1 : IntKind.i64.wrap (z + 1) = z + 1 := IntWalk.i64_in _ (by omega)
      have hzl : ¬ 4611686018427387904 ≤ z := by omega
      have hb8 : i0.bytes * 65 ≤ 281474976710656 := by rw [hz2]; omega
      have hml : 65 ≤ maxLen := by unfold maxLen; omega
      go_enter Try.func76, Try.ntmps76
      go_wp2_with fail
      refine (refAt_any A zs c _ _ hA).mono ?_
      rw [HAT.out]
      rintro e w' ⟨rfl, rfl⟩
      go_wp2_with (at_make; refine wpList_make_full _ rfl _ _ _ rfl w.heap.size 3 i0 (.int .i64 0) 1 Try.underlying38 hi0 hz0 hz1 _ _ _ _ 65 rfl rfl rfl rfl hb8 hml (Nat.le_refl _) ?_; intro w1 hown hgr)
      have hb1 : Below w.heap.size w w1 := (Below.refl _ _).grown hgr (Nat.le_refl _) (fun _ h => by cases h)
      have harr := Arr.of_own (made_ints hown)
      have hlt1 := own_lt hown
      have harr' : Arr w1 w.heap.size (numTo zs 0) := by rw [numTo_zero]; exact harr
      clear hown hgr harr hi0 hz0 hz1 hz2 hb8 hml
      go_loopw [24] (fun i wr => ∃ k : Nat, k ≤ 65 ∧ i = .int .i64 k ∧ Arr wr w.heap.size (numTo zs k) ∧ Below w.heap.size w wr ∧ w.heap.size < wr.heap.size) (fun i _ => 65 - (intOf i).toNat)
      case atStart => exact ⟨0, Nat.zero_le _, rfl, harr', hb1, hlt1⟩
      case round =>
        obtain ⟨k, hk, rfl, ha, hbel, hlt2⟩ := hrel
        by_cases hk65 : k < 65
        · obtain ⟨c1, f1⟩ := ha k _ (List.getElem?_eq_getElem (by rw [numTo_len]; exact hk65))
          generalize (numTo zs k)[k]'(by rw [numTo_len]; exact hk65) = u at c1
          have HS := Lib.hid (ha.store k (atN zs k))
          rw [numTo_step zs k hk65] at HS
          have HBS := Lib.hid (hbel.setCell (p := ⟨w.heap.size, k, none⟩) (Nat.le_refl _) (.int .i64 (atN zs k)))
          have HR := Lib.hid (hA.below hbel)
          have HE := Lib.hid (atZ_nat zs hk65)
          generalize atN zs k = y at *
          clear ha hbel
          have hk0 : (0 : Int) ≤ (k : Int) := by omega
          have hk1 : (k : Int) < 65 := by omega
          go_wp2_with fail
          refine (refAt_any A zs c _ _ HR.out).mono ?_
          rw [HE.out]
          rintro e w' ⟨rfl, rfl⟩
          go_wp2
          go_roundw
          case rel => exact ⟨k + 1, by omega, by go_num, HS.out, HBS.out, by simpa using hlt2⟩
          case measure => simp [intOf]; omega
        · obtain rfl : k = 65 := by omega
          rw [numTo_all] at ha
          obtain ⟨c1, f1⟩ := ha q z HG.out
          have hst := ha.store q (z + 1)
          have HBS := Lib.hid (hbel.setCell (p := ⟨w.heap.size, q, none⟩) (Nat.le_refl _) (.int .i64 (z + 1)))
          have hlt3 : w.heap.size < (wr.setCell ⟨w.heap.size, q, none⟩ (.int .i64 (z + 1))).heap.size := by simpa using hlt2
          have HC := Lib.hid (refShort_at w.heap.size 65 _ HTN.out rfl _ hst hlt3)
          clear ha hbel hst hlt3 hlt2
          generalize (numL zs).set q (z + 1) = T at *
          go_wp2_with fail
          refine HC.out.mono ?_
          rintro e w' ⟨A2, c2, rfl, hr, h2, h3, h4, hb2, hzz⟩
          have HO := Lib.hid (show IntsZ (shortL T) w (.returned (.slice A2 (shortL T).length c2)) w' from ⟨A2, c2, rfl, hr, h2, h3, h4, HBS.out.trans (hb2.mono (by simpa using HBS.out.size)), fun g o e => Nat.le_trans HBS.out.size (hzz g o e)⟩)
          clear hr h2 h3 h4 hb2 hzz HC
          go_wp2
          go_ret
          rw [HT.out]
          exact HO.out
    · have HT : Hid (tickN (numL zs) (q : Int) = numL zs) := by rw [Hid]; exact tick_none (fun h => hlt (by have := h.2; rwa [Int.toNat_natCast] at this))
      clear hx hat
      generalize (numL zs).getD q 0 = z at *
      have hzl : 4611686018427387904 ≤ z := by omega
      go_enter Try.func76, Try.ntmps76
      go_wp2_with fail
      refine (refAt_any A zs c _ _ hA).mono ?_
      rw [HAT.out]
      rintro e w' ⟨rfl, rfl⟩
      go_wp2_with fail
      refine (refShort_any A zs c _ hA).mono ?_
      rintro e w' ⟨A2, c2, rfl, hr, h2, h3, h4, hb2, hzz⟩
      have HO := Lib.hid (show IntsZ (shortL (numL zs)) w (.returned (.slice A2 (shortL (numL zs)).length c2)) w' from ⟨A2, c2, rfl, hr, h2, h3, h4, hb2, hzz⟩)
      clear hr h2 h3 h4 hb2 hzz
      go_wp2
      go_ret
      rw [HT.out]
      exact HO.out
  · have HT : Hid (tickN (numL zs) x = numL zs) := by rw [Hid]; exact tick_none (fun h => hx h.1)
    have hcs : x < 0 ∨ (0 ≤ x ∧ 64 < x) := by omega
    clear hx
    rcases hcs with h1 | ⟨h1, h2⟩
    all_goals
      go_enter Try.func76, Try.ntmps76
      go_wp2_with fail
      refine (refShort_any A zs c _ hA).mono ?_
      rintro e w' ⟨A2, c2, rfl, hr, h2, h3, h4, hb2, hzz⟩
      have HO := Lib.hid (show IntsZ (shortL (numL zs)) w (.returned (.slice A2 (shortL (numL zs)).length c2)) w' from ⟨A2, c2, rfl, hr, h2, h3, h4, hb2, hzz⟩)
      clear hr h2 h3 h4 hb2 hzz
      go_wp2
      go_ret
      rw [HT.out]
      exact HO.out

/-- Joined up to worker k; nothing behind. -/
def jnTo (M N : List Int) (k : Nat) : List Int := (List.range 65).map fun j => if j < k then max (M.getD j 0) (N.getD j 0) else 0
theorem jnTo_len (M N : List Int) (k : Nat) : (jnTo M N k).length = 65 := by simp [jnTo]
theorem jnTo_zero (M N : List Int) : jnTo M N 0 = List.replicate 65 0 := num_ext (jnTo_len _ _ _) rfl fun k hk => by
  rw [jnTo, range_getD _ _ _ _ hk, if_neg (Nat.not_lt_zero _), List.getD_eq_getElem?_getD, List.getElem?_replicate, if_pos hk]
  rfl
theorem jnTo_all (M N : List Int) : jnTo M N 65 = joinN M N := num_ext (jnTo_len _ _ _) (joinN_len _ _) fun k hk => by
  rw [jnTo, range_getD _ _ _ _ hk, if_pos hk, joinN_at _ _ hk]
theorem jnTo_step (M N : List Int) {k : Nat} (hk : k < 65) : (jnTo M N k).set k (max (M.getD k 0) (N.getD k 0)) = jnTo M N (k + 1) := by
  refine num_ext (by rw [List.length_set, jnTo_len]) (jnTo_len _ _ _) fun j hj => ?_
  rw [set_getD _ _ _ _ (by rw [jnTo_len]; exact hk), jnTo, jnTo, range_getD _ _ _ _ hj, range_getD _ _ _ _ hj]
  by_cases e : k = j
  · subst e; rw [if_pos rfl, if_pos (Nat.lt_succ_self _)]
  · rw [if_neg e]
    by_cases h : j < k
    · rw [if_pos h, if_pos (by omega)]
    · rw [if_neg h, if_neg (by omega)]

set_option maxRecDepth 100000 in
set_option maxHeartbeats 4000000 in
theorem refJoin_any (A B : Option Addr) (zs ys : List Int) (c d : Nat) (w : World) (hA : Rd (Value.int .i64) w w.heap.size A zs) (hB : Rd (Value.int .i64) w w.heap.size B ys) :
    Calls Try.prog 73 #[.slice A zs.length c, .slice B ys.length d] w (IntsZ (shortL (joinN (numL zs) (numL ys))) w) := by
  obtain ⟨i0, hi0, hz0, hz1, hz2⟩ := info_parts info_int
  have HTN : Hid (IsNum (joinN (numL zs) (numL ys))) := Lib.hid (joinN_num (numL_num zs))
  have hb8 : i0.bytes * 65 ≤ 281474976710656 := by rw [hz2]; omega
  have hml : 65 ≤ maxLen := by unfold maxLen; omega
  go_enter Try.func73, Try.ntmps73
  go_wp2_with (at_make; refine wpList_make_full _ rfl _ _ _ rfl w.heap.size 3 i0 (.int .i64 0) 1 Try.underlying38 hi0 hz0 hz1 _ _ _ _ 65 rfl rfl rfl rfl hb8 hml (Nat.le_refl _) ?_; intro w1 hown hgr)
  have hb1 : Below w.heap.size w w1 := (Below.refl _ _).grown hgr (Nat.le_refl _) (fun _ h => by cases h)
  have harr := Arr.of_own (made_ints hown)
  have hlt1 := own_lt hown
  have harr' : Arr w1 w.heap.size (jnTo (numL zs) (numL ys) 0) := by rw [jnTo_zero]; exact harr
  clear hown hgr harr hi0 hz0 hz1 hz2 hb8 hml
  go_loopw [10] (fun i wr => ∃ k : Nat, k ≤ 65 ∧ i = .int .i64 k ∧ Arr wr w.heap.size (jnTo (numL zs) (numL ys) k) ∧ Below w.heap.size w wr ∧ w.heap.size < wr.heap.size) (fun i _ => 65 - (intOf i).toNat)
  case atStart => exact ⟨0, Nat.zero_le _, rfl, harr', hb1, hlt1⟩
  case round =>
    obtain ⟨k, hk, rfl, ha, hbel, hlt2⟩ := hrel
    by_cases hk65 : k < 65
    · obtain ⟨c1, f1⟩ := ha k _ (List.getElem?_eq_getElem (by rw [jnTo_len]; exact hk65))
      generalize (jnTo (numL zs) (numL ys) k)[k]'(by rw [jnTo_len]; exact hk65) = u at c1
      have hst := ha.store k (max ((numL zs).getD k 0) ((numL ys).getD k 0))
      rw [jnTo_step _ _ hk65] at hst
      have hbs := hbel.setCell (p := ⟨w.heap.size, k, none⟩) (Nat.le_refl _) (.int .i64 (max ((numL zs).getD k 0) ((numL ys).getD k 0)))
      have HR := Lib.hid (hA.below hbel)
      have HR2 := Lib.hid (hB.below hbel)
      have HE := Lib.hid ((atZ_nat zs hk65).trans (numL_at zs k).symm)
      have HE2 := Lib.hid ((atZ_nat ys hk65).trans (numL_at ys k).symm)
      generalize (numL zs).getD k 0 = x at *
      generalize (numL ys).getD k 0 = y at *
      have hm : max x y = if x < y then y else x := by split <;> omega
      rw [hm] at hst hbs
      have HS := Lib.hid hst
      have HBS := Lib.hid hbs
      clear ha hbel hst hbs hm
      have hk0 : (0 : Int) ≤ (k : Int) := by omega
      have hk1 : (k : Int) < 65 := by omega
      go_wp2_with fail
      refine (refAt_any A zs c _ _ HR.out).mono ?_
      rw [HE.out]
      rintro e w' ⟨rfl, rfl⟩
      go_wp2_with fail
      refine (refAt_any B ys d _ _ HR2.out).mono ?_
      rw [HE2.out]
      rintro e w' ⟨rfl, rfl⟩
      by_cases hxy : x < y
      · rw [Hid, if_pos hxy] at HS HBS
        have HS := Lib.hid HS
        have HBS := Lib.hid HBS
        go_wp2
        go_roundw
        case rel => exact ⟨k + 1, by omega, by go_num, HS.out, HBS.out, by simpa using hlt2⟩
        case measure => simp [intOf]; omega
      · rw [Hid, if_neg hxy] at HS HBS
        have HS := Lib.hid HS
        have HBS := Lib.hid HBS
        go_wp2
        go_roundw
        case rel => exact ⟨k + 1, by omega, by go_num, HS.out, HBS.out, by simpa using hlt2⟩
        case measure => simp [intOf]; omega
    · obtain rfl : k = 65 := by omega
      rw [jnTo_all] at ha
      have HC := Lib.hid (refShort_at w.heap.size 65 _ HTN.out rfl _ ha hlt2)
      clear ha hlt2
      generalize joinN (numL zs) (numL ys) = T at *
      go_wp2_with fail
      refine HC.out.mono ?_
      rintro e w' ⟨A2, c2, rfl, hr, h2, h3, h4, hb2, hzz⟩
      have HO := Lib.hid (show IntsZ (shortL T) w (.returned (.slice A2 (shortL T).length c2)) w' from ⟨A2, c2, rfl, hr, h2, h3, h4, Below.next hbel hb2, fun g o e => Nat.le_trans hbel.size (hzz g o e)⟩)
      clear hr h2 h3 h4 hb2 hzz HC
      go_wp2
      go_ret
      exact HO.out

end Go.Proofs.Ytdgmcaehadigaaa
