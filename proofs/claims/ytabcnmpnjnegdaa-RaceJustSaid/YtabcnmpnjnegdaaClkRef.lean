/- The document's own clocks (At, Short, Tick, Join, Compare), by contract. -/
import Derived.Test.YtabcnmpnjnegdaaClkCmp
import Derived.Deep.DeepCutAuto
import Derived.Deep.CutBlock
namespace Go.Proofs.Ytabcnmpnjnegdaa
open Go.RowKit

set_option maxHeartbeats 1000000 in
theorem refAt_any (A : Option Addr) (zs : List Int) (c : Nat) (x : Int) (w : World) {B : Nat} (hA : Rd (Value.int .i64) w B A zs) :
    Calls Try.prog 11 #[.slice A zs.length c, .int .i64 x] w fun e w' => e = .returned (.int .i64 (atZ zs x)) ∧ w = w' := by
  by_cases h1 : 0 ≤ x ∧ x ≤ 64
  · obtain ⟨k, rfl⟩ : ∃ k : Nat, x = (k : Int) := ⟨x.toNat, by omega⟩
    by_cases h2 : k < zs.length
    · obtain ⟨b, off, rfl, hb, hc⟩ := hA.at_ h2
      have he : atZ zs (k : Int) = max zs[k] 0 := by
        rw [atZ, if_pos h1, Int.toNat_natCast, numL_at, atN, if_pos (by omega), List.getD_eq_getElem?_getD, List.getElem?_eq_getElem h2]
        rfl
      have HE := Lib.hid he
      generalize zs[k] = z at *
      have hk0 : (0 : Int) ≤ (k : Int) := h1.1
      have hk1 : (k : Int) < (zs.length : Int) := by omega
      have hk2 : (k : Int) ≤ 64 := h1.2
      clear he h1
      go_enter Try.func11, Try.ntmps11
      go_wp2
      all_goals
        go_ret
        exact ⟨ret_int (by have := HE.out; omega), rfl⟩
    · have he : atZ zs (k : Int) = 0 := by
        rw [atZ, if_pos h1, Int.toNat_natCast, numL_at, atN, if_pos (by omega), List.getD_eq_getElem?_getD, List.getElem?_eq_none (by omega)]
        rfl
      have HE := Lib.hid he
      have hk0 : (0 : Int) ≤ (k : Int) := h1.1
      have hk1 : ¬ (k : Int) < (zs.length : Int) := by omega
      have hk3 : (k : Int) ≤ 64 := h1.2
      clear he h1
      go_enter Try.func11, Try.ntmps11
      go_wp2
      go_ret
      exact ⟨ret_int HE.out.symm, rfl⟩
  · have HE := Lib.hid (show atZ zs x = 0 from if_neg h1)
    by_cases h2 : 0 ≤ x
    · have h3 : (64 : Int) < x := by omega
      clear h1
      go_enter Try.func11, Try.ntmps11
      go_wp2
      go_ret
      exact ⟨ret_int HE.out.symm, rfl⟩
    · clear h1
      go_enter Try.func11, Try.ntmps11
      go_wp2
      go_ret
      exact ⟨ret_int HE.out.symm, rfl⟩

def sliceLen : Value → Nat
  | .slice _ n _ => n
  | _ => 0
theorem atZ_nat (zs : List Int) {k : Nat} (h : k < 65) : atZ zs (k : Int) = atN zs k := by
  rw [atZ, if_pos (by omega), Int.toNat_natCast, numL_at]
theorem take_num_succ (zs : List Int) (k : Nat) (h : k < 65) : (numL zs).take (k + 1) = (numL zs).take k ++ [atN zs k] := by
  rw [List.take_add_one, getD_at (by rw [numL_len]; exact h), numL_at]
  rfl

set_option maxRecDepth 100000 in
set_option maxHeartbeats 2000000 in
theorem refShort_any (A : Option Addr) (zs : List Int) (c : Nat) (w : World) (hA : Rd (Value.int .i64) w w.heap.size A zs) :
    Calls Try.prog 14 #[.slice A zs.length c] w (IntsOut (shortL (numL zs)) w) := by
  obtain ⟨i0, hi0, hz0, hz1, hz2⟩ := info_parts info_int
  have HS := Lib.hid (short_min zs)
  obtain ⟨m, hm⟩ : ∃ m, min 65 zs.length = m := ⟨_, rfl⟩
  rw [hm] at HS
  have hm65 : m ≤ 65 := by omega
  have hmz : m ≤ zs.length := by omega
  have hme : m = 65 ∨ m = zs.length := by omega
  go_enter Try.func14, Try.ntmps14
  go_wp2
  go_loopw [3, 4] (fun v i wr => ∃ k : Nat, k ≤ m ∧ i = .int .i64 k ∧ wr.ownsRow w.heap.size 3 1 v k (((numL zs).take k).map (Value.int .i64)) ∧ Below w.heap.size w wr) (fun _ i _ => m - (intOf i).toNat)
  case atStart => exact ⟨0, Nat.zero_le _, rfl, World.ownsRow_nil _ _ _ _, Below.refl _ _⟩
  case round =>
    obtain ⟨k, hk, rfl, hown, hbel⟩ := hrel
    have hsz : w.heap.size ≤ wr.heap.size := hbel.size
    by_cases hlt : k < m
    · have HT := Lib.hid (take_num_succ zs k (by omega))
      have HE := Lib.hid (atZ_nat zs (show k < 65 by omega))
      generalize atN zs k = z at *
      have hk1 : (k : Int) ≤ 64 := by omega
      have hk2 : (k : Int) < (zs.length : Int) := by omega
      have HR := Lib.hid (hA.below hbel)
      clear hme hm
      go_wp2_with fail
      refine (refAt_any A zs c _ _ HR.out).mono ?_
      rw [HE.out]
      rintro e w' ⟨rfl, rfl⟩
      go_wp2_with (at_builtin; refine wpList_append_own _ rfl _ _ 22 rfl w.heap.size 3 i0 (.int .i64 0) 1 8 Try.underlying22 hi0 hz0 hz1 hz2 rfl (by decide) _ _ _ rfl (hown.alloc _) ⟨wr.heap.size, 0, none⟩ 1 1 [.int .i64 z] rfl rfl ?c1 ?c2 ?c3 ?c4 ?c5 ?_)
      case c1 =>
        intro j u hj
        match j, hj with
        | 0, hj => simp at hj; subst hj; simp [Addr.add]
      case c2 => intro u hu; simp at hu; subst hu; rfl
      case c3 => unfold maxLen; omega
      case c4 => omega
      case c5 => simp; omega
      intro v' w2 hown2 hgrow _
      have hB2 := ownBase (hown.alloc _) (hbel.alloc hsz _) (Nat.le_refl _) (by simp; omega) hgrow
      have hown3 : w2.ownsRow w.heap.size 3 1 v' (k + 1) (((numL zs).take (k + 1)).map (Value.int .i64)) := by
        rw [HT.out, List.map_append, List.map_take]; exact hown2
      clear hgrow hown hown2
      go_wp2
      go_roundw
      case rel => exact ⟨k + 1, by omega, by go_num, hown3, hB2⟩
      case measure => simp [intOf]; omega
    · obtain rfl : k = m := by omega
      clear hk hlt
      have hlen : ((numL zs).take k).length = k := by rw [List.length_take, numL_len]; omega
      obtain ⟨PA, pc, rfl, hkc, hpc⟩ := ownSlice hown
      have hnone : PA = none → pc = 0 := fun h => by
        subst h
        rcases hown.2 with ⟨hv, _⟩ | ⟨g, cap, cur, hv, _⟩
        · injection hv
        · injection hv with hv; cases hv
      have HNO := Lib.hid hnone
      have hR : Rd (Value.int .i64) wr wr.heap.size PA ((numL zs).take k) := Rd.of_own (n := k) hown
      have HR := Lib.hid hR
      have HB := Lib.hid hbel
      have HLE := Lib.hid hlen
      clear hown hnone hR hbel hlen hA hsz hi0 hz0 hz1 hz2
      have hcase : ¬ (k : Int) ≤ 64 ∨ ((k : Int) ≤ 64 ∧ ¬ (k : Int) < (zs.length : Int)) := by omega
      have hk65 : k ≤ 65 := hm65
      clear hme hm hmz hm65
      rcases hcase with h64 | ⟨h64, hkz⟩
      all_goals
        go_wp2
        go_loop [3] (fun v => ∃ e : Nat, e ≤ k ∧ v = .slice PA e pc ∧ Hid (endN (numL zs) k = endN (numL zs) e)) (fun v => sliceLen v)
        case atStart => exact ⟨k, Nat.le_refl _, rfl, rfl⟩
        case round =>
          obtain ⟨e, he, rfl, HE⟩ := hrel
          rcases Nat.eq_zero_or_pos e with rfl | hpos
          · have HT : Hid (shortL (numL zs) = []) := by rw [Hid, HS.out, HE.out]; rfl
            go_wp2
            go_ret
            rw [HT.out]
            exact ⟨PA, pc, rfl, Rd.nil, HNO.out, by simp, hpc, HB.out⟩
          · obtain ⟨j, rfl⟩ : ∃ j, e = j + 1 := ⟨e - 1, by omega⟩
            have hjl : j < ((numL zs).take k).length := by rw [HLE.out]; omega
            obtain ⟨b, off, rfl, hbb, hc⟩ := HR.out.at_ hjl
            have hz : ((numL zs).take k)[j] = (numL zs).getD j 0 := by
              rw [List.getElem_take, List.getD_eq_getElem?_getD, List.getElem?_eq_getElem (by rw [numL_len]; omega)]
              rfl
            rw [hz] at hc
            have hst : (numL zs).getD j 0 = 0 → endN (numL zs) (j + 1) = endN (numL zs) j := endN_step
            have hsp : ¬ (numL zs).getD j 0 = 0 → endN (numL zs) (j + 1) = j + 1 := endN_stop
            have HST := Lib.hid hst
            have HSP := Lib.hid hsp
            clear hst hsp hz
            generalize (numL zs).getD j 0 = z at *
            have hj0 : (0 : Int) ≤ (j : Int) := by omega
            have hj1 : (0 : Int) < ((j + 1 : Nat) : Int) := by omega
            have hj2 : (j : Int) < ((j + 1 : Nat) : Int) := by omega
            have hj3 : IntKind.i64.wrap (((j + 1 : Nat) : Int) - 1) = (j : Int) := by rw [IntWalk.i64_in _ (by omega)]; omega
            have hjc : (j : Int) ≤ (pc : Int) := by omega
            have hpc0 : ¬ pc = 0 := by omega
            by_cases hz : z = 0
            · have HEN : Hid (endN (numL zs) k = endN (numL zs) j) := HE.out.trans (HST.out hz)
              subst hz
              go_wp2
              go_round
              case rel => exact ⟨j, by omega, rfl, HEN⟩
              case measure => simp [sliceLen]
            · have hq := HSP.out hz
              have HT : Hid (shortL (numL zs) = (numL zs).take (j + 1)) := by rw [Hid, HS.out, HE.out, hq]
              have HL : Hid (((numL zs).take (j + 1)).length = j + 1) := by rw [Hid, List.length_take, numL_len]; omega
              have HRR : Hid (Rd (Value.int .i64) wr wr.heap.size (some ⟨b, off, none⟩) ((numL zs).take (j + 1))) := Lib.hid fun i u hi => by
                refine HR.out i u ?_
                rw [List.getElem?_take] at hi ⊢
                split at hi
                · rename_i hij
                  rw [if_pos (by omega)]
                  exact hi
                · cases hi
              clear hq
              go_wp2
              go_ret
              rw [HT.out]
              exact ⟨some ⟨b, off, none⟩, pc, by rw [HL.out]; rfl, HRR.out, HNO.out, by rw [HL.out]; omega, hpc, HB.out⟩

end Go.Proofs.Ytabcnmpnjnegdaa
