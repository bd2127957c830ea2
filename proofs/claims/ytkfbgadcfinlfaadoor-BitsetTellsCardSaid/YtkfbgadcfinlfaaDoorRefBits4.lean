/- The plain side: Meet and Less, by contract. -/
import Derived.Test.YtkfbgadcfinlfaaDoorRefBits3
namespace Go.Proofs.YtkfbgadcfinlfaaDoor
open Go.RowKit

set_option maxRecDepth 100000 in
set_option maxHeartbeats 2000000 in
theorem RefMeet_any (A B : Option Addr) (xs ys : List Int) (ca cb : Nat) (w : World)
    (hA : Rd (Value.int .u64) w w.heap.size A xs) (hB : Rd (Value.int .u64) w w.heap.size B ys) (hxw : Words xs) (hyw : Words ys) :
    Calls Tryd.prog 21 #[.slice A xs.length ca, .slice B ys.length cb] w (WordsOut (trimR (zipL andF xs ys)) w) := by
  obtain ⟨i0, hi0, hz0, hz1, hz2⟩ := info_parts info_num
  have HX := Lib.hid hxw
  have HY := Lib.hid hyw
  clear hxw hyw
  go_enter Tryd.func21, Tryd.ntmps21
  go_wp2_with fail
  refine Calls.mono (RefList_any A xs ca w hA HX.out) ?_
  rintro e w1 ⟨L, LA, lc, rfl, hl, hnl, hb1⟩
  have hB1 := (hB.below hb1).more hb1.size
  have hLn := hnl.len
  have hs1 := hb1.size
  have hrd : Rd (Value.int .i64) w1 w1.heap.size LA L := Rd.of_own hl
  have HE := Lib.hid (meet_plain xs ys L HX.out HY.out hnl)
  clear hA hB hnl hl
  obtain ⟨p, hp⟩ : ∃ p : Int → Bool, p = fun m => hasB ys m := ⟨_, rfl⟩
  have HP := Lib.hid (fun m => (congrFun hp m : p m =  hasB ys m))
  rw [← hp] at HE
  clear hp
  go_wp2
  go_loopw [5, 11] (fun v i wr => ∃ k : Nat, k ≤ L.length ∧ i = .int .i64 k ∧ wr.ownsRow w1.heap.size 3 1 v ((L.take k).filter p).length (((L.take k).filter p).map (Value.int .i64)) ∧ Below w1.heap.size w1 wr)
    (fun _ i _ => L.length - (intOf i).toNat)
  case atStart => exact ⟨0, Nat.zero_le _, rfl, World.ownsRow_nil _ _ _ _, Below.refl _ _⟩
  case round =>
    obtain ⟨k, hk, rfl, hown, hbel⟩ := hrel
    have hfl : ((L.take k).filter p).length ≤ 4096 := by
      have h1 := List.length_filter_le p (L.take k)
      rw [List.length_take] at h1
      omega
    by_cases hlt : k < L.length
    · obtain ⟨b, off, rfl, hb, hcell⟩ := (hrd.below hbel).at_ hlt
      have hst := Lib.hid (filter_step p L k hlt)
      have hkl : (k : Int) < (L.length : Int) := by omega
      have hb2 := hbel.size
      generalize L[k] = x at hcell hst
      generalize (L.take k).filter p = R at *
      have hh := Lib.hid (RefHas_any B ys ys.length cb x wr rfl ((hB1.below hbel).more hbel.size) HY.out)
      have hpx := HP.out x
      by_cases hm : hasB ys x = true
      · rw [hm] at hpx
        have hpH := Lib.hid hpx
        have hmH := Lib.hid hm
        clear hm hpx
        go_wp2_with fail
        refine hh.out.mono ?_
        rintro e w2 ⟨rfl, rfl⟩
        rw [hmH.out]
        clear hh
        go_wp2_with (at_builtin; refine wpList_append_own _ rfl _ _ 23 rfl w1.heap.size 3 i0 (.int .i64 0) 1 8 Tryd.underlying23 hi0 hz0 hz1 hz2 rfl (by decide) _ _ _ rfl (hown.alloc _) ⟨wr.heap.size, 0, none⟩ 1 1 [.int .i64 x] rfl rfl ?c1 ?c2 ?c3 ?c4 ?c5 ?_)
        case c1 =>
          intro j u hj
          match j, hj with
          | 0, hj => simp at hj; subst hj; simp [Addr.add]
        case c2 => intro u hu; simp at hu; subst hu; rfl
        case c3 => unfold maxLen; omega
        case c4 => omega
        case c5 => simp; omega
        intro v' w2 hown2 hgrow _
        have hB2 := own_base (hown.alloc (.cells #[.int .i64 x] 3)) (hbel.alloc hb2 _) (Nat.le_refl _) (by simp; omega) hgrow
        clear hgrow hown
        go_wp2
        go_roundw
        case rel =>
          refine ⟨k + 1, by omega, by go_num, ?_, hB2⟩
          rw [hst.out, hpH.out]
          simpa using hown2
        case measure => simp [intOf]; omega
      · simp only [Bool.not_eq_true] at hm
        rw [hm] at hpx
        have hpH := Lib.hid hpx
        have hmH := Lib.hid hm
        clear hm hpx
        go_wp2_with fail
        refine hh.out.mono ?_
        rintro e w2 ⟨rfl, rfl⟩
        rw [hmH.out]
        clear hh
        go_wp2
        go_roundw
        case rel =>
          refine ⟨k + 1, by omega, by go_num, ?_, hbel⟩
          rw [hst.out, hpH.out]
          simpa using hown
        case measure => simp [intOf]; omega
    · rw [List.take_of_length_le (by omega)] at hown hfl
      obtain ⟨A', c', rfl, _, _⟩ := own_slice hown
      have hb2 := hbel.size
      go_wp2_with fail
      refine Calls.mono (RefOf_any A' (L.filter p) _ c' _ rfl (Rd.of_own hown) (by omega)) ?_
      rw [HE.out]
      rintro e w3 ⟨A3, c3, rfl, hr, h1, h2, hb3⟩
      go_wp2
      go_ret
      exact ⟨A3, c3, rfl, hr, h1, h2, Below.next (Below.next hb1 hbel) hb3⟩

set_option maxRecDepth 100000 in
set_option maxHeartbeats 2000000 in
theorem RefLess_any (A B : Option Addr) (xs ys : List Int) (ca cb : Nat) (w : World)
    (hA : Rd (Value.int .u64) w w.heap.size A xs) (hB : Rd (Value.int .u64) w w.heap.size B ys) (hxw : Words xs) (hyw : Words ys) :
    Calls Tryd.prog 23 #[.slice A xs.length ca, .slice B ys.length cb] w (WordsOut (trimR (zipL andNotF xs ys)) w) := by
  obtain ⟨i0, hi0, hz0, hz1, hz2⟩ := info_parts info_num
  have HX := Lib.hid hxw
  have HY := Lib.hid hyw
  clear hxw hyw
  go_enter Tryd.func23, Tryd.ntmps23
  go_wp2_with fail
  refine Calls.mono (RefList_any A xs ca w hA HX.out) ?_
  rintro e w1 ⟨L, LA, lc, rfl, hl, hnl, hb1⟩
  have hB1 := (hB.below hb1).more hb1.size
  have hLn := hnl.len
  have hs1 := hb1.size
  have hrd : Rd (Value.int .i64) w1 w1.heap.size LA L := Rd.of_own hl
  have HE := Lib.hid (less_plain xs ys L HX.out HY.out hnl)
  clear hA hB hnl hl
  obtain ⟨p, hp⟩ : ∃ p : Int → Bool, p = fun m => !hasB ys m := ⟨_, rfl⟩
  have HP := Lib.hid (fun m => (congrFun hp m : p m = ! hasB ys m))
  rw [← hp] at HE
  clear hp
  go_wp2
  go_loopw [5, 11] (fun v i wr => ∃ k : Nat, k ≤ L.length ∧ i = .int .i64 k ∧ wr.ownsRow w1.heap.size 3 1 v ((L.take k).filter p).length (((L.take k).filter p).map (Value.int .i64)) ∧ Below w1.heap.size w1 wr)
    (fun _ i _ => L.length - (intOf i).toNat)
  case atStart => exact ⟨0, Nat.zero_le _, rfl, World.ownsRow_nil _ _ _ _, Below.refl _ _⟩
  case round =>
    obtain ⟨k, hk, rfl, hown, hbel⟩ := hrel
    have hfl : ((L.take k).filter p).length ≤ 4096 := by
      have h1 := List.length_filter_le p (L.take k)
      rw [List.length_take] at h1
      omega
    by_cases hlt : k < L.length
    · obtain ⟨b, off, rfl, hb, hcell⟩ := (hrd.below hbel).at_ hlt
      have hst := Lib.hid (filter_step p L k hlt)
      have hkl : (k : Int) < (L.length : Int) := by omega
      have hb2 := hbel.size
      generalize L[k] = x at hcell hst
      generalize (L.take k).filter p = R at *
      have hh := Lib.hid (RefHas_any B ys ys.length cb x wr rfl ((hB1.below hbel).more hbel.size) HY.out)
      have hpx := HP.out x
      by_cases hm : hasB ys x = true
      · rw [hm] at hpx
        have hpH := Lib.hid hpx
        have hmH := Lib.hid hm
        clear hm hpx
        go_wp2_with fail
        refine hh.out.mono ?_
        rintro e w2 ⟨rfl, rfl⟩
        rw [hmH.out]
        clear hh
        go_wp2
        go_roundw
        case rel =>
          refine ⟨k + 1, by omega, by go_num, ?_, hbel⟩
          rw [hst.out, hpH.out]
          simpa using hown
        case measure => simp [intOf]; omega
      · simp only [Bool.not_eq_true] at hm
        rw [hm] at hpx
        have hpH := Lib.hid hpx
        have hmH := Lib.hid hm
        clear hm hpx
        go_wp2_with fail
        refine hh.out.mono ?_
        rintro e w2 ⟨rfl, rfl⟩
        rw [hmH.out]
        clear hh
        go_wp2_with (at_builtin; refine wpList_append_own _ rfl _ _ 23 rfl w1.heap.size 3 i0 (.int .i64 0) 1 8 Tryd.underlying23 hi0 hz0 hz1 hz2 rfl (by decide) _ _ _ rfl (hown.alloc _) ⟨wr.heap.size, 0, none⟩ 1 1 [.int .i64 x] rfl rfl ?c1 ?c2 ?c3 ?c4 ?c5 ?_)
        case c1 =>
          intro j u hj
          match j, hj with
          | 0, hj => simp at hj; subst hj; simp [Addr.add]
        case c2 => intro u hu; simp at hu; subst hu; rfl
        case c3 => unfold maxLen; omega
        case c4 => omega
        case c5 => simp; omega
        intro v' w2 hown2 hgrow _
        have hB2 := own_base (hown.alloc (.cells #[.int .i64 x] 3)) (hbel.alloc hb2 _) (Nat.le_refl _) (by simp; omega) hgrow
        clear hgrow hown
        go_wp2
        go_roundw
        case rel =>
          refine ⟨k + 1, by omega, by go_num, ?_, hB2⟩
          rw [hst.out, hpH.out]
          simpa using hown2
        case measure => simp [intOf]; omega
    · rw [List.take_of_length_le (by omega)] at hown hfl
      obtain ⟨A', c', rfl, _, _⟩ := own_slice hown
      have hb2 := hbel.size
      go_wp2_with fail
      refine Calls.mono (RefOf_any A' (L.filter p) _ c' _ rfl (Rd.of_own hown) (by omega)) ?_
      rw [HE.out]
      rintro e w3 ⟨A3, c3, rfl, hr, h1, h2, hb3⟩
      go_wp2
      go_ret
      exact ⟨A3, c3, rfl, hr, h1, h2, Below.next (Below.next hb1 hbel) hb3⟩

end Go.Proofs.YtkfbgadcfinlfaaDoor
