/- The plain side: Union, Meet and Less, by contract: what they answer is what the words, put together, are. -/
import Derived.Test.YtkfbgadcfinlfaaDoorRefBits2
import Derived.Test.YtkfbgadcfinlfaaDoorBitAlgebra
import Derived.Lib.SmallJoins
namespace Go.Proofs.YtkfbgadcfinlfaaDoor
open Go.RowKit

theorem own_below {w w' : World} {B : Nat} {e : TypeId} {k : Nat} {v : Value} {n : Nat} {xs : List Value} (h : w.ownsRow B e k v n xs) (hb : Below w.heap.size w w') : w'.ownsRow B e k v n xs :=
  h.kept (row := none) ⟨hb.os, hb.tape, hb.output, hb.size, fun j hj _ => hb.block j hj⟩ (by cases hv : v.ownBlock <;> simp)

theorem union_plain (xs ys L M : List Int) (hx : Words xs) (hy : Words ys) (h : Nums xs L) (h' : Nums ys M) : ofL (L ++ M) = trimR (zipL orF xs ys) := by
  refine of_zip orF orF_range xs ys _ (fun m => ?_)
  rw [has_of, has_or xs ys hx hy]
  cases hp : hasB xs m <;> cases hq : hasB ys m
  · rw [decide_eq_false]; rfl
    intro hm
    rcases List.mem_append.1 hm with hm | hm
    · rw [(h.2 m).1 hm] at hp; cases hp
    · rw [(h'.2 m).1 hm] at hq; cases hq
  · have hr := has_range hq
    rw [decide_eq_true (List.mem_append.2 (.inr ((h'.2 m).2 hq))), decide_eq_true hr.1, decide_eq_true hr.2]; rfl
  · have hr := has_range hp
    rw [decide_eq_true (List.mem_append.2 (.inl ((h.2 m).2 hp))), decide_eq_true hr.1, decide_eq_true hr.2]; rfl
  · have hr := has_range hp
    rw [decide_eq_true (List.mem_append.2 (.inl ((h.2 m).2 hp))), decide_eq_true hr.1, decide_eq_true hr.2]; rfl

theorem meet_plain (xs ys L : List Int) (hx : Words xs) (hy : Words ys) (h : Nums xs L) : ofL (L.filter fun m => hasB ys m) = trimR (zipL andF xs ys) := by
  refine of_zip andF andF_range xs ys _ (fun m => ?_)
  rw [has_of, has_and xs ys hx hy]
  cases hp : hasB xs m <;> cases hq : hasB ys m
  · rw [decide_eq_false (fun hm => by rw [List.mem_filter, hq] at hm; cases hm.2)]; rfl
  · rw [decide_eq_false (fun hm => by rw [List.mem_filter, h.2 m, hp] at hm; cases hm.1)]; rfl
  · rw [decide_eq_false (fun hm => by rw [List.mem_filter, hq] at hm; cases hm.2)]; rfl
  · have hr := has_range hp
    rw [decide_eq_true (List.mem_filter.2 ⟨(h.2 m).2 hp, hq⟩), decide_eq_true hr.1, decide_eq_true hr.2]; rfl

theorem less_plain (xs ys L : List Int) (hx : Words xs) (hy : Words ys) (h : Nums xs L) : ofL (L.filter fun m => !hasB ys m) = trimR (zipL andNotF xs ys) := by
  refine of_zip andNotF andNotF_range xs ys _ (fun m => ?_)
  rw [has_of, has_andNot xs ys hx hy]
  cases hp : hasB xs m <;> cases hq : hasB ys m
  · rw [decide_eq_false (fun hm => by rw [List.mem_filter, h.2 m, hp] at hm; cases hm.1)]; rfl
  · rw [decide_eq_false (fun hm => by rw [List.mem_filter, h.2 m, hp] at hm; cases hm.1)]; rfl
  · have hr := has_range hp
    rw [decide_eq_true (List.mem_filter.2 ⟨(h.2 m).2 hp, by rw [hq]; rfl⟩), decide_eq_true hr.1, decide_eq_true hr.2]; rfl
  · rw [decide_eq_false (fun hm => by rw [List.mem_filter, hq] at hm; cases hm.2)]; rfl

theorem filter_step (p : Int → Bool) (L : List Int) (k : Nat) (hk : k < L.length) : (L.take (k + 1)).filter p = (L.take k).filter p ++ (if p L[k] then [L[k]] else []) := by
  rw [List.take_succ_eq_append_getElem hk, List.filter_append]
  by_cases h : p L[k] = true
  · rw [if_pos h]; simp [h]
  · rw [if_neg h]; simp only [Bool.not_eq_true] at h; simp [h]

set_option maxHeartbeats 2000000 in
theorem RefUnion_any (A B : Option Addr) (xs ys : List Int) (ca cb : Nat) (w : World)
    (hA : Rd (Value.int .u64) w w.heap.size A xs) (hB : Rd (Value.int .u64) w w.heap.size B ys) (hxw : Words xs) (hyw : Words ys) :
    Calls Tryd.prog 19 #[.slice A xs.length ca, .slice B ys.length cb] w (WordsOut (trimR (zipL orF xs ys)) w) := by
  obtain ⟨i0, hi0, hz0, hz1, hz2⟩ := info_parts info_num
  have HX := Lib.hid hxw
  have HY := Lib.hid hyw
  clear hxw hyw
  go_enter Tryd.func19, Tryd.ntmps19
  go_wp2_with fail
  refine Calls.mono (RefList_any A xs ca w hA HX.out) ?_
  rintro e w1 ⟨L, LA, lc, rfl, hl, hnl, hb1⟩
  have hB1 := (hB.below hb1).more hb1.size
  have HL := Lib.hid hnl
  have hLn := hnl.len
  have hs1 := hb1.size
  clear hA hB hnl
  go_wp2_with fail
  refine Calls.mono (RefList_any B ys cb w1 hB1 HY.out) ?_
  rintro e w2 ⟨M, MA, mc, rfl, hm, hnm, hb2⟩
  have hl2 := own_below hl hb2
  have HM := Lib.hid hnm
  have hMn := hnm.len
  have hs2 := hb2.size
  have hW2 := Below.next hb1 hb2
  clear hl hnm hB1 hb2
  have HE := Lib.hid (union_plain xs ys L M HX.out HY.out HL.out HM.out)
  rcases Joins.ownsRow_forms hm with ⟨hv, hn⟩ | ⟨g, cap, hv⟩
  · have hM : M = [] := List.eq_nil_of_length_eq_zero hn
    subst hM
    cases hv
    go_wp2_with (at_builtin; refine wpList_append_own_none rfl _ _ 23 rfl w.heap.size 3 i0 1 Tryd.underlying23 hi0 _ _ _ rfl hl2 rfl ?_)
    go_wp2_with fail
    refine Calls.mono (RefOf_any LA L _ lc w2 rfl (Rd.of_own hl2) (by omega)) ?_
    rw [show ofL L = trimR (zipL orF xs ys) from by rw [← HE.out, List.append_nil]]
    rintro e w3 ⟨A3, c3, rfl, hr, h1, h2, hb3⟩
    go_wp2
    go_ret
    exact ⟨A3, c3, rfl, hr, h1, h2, Below.next hW2 hb3⟩
  · cases hv
    go_wp2_with (at_builtin; refine wpList_append_own _ rfl _ _ 23 rfl w.heap.size 3 i0 (.int .i64 0) 1 8 Tryd.underlying23 hi0 hz0 hz1 hz2 rfl (by decide) _ _ _ rfl hl2 ⟨g, 0, none⟩ M.length _ (M.map (Value.int .i64)) rfl ?c0 ?c1 ?c2 ?c3 ?c4 ?c5 ?_)
    case c0 => simp
    case c1 => exact hm.cells rfl
    case c2 =>
      intro u hu
      obtain ⟨z, _, rfl⟩ := List.mem_map.1 hu
      rfl
    case c3 => unfold maxLen; omega
    case c4 => omega
    case c5 => omega
    intro v' w3 hown3 hgrow _
    have hW3 := own_base hl2 hW2 (Nat.le_refl _) (by omega) hgrow
    obtain ⟨A', c', rfl, _, _⟩ := own_slice hown3
    rw [← List.map_append] at hown3
    go_wp2_with fail
    refine Calls.mono (RefOf_any A' (L ++ M) _ c' w3 (by simp) (Rd.of_own hown3) (by rw [List.length_append]; omega)) ?_
    rw [HE.out]
    rintro e w4 ⟨A3, c3, rfl, hr, h1, h2, hb3⟩
    go_wp2
    go_ret
    exact ⟨A3, c3, rfl, hr, h1, h2, Below.next hW3 hb3⟩

end Go.Proofs.YtkfbgadcfinlfaaDoor
