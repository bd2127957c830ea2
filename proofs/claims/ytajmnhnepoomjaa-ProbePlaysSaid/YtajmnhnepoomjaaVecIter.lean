/- The iterators that vec goes by: slices.Values over components, and its own pairs; at() and the other small functions. -/
import Derived.Test.YtajmnhnepoomjaaVecPlain
import Derived.RangeFuncNested
import Derived.RangeFuncBound
import Derived.RangeFuncCalls
import Derived.RangeFuncLeaves
import Derived.RangeFuncBox
import Derived.Shelf.Abstract
import Derived.Shelf.RegionOpen
import Derived.OwnWalkIn
import Derived.TacticsInMore
import Derived.LoopNIn
import Derived.LoopIn
namespace Go.Proofs.Ytajmnhnepoomjaa
open Go.RowKit Go.Shelf
attribute [local go_sem] Oper.semAt_some
theorem wide_fn (f : FuncId) : Fence.wide.fn f = True := rfl
theorem wide_depth : Fence.wide.depth = none := rfl
attribute [local go_sem] wide_fn wide_depth

/-- A place below n. -/
abbrev Pl (n : Nat) := { k : Nat // k < n }
def UpTo {n : Nat} (k : Nat) (pre : List (Pl n)) : Prop := pre.map (·.1) = List.range k
theorem UpTo.nil {n : Nat} : UpTo (n := n) 0 [] := rfl
theorem UpTo.snoc {n k : Nat} {pre : List (Pl n)} (h : UpTo k pre) (hk : k < n) : UpTo (k + 1) (pre ++ [⟨k, hk⟩]) := by
  rw [UpTo, List.map_append, h, List.range_succ]; rfl
theorem UpTo.len {n k : Nat} {pre : List (Pl n)} (h : UpTo k pre) : pre.length = k := by
  have := congrArg List.length h; simpa using this

set_option maxHeartbeats 400000 in
theorem at_any (A : Option Addr) (zs : List Int) (c B k : Nat) (w : World) (hA : Rd (Value.int .i32) w B A zs) (hk : k ≤ 9223372036854775807) (hz : Hid (∀ z ∈ zs, -2147483648 ≤ z ∧ z ≤ 2147483647)) :
    Calls Try.prog 114 #[.slice A zs.length c, .int .i64 k] w fun e w' => e = .returned (.int .i64 (cpt zs k)) ∧ w = w' := by
  by_cases hlt : k < zs.length
  · obtain ⟨b, off, rfl, hb, hc⟩ := hA k _ (cpt_lt hlt)
    have h3 := hz.out _ (cpt_mem hlt)
    generalize cpt zs k = z at *
    have hkl : (k : Int) < (zs.length : Int) := by omega
    have hk0 : (0 : Int) ≤ (k : Int) := by omega
    go_enter Try.func114, Try.ntmps114
    go_wp2
    go_ret
    exact ⟨rfl, rfl⟩
  · rw [cpt_ge (by omega)]
    have hkl : (zs.length : Int) ≤ (k : Int) := by omega
    go_enter Try.func114, Try.ntmps114
    go_wp2
    go_ret
    exact ⟨rfl, rfl⟩

set_option maxHeartbeats 400000 in
theorem pairs_any (A B : Option Addr) (la ca lb cb : Nat) (w : World) :
    Calls Try.prog 68 #[.slice A la ca, .slice B lb cb] w fun e w' => e = .returned (.func (.func 113) #[] #[.pointer (some ⟨w.heap.size, 0, none⟩), .pointer (some ⟨w.heap.size + 1, 0, none⟩)]) ∧
      w' = (w.alloc (.cells #[.slice A la ca] 23)).alloc (.cells #[.slice B lb cb] 23) := by
  go_enter Try.func68, Try.ntmps68
  go_wp2
  go_ret
  exact ⟨by simp, rfl⟩

/-- What a round over pairs keeps: old memory, and the two boxes of the vectors. -/
def KpP (n₀ Ba Bb : Nat) (W W' : World) : Prop := Below n₀ W W' ∧ W'.cell? ⟨Ba, 0, none⟩ = W.cell? ⟨Ba, 0, none⟩ ∧ W'.cell? ⟨Bb, 0, none⟩ = W.cell? ⟨Bb, 0, none⟩

/-- How a round over pairs has ended. -/
def PairRes {n : Nat} (J Jx : List (Pl n) → World → Prop) (n₀ Ba Bb : Nat) (pre : List (Pl n)) (W : World) (b : Bool) (W' : World) : Prop :=
  (b = true ∧ J pre W' ∧ KpP n₀ Ba Bb W W') ∨ (b = false ∧ Jx pre W')

set_option maxRecDepth 100000 in
set_option maxHeartbeats 2000000 in
theorem pairs1_in (m : Nat) (l n n₀ Ba Bb : Nat) (A B : Option Addr) (xs ys : List Int) (ca cb : Nat) (hn : n = max xs.length ys.length) (hx : xs.length ≤ 9223372036854775807) (hy : ys.length ≤ 9223372036854775807)
    (hxs : Hid (∀ z ∈ xs, -2147483648 ≤ z ∧ z ≤ 2147483647)) (hys : Hid (∀ z ∈ ys, -2147483648 ≤ z ∧ z ≤ 2147483647)) (J Jx : List (Pl n) → World → Prop) (hJ : ∀ pre W, J pre W → J pre W.drew)
    (hY : ∀ pre x W, J pre W → pre.length < n → YieldAt Fence.wide (m - 1) Try.prog l #[.int .i64 (cpt xs x.1), .int .i64 (cpt ys x.1)] W fun e W' =>
      (e = .returned (.bool true) ∧ J (pre ++ [x]) W' ∧ KpP n₀ Ba Bb W W') ∨ (e = .returned (.bool false) ∧ Jx (pre ++ [x]) W'))
    (W : World) (hA : Rd (Value.int .i32) W n₀ A xs) (hB : Rd (Value.int .i32) W n₀ B ys) (hBa : W.cell? ⟨Ba, 0, none⟩ = some (.slice A xs.length ca)) (hBb : W.cell? ⟨Bb, 0, none⟩ = some (.slice B ys.length cb)) (h0 : J [] W) :
    CallsIn Fence.wide m Try.prog 113 #[.func (.yield l) #[] #[], .pointer (some ⟨Ba, 0, none⟩), .pointer (some ⟨Bb, 0, none⟩)] W fun e W' => (∃ v, e = .returned v) ∧
      ((∃ pre, UpTo n pre ∧ J pre W') ∨ (∃ pre, (∃ k, k ≤ n ∧ UpTo k pre) ∧ Jx pre W')) := by
  have hmix : Try.prog.follows .mixedOrders = true := by kernel_rfl
  have hnl : n ≤ 9223372036854775807 := by omega
  refine callsIn_of_wp Try.func113 rfl trivial ?_ rfl
  simp only [Try.ntmps113, List.size_toArray, List.length_cons, List.length_nil, Nat.reduceAdd, Nat.reduceSub, Array.replicate_succ, Array.replicate_zero, List.push_toArray, List.append_toArray, List.nil_append, List.cons_append]
  rcases Nat.lt_or_ge xs.length ys.length with hcase | hcase
  · have hn' : n = ys.length := by omega
    clear hn
    subst hn'
    have hlt' : (xs.length : Int) < (ys.length : Int) := by omega
    gi_wp2
    gi_loopw [10] (fun i wr => ∃ (k : Nat) (pre : List (Pl ys.length)), k ≤ ys.length ∧ i = .int .i64 k ∧ UpTo k pre ∧ J pre wr ∧ Rd (Value.int .i32) wr n₀ A xs ∧ Rd (Value.int .i32) wr n₀ B ys ∧
        wr.cell? ⟨Ba, 0, none⟩ = some (.slice A xs.length ca) ∧ wr.cell? ⟨Bb, 0, none⟩ = some (.slice B ys.length cb))
      (fun i _ => ys.length - (intOf i).toNat)
    case atStart => exact ⟨0, [], Nat.zero_le _, rfl, UpTo.nil, h0, hA, hB, hBa, hBb⟩
    case round =>
      clear h0 hA hB hBa hBb
      obtain ⟨k, pre, hk, rfl, hU, hJs, hA, hB, hBa, hBb⟩ := hrel
      by_cases hlt : k < ys.length
      · obtain ⟨fn, tmps, assign, body, hyl, hR⟩ := hY pre ⟨k, hlt⟩ wr.drew (hJ _ _ hJs) (by rw [hU.len]; exact hlt)
        dsimp only at hyl
        have HA : Hid (Rd (Value.int .i32) wr.drew n₀ A xs) := fun j z h => hA j z h
        have HB : Hid (Rd (Value.int .i32) wr.drew n₀ B ys) := fun j z h => hB j z h
        have HA0 := Lib.hid hA
        have HB0 := Lib.hid hB
        clear hA hB
        have hkl : (k : Int) < (ys.length : Int) := by omega
        have hR' : RoundIn Fence.wide (m - 1) Try.prog l fn tmps assign body wr.drew fun e W' => ∃ b, e = .returned (.bool b) ∧ PairRes J Jx n₀ Ba Bb (pre ++ [⟨k, hlt⟩]) wr.drew b W' :=
          hR.mono fun e W' h => h.elim (fun h => ⟨true, h.1, .inl ⟨rfl, h.2⟩⟩) (fun h => ⟨false, h.1, .inr ⟨rfl, h.2⟩⟩)
        clear hR
        gi_wp2
        gi_region_with_o (first
          | (gi_at_call 114; refine CallsIn.mono (callsIn_wide.2 (at_any _ _ _ n₀ _ _ (by first | exact HA.out | exact HB.out) (by omega) (by first | exact hxs | exact hys))) ?_; rintro e w' ⟨rfl, rfl⟩)
          | (refine hR'.mono ?_; rintro e W3 ⟨b, rfl, hb⟩))
        all_goals
          rcases hb with ⟨rfl, hJ3, hk3, hk4, hk5⟩ | ⟨rfl, hJx3⟩
          · gi_wp2
            go_roundw
            case rel => exact ⟨k + 1, pre ++ [⟨k, hlt⟩], by omega, by go_num, hU.snoc hlt, hJ3, HA.out.below hk3, HB.out.below hk3, hk4.trans hBa, hk5.trans hBb⟩
            case measure => simp [intOf]; omega
          · gi_wp2
            refine bodyPost_ret (results_none rfl _ _ _) rfl ?_
            exact ⟨⟨_, rfl⟩, .inr ⟨pre ++ [⟨k, hlt⟩], ⟨k + 1, by omega, hU.snoc hlt⟩, hJx3⟩⟩
      · have hke : k = ys.length := by omega
        subst hke
        gi_wp2
        go_end0
        exact ⟨⟨_, rfl⟩, .inl ⟨pre, hU, hJs⟩⟩
  · have hn' : n = xs.length := by omega
    clear hn
    subst hn'
    have hlt' : ¬ ((xs.length : Int) < (ys.length : Int)) := by omega
    gi_wp2
    gi_loopw [10] (fun i wr => ∃ (k : Nat) (pre : List (Pl xs.length)), k ≤ xs.length ∧ i = .int .i64 k ∧ UpTo k pre ∧ J pre wr ∧ Rd (Value.int .i32) wr n₀ A xs ∧ Rd (Value.int .i32) wr n₀ B ys ∧
        wr.cell? ⟨Ba, 0, none⟩ = some (.slice A xs.length ca) ∧ wr.cell? ⟨Bb, 0, none⟩ = some (.slice B ys.length cb))
      (fun i _ => xs.length - (intOf i).toNat)
    case atStart => exact ⟨0, [], Nat.zero_le _, rfl, UpTo.nil, h0, hA, hB, hBa, hBb⟩
    case round =>
      clear h0 hA hB hBa hBb
      obtain ⟨k, pre, hk, rfl, hU, hJs, hA, hB, hBa, hBb⟩ := hrel
      by_cases hlt : k < xs.length
      · obtain ⟨fn, tmps, assign, body, hyl, hR⟩ := hY pre ⟨k, hlt⟩ wr.drew (hJ _ _ hJs) (by rw [hU.len]; exact hlt)
        dsimp only at hyl
        have HA : Hid (Rd (Value.int .i32) wr.drew n₀ A xs) := fun j z h => hA j z h
        have HB : Hid (Rd (Value.int .i32) wr.drew n₀ B ys) := fun j z h => hB j z h
        have HA0 := Lib.hid hA
        have HB0 := Lib.hid hB
        clear hA hB
        have hkl : (k : Int) < (xs.length : Int) := by omega
        have hR' : RoundIn Fence.wide (m - 1) Try.prog l fn tmps assign body wr.drew fun e W' => ∃ b, e = .returned (.bool b) ∧ PairRes J Jx n₀ Ba Bb (pre ++ [⟨k, hlt⟩]) wr.drew b W' :=
          hR.mono fun e W' h => h.elim (fun h => ⟨true, h.1, .inl ⟨rfl, h.2⟩⟩) (fun h => ⟨false, h.1, .inr ⟨rfl, h.2⟩⟩)
        clear hR
        gi_wp2
        gi_region_with_o (first
          | (gi_at_call 114; refine CallsIn.mono (callsIn_wide.2 (at_any _ _ _ n₀ _ _ (by first | exact HA.out | exact HB.out) (by omega) (by first | exact hxs | exact hys))) ?_; rintro e w' ⟨rfl, rfl⟩)
          | (refine hR'.mono ?_; rintro e W3 ⟨b, rfl, hb⟩))
        all_goals
          rcases hb with ⟨rfl, hJ3, hk3, hk4, hk5⟩ | ⟨rfl, hJx3⟩
          · gi_wp2
            go_roundw
            case rel => exact ⟨k + 1, pre ++ [⟨k, hlt⟩], by omega, by go_num, hU.snoc hlt, hJ3, HA.out.below hk3, HB.out.below hk3, hk4.trans hBa, hk5.trans hBb⟩
            case measure => simp [intOf]; omega
          · gi_wp2
            refine bodyPost_ret (results_none rfl _ _ _) rfl ?_
            exact ⟨⟨_, rfl⟩, .inr ⟨pre ++ [⟨k, hlt⟩], ⟨k + 1, by omega, hU.snoc hlt⟩, hJx3⟩⟩
      · have hke : k = xs.length := by omega
        subst hke
        gi_wp2
        go_end0
        exact ⟨⟨_, rfl⟩, .inl ⟨pre, hU, hJs⟩⟩

theorem grownBy_drew (W : World) : W.grownBy W.drew none := ⟨rfl, rfl, rfl, Nat.le_refl _, fun _ _ _ => rfl⟩

/-- pairs hands back a value that goes through both vectors, place by place. -/
theorem pairs_stops (m n n₀ Ba Bb : Nat) (A B : Option Addr) (xs ys : List Int) (ca cb : Nat) (hn : n = max xs.length ys.length) (hx : xs.length ≤ 9223372036854775807) (hy : ys.length ≤ 9223372036854775807)
    (hxs : Hid (∀ z ∈ xs, -2147483648 ≤ z ∧ z ≤ 2147483647)) (hys : Hid (∀ z ∈ ys, -2147483648 ≤ z ∧ z ≤ 2147483647))
    (w : World) (hn₀ : n₀ ≤ w.heap.size) (hlA : Ba < w.heap.size) (hlB : Bb < w.heap.size) (hA : Rd (Value.int .i32) w n₀ A xs) (hB : Rd (Value.int .i32) w n₀ B ys)
    (hBa : w.cell? ⟨Ba, 0, none⟩ = some (.slice A xs.length ca)) (hBb : w.cell? ⟨Bb, 0, none⟩ = some (.slice B ys.length cb)) :
    SeqStopsK Fence.wide m Try.prog 113 #[.pointer (some ⟨Ba, 0, none⟩), .pointer (some ⟨Bb, 0, none⟩)] (fun x : Pl n => #[Value.int .i64 (cpt xs x.1), Value.int .i64 (cpt ys x.1)]) (KpP n₀ Ba Bb)
      (fun pre => UpTo n pre) (fun pre => ∃ k, k ≤ n ∧ UpTo k pre) n w := fun l J Jx W hW hJ _ hY h0 =>
  pairs1_in m l n n₀ Ba Bb A B xs ys ca cb hn hx hy hxs hys J Jx (fun pre W' h => hJ pre W' W'.drew none h (grownBy_drew W') (fun r e => by cases e)) hY W
    (hA.below (hW.mono hn₀)) (hB.below (hW.mono hn₀)) ((hW.cell (p := ⟨Ba, 0, none⟩) hlA).trans hBa) ((hW.cell (p := ⟨Bb, 0, none⟩) hlB).trans hBb) h0

theorem kpP_t {n₀ Ba Bb : Nat} {A B C : World} (h : KpP n₀ Ba Bb A B) (k : KpP n₀ Ba Bb B C) : KpP n₀ Ba Bb A C := ⟨h.1.trans k.1, k.2.1.trans h.2.1, k.2.2.trans h.2.2⟩
theorem kpP_b {n₀ Ba Bb : Nat} {w : World} (hn : n₀ ≤ w.heap.size) (ha : Ba < w.heap.size) (hb : Bb < w.heap.size) (W : World) (l : Nat) (o o' : Obj) (hl : w.heap.size ≤ l) (h : W.heap[l]? = some o) (hc : o.isCells = false) (hw : o.isWalk = false) : KpP n₀ Ba Bb W (W.putObj l o') :=
  have H := belowK_b (n₀ := w.heap.size) (Nat.le_refl _) W l o o' hl h hc hw
  ⟨H.mono hn, H.cell (p := ⟨Ba, 0, none⟩) ha, H.cell (p := ⟨Bb, 0, none⟩) hb⟩

end Go.Proofs.Ytajmnhnepoomjaa
