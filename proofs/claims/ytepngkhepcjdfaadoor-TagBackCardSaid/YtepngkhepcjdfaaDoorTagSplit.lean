/- The iterator of strings.SplitSeq at a plus: its contract. -/
import Derived.Test.YtepngkhepcjdfaaDoorBoxLoop
import Derived.Test.YtepngkhepcjdfaaDoorTagIndex
import Derived.RangeFuncNested
import Derived.RangeFuncLeaves
import Derived.Shelf.Abstract
import Derived.Shelf.RegionOpen
import Derived.OwnWalkIn
import Derived.TacticsInMore
import Derived.LoopNIn
import Derived.LoopIn
namespace Go.Proofs.YtepngkhepcjdfaaDoor
open Go.RowKit Go.Shelf
theorem wideS_fn (f : FuncId) : Fence.wide.fn f = True := rfl
theorem wideS_depth : Fence.wide.depth = none := rfl
attribute [local go_sem] Oper.semAt_some wideS_fn wideS_depth

/-- The parts of a text between its pluses (m: no fewer than its bytes). -/
def cutAll : Nat → ByteArray → List ByteArray
  | 0, s => [s]
  | m + 1, s => if firstIdx s 43 < 0 then [s] else s.extract 0 (firstIdx s 43).toNat :: cutAll m (s.extract ((firstIdx s 43).toNat + 1) s.size)

theorem first_lt (s : ByteArray) (c : UInt8) : firstIdx s c = -1 ∨ ∃ k : Nat, firstIdx s c = k ∧ k < s.size := by
  unfold firstIdx
  cases h : (List.range s.size).find? fun i => s[i]! == c with
  | none => exact .inl rfl
  | some i => exact .inr ⟨i, rfl, List.mem_range.1 (List.mem_of_find?_eq_some h)⟩

theorem cutAll_last (m : Nat) (s : ByteArray) (h : firstIdx s 43 = -1) : cutAll m s = [s] := by
  cases m with
  | zero => rfl
  | succ m => rw [cutAll, if_pos (by rw [h]; decide)]
theorem cutAll_step (m k : Nat) (s : ByteArray) (h : firstIdx s 43 = (k : Int)) : cutAll (m + 1) s = s.extract 0 k :: cutAll m (s.extract (k + 1) s.size) := by
  rw [cutAll, if_neg (by rw [h]; omega), h, Int.toNat_natCast]

/-- How long the text in the box at b is. -/
def boxLen (b : Nat) (W : World) : Nat := match W.cell? ⟨b, 0, none⟩ with
  | some (.string s) => s.size
  | _ => 0
theorem boxLen_of {b : Nat} {W : World} {s : ByteArray} {t : TypeId} (h : Boxed W b t (.string s)) : boxLen b W = s.size := by
  unfold boxLen; rw [h.cell]

/-- The iterator's boxes. -/
def BoxesAt (b : Nat) (W : World) (s : ByteArray) : Prop :=
  Boxed W b 9 (.string s) ∧ Boxed W (b + 1) 9 (.string (ByteArray.mk #[43])) ∧ Boxed W (b + 2) 3 (.int .i64 0)
theorem BoxesAt.kept {b : Nat} {W W' : World} {s : ByteArray} (h : BoxesAt b W s) (k : KpS b W W') : BoxesAt b W' s :=
  ⟨(k b (Nat.le_refl _) (by omega)).trans h.1, (k (b + 1) (by omega) (by omega)).trans h.2.1, (k (b + 2) (by omega) (by omega)).trans h.2.2⟩
theorem BoxesAt.set {b : Nat} {W : World} {s : ByteArray} (h : BoxesAt b W s) (s' : ByteArray) : BoxesAt b (W.setCell ⟨b, 0, none⟩ (.string s')) s' :=
  ⟨h.1.set _, h.2.1.other (by omega) _, h.2.2.other (by omega) _⟩

set_option maxRecDepth 100000 in
set_option maxHeartbeats 2000000 in
theorem split1_in (m : Nat) (l b : Nat) (s0 : ByteArray) (hs0 : s0.size ≤ 9223372036854775806) (J Jx : List ByteArray → World → Prop) (hJ : AbidesBox b J)
    (hY : ∀ pre x W, J pre W → YieldAt Fence.wide (m - 1) Tryd.prog l #[.string x] W fun e W' =>
      (e = .returned (.bool true) ∧ J (pre ++ [x]) W' ∧ KpS b W W') ∨ (e = .returned (.bool false) ∧ Jx (pre ++ [x]) W'))
    (W : World) (hB : BoxesAt b W s0) (h0 : J [] W) :
    CallsIn Fence.wide m Tryd.prog 53 #[.func (.yield l) #[] #[], .pointer (some ⟨b + 1, 0, none⟩), .pointer (some ⟨b, 0, none⟩), .pointer (some ⟨b + 2, 0, none⟩)] W fun e W' => (∃ v, e = .returned v) ∧
      ((∃ xs, xs = cutAll s0.size s0 ∧ J xs W') ∨ (∃ pre, (∃ r, cutAll s0.size s0 = pre ++ r) ∧ Jx pre W')) := by
  refine callsIn_of_wp Tryd.func53 rfl trivial ?_ rfl
  simp only [Tryd.ntmps53, List.size_toArray, List.length_cons, List.length_nil, Nat.reduceAdd, Nat.reduceSub, Array.replicate_succ, Array.replicate_zero, List.push_toArray, List.append_toArray, List.nil_append, List.cons_append]
  have c1 := hB.2.1.cell
  gi_wp2
  gi_loopw [7] (fun _ wr => ∃ (k : Nat) (cur : ByteArray) (pre : List ByteArray), cur.size ≤ k ∧ cur.size ≤ s0.size ∧ Hid (BoxesAt b wr cur) ∧ Hid (cutAll s0.size s0 = pre ++ cutAll k cur) ∧ J pre wr)
    (fun _ wr => boxLen b wr)
  case atStart => exact ⟨s0.size, s0, [], Nat.le_refl _, Nat.le_refl _, hB, rfl, h0⟩
  case round =>
    clear h0 hB c1
    obtain ⟨k, cur, pre, hk, hc0, HB, HC, hJs⟩ := hrel
    have c0 := HB.out.1.cell
    have c1 := HB.out.2.1.cell
    have c2 := HB.out.2.2.cell
    rcases first_lt cur 43 with hf | ⟨i, hf, hi⟩
    · have HF := Lib.hid (hf)
      obtain ⟨fn, tmps, assign, body, hyl, hR⟩ := hY pre cur wr hJs
      gi_wp2_with (gi_at_call 55; refine CallsIn.mono (callsIn_wide.2 (strIndex_any _ _)) ?_; rintro e w' ⟨rfl, rfl⟩; rw [HF.out])
      have HE : Hid (cutAll s0.size s0 = pre ++ [cur]) := by rw [Hid, HC.out, cutAll_last k cur HF.out]
      clear c0 c1 c2 hf
      refine hR.mono ?_
      rintro e W3 (⟨rfl, hJ3, hk3⟩ | ⟨rfl, hJx3⟩)
      · gi_wp2
        go_end0
        exact ⟨⟨_, rfl⟩, .inl ⟨_, HE.out.symm, hJ3⟩⟩
      · gi_wp2
        go_end0
        exact ⟨⟨_, rfl⟩, .inr ⟨_, ⟨[], by rw [List.append_nil]; exact HE.out⟩, hJx3⟩⟩
    · obtain ⟨k', rfl⟩ : ∃ k', k = k' + 1 := ⟨k - 1, by omega⟩
      have HF := Lib.hid hf
      have HS := Lib.hid (cutAll_step k' i cur hf)
      obtain ⟨fn, tmps, assign, body, hyl, hR⟩ := hY pre (cur.extract 0 i) wr hJs
      have hii : (i : Int) ≤ (cur.size : Int) := by omega
      have hi1 : (i : Int) + 1 ≤ (cur.size : Int) := by omega
      gi_wp2_with (gi_at_call 55; refine CallsIn.mono (callsIn_wide.2 (strIndex_any _ _)) ?_; rintro e w' ⟨rfl, rfl⟩; rw [HF.out])
      refine hR.mono ?_
      clear c0 c1 c2 hf
      rintro e W3 (⟨rfl, hJ3, hk3⟩ | ⟨rfl, hJx3⟩)
      · have HB3 := Lib.hid (HB.out.kept hk3)
        have c0 := HB3.out.1.cell
        have f0 := HB3.out.1.frozen
        have c1 := HB3.out.2.1.cell
        have hsz : (cur.extract (i + 1) cur.size).size + 1 ≤ cur.size := by simp; omega
        have hl3 := boxLen_of HB3.out.1
        have hlw := boxLen_of HB.out.1
        gi_wp2
        go_roundw
        case rel => exact ⟨k', cur.extract (i + 1) cur.size, pre ++ [cur.extract 0 i], by omega, by omega, HB3.out.set _, by rw [Hid, HC.out, HS.out]; simp, (hJ _ _ hJ3).2 _⟩
        case measure =>
          rw [boxLen_of (HB3.out.set _).1, hlw]
          omega
      · gi_wp2
        refine bodyPost_ret (results_none rfl _ _ _) rfl ?_
        exact ⟨⟨_, rfl⟩, .inr ⟨_, ⟨cutAll k' (cur.extract (i + 1) cur.size), by rw [HC.out, HS.out]; simp⟩, hJx3⟩⟩

/-- The value that strings.SplitSeq hands back goes through the parts. -/
theorem split_stops (m b : Nat) (s0 : ByteArray) (hs0 : s0.size ≤ 9223372036854775806) (w : World) (hB : BoxesAt b w s0) :
    SeqBox m Tryd.prog 53 #[.pointer (some ⟨b + 1, 0, none⟩), .pointer (some ⟨b, 0, none⟩), .pointer (some ⟨b + 2, 0, none⟩)] Value.string b
      (fun xs => xs = cutAll s0.size s0) (fun pre => ∃ r, cutAll s0.size s0 = pre ++ r) w := fun l J Jx W hW hJ _ hY h0 =>
  split1_in m l b s0 hs0 J Jx hJ hY W (hB.kept hW) h0

/-- What the call of splitSeq leaves: the three boxes, and the value over them. -/
def SplitOut (s : ByteArray) (w : World) (e : Ending) (w' : World) : Prop :=
  e = .returned (.func (.func 53) #[] #[.pointer (some ⟨w.heap.size + 1, 0, none⟩), .pointer (some ⟨w.heap.size, 0, none⟩), .pointer (some ⟨w.heap.size + 2, 0, none⟩)]) ∧
    w' = ((w.alloc (.cells #[.string s] 9)).alloc (.cells #[.string (ByteArray.mk #[43])] 9)).alloc (.cells #[.int .i64 0] 3)

set_option maxHeartbeats 400000 in
theorem splitSeq_any (s : ByteArray) (w : World) :
    Calls Tryd.prog 47 #[.string s, .string (ByteArray.mk #[43]), .int .i64 0] w (SplitOut s w) := by
  go_enter Tryd.func47, Tryd.ntmps47
  go_wp2
  go_ret
  exact ⟨by simp, rfl⟩

set_option maxHeartbeats 400000 in
theorem SplitSeq_any (s : ByteArray) (w : World) :
    Calls Tryd.prog 39 #[.string s, .string (ByteArray.mk #[43])] w (SplitOut s w) := by
  go_enter Tryd.func39, Tryd.ntmps39
  go_wp2_with fail
  refine (splitSeq_any s _).mono ?_
  rintro e w2 ⟨rfl, rfl⟩
  go_wp2
  go_ret
  exact ⟨rfl, rfl⟩

theorem split_boxes (s : ByteArray) (w : World) : BoxesAt w.heap.size (((w.alloc (.cells #[.string s] 9)).alloc (.cells #[.string (ByteArray.mk #[43])] 9)).alloc (.cells #[.int .i64 0] 3)) s := by
  have b0 := Boxed.new w 9 (.string s)
  have b1 := Boxed.new (w.alloc (.cells #[.string s] 9)) 9 (.string (ByteArray.mk #[43]))
  have b2 := Boxed.new ((w.alloc (.cells #[.string s] 9)).alloc (.cells #[.string (ByteArray.mk #[43])] 9)) 3 (.int .i64 0)
  simp only [World.size_alloc] at b1 b2
  exact ⟨(b0.alloc _).alloc _, b1.alloc _, b2⟩

end Go.Proofs.YtepngkhepcjdfaaDoor
