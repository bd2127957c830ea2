/- The queue's methods, by contract. -/
import Derived.Test.YtajmnhnepoomjaaHeapTakeS
import Derived.StillTailTactics
namespace Go.Proofs.Ytajmnhnepoomjaa
open Go.RowKit Go.Shelf Go.Sort

theorem sameOrNew_less {A A' : Option Addr} {n m : Nat} (h : SameOrNew A n A') (hm : m ≤ n) : SameOrNew A m A' := fun k hk => (h k hk).imp id (fun e => by omega)
theorem sameOrNew_refl {A : Option Addr} {n : Nat} : SameOrNew A n A := fun _ hk => .inl hk

/-- A new heap without spots. -/
def NewS (W : World) (e : Ending) (W' : World) : Prop := ∃ b, e = .returned (.pointer (some ⟨b, 0, none⟩)) ∧ W.heap.size ≤ b ∧ HeapAt W' b fvS none 0 [] ∧ Below W.heap.size W W'
set_option maxHeartbeats 1000000 in
theorem qNew_any (W : World) : Calls Try.prog 72 #[] W (NewS W) := by
  go_enter Try.func72, Try.ntmps72
  go_wp2
  go_ret
  exact ⟨_, rfl, Nat.le_refl _, ⟨by go_cell, by unfold fvS; go_cell, by go_simp, World.ownsRow_nil _ _ _ _⟩, by go_grown⟩

set_option maxRecDepth 100000 in
set_option maxHeartbeats 4000000 in
theorem qPush_any {b : Nat} {A : Option Addr} {c : Nat} {M : List SpotT} {W : World} (h : HeapAt W b fvS A c M) (s : SpotT) (hn : M.length < 100000) (hu : HeapOK ltS M) :
    Calls Try.prog 81 #[.pointer (some ⟨b, 0, none⟩), sptV s] W (HeapS2 b A (M ++ [s]) W) := by
  obtain ⟨⟨xa, xb⟩, xc⟩ := s
  unfold sptV
  simp only
  go_enter Try.func81, Try.ntmps81
  go_upto_region 2 with (fail)
  have b0 : (W.alloc (.cells #[.int .u64 xa, .int .u64 xb, .int .i64 xc] 62)).cell? ⟨W.heap.size, 0, none⟩ = some (.int .u64 xa) := by go_cell
  have b1 : (W.alloc (.cells #[.int .u64 xa, .int .u64 xb, .int .i64 xc] 62)).cell? ⟨W.heap.size, 1, none⟩ = some (.int .u64 xb) := by go_cell
  have b2 : (W.alloc (.cells #[.int .u64 xa, .int .u64 xb, .int .i64 xc] 62)).cell? ⟨W.heap.size, 2, none⟩ = some (.int .i64 xc) := by go_cell
  have hX := below_new3 W (.cells #[.int .u64 xa, .int .u64 xb, .int .i64 xc] 62)
  have H := Lib.hid (h.later hX)
  have HK := Lib.hid (Kp.of_below (S := BlkH b A) hX)
  have HZ := Lib.hid hX.size
  clear h hX
  generalize W.alloc (.cells #[.int .u64 xa, .int .u64 xb, .int .i64 xc] 62) = X at *
  generalize hbx : W.heap.size = bx at *
  have HBX := Lib.hid hbx
  clear hbx
  have HC : ∀ Y, HeapAt Y b fvS A c M → Calls Try.prog 123 #[.pointer (some ⟨b, 0, none⟩), .agg #[.int .u64 xa, .int .u64 xb, .int .i64 xc]] Y (HeapS2 b A (M ++ [((xa, xb), xc)]) Y) := fun Y hy => putS_any hy ((xa, xb), xc) hn hu
  have HCC := Lib.hid HC
  clear HC hu
  go_region_with (go_at_call 123; (first | refine Calls.mono (HCC.out _ H.out) ?_ | refine Calls.mono (HCC.out _ H.out.drew) ?_); rintro e W' ⟨rfl, A', c', M', h1, h2, h3, h4, h5⟩; have HF := Lib.hid (And.intro h1 (And.intro h2 (And.intro h3 (And.intro h4 h5)))); clear h1 h2 h3 h4 h5)
  all_goals
    go_wp2
    obtain ⟨h1, h2, h3, h4, h5⟩ := HF.out
    refine bodyPost_end (results_none rfl _ _ _) rfl ⟨rfl, A', c', M', h1, h2, h3, ?_, ?_⟩
    · exact HK.out.trans (Kp.trans Kp.refl.drew h4)
    · rw [HBX.out]; exact sameOrNew_less h5 HZ.out

set_option maxHeartbeats 1000000 in
theorem qPush_nil (s : SpotT) (W : World) : Calls Try.prog 81 #[.pointer none, sptV s] W fun e W' => e = .returned (.tuple #[]) ∧ Below W.heap.size W W' := by
  unfold sptV
  go_enter Try.func81, Try.ntmps81
  go_wp2
  exact bodyPost_ret (results_none rfl _ _ _) rfl ⟨rfl, below_new3 W _⟩

set_option maxHeartbeats 1000000 in
theorem qLen_any {b : Nat} {fv : Value} {A : Option Addr} {c : Nat} {M : List SpotT} {W : World} (h : HeapAt W b fv A c M) :
    Calls Try.prog 84 #[.pointer (some ⟨b, 0, none⟩)] W fun e W' => e = .returned (.int .i64 M.length) ∧ W = W' := by
  have c0 := h.h0
  clear h
  go_enter Try.func84, Try.ntmps84
  go_wp2
  go_ret
  exact ⟨rfl, rfl⟩
theorem qLen_nil (W : World) : Calls Try.prog 84 #[.pointer none] W fun e W' => e = .returned (.int .i64 0) ∧ W = W' := by
  go_enter Try.func84, Try.ntmps84
  go_wp2
  go_ret
  exact ⟨rfl, rfl⟩

end Go.Proofs.Ytajmnhnepoomjaa
