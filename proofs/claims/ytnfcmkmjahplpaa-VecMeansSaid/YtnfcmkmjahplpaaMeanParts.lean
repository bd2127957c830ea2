/- Small contracts for vec.Mean: quotients rounded down; a slice made full, inside a fence. -/
import Derived.Test.YtnfcmkmjahplpaaMeanPlain
namespace Go.Proofs.Ytnfcmkmjahplpaa
open Go.RowKit Go.Shelf

theorem floor_room {n m : Int} (hn : -9223372036854775808 ≤ n ∧ n ≤ 9223372036854775807) (hm : 0 < m) : -9223372036854775808 ≤ n / m ∧ n / m ≤ 9223372036854775807 := by
  refine ⟨Int.le_ediv_of_mul_le hm (by omega), ?_⟩
  have := Int.ediv_lt_of_lt_mul (a := n) (b := 9223372036854775808) hm (by omega)
  omega

set_option maxHeartbeats 400000 in
theorem quotient_any (n m : Int) (w : World) (hn : -9223372036854775808 ≤ n ∧ n ≤ 9223372036854775807) (hm : 0 < m) (hm' : m ≤ 9223372036854775807) :
    Calls Try.prog 20 #[.int .i64 n, .int .i64 m] w fun e w' => e = .returned (.int .i64 (n / m)) ∧ w = w' := by
  have hr := Lib.hid (floor_room hn hm)
  have hne : ((m : Int) == 0) = false := by simp; omega
  rcases Int.lt_or_le (Int.tmod n m) 0 with h | h
  · have hq := Lib.hid (floor_pos hm h)
    go_enter Try.func20, Try.ntmps20
    go_wp2
    go_ret
    exact ⟨ret_int (by rw [hq.out] at hr ⊢; exact Go.IntWalk.wrap64_in _ hr.out), rfl⟩
  · have hq := Lib.hid (floor_nonneg hm h)
    go_enter Try.func20, Try.ntmps20
    go_wp2
    go_ret
    exact ⟨ret_int hq.out.symm, rfl⟩

set_option maxHeartbeats 400000 in
theorem down_any (n m : Int) (w : World) (hn : -9223372036854775808 ≤ n ∧ n ≤ 9223372036854775807) (hm : 0 < m) (hm' : m ≤ 9223372036854775807) :
    Calls Try.prog 21 #[.int .i64 n, .int .i64 m] w fun e w' => e = .returned (.int .i64 (n / m)) ∧ w = w' := by
  have hr := Lib.hid (floor_room hn hm)
  have hne : ((m : Int) == 0) = false := by simp; omega
  rcases Int.lt_or_le (Int.tmod n m) 0 with h | h
  · have hq := Lib.hid (floor_pos hm h)
    go_enter Try.func21, Try.ntmps21
    go_wp2
    go_ret
    exact ⟨ret_int (by rw [hq.out] at hr ⊢; exact Go.IntWalk.wrap64_in _ hr.out), rfl⟩
  · have hq := Lib.hid (floor_nonneg hm h)
    go_enter Try.func21, Try.ntmps21
    go_wp2
    go_ret
    exact ⟨ret_int hq.out.symm, rfl⟩

/-- 'make([]T, n)', inside a fence: n zero elements are owned. -/
theorem wpListIn_make_full {F : Fence} {n : Nat} {P : Program} (w : World) {ops : Array Oper} {rest : List Oper} {o : Oper} {a : Act} {Q : Exit → Act → World → Prop}
    (hg : o.guard = none) (l c : Operand) (t : TypeId) (hop : o.op = Op.makeSlice t l c)
    (base : Nat) (e : TypeId) (i : TypeInfo) (z : Value) (size : Nat) (h1 : P.underlying t = some (.slice e)) (h2 : P.info? e = some i) (h3 : i.zero = some z) (h4 : i.size = size)
    (kl kc : IntKind) (L C : Int) (m : Nat) (hl : a.eval l = .int kl L) (hc : a.eval c = .int kc C) (hL : L = (m : Int)) (hC : C = (m : Int)) (b2 : i.bytes * m ≤ 281474976710656) (b3 : m ≤ maxLen) (b4 : base ≤ w.heap.size)
    (hK : ∀ w', w'.ownsRow base e size (.slice (some ⟨w.heap.size, 0, none⟩) m m) m (madeCells z.cells (m * size)).toList → w.grownBy w' none → wpListIn F n P ops Q rest (a.put o.dst (.slice (some ⟨w.heap.size, 0, none⟩) m m)) w') :
    wpListIn F n P ops Q (o :: rest) a w := by
  refine wpListIn_plain hg fun K hK' => ?_
  obtain ⟨w', hrun, r1, r2⟩ := run_make_full (P := P) w base t e i z size h1 h2 h3 h4 kl kc m b2 b3 b4
  subst hL
  subst hC
  unfold Oper.wpIn
  refine ⟨?_, ?_⟩
  · simp [Oper.about, hop]
  · rw [Oper.semAt_plain F _ _ (by rw [hop]; intro c hc'; cases hc')]
    simp [execOp, hop, hl, hc, hrun, Result.andThen]
    exact hK' _ _ (hK w' r1 r2)

theorem made_i64 {w : World} {B m c : Nat} {A : Option Addr} (h : w.ownsRow B 2 1 (.slice A m c) m (madeCells (Value.int .i64 0).cells (m * 1)).toList) :
    w.ownsRow B 2 1 (.slice A m c) m ((List.replicate m 0).map (Value.int .i64)) := by
  simpa [toList_madeCells_one, Value.cells] using h
theorem made_i32 {w : World} {B m c : Nat} {A : Option Addr} (h : w.ownsRow B 21 1 (.slice A m c) m (madeCells (Value.int .i32 0).cells (m * 1)).toList) :
    w.ownsRow B 21 1 (.slice A m c) m ((List.replicate m 0).map (Value.int .i32)) := by
  simpa [toList_madeCells_one, Value.cells] using h
theorem info_i64 : (Try.prog.info? 2).map (fun i => (i.zero, i.size, i.bytes)) = some (some (.int .i64 0), 1, 8) := by kernel_rfl
theorem info_i32 : (Try.prog.info? 21).map (fun i => (i.zero, i.size, i.bytes)) = some (some (.int .i32 0), 1, 4) := by kernel_rfl

end Go.Proofs.Ytnfcmkmjahplpaa
