/- A region that is held, of ids with their refs: what each kind of operation tells. -/
import Derived.Test.YtoaikdnooafjmaaHeld
import Derived.Test.YtoaikdnooafjmaaImOrd
namespace Go.Proofs.Ytoaikdnooafjmaa
open Go.RowKit

theorem RdN.lo {w : World} {B0 : Nat} {A : Option Addr} {L : List EntI} (h : RdN w B0 A L) : RdN w 0 A L := fun k e hk => by
  obtain ⟨b, h1, _, h3⟩ := h k e hk
  exact ⟨b, h1, Nat.zero_le _, h3⟩
/-- What an operation tells: a value, or ids with their refs in memory. -/
inductive DN
  | c (v : Value)
  | nm (L : List EntI)
  | free
def DN.ok (d : DN) (v : Value) (W : World) : Prop := match d with
  | .c u => v = u
  | .nm L => ∃ A k, v = .slice A L.length k ∧ RdN W 0 A L
  | .free => True
def VN (ds : List DN) (i : Nat) (v : Value) (W : World) : Prop := (ds.getD i .free).ok v W
theorem VN_later (ds : List DN) (i : Nat) (v : Value) (W W' : World) (hb : Below W.heap.size W W') (h : VN ds i v W) : VN ds i v W' := by
  unfold VN at *
  generalize ds.getD i .free = d at *
  cases d with
  | c u => exact h
  | nm L =>
    obtain ⟨A, k, hv, hr⟩ := h
    exact ⟨A, k, hv, hr.below hb⟩
  | free => trivial
section
variable {P : Program} {ops : Array Oper} {Q : Exit → Act → World → Prop} {V : Nat → Value → World → Prop} {i : Nat} {o : Oper} {a : Act} {W : World} {s t u : Operand} {v v' : Value}
abbrev NextN (V : Nat → Value → World → Prop) (i : Nat) (o : Oper) (a : Act) (W : World) : Act → World → Prop := fun a' W' => ∃ v, a' = a.put o.dst v ∧ Below W.heap.size W W' ∧ V i v W'
theorem nw_none (hg : o.guard = none) : Region.wanted o (yielded ops a.tmps) = true := by simp [Region.wanted, hg]
theorem ny_of {g sl : Nat} {b : Bool} (hgo : (ops[g]?.bind (·.dst)) = some sl) (e : a.eval (.tmp sl) = .bool b) : yielded ops a.tmps g = some b := by
  unfold yielded
  rw [hgo]
  change a.tmps.getD sl undef = .bool b at e
  cases h : a.tmps[sl]? with
  | none => rw [Array.getD_eq_getD_getElem?, h] at e; cases e
  | some x =>
    rw [Array.getD_eq_getD_getElem?, h] at e
    simp only [Option.getD_some] at e
    subst e
    simp [h]
theorem nw_some {l : List Oper} {g sl : Nat} {b : Bool} (hg : o.guard = some (g, b)) (hgo : (l[g]?.bind (·.dst)) = some sl) (e : a.eval (.tmp sl) = .bool b) : Region.wanted o (yielded l.toArray a.tmps) = true := by
  simp [Region.wanted, hg, ny_of (ops := l.toArray) (by simpa using hgo) e]
theorem nw_not {l : List Oper} {g sl : Nat} {b : Bool} (hg : o.guard = some (g, b)) (hgo : (l[g]?.bind (·.dst)) = some sl) (e : a.eval (.tmp sl) = .bool (!b)) : ¬ Region.wanted o (yielded l.toArray a.tmps) = true := by
  simp [Region.wanted, hg, ny_of (ops := l.toArray) (by simpa using hgo) e]
theorem n_move (ho : o.op = .move s) (e : a.eval s = v) (hv : V i v W) : Oper.wp P o a W (NextN V i o a W) Q := by
  unfold Oper.wp
  simp only [execOp, ho, e]
  exact ⟨v, rfl, Below.refl _ _, hv⟩
theorem n_assign (ho : o.op = .assign s) (e : a.eval s = v) (hv : V i v W) : Oper.wp P o a W (NextN V i o a W) Q := by
  unfold Oper.wp
  simp only [execOp, ho, e]
  exact ⟨v, rfl, Below.refl _ _, hv⟩
theorem n_pick {b : Bool} (ho : o.op = .pick s t u) (e : a.eval s = .bool b) (e1 : b = true → a.eval t = v) (e2 : b = false → a.eval u = v) (hv : V i v W) : Oper.wp P o a W (NextN V i o a W) Q := by
  unfold Oper.wp
  simp only [execOp, ho, e]
  refine ⟨v, ?_, Below.refl _ _, hv⟩
  cases b
  · rw [← e2 rfl]; rfl
  · rw [← e1 rfl]; rfl
theorem n_not {ty : TypeId} {b : Bool} (ho : o.op = .unOp .not ty s) (e : a.eval s = .bool b) (hv : V i (.bool (!b)) W) : Oper.wp P o a W (NextN V i o a W) Q := by
  unfold Oper.wp
  simp only [execOp, ho, e]
  exact ⟨_, rfl, Below.refl _ _, hv⟩
theorem n_run (h : (execOp a.eval o).run P W = .ok (.value v) W) (hv : V i v W) : Oper.wp P o a W (NextN V i o a W) Q := by
  unfold Oper.wp
  rw [h]
  exact ⟨v, rfl, Below.refl _ _, hv⟩
theorem n_call {f : FuncId} {xs : Array Operand} {ats : Array TypeId} {args : Array Value} {R : Ending → World → Prop} (ho : o.op = .call { callee := .value (.func f), args := xs, argTypes := ats }) (hargs : xs.map a.eval = args)
    (hent : (callFunc f args).run P W = .ok (.enter f args) W) (hc : Calls P f args W R) (hR : ∀ e W', R e W' → ∃ v, e = .returned v ∧ Below W.heap.size W W' ∧ V i v W') : Oper.wp P o a W (NextN V i o a W) Q := by
  unfold Oper.wp
  have h1 : (execOp a.eval o).run P W = .ok (.enter f args) W := by
    simp only [execOp, ho, resolve, hargs]
    simp [Deferred.ofValue, Act.eval, invoke, hent]
  rw [h1, Oper.upon_enter]
  refine Calls.mono hc ?_
  intro e W' h
  obtain ⟨v, rfl, hb, hv⟩ := hR e W' h
  exact ⟨v, rfl, hb, hv⟩
end
section
variable {ops : Array Oper} {Q : Exit → Act → World → Prop} {V : Nat → Value → World → Prop} {i : Nat} {o : Oper} {a : Act} {W : World} {s t u : Operand} {v v' : Value}
theorem nr_load {b : Nat} {x y : Int} (ho : o.op = .load 99 s) (e : a.eval s = .pointer (some ⟨b, 0, none⟩)) (h : W.cell? ⟨b, 0, none⟩ = some (.int .i64 x) ∧ W.cell? ⟨b, 1, none⟩ = some (.int .i64 y)) :
    (execOp a.eval o).run Try.prog W = .ok (.value (.agg #[.int .i64 x, .int .i64 y])) W := by
  obtain ⟨h0, h1⟩ := h
  simp only [execOp, ho, e]
  go_simp
theorem nr_eqR {x y : Int} (ho : o.op = .binOp .eql 99 s t 99) (e : a.eval s = .agg #[.int .i64 x, .int .i64 y]) (e' : a.eval t = .agg #[.int .i64 x, .int .i64 y]) : (execOp a.eval o).run Try.prog W = .ok (.value (.bool true)) W := by
  simp only [execOp, ho, e, e']
  go_simp
theorem nr_len {A : Option Addr} {n c : Nat} (ho : o.op = .call { callee := .builtin .len, args := #[s], argTypes := #[113] }) (e : a.eval s = .slice A n c) : (execOp a.eval o).run Try.prog W = .ok (.value (.int .i64 n)) W := by
  simp only [execOp, ho, resolve, List.map_toArray, List.map_cons, List.map_nil, e]
  go_simp
theorem nr_eqI {x y : Int} (ho : o.op = .binOp .eql 3 s t 3) (e : a.eval s = .int .i64 x) (e' : a.eval t = .int .i64 y) : (execOp a.eval o).run Try.prog W = .ok (.value (.bool (x == y))) W := by
  simp only [execOp, ho, e, e']
  go_simp
theorem nr_add0 (ho : o.op = .binOp .add 3 s t 3) (e : a.eval s = .int .i64 0) (e' : a.eval t = .int .i64 0) : (execOp a.eval o).run Try.prog W = .ok (.value (.int .i64 0)) W := by
  simp only [execOp, ho, e, e']
  go_simp
  rfl
theorem n_build2 {x y : EntI} (ho : o.op = .buildSlice 113 2 #[(0, s), (1, t)]) (e : a.eval s = .agg #[.int .u64 x.1, .int .i64 x.2.1, .int .i64 x.2.2]) (e' : a.eval t = .agg #[.int .u64 y.1, .int .i64 y.2.1, .int .i64 y.2.2])
    (hv : V i (.slice (some ⟨W.heap.size, 0, none⟩) 2 2) (W.alloc (.cells #[.int .u64 x.1, .int .i64 x.2.1, .int .i64 x.2.2, .int .u64 y.1, .int .i64 y.2.1, .int .i64 y.2.2] 157))) : Oper.wp Try.prog o a W (NextN V i o a W) Q := by
  unfold Oper.wp
  have h1 : (execOp a.eval o).run Try.prog W = .ok (.value (.slice (some ⟨W.heap.size, 0, none⟩) 2 2)) (W.alloc (.cells #[.int .u64 x.1, .int .i64 x.2.1, .int .i64 x.2.2, .int .u64 y.1, .int .i64 y.2.1, .int .i64 y.2.2] 157)) := by
    simp only [execOp, ho, List.map_toArray, List.map_cons, List.map_nil, e, e']
    go_simp
  rw [h1]
  exact ⟨_, rfl, Below.alloc (Below.refl _ _) (Nat.le_refl _) _, hv⟩
theorem rdN_build2 (x y : EntI) (W : World) : RdN (W.alloc (.cells #[.int .u64 x.1, .int .i64 x.2.1, .int .i64 x.2.2, .int .u64 y.1, .int .i64 y.2.1, .int .i64 y.2.2] 157)) 0 (some ⟨W.heap.size, 0, none⟩) [x, y] := by
  have hh := heap_alloc_last W (.cells #[.int .u64 x.1, .int .i64 x.2.1, .int .i64 x.2.2, .int .u64 y.1, .int .i64 y.2.1, .int .i64 y.2.2] 157)
  have hlt : W.heap.size < (W.alloc (.cells #[.int .u64 x.1, .int .i64 x.2.1, .int .i64 x.2.2, .int .u64 y.1, .int .i64 y.2.1, .int .i64 y.2.2] 157)).heap.size := by simp
  intro k e hk
  match k, hk with
  | 0, hk => simp at hk; subst hk; exact ⟨_, rfl, Nat.zero_le _, hlt, cell_of_row _ _ 0 _ _ (0, 0) hh, cell_of_row _ _ 1 _ _ (0, 0) hh, cell_of_row _ _ 2 _ _ (0, 0) hh⟩
  | 1, hk => simp at hk; subst hk; exact ⟨_, rfl, Nat.zero_le _, hlt, cell_of_row _ _ 3 _ _ (0, 0) hh, cell_of_row _ _ 4 _ _ (0, 0) hh, cell_of_row _ _ 5 _ _ (0, 0) hh⟩
end

end Go.Proofs.Ytoaikdnooafjmaa
