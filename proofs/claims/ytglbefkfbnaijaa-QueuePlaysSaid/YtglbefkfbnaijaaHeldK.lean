/- More kinds of operations in a region that is held: numbers, bools, places of lists. -/
import Derived.Test.YtglbefkfbnaijaaHeld
import Derived.Test.YtglbefkfbnaijaaRankLives
namespace Go.Proofs.Ytglbefkfbnaijaa
open Go.RowKit Go.Shelf Go.Sort

/-- What an operation tells: a value, or spots in memory. -/
inductive Ds
  | c (v : Value)
  | sp (L : List SpotT)
  | free
def Ds.ok (d : Ds) (v : Value) (W : World) : Prop := match d with
  | .c u => v = u
  | .sp L => ∃ A k, v = .slice A L.length k ∧ RdS W W.heap.size A L
  | .free => True
def VD (ds : List Ds) (i : Nat) (v : Value) (W : World) : Prop := (ds.getD i .free).ok v W
theorem VD_later (ds : List Ds) (i : Nat) (v : Value) (W W' : World) (hb : Below W.heap.size W W') (h : VD ds i v W) : VD ds i v W' := by
  unfold VD at *
  generalize ds.getD i .free = d at *
  cases d with
  | c u => exact h
  | sp L =>
    obtain ⟨A, k, hv, hr⟩ := h
    exact ⟨A, k, hv, rdS_later hr hb⟩
  | free => trivial
section
variable {P : Program} {ops : Array Oper} {Q : Exit → Act → World → Prop} {V : Nat → Value → World → Prop} {i : Nat} {o : Oper} {a : Act} {W : World} {s t u : Operand} {v v' : Value}
abbrev NextV (V : Nat → Value → World → Prop) (i : Nat) (o : Oper) (a : Act) (W : World) : Act → World → Prop := fun a' W' => ∃ v, a' = a.put o.dst v ∧ Below W.heap.size W W' ∧ V i v W'
theorem wanted_none (hg : o.guard = none) : Region.wanted o (yielded ops a.tmps) = true := by simp [Region.wanted, hg]
theorem yielded_of {g sl : Nat} {b : Bool} (hgo : (ops[g]?.bind (·.dst)) = some sl) (e : a.eval (.tmp sl) = .bool b) : yielded ops a.tmps g = some b := by
  unfold yielded
  rw [hgo]
  change a.tmps.getD sl undef = .bool b at e
  cases h : a.tmps[sl]? with
  | none => rw [Array.getD_eq_getD_getElem?, h] at e; cases e
  | some x =>
    rw [Array.getD_eq_getD_getElem?, h] at e
    simp only [Option.getD_some] at e
    subst e
    simp [h]
theorem wanted_some {l : List Oper} {g sl : Nat} {b : Bool} (hg : o.guard = some (g, b)) (hgo : (l[g]?.bind (·.dst)) = some sl) (e : a.eval (.tmp sl) = .bool b) : Region.wanted o (yielded l.toArray a.tmps) = true := by
  simp [Region.wanted, hg, yielded_of (ops := l.toArray) (by simpa using hgo) e]
theorem wanted_not {l : List Oper} {g sl : Nat} {b : Bool} (hg : o.guard = some (g, b)) (hgo : (l[g]?.bind (·.dst)) = some sl) (e : a.eval (.tmp sl) = .bool (!b)) : ¬ Region.wanted o (yielded l.toArray a.tmps) = true := by
  simp [Region.wanted, hg, yielded_of (ops := l.toArray) (by simpa using hgo) e]
theorem k_move (ho : o.op = .move s) (e : a.eval s = v) (hv : V i v W) : Oper.wp P o a W (NextV V i o a W) Q := by
  unfold Oper.wp
  simp only [execOp, ho, e]
  exact ⟨v, rfl, Below.refl _ _, hv⟩
theorem k_assign (ho : o.op = .assign s) (e : a.eval s = v) (hv : V i v W) : Oper.wp P o a W (NextV V i o a W) Q := by
  unfold Oper.wp
  simp only [execOp, ho, e]
  exact ⟨v, rfl, Below.refl _ _, hv⟩
theorem k_pick {b : Bool} (ho : o.op = .pick s t u) (e : a.eval s = .bool b) (e1 : b = true → a.eval t = v) (e2 : b = false → a.eval u = v) (hv : V i v W) : Oper.wp P o a W (NextV V i o a W) Q := by
  unfold Oper.wp
  simp only [execOp, ho, e]
  refine ⟨v, ?_, Below.refl _ _, hv⟩
  cases b
  · rw [← e2 rfl]; rfl
  · rw [← e1 rfl]; rfl
theorem k_not {ty : TypeId} {b : Bool} (ho : o.op = .unOp .not ty s) (e : a.eval s = .bool b) (hv : V i (.bool (!b)) W) : Oper.wp P o a W (NextV V i o a W) Q := by
  unfold Oper.wp
  simp only [execOp, ho, e]
  exact ⟨_, rfl, Below.refl _ _, hv⟩
theorem k_run (h : (execOp a.eval o).run P W = .ok (.value v) W) (hv : V i v W) : Oper.wp P o a W (NextV V i o a W) Q := by
  unfold Oper.wp
  rw [h]
  exact ⟨v, rfl, Below.refl _ _, hv⟩
end

section
variable {ops : Array Oper} {Q : Exit → Act → World → Prop} {V : Nat → Value → World → Prop} {i : Nat} {o : Oper} {a : Act} {W : World} {s t u : Operand} {v v' : Value}
theorem r_load {b : Nat} {x : SpotT} (ho : o.op = .load 33 s) (e : a.eval s = .pointer (some ⟨b, 0, none⟩)) (h0 : W.cell? ⟨b, 0, none⟩ = some (.int .u64 x.1.1)) (h1 : W.cell? ⟨b, 1, none⟩ = some (.int .u64 x.1.2)) (h2 : W.cell? ⟨b, 2, none⟩ = some (.int .i64 x.2)) :
    (execOp a.eval o).run Try.prog W = .ok (.value (sptV x)) W := by
  unfold sptV
  simp only [execOp, ho, e]
  go_simp
theorem r_eqS {x : SpotT} (ho : o.op = .binOp .eql 33 s t 33) (e : a.eval s = sptV x) (e' : a.eval t = sptV x) : (execOp a.eval o).run Try.prog W = .ok (.value (.bool true)) W := by
  unfold sptV at e e'
  simp only [execOp, ho, e, e']
  go_simp
theorem r_eqI {x y : Int} (ho : o.op = .binOp .eql 3 s t 3) (e : a.eval s = .int .i64 x) (e' : a.eval t = .int .i64 y) : (execOp a.eval o).run Try.prog W = .ok (.value (.bool (x == y))) W := by
  simp only [execOp, ho, e, e']
  go_simp
theorem r_len {A : Option Addr} {n c : Nat} (ho : o.op = .call { callee := .builtin .len, args := #[s], argTypes := #[28] }) (e : a.eval s = .slice A n c) : (execOp a.eval o).run Try.prog W = .ok (.value (.int .i64 n)) W := by
  simp only [execOp, ho, resolve, List.map_toArray, List.map_cons, List.map_nil, e]
  go_simp
theorem k_call {f : FuncId} {xs : Array Operand} {ats : Array TypeId} {args : Array Value} {R : Ending → World → Prop} (ho : o.op = .call { callee := .value (.func f), args := xs, argTypes := ats }) (hargs : xs.map a.eval = args)
    (hent : (callFunc f args).run Try.prog W = .ok (.enter f args) W) (hc : Calls Try.prog f args W R) (hR : ∀ e W', R e W' → ∃ v, e = .returned v ∧ Below W.heap.size W W' ∧ V i v W') : Oper.wp Try.prog o a W (NextV V i o a W) Q := by
  unfold Oper.wp
  have h1 : (execOp a.eval o).run Try.prog W = .ok (.enter f args) W := by
    simp only [execOp, ho, resolve, hargs]
    simp [Deferred.ofValue, Act.eval, invoke, hent]
  rw [h1, Oper.upon_enter]
  refine Calls.mono hc ?_
  intro e W' h
  obtain ⟨v, rfl, hb, hv⟩ := hR e W' h
  exact ⟨v, rfl, hb, hv⟩
theorem ent_list (args : Array Value) : (callFunc 30 args).run Try.prog W = .ok (.enter 30 args) W := by
  go_simp
end

section
variable {o : Oper} {a : Act} {W : World} {s t u : Operand} {v v' : Value}
theorem r_neI {x : Int} (ho : o.op = .binOp .neq 3 s t 3) (e : a.eval s = .int .i64 x) (e' : a.eval t = .int .i64 x) : (execOp a.eval o).run Try.prog W = .ok (.value (.bool false)) W := by
  simp only [execOp, ho, e, e']
  go_simp
theorem r_gtr {x y : Int} {b : Bool} (ho : o.op = .binOp .gtr 3 s t 3) (e : a.eval s = .int .i64 x) (e' : a.eval t = .int .i64 y) (h : decide (y < x) = b) : (execOp a.eval o).run Try.prog W = .ok (.value (.bool b)) W := by
  subst h
  simp only [execOp, ho, e, e']
  go_simp
theorem r_sub {x y z : Int} (ho : o.op = .binOp .sub 3 s t 3) (e : a.eval s = .int .i64 x) (e' : a.eval t = .int .i64 y) (h : IntKind.i64.wrap (x - y) = z) : (execOp a.eval o).run Try.prog W = .ok (.value (.int .i64 z)) W := by
  subst h
  simp only [execOp, ho, e, e']
  go_simp
theorem r_neB {b : Bool} (ho : o.op = .binOp .neq 4 s t 4) (e : a.eval s = .bool b) (e' : a.eval t = .bool b) : (execOp a.eval o).run Try.prog W = .ok (.value (.bool false)) W := by
  simp only [execOp, ho, e, e']
  cases b <;> go_simp
theorem r_neS {x : SpotT} (ho : o.op = .binOp .neq 33 s t 33) (e : a.eval s = sptV x) (e' : a.eval t = sptV x) : (execOp a.eval o).run Try.prog W = .ok (.value (.bool false)) W := by
  unfold sptV at e e'
  simp only [execOp, ho, e, e']
  go_simp
theorem r_idx {b off n c k : Nat} (ho : o.op = .indexAddr 28 s t) (e : a.eval s = .slice (some ⟨b, off, none⟩) n c) (e' : a.eval t = .int .i64 (k : Int)) (hk : k < n) : (execOp a.eval o).run Try.prog W = .ok (.value (.pointer (some ⟨b, off + k * 3, none⟩))) W := by
  have h1 : (k : Int) < (n : Int) := by omega
  have h0 : (0 : Int) ≤ (k : Int) := by omega
  simp only [execOp, ho, e, e']
  go_simp
theorem r_loadO {b off : Nat} {x : SpotT} (ho : o.op = .load 33 s) (e : a.eval s = .pointer (some ⟨b, off, none⟩)) (h0 : W.cell? ⟨b, off, none⟩ = some (.int .u64 x.1.1)) (h1 : W.cell? ⟨b, off + 1, none⟩ = some (.int .u64 x.1.2)) (h2 : W.cell? ⟨b, off + 2, none⟩ = some (.int .i64 x.2)) :
    (execOp a.eval o).run Try.prog W = .ok (.value (sptV x)) W := by
  unfold sptV
  simp only [execOp, ho, e]
  go_simp
end

end Go.Proofs.Ytglbefkfbnaijaa
