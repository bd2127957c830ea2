/- A region that is held: what each kind of operation tells; a value is told as it is, or by what holds of it in every later world. -/
import Derived.Test.YtdgmcaehadigaaaHeld
import Derived.Test.YtdgmcaehadigaaaLits
namespace Go.Proofs.Ytdgmcaehadigaaa
open Go.RowKit

/-- What holds of a value in memory, and stays. -/
structure PV where
  P : Value → World → Prop
  later : ∀ v W W', Below W.heap.size W W' → P v W → P v W'
/-- Numbers in memory. -/
def PV.ints (L : List Int) : PV := ⟨fun v W => ∃ A k, v = .slice A L.length k ∧ Rd (Value.int .i64) W W.heap.size A L, fun _ _ _ hb ⟨A, k, e, hr⟩ => ⟨A, k, e, rd_later hr hb⟩⟩
inductive DI
  | c (v : Value)
  | p (q : PV)
  | free
def DI.ok (d : DI) (v : Value) (W : World) : Prop := match d with
  | .c u => v = u
  | .p q => q.P v W
  | .free => True
def VI (ds : List DI) (i : Nat) (v : Value) (W : World) : Prop := (ds.getD i .free).ok v W
theorem VI_later (ds : List DI) (i : Nat) (v : Value) (W W' : World) (hb : Below W.heap.size W W') (h : VI ds i v W) : VI ds i v W' := by
  unfold VI at *
  generalize ds.getD i .free = d at *
  cases d with
  | c u => exact h
  | p q => exact q.later v W W' hb h
  | free => trivial
section
variable {P : Program} {ops : Array Oper} {Q : Exit → Act → World → Prop} {V : Nat → Value → World → Prop} {i : Nat} {o : Oper} {a : Act} {W : World} {s t u : Operand} {v v' : Value}
abbrev NextN (V : Nat → Value → World → Prop) (i : Nat) (o : Oper) (a : Act) (W : World) : Act → World → Prop := fun a' W' => ∃ v, a' = a.put o.dst v ∧ Below W.heap.size W W' ∧ V i v W'
theorem nw_none (hg : o.guard = none) : Region.wanted o (yielded ops a.tmps) = true := by simp [Region.wanted, hg]
theorem ny_of {g sl : Nat} {b : Bool} (hgo : (ops[g]?.bind (·.dst)) = some sl) (e : a.eval (.tmp sl) = .bool b) : yielded ops a.tmps g = some b := by
  unfold yielded
  rw [hgo]
  change a.tmps.getD sl undef = .bool b at e
  cases h : a.tmps[sl]? with
  | none => rw [Array.getD_eq_getD_getElem?, h] at e; cases e
  | some x =>
    rw [Array.getD_eq_getD_getElem?, h] at e
    simp only [Option.getD_some] at e
    subst e
    simp [h]
theorem nw_some {l : List Oper} {g sl : Nat} {b : Bool} (hg : o.guard = some (g, b)) (hgo : (l[g]?.bind (·.dst)) = some sl) (e : a.eval (.tmp sl) = .bool b) : Region.wanted o (yielded l.toArray a.tmps) = true := by
  simp [Region.wanted, hg, ny_of (ops := l.toArray) (by simpa using hgo) e]
theorem n_move (ho : o.op = .move s) (e : a.eval s = v) (hv : V i v W) : Oper.wp P o a W (NextN V i o a W) Q := by
  unfold Oper.wp
  simp only [execOp, ho, e]
  exact ⟨v, rfl, Below.refl _ _, hv⟩
theorem n_pick {b : Bool} (ho : o.op = .pick s t u) (e : a.eval s = .bool b) (e1 : b = true → a.eval t = v) (e2 : b = false → a.eval u = v) (hv : V i v W) : Oper.wp P o a W (NextN V i o a W) Q := by
  unfold Oper.wp
  simp only [execOp, ho, e]
  refine ⟨v, ?_, Below.refl _ _, hv⟩
  cases b
  · rw [← e2 rfl]; rfl
  · rw [← e1 rfl]; rfl
theorem n_not {ty : TypeId} {b : Bool} (ho : o.op = .unOp .not ty s) (e : a.eval s = .bool b) (hv : V i (.bool (!b)) W) : Oper.wp P o a W (NextN V i o a W) Q := by
  unfold Oper.wp
  simp only [execOp, ho, e]
  exact ⟨_, rfl, Below.refl _ _, hv⟩
theorem n_run (h : (execOp a.eval o).run P W = .ok (.value v) W) (hv : V i v W) : Oper.wp P o a W (NextN V i o a W) Q := by
  unfold Oper.wp
  rw [h]
  exact ⟨v, rfl, Below.refl _ _, hv⟩
theorem n_call {f : FuncId} {xs : Array Operand} {ats : Array TypeId} {args : Array Value} {R : Ending → World → Prop} (ho : o.op = .call { callee := .value (.func f), args := xs, argTypes := ats }) (hargs : xs.map a.eval = args)
    (hent : (callFunc f args).run P W = .ok (.enter f args) W) (hc : Calls P f args W R) (hR : ∀ e W', R e W' → ∃ v, e = .returned v ∧ Below W.heap.size W W' ∧ V i v W') : Oper.wp P o a W (NextN V i o a W) Q := by
  unfold Oper.wp
  have h1 : (execOp a.eval o).run P W = .ok (.enter f args) W := by
    simp only [execOp, ho, resolve, hargs]
    simp [Deferred.ofValue, Act.eval, invoke, hent]
  rw [h1, Oper.upon_enter]
  refine Calls.mono hc ?_
  intro e W' h
  obtain ⟨v, rfl, hb, hv⟩ := hR e W' h
  exact ⟨v, rfl, hb, hv⟩
end
section
variable {o : Oper} {a : Act} {W : World} {s t : Operand}
theorem np_loadI {b k : Nat} {i : Int} (ho : o.op = .load 3 s) (e : a.eval s = .pointer (some ⟨b, k, none⟩)) (h : W.cell? ⟨b, k, none⟩ = some (.int .i64 i)) : (execOp a.eval o).run Try.prog W = .ok (.value (.int .i64 i)) W := by
  simp only [execOp, ho, e]
  go_simp
theorem np_loadB {b k : Nat} {i : Bool} (ho : o.op = .load 4 s) (e : a.eval s = .pointer (some ⟨b, k, none⟩)) (h : W.cell? ⟨b, k, none⟩ = some (.bool i)) : (execOp a.eval o).run Try.prog W = .ok (.value (.bool i)) W := by
  simp only [execOp, ho, e]
  go_simp
theorem np_neB {b : Bool} (ho : o.op = .binOp .neq 4 s t 4) (e : a.eval s = .bool b) (e' : a.eval t = .bool b) : (execOp a.eval o).run Try.prog W = .ok (.value (.bool false)) W := by
  simp only [execOp, ho, e, e']
  cases b <;> go_simp
theorem np_eqNB {b : Bool} (ho : o.op = .binOp .eql 4 s t 4) (e : a.eval s = .bool b) (e' : a.eval t = .bool (!b)) : (execOp a.eval o).run Try.prog W = .ok (.value (.bool false)) W := by
  simp only [execOp, ho, e, e']
  cases b <;> go_simp
theorem np_neI {x : Int} (ho : o.op = .binOp .neq 3 s t 3) (e : a.eval s = .int .i64 x) (e' : a.eval t = .int .i64 x) : (execOp a.eval o).run Try.prog W = .ok (.value (.bool false)) W := by
  simp only [execOp, ho, e, e']
  go_simp
end

end Go.Proofs.Ytdgmcaehadigaaa
