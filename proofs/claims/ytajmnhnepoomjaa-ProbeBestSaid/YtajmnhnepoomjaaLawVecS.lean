/- A vector that comes in, with the size of what it reads as. -/
import Derived.Test.YtajmnhnepoomjaaLawItems
import Derived.SizedLaws
namespace Go.Proofs.Ytajmnhnepoomjaa
open Go.ChangeShapes Go.WideShapes Go.ChangeAt Go.RowKit Go.Joins Go.Deep

theorem open_vecS {H : Type} {enc : TypeId × Value → H} {P : Program} {w : World} {base : Nat} {t e : TypeId} {v : Value} {d : DataW H} {p : List MemPlace} (ht : P.underlying t = some (.slice e)) (he : P.underlying e = some (.int .i32)) (hc : P.cellsOf e = 1)
    (hv : Value.okWide P w .any base t v) (h : DataW.Trod enc P w 0 (fun _ => true) true t v d p) : ∃ (A : Option Addr) (zs : List Int) (c : Nat), v = .slice A zs.length c ∧ VecB w w.heap.size A zs ∧ (zs.length = 0 ∨ ∃ es sp, d = .slice es sp ∧ zs.length ≤ es.length) := by
  obtain ⟨a0, n, c, rfl⟩ := okWide_slice ht hv
  obtain ⟨fuel, hf⟩ := h
  obtain ⟨A, zs, c', e1, hV⟩ := vec_of_trod ht he hc hf
  refine ⟨A, zs, c', e1, hV, ?_⟩
  injection e1 with e1 e2 e3
  subst e1 e2 e3
  rcases open_ints ht he hc hf with ⟨hcs, _⟩ | ⟨a, len, cap, ys, hcs, _, hl, hm, hz, hx, _, _⟩
  · injection hcs with hcs _
    injection hcs with _ h2 _
    exact .inl h2
  · injection hcs with hcs _
    injection hcs with _ h2 _
    simp only [if_true] at hz
    injection hx with hx _
    exact .inr ⟨_, _, hx, by simp [lits, List.length_take]; omega⟩

end Go.Proofs.Ytajmnhnepoomjaa
