/- A spot comes in by value: three numbers, two of them of the struct inside. -/
import Derived.Test.YtajmnhnepoomjaaLaw
namespace Go.Proofs.Ytajmnhnepoomjaa
open Go.ChangeShapes Go.WideShapes Go.ChangeAt Go.RowKit Go.Joins Go.Deep

theorem open_spot {H : Type} {enc : TypeId × Value → H} {P : Program} {w : World} {base : Nat} {t : TypeId} {f0 f1 g0 g1 : Field} {v : Value} {d : DataW H} {p : List MemPlace} (hs : P.underlying t = some (.struct #[f0, f1])) (hC : P.cellsOf t = 3)
    (o0 : f0.offset = 0) (k0 : P.cellsOf f0.type = 2) (o1 : f1.offset = 2) (k1 : P.cellsOf f1.type = 1) (hh : P.underlying f0.type = some (.struct #[g0, g1])) (q0 : g0.offset = 0) (m0 : P.cellsOf g0.type = 1) (q1 : g1.offset = 1) (m1 : P.cellsOf g1.type = 1)
    (u0 : P.underlying g0.type = some (.int .u64)) (u1 : P.underlying g1.type = some (.int .u64)) (u2 : P.underlying f1.type = some (.int .i64))
    (hv : Value.okWide P w .any base t v) (h : DataW.Trod enc P w 0 (fun _ => true) true t v d p) :
    ∃ a b c : Int, v = .agg #[.int .u64 a, .int .u64 b, .int .i64 c] := by
  obtain ⟨cs, rfl, hsz⟩ := okWide_struct hs hv
  obtain ⟨c0, c1, c2, rfl⟩ := array3 (hsz.trans hC)
  obtain ⟨fuel, hf⟩ := h
  obtain ⟨y0, y1, n, _, _, h0, h1⟩ := trod_struct2 hs hf
  have h0' : DataW.trod enc P w 0 (fun _ => true) true n f0.type [c0, c1] = some y0 := by simpa [Value.cells, o0, k0] using h0
  have h1' : DataW.trod enc P w 0 (fun _ => true) true n f1.type [c2] = some y1 := by simpa [Value.cells, o1, k1] using h1
  obtain ⟨z0, z1, n', _, _, e0, e1⟩ := trod_struct2 hh h0'
  have e0' : DataW.trod enc P w 0 (fun _ => true) true n' g0.type [c0] = some z0 := by simpa [q0, m0] using e0
  have e1' : DataW.trod enc P w 0 (fun _ => true) true n' g1.type [c1] = some z1 := by simpa [q1, m1] using e1
  obtain ⟨a, ha, _, _⟩ := DataW.trod_int u0 e0'
  obtain ⟨b, hb, _, _⟩ := DataW.trod_int u1 e1'
  obtain ⟨c, hc, _, _⟩ := DataW.trod_int u2 h1'
  simp at ha hb hc
  exact ⟨a, b, c, by rw [ha, hb, hc]⟩

end Go.Proofs.Ytajmnhnepoomjaa
