/- A hit that comes in by value. -/
import Derived.Test.YtajmnhnepoomjaaRankOpen
namespace Go.Proofs.Ytajmnhnepoomjaa
open Go.ChangeShapes Go.WideShapes Go.ChangeAt Go.RowKit Go.Joins Go.Deep

theorem open_hit {H : Type} {enc : TypeId × Value → H} {P : Program} {w : World} {base : Nat} {t : TypeId} {g0 g1 : Field} {v : Value} {d : DataW H} {p : List MemPlace} (hh : P.underlying t = some (.struct #[g0, g1])) (hC : P.cellsOf t = 2)
    (q0 : g0.offset = 0) (m0 : P.cellsOf g0.type = 1) (q1 : g1.offset = 1) (m1 : P.cellsOf g1.type = 1) (u0 : P.underlying g0.type = some (.int .u64)) (u1 : P.underlying g1.type = some (.int .u64))
    (hv : Value.okWide P w .any base t v) (h : DataW.Trod enc P w 0 (fun _ => true) true t v d p) :
    ∃ a b : Int, v = .agg #[.int .u64 a, .int .u64 b] := by
  obtain ⟨cs, rfl, hsz⟩ := okWide_struct hh hv
  obtain ⟨c0, c1, rfl⟩ : ∃ c0 c1, cs = #[c0, c1] := by
    have hs := hsz.trans hC
    obtain ⟨l⟩ := cs
    match l, hs with
    | [c0, c1], _ => exact ⟨c0, c1, rfl⟩
  obtain ⟨fuel, hf⟩ := h
  obtain ⟨z0, z1, n', _, _, e0, e1⟩ := trod_struct2 hh hf
  have e0' : DataW.trod enc P w 0 (fun _ => true) true n' g0.type [c0] = some z0 := by simpa [Value.cells, q0, m0] using e0
  have e1' : DataW.trod enc P w 0 (fun _ => true) true n' g1.type [c1] = some z1 := by simpa [Value.cells, q1, m1] using e1
  obtain ⟨a, ha, _, _⟩ := DataW.trod_int u0 e0'
  obtain ⟨b, hb, _, _⟩ := DataW.trod_int u1 e1'
  simp at ha hb
  exact ⟨a, b, by rw [ha, hb]⟩

end Go.Proofs.Ytajmnhnepoomjaa
