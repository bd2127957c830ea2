/- The deeds of queues come in: a list of structs, of a number and a spot each. -/
import Derived.Test.YtglbefkfbnaijaaLawItems
namespace Go.Proofs.Ytglbefkfbnaijaa
open Go.ChangeShapes Go.WideShapes Go.ChangeAt Go.RowKit Go.Joins Go.Deep

/-- A deed: its kind, its spot. -/
abbrev DdT := Int × SpotT
/-- Deeds in memory, in blocks below B: four cells each. -/
def DdS (w : World) (B : Nat) (A : Option Addr) (ds : List DdT) : Prop :=
  ∀ k d, ds[k]? = some d → ∃ b off, A = some ⟨b, off, none⟩ ∧ b < B ∧ w.cell? ⟨b, off + k * 4, none⟩ = some (.int .i64 d.1) ∧ w.cell? ⟨b, off + k * 4 + 1, none⟩ = some (.int .u64 d.2.1.1) ∧ w.cell? ⟨b, off + k * 4 + 2, none⟩ = some (.int .u64 d.2.1.2) ∧ w.cell? ⟨b, off + k * 4 + 3, none⟩ = some (.int .i64 d.2.2)
theorem DdS.below {w w' : World} {B : Nat} {A : Option Addr} {ds : List DdT} (h : DdS w B A ds) (hb : Below B w w') : DdS w' B A ds := fun k d hd => by
  obtain ⟨b, off, hA, hlt, h0, h1, h2, h3⟩ := h k d hd
  exact ⟨b, off, hA, hlt, (hb.cell (p := ⟨b, off + k * 4, none⟩) hlt).trans h0, (hb.cell (p := ⟨b, off + k * 4 + 1, none⟩) hlt).trans h1, (hb.cell (p := ⟨b, off + k * 4 + 2, none⟩) hlt).trans h2, (hb.cell (p := ⟨b, off + k * 4 + 3, none⟩) hlt).trans h3⟩

section
variable {H : Type} {enc : TypeId × Value → H} {P : Program} {w : World} {base : Nat}
theorem open_deeds {t e : TypeId} {d0 d1 f0 f1 g0 g1 : Field} {v : Value} {d : DataW H} {p : List MemPlace} (ht : P.underlying t = some (.slice e)) (hd : P.underlying e = some (.struct #[d0, d1])) (hC : P.cellsOf e = 4)
    (p0 : d0.offset = 0) (l0 : P.cellsOf d0.type = 1) (p1 : d1.offset = 1) (l1 : P.cellsOf d1.type = 3) (ud : P.underlying d0.type = some (.int .i64)) (hs : P.underlying d1.type = some (.struct #[f0, f1]))
    (o0 : f0.offset = 0) (k0 : P.cellsOf f0.type = 2) (o1 : f1.offset = 2) (k1 : P.cellsOf f1.type = 1) (hh : P.underlying f0.type = some (.struct #[g0, g1])) (q0 : g0.offset = 0) (m0 : P.cellsOf g0.type = 1) (q1 : g1.offset = 1) (m1 : P.cellsOf g1.type = 1)
    (u0 : P.underlying g0.type = some (.int .u64)) (u1 : P.underlying g1.type = some (.int .u64)) (u2 : P.underlying f1.type = some (.int .i64))
    (hv : Value.okWide P w .any base t v) (h : DataW.Trod enc P w 0 (fun _ => true) true t v d p) :
    ∃ (A : Option Addr) (zs : List DdT) (c : Nat), v = .slice A zs.length c ∧ DdS w w.heap.size A zs ∧ zs.length ≤ c ∧ c ≤ 9223372036854775807 ∧ (A = none → c = 0) := by
  obtain ⟨A, n, c, rfl, hnc, hn, hA, hc, hel⟩ := open_elems ht hC (by omega) hv h
  have H1 : ∀ i, i < n → ∃ z : DdT, ∃ b off, A = some ⟨b, off, none⟩ ∧ b < w.heap.size ∧ w.cell? ⟨b, off + i * 4, none⟩ = some (.int .i64 z.1) ∧ w.cell? ⟨b, off + i * 4 + 1, none⟩ = some (.int .u64 z.2.1.1) ∧ w.cell? ⟨b, off + i * 4 + 2, none⟩ = some (.int .u64 z.2.1.2) ∧ w.cell? ⟨b, off + i * 4 + 3, none⟩ = some (.int .i64 z.2.2) := by
    intro i hi
    obtain ⟨b, off, cs, f, y, rfl, hb, hl, hcell, hy⟩ := hel i hi
    match cs, hl with
    | [c0, c1, c2, c3], _ =>
      obtain ⟨y0, y1, n', _, _, e0, e1⟩ := trod_struct2 hd hy
      have e0' : DataW.trod enc P w 0 (fun _ => true) true n' d0.type [c0] = some y0 := by simpa [p0, l0] using e0
      have e1' : DataW.trod enc P w 0 (fun _ => true) true n' d1.type [c1, c2, c3] = some y1 := by simpa [p1, l1] using e1
      obtain ⟨a, ha, _, _⟩ := DataW.trod_int ud e0'
      obtain ⟨s, rfl, rfl, rfl⟩ := spot_of_trod hs o0 k0 o1 k1 hh q0 m0 q1 m1 u0 u1 u2 e1'
      simp at ha
      subst ha
      exact ⟨(a, s), b, off, rfl, hb, hcell 0 (by omega), hcell 1 (by omega), hcell 2 (by omega), hcell 3 (by omega)⟩
  obtain ⟨zs, hlen, hzs⟩ := list_of n H1
  subst hlen
  exact ⟨A, zs, c, rfl, hzs, hnc, hc, hA⟩
end

end Go.Proofs.Ytglbefkfbnaijaa
