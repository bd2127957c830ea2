/- Rows of three numbers each that a law is handed. -/
import Derived.Test.YtoaikdnooafjmaaLawRows
namespace Go.Proofs.Ytoaikdnooafjmaa
open Go.ChangeShapes Go.WideShapes Go.ChangeAt Go.RowKit Go.Joins Go.Deep

/-- Three numbers each, in blocks below B. -/
def RdI3 (w : World) (B : Nat) (A : Option Addr) (ds : List (Int × Int × Int)) : Prop :=
  ∀ k d, ds[k]? = some d → ∃ b off, A = some ⟨b, off, none⟩ ∧ b < B ∧ w.cell? ⟨b, off + k * 3, none⟩ = some (.int .i64 d.1) ∧ w.cell? ⟨b, off + k * 3 + 1, none⟩ = some (.int .i64 d.2.1) ∧ w.cell? ⟨b, off + k * 3 + 2, none⟩ = some (.int .i64 d.2.2)
theorem RdI3.below {w w' : World} {B : Nat} {A : Option Addr} {ds : List (Int × Int × Int)} (h : RdI3 w B A ds) (hb : Below B w w') : RdI3 w' B A ds := fun k d hd => by
  obtain ⟨b, off, hA, hlt, h0, h1, h2⟩ := h k d hd
  exact ⟨b, off, hA, hlt, (hb.cell (p := ⟨b, off + k * 3, none⟩) hlt).trans h0, (hb.cell (p := ⟨b, off + k * 3 + 1, none⟩) hlt).trans h1, (hb.cell (p := ⟨b, off + k * 3 + 2, none⟩) hlt).trans h2⟩
section
variable {H : Type} {enc : TypeId × Value → H} {P : Program} {w : World} {base : Nat}
theorem open_triples {t e : TypeId} {f0 f1 f2 : Field} {v : Value} {d : DataW H} {p : List MemPlace} (ht : P.underlying t = some (.slice e)) (hd : P.underlying e = some (.struct #[f0, f1, f2])) (hC : P.cellsOf e = 3)
    (hone : oneCellFields P #[f0, f1, f2] = true) (u0 : P.underlying f0.type = some (.int .i64)) (u1 : P.underlying f1.type = some (.int .i64)) (u2 : P.underlying f2.type = some (.int .i64))
    (hv : Value.okWide P w .any base t v) (h : DataW.Trod enc P w 0 (fun _ => true) true t v d p) :
    ∃ (A : Option Addr) (zs : List (Int × Int × Int)) (c : Nat), v = .slice A zs.length c ∧ RdI3 w w.heap.size A zs ∧ (∀ x ∈ zs, IsI x.1 ∧ IsI x.2.1 ∧ IsI x.2.2) ∧ zs.length ≤ c ∧ c ≤ 9223372036854775807 ∧ (A = none → c = 0) := by
  obtain ⟨A, n, c, rfl, hnc, hn, hA, hc, hel⟩ := open_parts ht hC (by omega) hv h
  have H1 : ∀ i, i < n → ∃ z : Int × Int × Int, (∃ b off, A = some ⟨b, off, none⟩ ∧ b < w.heap.size ∧ w.cell? ⟨b, off + i * 3, none⟩ = some (.int .i64 z.1) ∧ w.cell? ⟨b, off + i * 3 + 1, none⟩ = some (.int .i64 z.2.1) ∧ w.cell? ⟨b, off + i * 3 + 2, none⟩ = some (.int .i64 z.2.2)) ∧ IsI z.1 ∧ IsI z.2.1 ∧ IsI z.2.2 := by
    intro i hi
    obtain ⟨b, off, cs, f, y, rfl, hb, hl, hcell, hy⟩ := hel i hi
    match cs, hl with
    | [c0, c1, c2], _ =>
      obtain ⟨xs, n', _, _, _, hlen, hg⟩ := DataW.trod_struct hd hy
      obtain ⟨o0, k0⟩ := hone_of hone 0 f0 rfl
      obtain ⟨o1, k1⟩ := hone_of hone 1 f1 rfl
      obtain ⟨o2, k2⟩ := hone_of hone 2 f2 rfl
      match xs, hlen with
      | [y0, y1, y2], _ =>
        have e0 : DataW.trod enc P w 0 (fun _ => true) true n' f0.type [c0] = some y0 := by simpa [o0, k0] using hg 0 f0 rfl
        have e1 : DataW.trod enc P w 0 (fun _ => true) true n' f1.type [c1] = some y1 := by simpa [o1, k1] using hg 1 f1 rfl
        have e2 : DataW.trod enc P w 0 (fun _ => true) true n' f2.type [c2] = some y2 := by simpa [o2, k2] using hg 2 f2 rfl
        obtain ⟨a, ha, _, wf0⟩ := DataW.trod_int u0 e0
        obtain ⟨b2, hb2, _, wf1⟩ := DataW.trod_int u1 e1
        obtain ⟨c3, hc3, _, wf2⟩ := DataW.trod_int u2 e2
        simp at ha hb2 hc3
        subst ha hb2 hc3
        exact ⟨(a, b2, c3), ⟨b, off, rfl, hb, hcell 0 (by omega), hcell 1 (by omega), hcell 2 (by omega)⟩, wf0, wf1, wf2⟩
  obtain ⟨zs, hlen, hzs⟩ := list_at n H1
  subst hlen
  refine ⟨A, zs, c, rfl, fun k d hd => (hzs k d hd).1, fun x hx => ?_, hnc, hc, hA⟩
  obtain ⟨k, hk, hkx⟩ := List.mem_iff_getElem.1 hx
  exact (hzs k x (by rw [List.getElem?_eq_getElem hk, hkx])).2
end

end Go.Proofs.Ytoaikdnooafjmaa
