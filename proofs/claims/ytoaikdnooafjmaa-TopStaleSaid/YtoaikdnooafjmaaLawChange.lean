/- Changes that a law is handed: a drop or a put, of which id. -/
import Derived.Test.YtoaikdnooafjmaaLawRows
import Derived.Test.YtoaikdnooafjmaaImPlain
namespace Go.Proofs.Ytoaikdnooafjmaa
open Go.ChangeShapes Go.WideShapes Go.ChangeAt Go.RowKit Go.Joins Go.Deep

/-- A bool and an id each, in blocks below B. -/
def RdCh (w : World) (B : Nat) (A : Option Addr) (ds : List (Bool × Int)) : Prop :=
  ∀ k d, ds[k]? = some d → ∃ b off, A = some ⟨b, off, none⟩ ∧ b < B ∧ w.cell? ⟨b, off + k * 2, none⟩ = some (.bool d.1) ∧ w.cell? ⟨b, off + k * 2 + 1, none⟩ = some (.int .u64 d.2)
theorem RdCh.below {w w' : World} {B : Nat} {A : Option Addr} {ds : List (Bool × Int)} (h : RdCh w B A ds) (hb : Below B w w') : RdCh w' B A ds := fun k d hd => by
  obtain ⟨b, off, hA, hlt, h0, h1⟩ := h k d hd
  exact ⟨b, off, hA, hlt, (hb.cell (p := ⟨b, off + k * 2, none⟩) hlt).trans h0, (hb.cell (p := ⟨b, off + k * 2 + 1, none⟩) hlt).trans h1⟩
section
variable {H : Type} {enc : TypeId × Value → H} {P : Program} {w : World} {base : Nat}
theorem open_changes {t e : TypeId} {f0 f1 : Field} {v : Value} {d : DataW H} {p : List MemPlace} (ht : P.underlying t = some (.slice e)) (hd : P.underlying e = some (.struct #[f0, f1])) (hC : P.cellsOf e = 2)
    (hone : oneCellFields P #[f0, f1] = true) (u0 : P.underlying f0.type = some .bool) (u1 : P.underlying f1.type = some (.int .u64))
    (hv : Value.okWide P w .any base t v) (h : DataW.Trod enc P w 0 (fun _ => true) true t v d p) :
    ∃ (A : Option Addr) (zs : List (Bool × Int)) (c : Nat), v = .slice A zs.length c ∧ RdCh w w.heap.size A zs ∧ (∀ x ∈ zs, IsU x.2) ∧ zs.length ≤ c ∧ c ≤ 9223372036854775807 ∧ (A = none → c = 0) := by
  obtain ⟨A, n, c, rfl, hnc, hn, hA, hc, hel⟩ := open_parts ht hC (by omega) hv h
  have H1 : ∀ i, i < n → ∃ z : Bool × Int, (∃ b off, A = some ⟨b, off, none⟩ ∧ b < w.heap.size ∧ w.cell? ⟨b, off + i * 2, none⟩ = some (.bool z.1) ∧ w.cell? ⟨b, off + i * 2 + 1, none⟩ = some (.int .u64 z.2)) ∧ IsU z.2 := by
    intro i hi
    obtain ⟨b, off, cs, f, y, rfl, hb, hl, hcell, hy⟩ := hel i hi
    match cs, hl with
    | [c0, c1], _ =>
      obtain ⟨xs, n', _, _, _, hlen, hg⟩ := DataW.trod_struct hd hy
      obtain ⟨o0, k0⟩ := hone_of hone 0 f0 rfl
      obtain ⟨o1, k1⟩ := hone_of hone 1 f1 rfl
      match xs, hlen with
      | [y0, y1], _ =>
        have e0 : DataW.trod enc P w 0 (fun _ => true) true n' f0.type [c0] = some y0 := by simpa [o0, k0] using hg 0 f0 rfl
        have e1 : DataW.trod enc P w 0 (fun _ => true) true n' f1.type [c1] = some y1 := by simpa [o1, k1] using hg 1 f1 rfl
        obtain ⟨a, ha, _⟩ := DataW.trod_bool u0 e0
        obtain ⟨b2, hb2, _, wf1⟩ := DataW.trod_int u1 e1
        simp at ha hb2
        subst ha hb2
        exact ⟨(a, b2), ⟨b, off, rfl, hb, hcell 0 (by omega), hcell 1 (by omega)⟩, wf1⟩
  obtain ⟨zs, hlen, hzs⟩ := list_at n H1
  subst hlen
  refine ⟨A, zs, c, rfl, fun k d hd => (hzs k d hd).1, fun x hx => ?_, hnc, hc, hA⟩
  obtain ⟨k, hk, hkx⟩ := List.mem_iff_getElem.1 hx
  exact (hzs k x (by rw [List.getElem?_eq_getElem hk, hkx])).2
end

end Go.Proofs.Ytoaikdnooafjmaa
