/- Deeds to a map that a law is handed: what, to which id, with which ref. -/
import Derived.Test.YtoaikdnooafjmaaLawRows
import Derived.Test.YtoaikdnooafjmaaImPlain
namespace Go.Proofs.Ytoaikdnooafjmaa
open Go.ChangeShapes Go.WideShapes Go.ChangeAt Go.RowKit Go.Joins Go.Deep

abbrev DeedI := Int × Int × Int × Int
/-- A number, an id, a ref each, in blocks below B. -/
def RdDI (w : World) (B : Nat) (A : Option Addr) (ds : List DeedI) : Prop :=
  ∀ k d, ds[k]? = some d → ∃ b off, A = some ⟨b, off, none⟩ ∧ b < B ∧ w.cell? ⟨b, off + k * 4, none⟩ = some (.int .i64 d.1) ∧ w.cell? ⟨b, off + k * 4 + 1, none⟩ = some (.int .u64 d.2.1) ∧ w.cell? ⟨b, off + k * 4 + 2, none⟩ = some (.int .i64 d.2.2.1) ∧ w.cell? ⟨b, off + k * 4 + 3, none⟩ = some (.int .i64 d.2.2.2)
theorem RdDI.below {w w' : World} {B : Nat} {A : Option Addr} {ds : List DeedI} (h : RdDI w B A ds) (hb : Below B w w') : RdDI w' B A ds := fun k d hd => by
  obtain ⟨b, off, hA, hlt, h0, h1, h2, h3⟩ := h k d hd
  exact ⟨b, off, hA, hlt, (hb.cell (p := ⟨b, off + k * 4, none⟩) hlt).trans h0, (hb.cell (p := ⟨b, off + k * 4 + 1, none⟩) hlt).trans h1, (hb.cell (p := ⟨b, off + k * 4 + 2, none⟩) hlt).trans h2, (hb.cell (p := ⟨b, off + k * 4 + 3, none⟩) hlt).trans h3⟩
section
variable {H : Type} {enc : TypeId × Value → H} {P : Program} {w : World} {base : Nat}
theorem open_deeds {t e : TypeId} {d0 d1 d2 f0 f1 : Field} {v : Value} {d : DataW H} {p : List MemPlace} (ht : P.underlying t = some (.slice e)) (hd : P.underlying e = some (.struct #[d0, d1, d2])) (hC : P.cellsOf e = 4)
    (p0 : d0.offset = 0) (l0 : P.cellsOf d0.type = 1) (p1 : d1.offset = 1) (l1 : P.cellsOf d1.type = 1) (p2 : d2.offset = 2) (l2 : P.cellsOf d2.type = 2) (ub : P.underlying d0.type = some (.int .i64)) (ui : P.underlying d1.type = some (.int .u64))
    (hs : P.underlying d2.type = some (.struct #[f0, f1])) (hone : oneCellFields P #[f0, f1] = true) (u0 : P.underlying f0.type = some (.int .i64)) (u1 : P.underlying f1.type = some (.int .i64))
    (hv : Value.okWide P w .any base t v) (h : DataW.Trod enc P w 0 (fun _ => true) true t v d p) :
    ∃ (A : Option Addr) (zs : List DeedI) (c : Nat), v = .slice A zs.length c ∧ RdDI w w.heap.size A zs ∧ (∀ x ∈ zs, IsU x.2.1) ∧ zs.length ≤ c ∧ c ≤ 9223372036854775807 ∧ (A = none → c = 0) := by
  obtain ⟨A, n, c, rfl, hnc, hn, hA, hc, hel⟩ := open_parts ht hC (by omega) hv h
  have H1 : ∀ i, i < n → ∃ z : DeedI, (∃ b off, A = some ⟨b, off, none⟩ ∧ b < w.heap.size ∧ w.cell? ⟨b, off + i * 4, none⟩ = some (.int .i64 z.1) ∧ w.cell? ⟨b, off + i * 4 + 1, none⟩ = some (.int .u64 z.2.1) ∧ w.cell? ⟨b, off + i * 4 + 2, none⟩ = some (.int .i64 z.2.2.1) ∧ w.cell? ⟨b, off + i * 4 + 3, none⟩ = some (.int .i64 z.2.2.2)) ∧ IsU z.2.1 := by
    intro i hi
    obtain ⟨b, off, cs, f, y, rfl, hb, hl, hcell, hy⟩ := hel i hi
    match cs, hl with
    | [c0, c1, c2, c3], _ =>
      obtain ⟨ys, n', _, _, _, hylen, hyg⟩ := DataW.trod_struct hd hy
      match ys, hylen with
      | [z0, z1, z2], _ =>
        have e0 : DataW.trod enc P w 0 (fun _ => true) true n' d0.type [c0] = some z0 := by simpa [p0, l0] using hyg 0 d0 rfl
        have e1 : DataW.trod enc P w 0 (fun _ => true) true n' d1.type [c1] = some z1 := by simpa [p1, l1] using hyg 1 d1 rfl
        have e2 : DataW.trod enc P w 0 (fun _ => true) true n' d2.type [c2, c3] = some z2 := by simpa [p2, l2] using hyg 2 d2 rfl
        obtain ⟨kd, hkd, _⟩ := DataW.trod_int ub e0
        obtain ⟨si, hsi, _, wsi⟩ := DataW.trod_int ui e1
        obtain ⟨xs, n'', _, _, _, hlen, hg⟩ := DataW.trod_struct hs e2
        obtain ⟨o0, k0⟩ := hone_of hone 0 f0 rfl
        obtain ⟨o1, k1⟩ := hone_of hone 1 f1 rfl
        match xs, hlen with
        | [y0, y1], _ =>
          have g0 : DataW.trod enc P w 0 (fun _ => true) true n'' f0.type [c2] = some y0 := by simpa [o0, k0] using hg 0 f0 rfl
          have g1 : DataW.trod enc P w 0 (fun _ => true) true n'' f1.type [c3] = some y1 := by simpa [o1, k1] using hg 1 f1 rfl
          obtain ⟨a, ha, _, _⟩ := DataW.trod_int u0 g0
          obtain ⟨tg, htg, _, _⟩ := DataW.trod_int u1 g1
          simp at ha htg hkd hsi
          subst ha htg hkd hsi
          exact ⟨(kd, si, a, tg), ⟨b, off, rfl, hb, hcell 0 (by omega), hcell 1 (by omega), hcell 2 (by omega), hcell 3 (by omega)⟩, wsi⟩
  obtain ⟨zs, hlen, hzs⟩ := list_at n H1
  subst hlen
  refine ⟨A, zs, c, rfl, fun k d hd => (hzs k d hd).1, fun x hx => ?_, hnc, hc, hA⟩
  obtain ⟨k, hk, hkx⟩ := List.mem_iff_getElem.1 hx
  exact (hzs k x (by rw [List.getElem?_eq_getElem hk, hkx])).2
end

end Go.Proofs.Ytoaikdnooafjmaa
