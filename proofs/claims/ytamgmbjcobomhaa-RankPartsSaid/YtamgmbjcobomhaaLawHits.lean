/- A list of hits comes in, nil or not. -/
import Derived.Test.YtamgmbjcobomhaaLawItems
import Derived.Test.YtamgmbjcobomhaaRankHits
namespace Go.Proofs.Ytamgmbjcobomhaa
open Go.ChangeShapes Go.WideShapes Go.ChangeAt Go.RowKit Go.Joins Go.Deep

theorem open_hits {H : Type} {enc : TypeId × Value → H} {P : Program} {w : World} {base : Nat} {t e : TypeId} {f0 f1 : Field} {v : Value} {d : DataW H} {p : List MemPlace} (ht : P.underlying t = some (.slice e)) (hs : P.underlying e = some (.struct #[f0, f1])) (hone : oneCellFields P #[f0, f1] = true) (hC : P.cellsOf e = 2)
    (u0 : P.underlying f0.type = some (.int .u64)) (u1 : P.underlying f1.type = some (.int .u64))
    (hv : Value.okWide P w .any base t v) (h : DataW.Trod enc P w 0 (fun _ => true) true t v d p) :
    ∃ (A : Option Addr) (zs : List HitT) (c : Nat), v = .slice A zs.length c ∧ RdH w w.heap.size A zs ∧ zs.length ≤ c ∧ c ≤ 9223372036854775807 ∧ (A = none → c = 0) := by
  obtain ⟨A, n, c, rfl, hnc, hn, hA, hc, hel⟩ := open_elems ht hC (by omega) hv h
  have H1 : ∀ i, i < n → ∃ z : HitT, ∃ b off, A = some ⟨b, off, none⟩ ∧ b < w.heap.size ∧ w.cell? ⟨b, off + i * 2, none⟩ = some (.int .u64 z.1) ∧ w.cell? ⟨b, off + i * 2 + 1, none⟩ = some (.int .u64 z.2) := by
    intro i hi
    obtain ⟨b, off, cs, f, y, rfl, hb, hl, hcell, hd⟩ := hel i hi
    match cs, hl with
    | [c0, c1], _ =>
      obtain ⟨xs, n', _, _, _, hlen, hg⟩ := DataW.trod_struct hs hd
      obtain ⟨o0, k0⟩ := hone_of hone 0 f0 rfl
      obtain ⟨o1, k1⟩ := hone_of hone 1 f1 rfl
      match xs, hlen with
      | [y0, y1], _ =>
        have g0 : DataW.trod enc P w 0 (fun _ => true) true n' f0.type [c0] = some y0 := by simpa [o0, k0] using hg 0 f0 rfl
        have g1 : DataW.trod enc P w 0 (fun _ => true) true n' f1.type [c1] = some y1 := by simpa [o1, k1] using hg 1 f1 rfl
        obtain ⟨a, ha, _, _⟩ := DataW.trod_int u0 g0
        obtain ⟨b', hb', _, _⟩ := DataW.trod_int u1 g1
        simp at ha hb'
        subst ha hb'
        exact ⟨(a, b'), b, off, rfl, hb, hcell 0 (by omega), hcell 1 (by omega)⟩
  obtain ⟨zs, hlen, hzs⟩ := list_of n H1
  subst hlen
  exact ⟨A, zs, c, rfl, hzs, hnc, hc, hA⟩

end Go.Proofs.Ytamgmbjcobomhaa
