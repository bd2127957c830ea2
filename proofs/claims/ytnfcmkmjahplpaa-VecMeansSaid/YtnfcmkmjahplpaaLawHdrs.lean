/- A list of vectors comes in, nil or not: it reads as a list of headers, each of a vector. -/
import Derived.Test.YtnfcmkmjahplpaaLawVec
import Derived.Test.YtnfcmkmjahplpaaVecIter2
import Derived.Deep.Matrix
namespace Go.Proofs.Ytnfcmkmjahplpaa
open Go.ChangeShapes Go.WideShapes Go.ChangeAt Go.RowKit Go.Joins Go.Deep

theorem open_hdrs {H : Type} {enc : TypeId × Value → H} {P : Program} {w : World} {base : Nat} {t e q : TypeId} {v : Value} {d : DataW H} {p : List MemPlace} (ht : P.underlying t = some (.slice e)) (he : P.underlying e = some (.slice q)) (hq : P.underlying q = some (.int .i32))
    (ce : P.cellsOf e = 1) (cq : P.cellsOf q = 1) (hv : Value.okWide P w .any base t v) (h : DataW.Trod enc P w 0 (fun _ => true) true t v d p) :
    ∃ (A : Option Addr) (hs : List Hdr) (c : Nat), v = .slice A hs.length c ∧ Rd hdrV w w.heap.size A hs ∧ hs.length ≤ 9223372036854775807 ∧ ∀ h ∈ hs, Vec w h.1 h.2.1 := by
  obtain ⟨a0, n, c, rfl⟩ := okWide_slice ht hv
  obtain ⟨fuel, hf⟩ := h
  rcases open_int_rows ht he hq ce cq hf with ⟨hcs, _⟩ | ⟨a, len, cap, A, L, C, Z, hcs, _, hl, hm, _, hrow⟩
  · simp [Value.cells] at hcs
    obtain ⟨rfl, rfl, rfl⟩ := hcs
    exact ⟨none, [], 0, rfl, Rd.nil, by simp, by simp⟩
  · simp [Value.cells] at hcs
    obtain ⟨rfl, rfl, rfl⟩ := hcs
    have hlen : ((List.range n).map fun r => ((A r, (Z r).take (L r), C r) : Hdr)).length = n := by simp
    refine ⟨some a, (List.range n).map fun r => (A r, (Z r).take (L r), C r), c, by rw [hlen], ?_, by unfold maxLen at hm; rw [hlen]; omega, ?_⟩
    · intro j z hj
      have hjn : j < n := by have := (List.getElem?_eq_some_iff.1 hj).1; simpa using this
      rw [List.getElem?_map, List.getElem?_range hjn] at hj
      injection hj with hj
      subst hj
      obtain ⟨hcj, hLC, _, hZ, _⟩ := hrow j (by omega)
      obtain ⟨b, off, spot⟩ := a
      have hs : spot = none := by simpa [Addr.add] using World.cell?_spot (hrow 0 (by omega)).1
      subst hs
      rw [add_plain] at hcj
      refine ⟨b, off, rfl, World.block_lt_of_cell? w _ hcj, ?_⟩
      rw [hcj, hdrV, List.length_take, Nat.min_eq_left (by omega)]
    · intro h hh
      obtain ⟨r, hr, rfl⟩ := List.mem_map.1 hh
      have hrn := List.mem_range.1 hr
      obtain ⟨_, hLC, hCm, hZ, hwz, h0, hcells⟩ := hrow r (by omega)
      refine ⟨?_, by unfold maxLen at hCm; rw [List.length_take]; omega, fun z hz => bounds_i32 (hwz z (List.mem_of_mem_take hz))⟩
      intro j z hj
      rw [List.getElem?_take] at hj
      split at hj
      · rename_i hjL
        have hjC : j < C r := by omega
        cases hA : A r with
        | none => have := h0 hA; omega
        | some a' =>
          obtain ⟨_, hc⟩ := hcells a' hA
          have hcj := hc j hjC
          have hz0 : (Z r).getD j 0 = z := by rw [List.getD_eq_getElem?_getD, hj]; rfl
          rw [hz0] at hcj
          obtain ⟨b, off, spot⟩ := a'
          have hs : spot = none := by simpa [Addr.add] using World.cell?_spot (hc 0 (by omega))
          subst hs
          rw [add_plain] at hcj
          exact ⟨b, off, rfl, World.block_lt_of_cell? w _ hcj, hcj⟩
      · cases hj

end Go.Proofs.Ytnfcmkmjahplpaa
