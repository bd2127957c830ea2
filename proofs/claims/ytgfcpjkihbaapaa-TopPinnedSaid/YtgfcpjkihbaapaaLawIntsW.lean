/- A list of ints comes in, nil or not: it reads as a list of numbers of 64 bits. -/
import Derived.Test.YtgfcpjkihbaapaaLaw
import Derived.Test.YtgfcpjkihbaapaaRacMap
namespace Go.Proofs.Ytgfcpjkihbaapaa
open Go.ChangeShapes Go.WideShapes Go.ChangeAt Go.RowKit Go.Joins Go.Deep

theorem open_numbersW {H : Type} {enc : TypeId × Value → H} {P : Program} {w : World} {base : Nat} {t e : TypeId} {v : Value} {d : DataW H} {p : List MemPlace} (ht : P.underlying t = some (.slice e)) (he : P.underlying e = some (.int .i64)) (hc : P.cellsOf e = 1)
    (hv : Value.okWide P w .any base t v) (h : DataW.Trod enc P w 0 (fun _ => true) true t v d p) :
    ∃ (A : Option Addr) (zs : List Int) (c : Nat), v = .slice A zs.length c ∧ Rd (Value.int .i64) w w.heap.size A zs ∧ (∀ z ∈ zs, IsI z) ∧ zs.length ≤ 9223372036854775807 ∧ zs.length ≤ c ∧ (A = none → c = 0) := by
  obtain ⟨a0, n, c, rfl⟩ := okWide_slice ht hv
  obtain ⟨fuel, hf⟩ := h
  rcases open_ints ht he hc hf with ⟨hcs, _⟩ | ⟨a, len, cap, zs, hcs, _, hl, hm, hz, _, hcell, hwz⟩
  · simp [Value.cells] at hcs
    obtain ⟨rfl, rfl, rfl⟩ := hcs
    exact ⟨none, [], 0, rfl, Rd.nil, by simp, by simp, by simp, fun _ => rfl⟩
  · simp [Value.cells] at hcs
    obtain ⟨rfl, rfl, rfl⟩ := hcs
    simp only [if_true] at hz
    have hlen : (zs.take n).length = n := by rw [List.length_take]; omega
    refine ⟨some a, zs.take n, c, by rw [hlen], ?_, fun z hz2 => hwz z (List.mem_of_mem_take hz2), by unfold maxLen at hm; rw [hlen]; omega, by rw [hlen]; exact hl, fun h => by cases h⟩
    intro j z hj
    rw [List.getElem?_take] at hj
    split at hj
    · rename_i hjn
      have hjl : j < zs.length := (List.getElem?_eq_some_iff.1 hj).1
      have hcj := hcell j hjl
      have hz0 : zs.getD j 0 = z := by rw [List.getD_eq_getElem?_getD, hj]; rfl
      rw [hz0] at hcj
      obtain ⟨b, off, spot⟩ := a
      have hs : spot = none := by simpa [Addr.add] using World.cell?_spot (hcell 0 (by omega))
      subst hs
      rw [add_plain] at hcj
      exact ⟨b, off, rfl, World.block_lt_of_cell? w _ hcj, hcj⟩
    · cases hj

end Go.Proofs.Ytgfcpjkihbaapaa
