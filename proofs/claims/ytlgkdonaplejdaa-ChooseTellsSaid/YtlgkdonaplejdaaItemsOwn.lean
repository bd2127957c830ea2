/- Items in a row of the call's own. -/
import Derived.Test.YtlgkdonaplejdaaTopApartP
namespace Go.Proofs.Ytlgkdonaplejdaa
open Go.RowKit Go.Shelf Go.Sort Go.Lib

def encI (z : ItT) : List Value := [.int .u64 z.id, .slice z.A z.vec.length z.cap, .int .u64 z.tags]
def cellsI (L : List ItT) : List Value := L.flatMap encI
theorem cellsI_snoc (L : List ItT) (x : ItT) : cellsI (L ++ [x]) = cellsI L ++ encI x := by simp [cellsI]
theorem cellsI_get : ∀ (zs : List ItT) (k c : Nat) (h : k < zs.length), c < 3 → (cellsI zs)[k * 3 + c]? = some ((encI zs[k])[c]!)
  | z :: r, 0, c, _, hc => by
    have e : cellsI (z :: r) = encI z ++ cellsI r := rfl
    rw [e, List.getElem?_append_left (by show 0 * 3 + c < 3; omega)]
    match c, hc with
    | 0, _ => rfl
    | 1, _ => rfl
    | 2, _ => rfl
  | z :: r, k + 1, c, h, hc => by
    have e : cellsI (z :: r) = encI z ++ cellsI r := rfl
    have hl : (encI z).length = 3 := rfl
    rw [e, List.getElem?_append_right (by rw [hl]; omega), hl, show (k + 1) * 3 + c - 3 = k * 3 + c by omega]
    exact cellsI_get r k c (by simpa using h) hc
theorem items_own {w : World} {base c n : Nat} {A : Option Addr} {L : List ItT} (h : w.ownsRow base 32 3 (.slice A n c) n (cellsI L)) (hn : L.length = n) (hV : ∀ z ∈ L, VecB w w.heap.size z.A z.vec) : ItemsAt w w.heap.size A L := by
  intro k z hz
  obtain ⟨hk, rfl⟩ := List.getElem?_eq_some_iff.1 hz
  refine ⟨?_, hV _ (List.getElem_mem hk)⟩
  obtain ⟨g, rfl, hg, hgw⟩ := ownPos h (by omega)
  have gc : ∀ r, r < 3 → w.cell? ⟨g, k * 3 + r, none⟩ = some ((encI L[k])[r]!) := fun r hr => by
    rw [h.cellAt (k * 3 + r) (by omega), cellsI_get L k r hk hr]
  exact ⟨g, 0, rfl, hgw, by rw [Nat.zero_add]; exact gc 0 (by decide), by rw [Nat.zero_add]; exact gc 1 (by decide), by rw [Nat.zero_add]; exact gc 2 (by decide)⟩
theorem info_item : (Try.prog.info? 32).map (fun i => (i.zero, i.size, i.bytes)) = some (some (.agg #[.int .u64 0, .slice none 0 0, .int .u64 0]), 3, 40) := by kernel_rfl
theorem spotsL_get (q : List Int) (its : List ItT) (k : Nat) (h : k < its.length) : spAt (spotsL q its) k = spotOf q (k : Int) (itAt its k) := by
  rw [spAt_get (by rw [spotsL_len]; exact h)]
  simp [spotsL]

end Go.Proofs.Ytlgkdonaplejdaa
