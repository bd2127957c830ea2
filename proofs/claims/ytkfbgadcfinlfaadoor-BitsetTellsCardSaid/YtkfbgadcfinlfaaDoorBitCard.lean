/- What the three laws of bitset share on the way from a walk to the card: the library's table, lists of words that come in, the witness. -/
import Derived.Test.YtkfbgadcfinlfaaDoorBitAlgebra
import Derived.Test.YtkfbgadcfinlfaaDoorLaw
import Derived.Test.YtkfbgadcfinlfaaDoorCards
import Derived.Test.YtkfbgadcfinlfaaDoorTie
import Derived.Deep.DeepHandedRow
import Derived.Lib.LaidTab
namespace Go.Proofs.YtkfbgadcfinlfaaDoor
open Go.ChangeShapes Go.WideShapes Go.ChangeAt Go.RowKit Go.Joins Go.Deep

theorem own : ownKnob Tryd.prog.godebug = none := by kernel_rfl
theorem laidOut : laidOutB Tryd.prog = true := by kernel_rfl
theorem gTab : Tryd.prog.globalNamed "math/bits.deBruijn64tab" = some 0 := by kernel_rfl
theorem gTabType : (Tryd.prog.globals[0]?).map (·.type) = some 46 := by kernel_rfl
theorem cellsTab : Tryd.prog.cellsOf 46 = 64 := by kernel_rfl
theorem cellsByte : Tryd.prog.cellsOf 5 = 1 := by kernel_rfl
theorem cellsWord : Tryd.prog.cellsOf 38 = 1 := by kernel_rfl
theorem cellsInt : Tryd.prog.cellsOf 3 = 1 := by kernel_rfl

def tabInts : List Int := Lib.deBruijn64tab.map Int.ofNat

/-- What the rows' list gives: the table stands. -/
theorem tab_of {W : World} (h : laidMetH Tryd.prog [("math/bits.deBruijn64tab", Rows.laid_math_bits_deBruijn64tab)] W) : Tab W := by
  have ht : Lib.TabIs Tryd.prog W "math/bits.deBruijn64tab" .u8 tabInts :=
    Lib.tabIs_of_head (rest := []) gTab gTabType Tryd.underlying46 Tryd.underlying5 cellsByte cellsTab h
  have hl : tabInts.length = 64 := by decide
  have hg : ∀ j, tabInts.getD j 0 = ((Lib.deBruijn64tab.getD j 0 : Nat) : Int) := by
    intro j
    unfold tabInts
    rw [List.getD_eq_getElem?_getD, List.getD_eq_getElem?_getD, List.getElem?_map]
    cases Lib.deBruijn64tab[j]? <;> rfl
  have hc : ∀ j, j < 64 → W.cell? ⟨0, j, none⟩ = some (.int .u8 ((Lib.deBruijn64tab.getD j 0 : Nat) : Int)) := fun j hj => by
    rw [← hg]
    exact ht.cell gTab j (by omega)
  have h64 : Lib.deBruijn64tab.length = 64 := by decide
  exact ⟨fun j hj => hc j (by omega), World.block_lt_of_cell? W _ (hc 0 (by decide))⟩

/-- A world for the witness: the settled one, the table holding what its initialiser lays. -/
noncomputable def laidWorld (os : Os) : World :=
  { World.holding Tryd.prog os ⟨#[], #[], []⟩ with heap := (World.holding Tryd.prog os ⟨#[], #[], []⟩).heap.modify 0 fun
      | .cells _ t frozen => .cells (tabInts.map (Value.int .u8)).toArray t frozen
      | o => o }

section
variable {H : Type} {enc : TypeId × Value → H} {P : Program} {w : World} {base : Nat}
/-- A list of integers comes in, nil or not: it reads as a list, and there is room for it. -/
theorem open_room {t e : TypeId} {k : IntKind} {v : Value} {d : DataW H} {p : List MemPlace} (ht : P.underlying t = some (.slice e)) (he : P.underlying e = some (.int k)) (hc : P.cellsOf e = 1)
    (hv : Value.okWide P w .any base t v) (h : DataW.Trod enc P w 0 (fun _ => true) true t v d p) :
    ∃ (A : Option Addr) (zs : List Int) (c : Nat), v = .slice A zs.length c ∧ Rd (Value.int k) w w.heap.size A zs ∧ zs.length ≤ c ∧ c ≤ 9223372036854775807 ∧ ∀ z ∈ zs, (Lit.int k z).wf = true := by
  obtain ⟨A, zs, c, rfl, hr, _, hw⟩ := open_list ht he hc hv h
  refine ⟨A, zs, c, rfl, hr, ?_, ?_, hw⟩
  all_goals
    obtain ⟨fuel, hf⟩ := h
    rcases open_ints ht he hc hf with ⟨hcs, _⟩ | ⟨a, len, cap, ys, hcs, _, hl, hm, _, _, _, _⟩
    · simp [Value.cells] at hcs
      obtain ⟨_, h1, h2⟩ := hcs
      simp [h1, h2]
    · simp [Value.cells] at hcs
      obtain ⟨_, h1, h2⟩ := hcs
      unfold maxLen at hm
      omega
end

/-- Words that came in are words. -/
theorem words_in {zs : List Int} (h : ∀ z ∈ zs, (Lit.int .u64 z).wf = true) : Words zs := fun z hz => bounds_u64 (h z hz)

end Go.Proofs.YtkfbgadcfinlfaaDoor
