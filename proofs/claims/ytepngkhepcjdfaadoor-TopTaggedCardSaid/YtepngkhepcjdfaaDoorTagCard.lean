/- What the three laws of tag share on the way from a walk to the card: the library's tables, lists of texts that come in, the witness. -/
import Derived.Test.YtepngkhepcjdfaaDoorTagLives
import Derived.Test.YtepngkhepcjdfaaDoorLaw
import Derived.Test.YtepngkhepcjdfaaDoorLawTexts
import Derived.Test.YtepngkhepcjdfaaDoorCards
import Derived.Test.YtepngkhepcjdfaaDoorTie
import Derived.Deep.DeepHandedRow
import Derived.Lib.LaidTab
namespace Go.Proofs.YtepngkhepcjdfaaDoor
open Go.ChangeShapes Go.WideShapes Go.ChangeAt Go.RowKit Go.Joins Go.Deep

theorem own : ownKnob Tryd.prog.godebug = none := by kernel_rfl
theorem laidOut : laidOutB Tryd.prog = true := by kernel_rfl
theorem gTab : Tryd.prog.globalNamed "math/bits.deBruijn64tab" = some 0 := by kernel_rfl
theorem gTabType : (Tryd.prog.globals[0]?).map (·.type) = some 82 := by kernel_rfl
theorem cellsTab : Tryd.prog.cellsOf 82 = 64 := by kernel_rfl
theorem cellsByte : Tryd.prog.cellsOf 5 = 1 := by kernel_rfl
theorem cellsText : Tryd.prog.cellsOf 9 = 1 := by kernel_rfl

def tabInts : List Int := Lib.deBruijn64tab.map Int.ofNat

/-- What the rows' list gives: the table stands. -/
theorem tab_of {W : World} (h : laidMetH Tryd.prog [("math/bits.deBruijn64tab", Rows.laid_math_bits_deBruijn64tab), ("unicode/utf8.acceptRanges", Rows.laid_unicode_utf8_acceptRanges), ("unicode/utf8.first", Rows.laid_unicode_utf8_first)] W) : Tab W := by
  have ht : Lib.TabIs Tryd.prog W "math/bits.deBruijn64tab" .u8 tabInts :=
    Lib.tabIs_of_head (rest := [("unicode/utf8.acceptRanges", Rows.laid_unicode_utf8_acceptRanges), ("unicode/utf8.first", Rows.laid_unicode_utf8_first)]) gTab gTabType Tryd.underlying82 Tryd.underlying5 cellsByte cellsTab h
  have hl : tabInts.length = 64 := by decide
  have hg : ∀ j, tabInts.getD j 0 = ((Lib.deBruijn64tab.getD j 0 : Nat) : Int) := by
    intro j
    unfold tabInts
    rw [List.getD_eq_getElem?_getD, List.getD_eq_getElem?_getD, List.getElem?_map]
    cases Lib.deBruijn64tab[j]? <;> rfl
  have hc : ∀ j, j < 64 → W.cell? ⟨0, j, none⟩ = some (.int .u8 ((Lib.deBruijn64tab.getD j 0 : Nat) : Int)) := fun j hj => by
    rw [← hg]
    exact ht.cell gTab j (by omega)
  have h64 : Lib.deBruijn64tab.length = 64 := by decide
  exact ⟨fun j hj => hc j (by omega), World.block_lt_of_cell? W _ (hc 0 (by decide))⟩

def rangeInts : List Int := [128, 191, 160, 191, 128, 159, 144, 191, 128, 143] ++ List.replicate 22 0
def firstInts : List Int := Go.Pinned.utf8FirstZ.map Int.ofNat
def layTab (zs : List Int) : Obj → Obj
  | .cells _ t frozen => .cells (zs.map (Value.int .u8)).toArray t frozen
  | o => o
/-- A world for the witness: the settled one, the tables holding what their initialisers lay. -/
noncomputable def laidWorld (os : Os) : World :=
  { World.holding Tryd.prog os ⟨#[], #[], []⟩ with heap := (((World.holding Tryd.prog os ⟨#[], #[], []⟩).heap.modify 0 (layTab tabInts)).modify 3 (layTab rangeInts)).modify 2 (layTab firstInts) }

section
variable {H : Type} {enc : TypeId × Value → H} {P : Program} {w : World} {base : Nat}
/-- A list of texts comes in, nil or not: it reads as a list, and there is room for it. -/
theorem open_text_room {t e : TypeId} {v : Value} {d : DataW H} {p : List MemPlace} (ht : P.underlying t = some (.slice e)) (he : P.underlying e = some .string) (hc : P.cellsOf e = 1)
    (hv : Value.okWide P w .any base t v) (h : DataW.Trod enc P w 0 (fun _ => true) true t v d p) :
    ∃ (A : Option Addr) (zs : List ByteArray) (c : Nat), v = .slice A zs.length c ∧ Rd Value.string w w.heap.size A zs ∧ zs.length ≤ c ∧ c ≤ 9223372036854775807 ∧ ∀ z ∈ zs, z.size ≤ 9223372036854775807 := by
  obtain ⟨A, zs, c, rfl, hr, _, hw⟩ := open_texts ht he hc hv h
  refine ⟨A, zs, c, rfl, hr, ?_, ?_, fun z hz => by have := hw z hz; unfold maxLen at this; omega⟩
  all_goals
    obtain ⟨fuel, hf⟩ := h
    rcases open_strings ht he hc hf with ⟨hcs, _⟩ | ⟨a, len, cap, ys, hcs, _, hl, hm, _, _, _, _⟩
    · simp [Value.cells] at hcs
      obtain ⟨_, h1, h2⟩ := hcs
      simp [h1, h2]
    · simp [Value.cells] at hcs
      obtain ⟨_, h1, h2⟩ := hcs
      unfold maxLen at hm
      omega
end

end Go.Proofs.YtepngkhepcjdfaaDoor
