/-
  No cell of these rows narrows 'for every input' (looked for: loops, veiled, ifaces, maps, wideKeys, modest, calm, conditions, laid).
  DERIVED. THE GIVEN ROWS OF THIS SEAT. 9 by the template 'for every input the law returns true; each argument reads behind the call as it read before'; 0 by the template 'total and deterministic' (their statements: YtamgmbjcobomhaaTotals.lean).
  GIVEN WITH THE SEED: the statements are not yours to turn. If you find one false, say at which input.
  Laid BY PROGRAM, IN A SANDBOX (cutbox-rows.mjs): the forced cells as the released guide's own fill.sh prints them over the translation 4d0eae1cb9e71044… (all of the seat's roots in one cut). By AI agents, Wed Nov 11 2026. No macro, syntax, notation, axiom, sorry.
-/
import Derived.Test.YtamgmbjcobomhaaChecked
import GoSem.Claim
import GoSem.ClaimJoined
import GoSem.ClaimMapViews
import Derived.JoinedTies
import Derived.KernelRfl
namespace Go.Proofs.Ytamgmbjcobomhaa
/- THE CELL 'sum', in the pinned program and in every row, IS THE sha256 OF THE DUMP (.gsa) THAT YtamgmbjcobomhaaProg.lean LOADS. Nothing in Lean hashes anything: it is a label: what it is worth is what the hold of that sum in a sandbox is worth. -/
noncomputable def Try.pinned : Pinned := { name := "ytamgmbjcobomhaa", sum := "4d0eae1cb9e71044b8fe9e134fcb57e047358581e9890ca30193e2dc1f401e8e", checked := Try.checked }
namespace Rows
def none {H : Type} : Left H := { results := [], args := [] }

/-- 'ganglionlaw07.RankTells': WHATEVER THE INPUT: true; the input reads as it did. -/
def rankTellsSpec : ChangeSpec := { name := "rankTells", fn := fun _ => fun
  | [d1, d2, d3, d4] => { results := [.lit (.bool true)], args := [d1, d2, d3, d4] }
  | _ => none }
def rankTellsRow : OpenClaim := { program := "ytamgmbjcobomhaa", sum := "4d0eae1cb9e71044b8fe9e134fcb57e047358581e9890ca30193e2dc1f401e8e", func := "ganglion/ganglionlaw07.RankTells", spec := "rankTells", unfollowed := true, recurses := true, apart := false }
def RankTellsSaid : Prop := rankTellsRow.holds Try.pinned (OpenSpec.ofChange rankTellsSpec)

/-- ITS FALSE NEIGHBOUR: 'it returns false'. Refute it at one input. -/
def rankTellsWrong : ChangeSpec := { name := "rankTells", fn := fun _ => fun
  | [d1, d2, d3, d4] => { results := [.lit (.bool false)], args := [d1, d2, d3, d4] }
  | _ => none }
def RankTellsWrongFalsely : Prop := rankTellsRow.holds Try.pinned (OpenSpec.ofChange rankTellsWrong)

/-- 'ganglionlaw07.RankOrder': WHATEVER THE INPUT: true; the input reads as it did. -/
def rankOrderSpec : ChangeSpec := { name := "rankOrder", fn := fun _ => fun
  | [d1, d2, d3] => { results := [.lit (.bool true)], args := [d1, d2, d3] }
  | _ => none }
def rankOrderRow : OpenClaim := { program := "ytamgmbjcobomhaa", sum := "4d0eae1cb9e71044b8fe9e134fcb57e047358581e9890ca30193e2dc1f401e8e", func := "ganglion/ganglionlaw07.RankOrder", spec := "rankOrder", unfollowed := true, recurses := true, apart := false }
def RankOrderSaid : Prop := rankOrderRow.holds Try.pinned (OpenSpec.ofChange rankOrderSpec)

/-- ITS FALSE NEIGHBOUR: 'it returns false'. Refute it at one input. -/
def rankOrderWrong : ChangeSpec := { name := "rankOrder", fn := fun _ => fun
  | [d1, d2, d3] => { results := [.lit (.bool false)], args := [d1, d2, d3] }
  | _ => none }
def RankOrderWrongFalsely : Prop := rankOrderRow.holds Try.pinned (OpenSpec.ofChange rankOrderWrong)

/-- 'ganglionlaw07.RankParts': WHATEVER THE INPUT: true; the input reads as it did. -/
def rankPartsSpec : ChangeSpec := { name := "rankParts", fn := fun _ => fun
  | [d1, d2, d3, d4, d5] => { results := [.lit (.bool true)], args := [d1, d2, d3, d4, d5] }
  | _ => none }
def rankPartsRow : OpenClaim := { program := "ytamgmbjcobomhaa", sum := "4d0eae1cb9e71044b8fe9e134fcb57e047358581e9890ca30193e2dc1f401e8e", func := "ganglion/ganglionlaw07.RankParts", spec := "rankParts", unfollowed := true, recurses := true, apart := false }
def RankPartsSaid : Prop := rankPartsRow.holds Try.pinned (OpenSpec.ofChange rankPartsSpec)

/-- ITS FALSE NEIGHBOUR: 'it returns false'. Refute it at one input. -/
def rankPartsWrong : ChangeSpec := { name := "rankParts", fn := fun _ => fun
  | [d1, d2, d3, d4, d5] => { results := [.lit (.bool false)], args := [d1, d2, d3, d4, d5] }
  | _ => none }
def RankPartsWrongFalsely : Prop := rankPartsRow.holds Try.pinned (OpenSpec.ofChange rankPartsWrong)

/-- 'ganglionlaw08.QueuePlays': WHATEVER THE INPUT: true; the input reads as it did. -/
def queuePlaysSpec : ChangeSpec := { name := "queuePlays", fn := fun _ => fun
  | [d1, d2] => { results := [.lit (.bool true)], args := [d1, d2] }
  | _ => none }
def queuePlaysRow : OpenClaim := { program := "ytamgmbjcobomhaa", sum := "4d0eae1cb9e71044b8fe9e134fcb57e047358581e9890ca30193e2dc1f401e8e", func := "ganglion/ganglionlaw08.QueuePlays", spec := "queuePlays", unfollowed := true, recurses := true, apart := false }
def QueuePlaysSaid : Prop := queuePlaysRow.holds Try.pinned (OpenSpec.ofChange queuePlaysSpec)

/-- ITS FALSE NEIGHBOUR: 'it returns false'. Refute it at one input. -/
def queuePlaysWrong : ChangeSpec := { name := "queuePlays", fn := fun _ => fun
  | [d1, d2] => { results := [.lit (.bool false)], args := [d1, d2] }
  | _ => none }
def QueuePlaysWrongFalsely : Prop := queuePlaysRow.holds Try.pinned (OpenSpec.ofChange queuePlaysWrong)

/-- 'ganglionlaw08.QueueBest': WHATEVER THE INPUT: true; the input reads as it did. -/
def queueBestSpec : ChangeSpec := { name := "queueBest", fn := fun _ => fun
  | [d1, d2] => { results := [.lit (.bool true)], args := [d1, d2] }
  | _ => none }
def queueBestRow : OpenClaim := { program := "ytamgmbjcobomhaa", sum := "4d0eae1cb9e71044b8fe9e134fcb57e047358581e9890ca30193e2dc1f401e8e", func := "ganglion/ganglionlaw08.QueueBest", spec := "queueBest", unfollowed := true, recurses := true, apart := false }
def QueueBestSaid : Prop := queueBestRow.holds Try.pinned (OpenSpec.ofChange queueBestSpec)

/-- ITS FALSE NEIGHBOUR: 'it returns false'. Refute it at one input. -/
def queueBestWrong : ChangeSpec := { name := "queueBest", fn := fun _ => fun
  | [d1, d2] => { results := [.lit (.bool false)], args := [d1, d2] }
  | _ => none }
def QueueBestWrongFalsely : Prop := queueBestRow.holds Try.pinned (OpenSpec.ofChange queueBestWrong)

/-- 'ganglionlaw09.EdgesTells': WHATEVER THE INPUT: true; the input reads as it did. -/
def edgesTellsSpec : ChangeSpec := { name := "edgesTells", fn := fun _ => fun
  | [d1, d2, d3, d4, d5, d6, d7] => { results := [.lit (.bool true)], args := [d1, d2, d3, d4, d5, d6, d7] }
  | _ => none }
def edgesTellsRow : OpenClaim := { program := "ytamgmbjcobomhaa", sum := "4d0eae1cb9e71044b8fe9e134fcb57e047358581e9890ca30193e2dc1f401e8e", func := "ganglion/ganglionlaw09.EdgesTells", spec := "edgesTells", inPlace := ["math/bits.Add64"], unfollowed := true, recurses := true, apart := false }
def EdgesTellsSaid : Prop := edgesTellsRow.holds Try.pinned (OpenSpec.ofChange edgesTellsSpec)

/-- ITS FALSE NEIGHBOUR: 'it returns false'. Refute it at one input. -/
def edgesTellsWrong : ChangeSpec := { name := "edgesTells", fn := fun _ => fun
  | [d1, d2, d3, d4, d5, d6, d7] => { results := [.lit (.bool false)], args := [d1, d2, d3, d4, d5, d6, d7] }
  | _ => none }
def EdgesTellsWrongFalsely : Prop := edgesTellsRow.holds Try.pinned (OpenSpec.ofChange edgesTellsWrong)

/-- 'ganglionlaw09.EdgesInOut': WHATEVER THE INPUT: true; the input reads as it did. -/
def edgesInOutSpec : ChangeSpec := { name := "edgesInOut", fn := fun _ => fun
  | [d1, d2, d3, d4, d5, d6, d7] => { results := [.lit (.bool true)], args := [d1, d2, d3, d4, d5, d6, d7] }
  | _ => none }
def edgesInOutRow : OpenClaim := { program := "ytamgmbjcobomhaa", sum := "4d0eae1cb9e71044b8fe9e134fcb57e047358581e9890ca30193e2dc1f401e8e", func := "ganglion/ganglionlaw09.EdgesInOut", spec := "edgesInOut", inPlace := ["math/bits.Add64"], unfollowed := true, recurses := true, apart := false }
def EdgesInOutSaid : Prop := edgesInOutRow.holds Try.pinned (OpenSpec.ofChange edgesInOutSpec)

/-- ITS FALSE NEIGHBOUR: 'it returns false'. Refute it at one input. -/
def edgesInOutWrong : ChangeSpec := { name := "edgesInOut", fn := fun _ => fun
  | [d1, d2, d3, d4, d5, d6, d7] => { results := [.lit (.bool false)], args := [d1, d2, d3, d4, d5, d6, d7] }
  | _ => none }
def EdgesInOutWrongFalsely : Prop := edgesInOutRow.holds Try.pinned (OpenSpec.ofChange edgesInOutWrong)

/-- 'ganglionlaw10.ChooseTells': WHATEVER THE INPUT: true; the input reads as it did. -/
def chooseTellsSpec : ChangeSpec := { name := "chooseTells", fn := fun _ => fun
  | [d1, d2, d3] => { results := [.lit (.bool true)], args := [d1, d2, d3] }
  | _ => none }
def chooseTellsRow : OpenClaim := { program := "ytamgmbjcobomhaa", sum := "4d0eae1cb9e71044b8fe9e134fcb57e047358581e9890ca30193e2dc1f401e8e", func := "ganglion/ganglionlaw10.ChooseTells", spec := "chooseTells", inPlace := ["math/bits.Add64"], unfollowed := true, recurses := true, apart := false }
def ChooseTellsSaid : Prop := chooseTellsRow.holds Try.pinned (OpenSpec.ofChange chooseTellsSpec)

/-- ITS FALSE NEIGHBOUR: 'it returns false'. Refute it at one input. -/
def chooseTellsWrong : ChangeSpec := { name := "chooseTells", fn := fun _ => fun
  | [d1, d2, d3] => { results := [.lit (.bool false)], args := [d1, d2, d3] }
  | _ => none }
def ChooseTellsWrongFalsely : Prop := chooseTellsRow.holds Try.pinned (OpenSpec.ofChange chooseTellsWrong)

/-- 'ganglionlaw10.ChooseApart': WHATEVER THE INPUT: true; the input reads as it did. -/
def chooseApartSpec : ChangeSpec := { name := "chooseApart", fn := fun _ => fun
  | [d1, d2, d3] => { results := [.lit (.bool true)], args := [d1, d2, d3] }
  | _ => none }
def chooseApartRow : OpenClaim := { program := "ytamgmbjcobomhaa", sum := "4d0eae1cb9e71044b8fe9e134fcb57e047358581e9890ca30193e2dc1f401e8e", func := "ganglion/ganglionlaw10.ChooseApart", spec := "chooseApart", inPlace := ["math/bits.Add64"], unfollowed := true, recurses := true, apart := false }
def ChooseApartSaid : Prop := chooseApartRow.holds Try.pinned (OpenSpec.ofChange chooseApartSpec)

/-- ITS FALSE NEIGHBOUR: 'it returns false'. Refute it at one input. -/
def chooseApartWrong : ChangeSpec := { name := "chooseApart", fn := fun _ => fun
  | [d1, d2, d3] => { results := [.lit (.bool false)], args := [d1, d2, d3] }
  | _ => none }
def ChooseApartWrongFalsely : Prop := chooseApartRow.holds Try.pinned (OpenSpec.ofChange chooseApartWrong)

/- THE SECOND FORM. 'bulk': how many values and letters a reading holds, each counted each time it is reached (what is shared counts as often as it is met; a slice's spare places count too). A statement '..UptoSaid' is the law's where the arguments, and the package variables that the reading takes, are together of bulk at most 1048576: NARROWER than '..Said'. Prove '..Said' where nothing that the law and all that it calls make is longer than what came in: it says more and counts as full. Else prove '..UptoSaid'. A law counts once. -/
mutual
def uptoBulk {H : Type} : DataW H → Nat
  | .lit (.string bytes) => bytes.length + 1
  | .lit _ => 1
  | .nil => 1
  | .ptr d => uptoBulk d + 1
  | .slice elems spare => uptoBulkAll elems + uptoBulkAll spare + 1
  | .agg parts => uptoBulkAll parts + 1
  | .iface _ d => uptoBulk d + 1
  | .map entries => uptoBulkEntries entries + 1
  | .held _ => 1
def uptoBulkAll {H : Type} : List (DataW H) → Nat
  | [] => 0
  | d :: r => uptoBulk d + uptoBulkAll r
def uptoBulkEntries {H : Type} : List (Lit × DataW H) → Nat
  | [] => 0
  | x :: r => uptoBulkEntry x + uptoBulkEntries r
def uptoBulkEntry {H : Type} : Lit × DataW H → Nat
  | (.string bytes, d) => bytes.length + uptoBulk d + 1
  | (_, d) => uptoBulk d + 1
 end
def uptoSmall : (H : Type) → List (DataW H) → Bool := fun _ ds => decide (uptoBulkAll ds ≤ 1048576)
def OpenSpec.upto (s : _root_.Go.ChangeSpec) : _root_.Go.OpenSpec := { _root_.Go.OpenSpec.ofChange s with cond := some uptoSmall }

/-- 'ganglionlaw07.RankTells', WHERE WHAT IT READS IS OF BULK AT MOST 1048576: true; the input reads as it did. -/
def rankTellsUptoRow : OpenClaim := { program := "ytamgmbjcobomhaa", sum := "4d0eae1cb9e71044b8fe9e134fcb57e047358581e9890ca30193e2dc1f401e8e", func := "ganglion/ganglionlaw07.RankTells", spec := "rankTells", unfollowed := true, recurses := true, apart := false, narrowed := true }
def RankTellsUptoSaid : Prop := rankTellsUptoRow.holds Try.pinned (OpenSpec.upto rankTellsSpec)

/-- 'ganglionlaw07.RankOrder', WHERE WHAT IT READS IS OF BULK AT MOST 1048576: true; the input reads as it did. -/
def rankOrderUptoRow : OpenClaim := { program := "ytamgmbjcobomhaa", sum := "4d0eae1cb9e71044b8fe9e134fcb57e047358581e9890ca30193e2dc1f401e8e", func := "ganglion/ganglionlaw07.RankOrder", spec := "rankOrder", unfollowed := true, recurses := true, apart := false, narrowed := true }
def RankOrderUptoSaid : Prop := rankOrderUptoRow.holds Try.pinned (OpenSpec.upto rankOrderSpec)

/-- 'ganglionlaw07.RankParts', WHERE WHAT IT READS IS OF BULK AT MOST 1048576: true; the input reads as it did. -/
def rankPartsUptoRow : OpenClaim := { program := "ytamgmbjcobomhaa", sum := "4d0eae1cb9e71044b8fe9e134fcb57e047358581e9890ca30193e2dc1f401e8e", func := "ganglion/ganglionlaw07.RankParts", spec := "rankParts", unfollowed := true, recurses := true, apart := false, narrowed := true }
def RankPartsUptoSaid : Prop := rankPartsUptoRow.holds Try.pinned (OpenSpec.upto rankPartsSpec)

/-- 'ganglionlaw08.QueuePlays', WHERE WHAT IT READS IS OF BULK AT MOST 1048576: true; the input reads as it did. -/
def queuePlaysUptoRow : OpenClaim := { program := "ytamgmbjcobomhaa", sum := "4d0eae1cb9e71044b8fe9e134fcb57e047358581e9890ca30193e2dc1f401e8e", func := "ganglion/ganglionlaw08.QueuePlays", spec := "queuePlays", unfollowed := true, recurses := true, apart := false, narrowed := true }
def QueuePlaysUptoSaid : Prop := queuePlaysUptoRow.holds Try.pinned (OpenSpec.upto queuePlaysSpec)

/-- 'ganglionlaw08.QueueBest', WHERE WHAT IT READS IS OF BULK AT MOST 1048576: true; the input reads as it did. -/
def queueBestUptoRow : OpenClaim := { program := "ytamgmbjcobomhaa", sum := "4d0eae1cb9e71044b8fe9e134fcb57e047358581e9890ca30193e2dc1f401e8e", func := "ganglion/ganglionlaw08.QueueBest", spec := "queueBest", unfollowed := true, recurses := true, apart := false, narrowed := true }
def QueueBestUptoSaid : Prop := queueBestUptoRow.holds Try.pinned (OpenSpec.upto queueBestSpec)

/-- 'ganglionlaw09.EdgesTells', WHERE WHAT IT READS IS OF BULK AT MOST 1048576: true; the input reads as it did. -/
def edgesTellsUptoRow : OpenClaim := { program := "ytamgmbjcobomhaa", sum := "4d0eae1cb9e71044b8fe9e134fcb57e047358581e9890ca30193e2dc1f401e8e", func := "ganglion/ganglionlaw09.EdgesTells", spec := "edgesTells", inPlace := ["math/bits.Add64"], unfollowed := true, recurses := true, apart := false, narrowed := true }
def EdgesTellsUptoSaid : Prop := edgesTellsUptoRow.holds Try.pinned (OpenSpec.upto edgesTellsSpec)

/-- 'ganglionlaw09.EdgesInOut', WHERE WHAT IT READS IS OF BULK AT MOST 1048576: true; the input reads as it did. -/
def edgesInOutUptoRow : OpenClaim := { program := "ytamgmbjcobomhaa", sum := "4d0eae1cb9e71044b8fe9e134fcb57e047358581e9890ca30193e2dc1f401e8e", func := "ganglion/ganglionlaw09.EdgesInOut", spec := "edgesInOut", inPlace := ["math/bits.Add64"], unfollowed := true, recurses := true, apart := false, narrowed := true }
def EdgesInOutUptoSaid : Prop := edgesInOutUptoRow.holds Try.pinned (OpenSpec.upto edgesInOutSpec)

/-- 'ganglionlaw10.ChooseTells', WHERE WHAT IT READS IS OF BULK AT MOST 1048576: true; the input reads as it did. -/
def chooseTellsUptoRow : OpenClaim := { program := "ytamgmbjcobomhaa", sum := "4d0eae1cb9e71044b8fe9e134fcb57e047358581e9890ca30193e2dc1f401e8e", func := "ganglion/ganglionlaw10.ChooseTells", spec := "chooseTells", inPlace := ["math/bits.Add64"], unfollowed := true, recurses := true, apart := false, narrowed := true }
def ChooseTellsUptoSaid : Prop := chooseTellsUptoRow.holds Try.pinned (OpenSpec.upto chooseTellsSpec)

/-- 'ganglionlaw10.ChooseApart', WHERE WHAT IT READS IS OF BULK AT MOST 1048576: true; the input reads as it did. -/
def chooseApartUptoRow : OpenClaim := { program := "ytamgmbjcobomhaa", sum := "4d0eae1cb9e71044b8fe9e134fcb57e047358581e9890ca30193e2dc1f401e8e", func := "ganglion/ganglionlaw10.ChooseApart", spec := "chooseApart", inPlace := ["math/bits.Add64"], unfollowed := true, recurses := true, apart := false, narrowed := true }
def ChooseApartUptoSaid : Prop := chooseApartUptoRow.holds Try.pinned (OpenSpec.upto chooseApartSpec)

end Rows
end Go.Proofs.Ytamgmbjcobomhaa
