/-
  No cell of these rows narrows 'for every input' (looked for: loops, veiled, ifaces, maps, wideKeys, modest, calm, conditions, laid).
  DERIVED. THE GIVEN ROWS OF THIS SEAT. 13 by the template 'for every input the law returns true; each argument reads behind the call as it read before'; 0 by the template 'total and deterministic' (their statements: YtglbefkfbnaijaaTotals.lean).
  GIVEN WITH THE SEED: the statements are not yours to turn. If you find one false, say at which input.
  Laid BY PROGRAM, IN A SANDBOX (cutbox-rows.mjs): the forced cells as the released guide's own fill.sh prints them over the translation 0a0cfaa0c561ad78… (all of the seat's roots in one cut). By AI agents, Wed Nov 11 2026. No macro, syntax, notation, axiom, sorry.
-/
import Derived.Test.YtglbefkfbnaijaaChecked
import GoSem.Claim
import GoSem.ClaimJoined
import GoSem.ClaimMapViews
import Derived.JoinedTies
import Derived.KernelRfl
namespace Go.Proofs.Ytglbefkfbnaijaa
/- THE CELL 'sum', in the pinned program and in every row, IS THE sha256 OF THE DUMP (.gsa) THAT YtglbefkfbnaijaaProg.lean LOADS. Nothing in Lean hashes anything: it is a label: what it is worth is what the hold of that sum in a sandbox is worth. -/
noncomputable def Try.pinned : Pinned := { name := "ytglbefkfbnaijaa", sum := "0a0cfaa0c561ad787a5a0536b5df456838140257d77f05f43b190f5d5d24bc8f", checked := Try.checked }
namespace Rows
def none {H : Type} : Left H := { results := [], args := [] }

/-- 'ganglionlaw08.QueuePlays': WHATEVER THE INPUT: true; the input reads as it did. -/
def queuePlaysSpec : ChangeSpec := { name := "queuePlays", fn := fun _ => fun
  | [d1, d2] => { results := [.lit (.bool true)], args := [d1, d2] }
  | _ => none }
def queuePlaysRow : OpenClaim := { program := "ytglbefkfbnaijaa", sum := "0a0cfaa0c561ad787a5a0536b5df456838140257d77f05f43b190f5d5d24bc8f", func := "ganglion/ganglionlaw08.QueuePlays", spec := "queuePlays", unfollowed := true, recurses := true, apart := false }
def QueuePlaysSaid : Prop := queuePlaysRow.holds Try.pinned (OpenSpec.ofChange queuePlaysSpec)

/-- ITS FALSE NEIGHBOUR: 'it returns false'. Refute it at one input. -/
def queuePlaysWrong : ChangeSpec := { name := "queuePlays", fn := fun _ => fun
  | [d1, d2] => { results := [.lit (.bool false)], args := [d1, d2] }
  | _ => none }
def QueuePlaysWrongFalsely : Prop := queuePlaysRow.holds Try.pinned (OpenSpec.ofChange queuePlaysWrong)

/-- 'ganglionlaw08.QueueBest': WHATEVER THE INPUT: true; the input reads as it did. -/
def queueBestSpec : ChangeSpec := { name := "queueBest", fn := fun _ => fun
  | [d1, d2] => { results := [.lit (.bool true)], args := [d1, d2] }
  | _ => none }
def queueBestRow : OpenClaim := { program := "ytglbefkfbnaijaa", sum := "0a0cfaa0c561ad787a5a0536b5df456838140257d77f05f43b190f5d5d24bc8f", func := "ganglion/ganglionlaw08.QueueBest", spec := "queueBest", unfollowed := true, recurses := true, apart := false }
def QueueBestSaid : Prop := queueBestRow.holds Try.pinned (OpenSpec.ofChange queueBestSpec)

/-- ITS FALSE NEIGHBOUR: 'it returns false'. Refute it at one input. -/
def queueBestWrong : ChangeSpec := { name := "queueBest", fn := fun _ => fun
  | [d1, d2] => { results := [.lit (.bool false)], args := [d1, d2] }
  | _ => none }
def QueueBestWrongFalsely : Prop := queueBestRow.holds Try.pinned (OpenSpec.ofChange queueBestWrong)

/-- 'ganglionlaw10.ChooseTells': WHATEVER THE INPUT: true; the input reads as it did. -/
def chooseTellsSpec : ChangeSpec := { name := "chooseTells", fn := fun _ => fun
  | [d1, d2, d3] => { results := [.lit (.bool true)], args := [d1, d2, d3] }
  | _ => none }
def chooseTellsRow : OpenClaim := { program := "ytglbefkfbnaijaa", sum := "0a0cfaa0c561ad787a5a0536b5df456838140257d77f05f43b190f5d5d24bc8f", func := "ganglion/ganglionlaw10.ChooseTells", spec := "chooseTells", inPlace := ["math/bits.Add64"], unfollowed := true, recurses := true, apart := false }
def ChooseTellsSaid : Prop := chooseTellsRow.holds Try.pinned (OpenSpec.ofChange chooseTellsSpec)

/-- ITS FALSE NEIGHBOUR: 'it returns false'. Refute it at one input. -/
def chooseTellsWrong : ChangeSpec := { name := "chooseTells", fn := fun _ => fun
  | [d1, d2, d3] => { results := [.lit (.bool false)], args := [d1, d2, d3] }
  | _ => none }
def ChooseTellsWrongFalsely : Prop := chooseTellsRow.holds Try.pinned (OpenSpec.ofChange chooseTellsWrong)

/-- 'ganglionlaw10.ChooseApart': WHATEVER THE INPUT: true; the input reads as it did. -/
def chooseApartSpec : ChangeSpec := { name := "chooseApart", fn := fun _ => fun
  | [d1, d2, d3] => { results := [.lit (.bool true)], args := [d1, d2, d3] }
  | _ => none }
def chooseApartRow : OpenClaim := { program := "ytglbefkfbnaijaa", sum := "0a0cfaa0c561ad787a5a0536b5df456838140257d77f05f43b190f5d5d24bc8f", func := "ganglion/ganglionlaw10.ChooseApart", spec := "chooseApart", inPlace := ["math/bits.Add64"], unfollowed := true, recurses := true, apart := false }
def ChooseApartSaid : Prop := chooseApartRow.holds Try.pinned (OpenSpec.ofChange chooseApartSpec)

/-- ITS FALSE NEIGHBOUR: 'it returns false'. Refute it at one input. -/
def chooseApartWrong : ChangeSpec := { name := "chooseApart", fn := fun _ => fun
  | [d1, d2, d3] => { results := [.lit (.bool false)], args := [d1, d2, d3] }
  | _ => none }
def ChooseApartWrongFalsely : Prop := chooseApartRow.holds Try.pinned (OpenSpec.ofChange chooseApartWrong)

/-- 'ganglionlaw11.ProbePlays': WHATEVER THE INPUT: true; the input reads as it did. -/
def probePlaysSpec : ChangeSpec := { name := "probePlays", fn := fun _ => fun
  | [d1, d2, d3, d4] => { results := [.lit (.bool true)], args := [d1, d2, d3, d4] }
  | _ => none }
def probePlaysRow : OpenClaim := { program := "ytglbefkfbnaijaa", sum := "0a0cfaa0c561ad787a5a0536b5df456838140257d77f05f43b190f5d5d24bc8f", func := "ganglion/ganglionlaw11.ProbePlays", spec := "probePlays", inPlace := ["math/bits.Add64"], unfollowed := true, recurses := true, apart := false }
def ProbePlaysSaid : Prop := probePlaysRow.holds Try.pinned (OpenSpec.ofChange probePlaysSpec)

/-- ITS FALSE NEIGHBOUR: 'it returns false'. Refute it at one input. -/
def probePlaysWrong : ChangeSpec := { name := "probePlays", fn := fun _ => fun
  | [d1, d2, d3, d4] => { results := [.lit (.bool false)], args := [d1, d2, d3, d4] }
  | _ => none }
def ProbePlaysWrongFalsely : Prop := probePlaysRow.holds Try.pinned (OpenSpec.ofChange probePlaysWrong)

/-- 'ganglionlaw11.ProbeBest': WHATEVER THE INPUT: true; the input reads as it did. -/
def probeBestSpec : ChangeSpec := { name := "probeBest", fn := fun _ => fun
  | [d1, d2, d3, d4] => { results := [.lit (.bool true)], args := [d1, d2, d3, d4] }
  | _ => none }
def probeBestRow : OpenClaim := { program := "ytglbefkfbnaijaa", sum := "0a0cfaa0c561ad787a5a0536b5df456838140257d77f05f43b190f5d5d24bc8f", func := "ganglion/ganglionlaw11.ProbeBest", spec := "probeBest", inPlace := ["math/bits.Add64"], unfollowed := true, recurses := true, apart := false }
def ProbeBestSaid : Prop := probeBestRow.holds Try.pinned (OpenSpec.ofChange probeBestSpec)

/-- ITS FALSE NEIGHBOUR: 'it returns false'. Refute it at one input. -/
def probeBestWrong : ChangeSpec := { name := "probeBest", fn := fun _ => fun
  | [d1, d2, d3, d4] => { results := [.lit (.bool false)], args := [d1, d2, d3, d4] }
  | _ => none }
def ProbeBestWrongFalsely : Prop := probeBestRow.holds Try.pinned (OpenSpec.ofChange probeBestWrong)

/-- 'ganglionlaw12.PlaneTells': WHATEVER THE INPUT: true; the input reads as it did. -/
def planeTellsSpec : ChangeSpec := { name := "planeTells", fn := fun _ => fun
  | [d1, d2, d3, d4] => { results := [.lit (.bool true)], args := [d1, d2, d3, d4] }
  | _ => none }
def planeTellsRow : OpenClaim := { program := "ytglbefkfbnaijaa", sum := "0a0cfaa0c561ad787a5a0536b5df456838140257d77f05f43b190f5d5d24bc8f", func := "ganglion/ganglionlaw12.PlaneTells", spec := "planeTells", unfollowed := true, recurses := true, apart := false }
def PlaneTellsSaid : Prop := planeTellsRow.holds Try.pinned (OpenSpec.ofChange planeTellsSpec)

/-- ITS FALSE NEIGHBOUR: 'it returns false'. Refute it at one input. -/
def planeTellsWrong : ChangeSpec := { name := "planeTells", fn := fun _ => fun
  | [d1, d2, d3, d4] => { results := [.lit (.bool false)], args := [d1, d2, d3, d4] }
  | _ => none }
def PlaneTellsWrongFalsely : Prop := planeTellsRow.holds Try.pinned (OpenSpec.ofChange planeTellsWrong)

/-- 'ganglionlaw12.PlaneRight': WHATEVER THE INPUT: true; the input reads as it did. -/
def planeRightSpec : ChangeSpec := { name := "planeRight", fn := fun _ => fun
  | [d1, d2] => { results := [.lit (.bool true)], args := [d1, d2] }
  | _ => none }
def planeRightRow : OpenClaim := { program := "ytglbefkfbnaijaa", sum := "0a0cfaa0c561ad787a5a0536b5df456838140257d77f05f43b190f5d5d24bc8f", func := "ganglion/ganglionlaw12.PlaneRight", spec := "planeRight", unfollowed := true, recurses := true, apart := false }
def PlaneRightSaid : Prop := planeRightRow.holds Try.pinned (OpenSpec.ofChange planeRightSpec)

/-- ITS FALSE NEIGHBOUR: 'it returns false'. Refute it at one input. -/
def planeRightWrong : ChangeSpec := { name := "planeRight", fn := fun _ => fun
  | [d1, d2] => { results := [.lit (.bool false)], args := [d1, d2] }
  | _ => none }
def PlaneRightWrongFalsely : Prop := planeRightRow.holds Try.pinned (OpenSpec.ofChange planeRightWrong)

/-- 'gangliontop.TopHalves': WHATEVER THE INPUT: true; the input reads as it did. -/
def topHalvesSpec : ChangeSpec := { name := "topHalves", fn := fun _ => fun
  | [d1, d2, d3, d4] => { results := [.lit (.bool true)], args := [d1, d2, d3, d4] }
  | _ => none }
def topHalvesRow : OpenClaim := { program := "ytglbefkfbnaijaa", sum := "0a0cfaa0c561ad787a5a0536b5df456838140257d77f05f43b190f5d5d24bc8f", func := "ganglion/gangliontop.TopHalves", spec := "topHalves", inPlace := ["math/bits.Add64"], unfollowed := true, recurses := true, apart := false }
def TopHalvesSaid : Prop := topHalvesRow.holds Try.pinned (OpenSpec.ofChange topHalvesSpec)

/-- ITS FALSE NEIGHBOUR: 'it returns false'. Refute it at one input. -/
def topHalvesWrong : ChangeSpec := { name := "topHalves", fn := fun _ => fun
  | [d1, d2, d3, d4] => { results := [.lit (.bool false)], args := [d1, d2, d3, d4] }
  | _ => none }
def TopHalvesWrongFalsely : Prop := topHalvesRow.holds Try.pinned (OpenSpec.ofChange topHalvesWrong)

/-- 'gangliontop.TopTurned': WHATEVER THE INPUT: true; the input reads as it did. -/
def topTurnedSpec : ChangeSpec := { name := "topTurned", fn := fun _ => fun
  | [d1, d2, d3, d4] => { results := [.lit (.bool true)], args := [d1, d2, d3, d4] }
  | _ => none }
def topTurnedRow : OpenClaim := { program := "ytglbefkfbnaijaa", sum := "0a0cfaa0c561ad787a5a0536b5df456838140257d77f05f43b190f5d5d24bc8f", func := "ganglion/gangliontop.TopTurned", spec := "topTurned", inPlace := ["math/bits.Add64"], unfollowed := true, recurses := true, apart := false }
def TopTurnedSaid : Prop := topTurnedRow.holds Try.pinned (OpenSpec.ofChange topTurnedSpec)

/-- ITS FALSE NEIGHBOUR: 'it returns false'. Refute it at one input. -/
def topTurnedWrong : ChangeSpec := { name := "topTurned", fn := fun _ => fun
  | [d1, d2, d3, d4] => { results := [.lit (.bool false)], args := [d1, d2, d3, d4] }
  | _ => none }
def TopTurnedWrongFalsely : Prop := topTurnedRow.holds Try.pinned (OpenSpec.ofChange topTurnedWrong)

/-- 'gangliontop.TopPeeled': WHATEVER THE INPUT: true; the input reads as it did. -/
def topPeeledSpec : ChangeSpec := { name := "topPeeled", fn := fun _ => fun
  | [d1, d2] => { results := [.lit (.bool true)], args := [d1, d2] }
  | _ => none }
def topPeeledRow : OpenClaim := { program := "ytglbefkfbnaijaa", sum := "0a0cfaa0c561ad787a5a0536b5df456838140257d77f05f43b190f5d5d24bc8f", func := "ganglion/gangliontop.TopPeeled", spec := "topPeeled", inPlace := ["math/bits.Add64"], unfollowed := true, recurses := true, apart := false }
def TopPeeledSaid : Prop := topPeeledRow.holds Try.pinned (OpenSpec.ofChange topPeeledSpec)

/-- ITS FALSE NEIGHBOUR: 'it returns false'. Refute it at one input. -/
def topPeeledWrong : ChangeSpec := { name := "topPeeled", fn := fun _ => fun
  | [d1, d2] => { results := [.lit (.bool false)], args := [d1, d2] }
  | _ => none }
def TopPeeledWrongFalsely : Prop := topPeeledRow.holds Try.pinned (OpenSpec.ofChange topPeeledWrong)

/-- 'gangliontop.TopApart': WHATEVER THE INPUT: true; the input reads as it did. -/
def topApartSpec : ChangeSpec := { name := "topApart", fn := fun _ => fun
  | [d1, d2, d3] => { results := [.lit (.bool true)], args := [d1, d2, d3] }
  | _ => none }
def topApartRow : OpenClaim := { program := "ytglbefkfbnaijaa", sum := "0a0cfaa0c561ad787a5a0536b5df456838140257d77f05f43b190f5d5d24bc8f", func := "ganglion/gangliontop.TopApart", spec := "topApart", inPlace := ["math/bits.Add64"], unfollowed := true, recurses := true, apart := false }
def TopApartSaid : Prop := topApartRow.holds Try.pinned (OpenSpec.ofChange topApartSpec)

/-- ITS FALSE NEIGHBOUR: 'it returns false'. Refute it at one input. -/
def topApartWrong : ChangeSpec := { name := "topApart", fn := fun _ => fun
  | [d1, d2, d3] => { results := [.lit (.bool false)], args := [d1, d2, d3] }
  | _ => none }
def TopApartWrongFalsely : Prop := topApartRow.holds Try.pinned (OpenSpec.ofChange topApartWrong)

/-- 'gangliontop.TopLastFirst': WHATEVER THE INPUT: true; the input reads as it did. -/
def topLastFirstSpec : ChangeSpec := { name := "topLastFirst", fn := fun _ => fun
  | [d1, d2, d3] => { results := [.lit (.bool true)], args := [d1, d2, d3] }
  | _ => none }
def topLastFirstRow : OpenClaim := { program := "ytglbefkfbnaijaa", sum := "0a0cfaa0c561ad787a5a0536b5df456838140257d77f05f43b190f5d5d24bc8f", func := "ganglion/gangliontop.TopLastFirst", spec := "topLastFirst", inPlace := ["math/bits.Add64"], unfollowed := true, recurses := true, apart := false }
def TopLastFirstSaid : Prop := topLastFirstRow.holds Try.pinned (OpenSpec.ofChange topLastFirstSpec)

/-- ITS FALSE NEIGHBOUR: 'it returns false'. Refute it at one input. -/
def topLastFirstWrong : ChangeSpec := { name := "topLastFirst", fn := fun _ => fun
  | [d1, d2, d3] => { results := [.lit (.bool false)], args := [d1, d2, d3] }
  | _ => none }
def TopLastFirstWrongFalsely : Prop := topLastFirstRow.holds Try.pinned (OpenSpec.ofChange topLastFirstWrong)

/- THE SECOND FORM. 'bulk': how many values and letters a reading holds, each counted each time it is reached (what is shared counts as often as it is met; a slice's spare places count too). A statement '..UptoSaid' is the law's where the arguments, and the package variables that the reading takes, are together of bulk at most 1048576: NARROWER than '..Said'. Prove '..Said' where nothing that the law and all that it calls make is longer than what came in: it says more and counts as full. Else prove '..UptoSaid'. A law counts once. -/
mutual
def uptoBulk {H : Type} : DataW H → Nat
  | .lit (.string bytes) => bytes.length + 1
  | .lit _ => 1
  | .nil => 1
  | .ptr d => uptoBulk d + 1
  | .slice elems spare => uptoBulkAll elems + uptoBulkAll spare + 1
  | .agg parts => uptoBulkAll parts + 1
  | .iface _ d => uptoBulk d + 1
  | .map entries => uptoBulkEntries entries + 1
  | .held _ => 1
def uptoBulkAll {H : Type} : List (DataW H) → Nat
  | [] => 0
  | d :: r => uptoBulk d + uptoBulkAll r
def uptoBulkEntries {H : Type} : List (Lit × DataW H) → Nat
  | [] => 0
  | x :: r => uptoBulkEntry x + uptoBulkEntries r
def uptoBulkEntry {H : Type} : Lit × DataW H → Nat
  | (.string bytes, d) => bytes.length + uptoBulk d + 1
  | (_, d) => uptoBulk d + 1
 end
def uptoSmall : (H : Type) → List (DataW H) → Bool := fun _ ds => decide (uptoBulkAll ds ≤ 1048576)
def OpenSpec.upto (s : _root_.Go.ChangeSpec) : _root_.Go.OpenSpec := { _root_.Go.OpenSpec.ofChange s with cond := some uptoSmall }

/-- 'ganglionlaw08.QueuePlays', WHERE WHAT IT READS IS OF BULK AT MOST 1048576: true; the input reads as it did. -/
def queuePlaysUptoRow : OpenClaim := { program := "ytglbefkfbnaijaa", sum := "0a0cfaa0c561ad787a5a0536b5df456838140257d77f05f43b190f5d5d24bc8f", func := "ganglion/ganglionlaw08.QueuePlays", spec := "queuePlays", unfollowed := true, recurses := true, apart := false, narrowed := true }
def QueuePlaysUptoSaid : Prop := queuePlaysUptoRow.holds Try.pinned (OpenSpec.upto queuePlaysSpec)

/-- 'ganglionlaw08.QueueBest', WHERE WHAT IT READS IS OF BULK AT MOST 1048576: true; the input reads as it did. -/
def queueBestUptoRow : OpenClaim := { program := "ytglbefkfbnaijaa", sum := "0a0cfaa0c561ad787a5a0536b5df456838140257d77f05f43b190f5d5d24bc8f", func := "ganglion/ganglionlaw08.QueueBest", spec := "queueBest", unfollowed := true, recurses := true, apart := false, narrowed := true }
def QueueBestUptoSaid : Prop := queueBestUptoRow.holds Try.pinned (OpenSpec.upto queueBestSpec)

/-- 'ganglionlaw10.ChooseTells', WHERE WHAT IT READS IS OF BULK AT MOST 1048576: true; the input reads as it did. -/
def chooseTellsUptoRow : OpenClaim := { program := "ytglbefkfbnaijaa", sum := "0a0cfaa0c561ad787a5a0536b5df456838140257d77f05f43b190f5d5d24bc8f", func := "ganglion/ganglionlaw10.ChooseTells", spec := "chooseTells", inPlace := ["math/bits.Add64"], unfollowed := true, recurses := true, apart := false, narrowed := true }
def ChooseTellsUptoSaid : Prop := chooseTellsUptoRow.holds Try.pinned (OpenSpec.upto chooseTellsSpec)

/-- 'ganglionlaw10.ChooseApart', WHERE WHAT IT READS IS OF BULK AT MOST 1048576: true; the input reads as it did. -/
def chooseApartUptoRow : OpenClaim := { program := "ytglbefkfbnaijaa", sum := "0a0cfaa0c561ad787a5a0536b5df456838140257d77f05f43b190f5d5d24bc8f", func := "ganglion/ganglionlaw10.ChooseApart", spec := "chooseApart", inPlace := ["math/bits.Add64"], unfollowed := true, recurses := true, apart := false, narrowed := true }
def ChooseApartUptoSaid : Prop := chooseApartUptoRow.holds Try.pinned (OpenSpec.upto chooseApartSpec)

/-- 'ganglionlaw11.ProbePlays', WHERE WHAT IT READS IS OF BULK AT MOST 1048576: true; the input reads as it did. -/
def probePlaysUptoRow : OpenClaim := { program := "ytglbefkfbnaijaa", sum := "0a0cfaa0c561ad787a5a0536b5df456838140257d77f05f43b190f5d5d24bc8f", func := "ganglion/ganglionlaw11.ProbePlays", spec := "probePlays", inPlace := ["math/bits.Add64"], unfollowed := true, recurses := true, apart := false, narrowed := true }
def ProbePlaysUptoSaid : Prop := probePlaysUptoRow.holds Try.pinned (OpenSpec.upto probePlaysSpec)

/-- 'ganglionlaw11.ProbeBest', WHERE WHAT IT READS IS OF BULK AT MOST 1048576: true; the input reads as it did. -/
def probeBestUptoRow : OpenClaim := { program := "ytglbefkfbnaijaa", sum := "0a0cfaa0c561ad787a5a0536b5df456838140257d77f05f43b190f5d5d24bc8f", func := "ganglion/ganglionlaw11.ProbeBest", spec := "probeBest", inPlace := ["math/bits.Add64"], unfollowed := true, recurses := true, apart := false, narrowed := true }
def ProbeBestUptoSaid : Prop := probeBestUptoRow.holds Try.pinned (OpenSpec.upto probeBestSpec)

/-- 'ganglionlaw12.PlaneTells', WHERE WHAT IT READS IS OF BULK AT MOST 1048576: true; the input reads as it did. -/
def planeTellsUptoRow : OpenClaim := { program := "ytglbefkfbnaijaa", sum := "0a0cfaa0c561ad787a5a0536b5df456838140257d77f05f43b190f5d5d24bc8f", func := "ganglion/ganglionlaw12.PlaneTells", spec := "planeTells", unfollowed := true, recurses := true, apart := false, narrowed := true }
def PlaneTellsUptoSaid : Prop := planeTellsUptoRow.holds Try.pinned (OpenSpec.upto planeTellsSpec)

/-- 'ganglionlaw12.PlaneRight', WHERE WHAT IT READS IS OF BULK AT MOST 1048576: true; the input reads as it did. -/
def planeRightUptoRow : OpenClaim := { program := "ytglbefkfbnaijaa", sum := "0a0cfaa0c561ad787a5a0536b5df456838140257d77f05f43b190f5d5d24bc8f", func := "ganglion/ganglionlaw12.PlaneRight", spec := "planeRight", unfollowed := true, recurses := true, apart := false, narrowed := true }
def PlaneRightUptoSaid : Prop := planeRightUptoRow.holds Try.pinned (OpenSpec.upto planeRightSpec)

/-- 'gangliontop.TopHalves', WHERE WHAT IT READS IS OF BULK AT MOST 1048576: true; the input reads as it did. -/
def topHalvesUptoRow : OpenClaim := { program := "ytglbefkfbnaijaa", sum := "0a0cfaa0c561ad787a5a0536b5df456838140257d77f05f43b190f5d5d24bc8f", func := "ganglion/gangliontop.TopHalves", spec := "topHalves", inPlace := ["math/bits.Add64"], unfollowed := true, recurses := true, apart := false, narrowed := true }
def TopHalvesUptoSaid : Prop := topHalvesUptoRow.holds Try.pinned (OpenSpec.upto topHalvesSpec)

/-- 'gangliontop.TopTurned', WHERE WHAT IT READS IS OF BULK AT MOST 1048576: true; the input reads as it did. -/
def topTurnedUptoRow : OpenClaim := { program := "ytglbefkfbnaijaa", sum := "0a0cfaa0c561ad787a5a0536b5df456838140257d77f05f43b190f5d5d24bc8f", func := "ganglion/gangliontop.TopTurned", spec := "topTurned", inPlace := ["math/bits.Add64"], unfollowed := true, recurses := true, apart := false, narrowed := true }
def TopTurnedUptoSaid : Prop := topTurnedUptoRow.holds Try.pinned (OpenSpec.upto topTurnedSpec)

/-- 'gangliontop.TopPeeled', WHERE WHAT IT READS IS OF BULK AT MOST 1048576: true; the input reads as it did. -/
def topPeeledUptoRow : OpenClaim := { program := "ytglbefkfbnaijaa", sum := "0a0cfaa0c561ad787a5a0536b5df456838140257d77f05f43b190f5d5d24bc8f", func := "ganglion/gangliontop.TopPeeled", spec := "topPeeled", inPlace := ["math/bits.Add64"], unfollowed := true, recurses := true, apart := false, narrowed := true }
def TopPeeledUptoSaid : Prop := topPeeledUptoRow.holds Try.pinned (OpenSpec.upto topPeeledSpec)

/-- 'gangliontop.TopApart', WHERE WHAT IT READS IS OF BULK AT MOST 1048576: true; the input reads as it did. -/
def topApartUptoRow : OpenClaim := { program := "ytglbefkfbnaijaa", sum := "0a0cfaa0c561ad787a5a0536b5df456838140257d77f05f43b190f5d5d24bc8f", func := "ganglion/gangliontop.TopApart", spec := "topApart", inPlace := ["math/bits.Add64"], unfollowed := true, recurses := true, apart := false, narrowed := true }
def TopApartUptoSaid : Prop := topApartUptoRow.holds Try.pinned (OpenSpec.upto topApartSpec)

/-- 'gangliontop.TopLastFirst', WHERE WHAT IT READS IS OF BULK AT MOST 1048576: true; the input reads as it did. -/
def topLastFirstUptoRow : OpenClaim := { program := "ytglbefkfbnaijaa", sum := "0a0cfaa0c561ad787a5a0536b5df456838140257d77f05f43b190f5d5d24bc8f", func := "ganglion/gangliontop.TopLastFirst", spec := "topLastFirst", inPlace := ["math/bits.Add64"], unfollowed := true, recurses := true, apart := false, narrowed := true }
def TopLastFirstUptoSaid : Prop := topLastFirstUptoRow.holds Try.pinned (OpenSpec.upto topLastFirstSpec)

end Rows
end Go.Proofs.Ytglbefkfbnaijaa
