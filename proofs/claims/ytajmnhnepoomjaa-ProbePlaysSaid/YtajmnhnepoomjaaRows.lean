/-
  No cell of these rows narrows 'for every input' (looked for: loops, veiled, ifaces, maps, wideKeys, modest, calm, conditions, laid).
  DERIVED. THE GIVEN ROWS OF THIS SEAT. 9 by the template 'for every input the law returns true; each argument reads behind the call as it read before'; 0 by the template 'total and deterministic' (their statements: YtajmnhnepoomjaaTotals.lean).
  GIVEN WITH THE SEED: the statements are not yours to turn. If you find one false, say at which input.
  Laid BY PROGRAM, IN A SANDBOX (cutbox-rows.mjs): the forced cells as the released guide's own fill.sh prints them over the translation 59644a9f7f862aaf… (all of the seat's roots in one cut). By AI agents, Wed Nov 11 2026. No macro, syntax, notation, axiom, sorry.
-/
import Derived.Test.YtajmnhnepoomjaaChecked
import GoSem.Claim
import GoSem.ClaimJoined
import GoSem.ClaimMapViews
import Derived.JoinedTies
import Derived.KernelRfl
namespace Go.Proofs.Ytajmnhnepoomjaa
/- THE CELL 'sum', in the pinned program and in every row, IS THE sha256 OF THE DUMP (.gsa) THAT YtajmnhnepoomjaaProg.lean LOADS. Nothing in Lean hashes anything: it is a label: what it is worth is what the hold of that sum in a sandbox is worth. -/
noncomputable def Try.pinned : Pinned := { name := "ytajmnhnepoomjaa", sum := "59644a9f7f862aafc13ddc765f4f19cc46a56c46e109acc7c884fe394fd1794c", checked := Try.checked }
namespace Rows
def none {H : Type} : Left H := { results := [], args := [] }

/-- 'ganglionlaw13.ExactTells': WHATEVER THE INPUT: true; the input reads as it did. -/
def exactTellsSpec : ChangeSpec := { name := "exactTells", fn := fun _ => fun
  | [d1, d2, d3, d4, d5, d6] => { results := [.lit (.bool true)], args := [d1, d2, d3, d4, d5, d6] }
  | _ => none }
def exactTellsRow : OpenClaim := { program := "ytajmnhnepoomjaa", sum := "59644a9f7f862aafc13ddc765f4f19cc46a56c46e109acc7c884fe394fd1794c", func := "ganglion/ganglionlaw13.ExactTells", spec := "exactTells", inPlace := ["math/bits.Add64"], unfollowed := true, recurses := true, apart := false }
def ExactTellsSaid : Prop := exactTellsRow.holds Try.pinned (OpenSpec.ofChange exactTellsSpec)

/-- ITS FALSE NEIGHBOUR: 'it returns false'. Refute it at one input. -/
def exactTellsWrong : ChangeSpec := { name := "exactTells", fn := fun _ => fun
  | [d1, d2, d3, d4, d5, d6] => { results := [.lit (.bool false)], args := [d1, d2, d3, d4, d5, d6] }
  | _ => none }
def ExactTellsWrongFalsely : Prop := exactTellsRow.holds Try.pinned (OpenSpec.ofChange exactTellsWrong)

/-- 'ganglionlaw13.ExactMore': WHATEVER THE INPUT: true; the input reads as it did. -/
def exactMoreSpec : ChangeSpec := { name := "exactMore", fn := fun _ => fun
  | [d1, d2, d3, d4, d5] => { results := [.lit (.bool true)], args := [d1, d2, d3, d4, d5] }
  | _ => none }
def exactMoreRow : OpenClaim := { program := "ytajmnhnepoomjaa", sum := "59644a9f7f862aafc13ddc765f4f19cc46a56c46e109acc7c884fe394fd1794c", func := "ganglion/ganglionlaw13.ExactMore", spec := "exactMore", inPlace := ["math/bits.Add64"], unfollowed := true, recurses := true, apart := false }
def ExactMoreSaid : Prop := exactMoreRow.holds Try.pinned (OpenSpec.ofChange exactMoreSpec)

/-- ITS FALSE NEIGHBOUR: 'it returns false'. Refute it at one input. -/
def exactMoreWrong : ChangeSpec := { name := "exactMore", fn := fun _ => fun
  | [d1, d2, d3, d4, d5] => { results := [.lit (.bool false)], args := [d1, d2, d3, d4, d5] }
  | _ => none }
def ExactMoreWrongFalsely : Prop := exactMoreRow.holds Try.pinned (OpenSpec.ofChange exactMoreWrong)

/-- 'ganglionlaw11.ProbePlays': WHATEVER THE INPUT: true; the input reads as it did. -/
def probePlaysSpec : ChangeSpec := { name := "probePlays", fn := fun _ => fun
  | [d1, d2, d3, d4] => { results := [.lit (.bool true)], args := [d1, d2, d3, d4] }
  | _ => none }
def probePlaysRow : OpenClaim := { program := "ytajmnhnepoomjaa", sum := "59644a9f7f862aafc13ddc765f4f19cc46a56c46e109acc7c884fe394fd1794c", func := "ganglion/ganglionlaw11.ProbePlays", spec := "probePlays", inPlace := ["math/bits.Add64"], unfollowed := true, recurses := true, apart := false }
def ProbePlaysSaid : Prop := probePlaysRow.holds Try.pinned (OpenSpec.ofChange probePlaysSpec)

/-- ITS FALSE NEIGHBOUR: 'it returns false'. Refute it at one input. -/
def probePlaysWrong : ChangeSpec := { name := "probePlays", fn := fun _ => fun
  | [d1, d2, d3, d4] => { results := [.lit (.bool false)], args := [d1, d2, d3, d4] }
  | _ => none }
def ProbePlaysWrongFalsely : Prop := probePlaysRow.holds Try.pinned (OpenSpec.ofChange probePlaysWrong)

/-- 'ganglionlaw11.ProbeBest': WHATEVER THE INPUT: true; the input reads as it did. -/
def probeBestSpec : ChangeSpec := { name := "probeBest", fn := fun _ => fun
  | [d1, d2, d3, d4] => { results := [.lit (.bool true)], args := [d1, d2, d3, d4] }
  | _ => none }
def probeBestRow : OpenClaim := { program := "ytajmnhnepoomjaa", sum := "59644a9f7f862aafc13ddc765f4f19cc46a56c46e109acc7c884fe394fd1794c", func := "ganglion/ganglionlaw11.ProbeBest", spec := "probeBest", inPlace := ["math/bits.Add64"], unfollowed := true, recurses := true, apart := false }
def ProbeBestSaid : Prop := probeBestRow.holds Try.pinned (OpenSpec.ofChange probeBestSpec)

/-- ITS FALSE NEIGHBOUR: 'it returns false'. Refute it at one input. -/
def probeBestWrong : ChangeSpec := { name := "probeBest", fn := fun _ => fun
  | [d1, d2, d3, d4] => { results := [.lit (.bool false)], args := [d1, d2, d3, d4] }
  | _ => none }
def ProbeBestWrongFalsely : Prop := probeBestRow.holds Try.pinned (OpenSpec.ofChange probeBestWrong)

/-- 'ganglionlaw12.PlaneTells': WHATEVER THE INPUT: true; the input reads as it did. -/
def planeTellsSpec : ChangeSpec := { name := "planeTells", fn := fun _ => fun
  | [d1, d2, d3, d4] => { results := [.lit (.bool true)], args := [d1, d2, d3, d4] }
  | _ => none }
def planeTellsRow : OpenClaim := { program := "ytajmnhnepoomjaa", sum := "59644a9f7f862aafc13ddc765f4f19cc46a56c46e109acc7c884fe394fd1794c", func := "ganglion/ganglionlaw12.PlaneTells", spec := "planeTells", unfollowed := true, recurses := true, apart := false }
def PlaneTellsSaid : Prop := planeTellsRow.holds Try.pinned (OpenSpec.ofChange planeTellsSpec)

/-- ITS FALSE NEIGHBOUR: 'it returns false'. Refute it at one input. -/
def planeTellsWrong : ChangeSpec := { name := "planeTells", fn := fun _ => fun
  | [d1, d2, d3, d4] => { results := [.lit (.bool false)], args := [d1, d2, d3, d4] }
  | _ => none }
def PlaneTellsWrongFalsely : Prop := planeTellsRow.holds Try.pinned (OpenSpec.ofChange planeTellsWrong)

/-- 'ganglionlaw12.PlaneRight': WHATEVER THE INPUT: true; the input reads as it did. -/
def planeRightSpec : ChangeSpec := { name := "planeRight", fn := fun _ => fun
  | [d1, d2] => { results := [.lit (.bool true)], args := [d1, d2] }
  | _ => none }
def planeRightRow : OpenClaim := { program := "ytajmnhnepoomjaa", sum := "59644a9f7f862aafc13ddc765f4f19cc46a56c46e109acc7c884fe394fd1794c", func := "ganglion/ganglionlaw12.PlaneRight", spec := "planeRight", unfollowed := true, recurses := true, apart := false }
def PlaneRightSaid : Prop := planeRightRow.holds Try.pinned (OpenSpec.ofChange planeRightSpec)

/-- ITS FALSE NEIGHBOUR: 'it returns false'. Refute it at one input. -/
def planeRightWrong : ChangeSpec := { name := "planeRight", fn := fun _ => fun
  | [d1, d2] => { results := [.lit (.bool false)], args := [d1, d2] }
  | _ => none }
def PlaneRightWrongFalsely : Prop := planeRightRow.holds Try.pinned (OpenSpec.ofChange planeRightWrong)

/-- 'ganglionlaw14.WalkDown': WHATEVER THE INPUT: true; the input reads as it did. -/
def walkDownSpec : ChangeSpec := { name := "walkDown", fn := fun _ => fun
  | [d1, d2, d3, d4] => { results := [.lit (.bool true)], args := [d1, d2, d3, d4] }
  | _ => none }
def walkDownRow : OpenClaim := { program := "ytajmnhnepoomjaa", sum := "59644a9f7f862aafc13ddc765f4f19cc46a56c46e109acc7c884fe394fd1794c", func := "ganglion/ganglionlaw14.WalkDown", spec := "walkDown", inPlace := ["math/bits.Add64"], unfollowed := true, recurses := true, apart := false }
def WalkDownSaid : Prop := walkDownRow.holds Try.pinned (OpenSpec.ofChange walkDownSpec)

/-- ITS FALSE NEIGHBOUR: 'it returns false'. Refute it at one input. -/
def walkDownWrong : ChangeSpec := { name := "walkDown", fn := fun _ => fun
  | [d1, d2, d3, d4] => { results := [.lit (.bool false)], args := [d1, d2, d3, d4] }
  | _ => none }
def WalkDownWrongFalsely : Prop := walkDownRow.holds Try.pinned (OpenSpec.ofChange walkDownWrong)

/-- 'gangliontop.TopLastFirst': WHATEVER THE INPUT: true; the input reads as it did. -/
def topLastFirstSpec : ChangeSpec := { name := "topLastFirst", fn := fun _ => fun
  | [d1, d2, d3] => { results := [.lit (.bool true)], args := [d1, d2, d3] }
  | _ => none }
def topLastFirstRow : OpenClaim := { program := "ytajmnhnepoomjaa", sum := "59644a9f7f862aafc13ddc765f4f19cc46a56c46e109acc7c884fe394fd1794c", func := "ganglion/gangliontop.TopLastFirst", spec := "topLastFirst", inPlace := ["math/bits.Add64"], unfollowed := true, recurses := true, apart := false }
def TopLastFirstSaid : Prop := topLastFirstRow.holds Try.pinned (OpenSpec.ofChange topLastFirstSpec)

/-- ITS FALSE NEIGHBOUR: 'it returns false'. Refute it at one input. -/
def topLastFirstWrong : ChangeSpec := { name := "topLastFirst", fn := fun _ => fun
  | [d1, d2, d3] => { results := [.lit (.bool false)], args := [d1, d2, d3] }
  | _ => none }
def TopLastFirstWrongFalsely : Prop := topLastFirstRow.holds Try.pinned (OpenSpec.ofChange topLastFirstWrong)

/-- 'gangliontop.TopGreedy': WHATEVER THE INPUT: true; the input reads as it did. -/
def topGreedySpec : ChangeSpec := { name := "topGreedy", fn := fun _ => fun
  | [d1, d2, d3, d4] => { results := [.lit (.bool true)], args := [d1, d2, d3, d4] }
  | _ => none }
def topGreedyRow : OpenClaim := { program := "ytajmnhnepoomjaa", sum := "59644a9f7f862aafc13ddc765f4f19cc46a56c46e109acc7c884fe394fd1794c", func := "ganglion/gangliontop.TopGreedy", spec := "topGreedy", inPlace := ["math/bits.Add64"], unfollowed := true, recurses := true, apart := false }
def TopGreedySaid : Prop := topGreedyRow.holds Try.pinned (OpenSpec.ofChange topGreedySpec)

/-- ITS FALSE NEIGHBOUR: 'it returns false'. Refute it at one input. -/
def topGreedyWrong : ChangeSpec := { name := "topGreedy", fn := fun _ => fun
  | [d1, d2, d3, d4] => { results := [.lit (.bool false)], args := [d1, d2, d3, d4] }
  | _ => none }
def TopGreedyWrongFalsely : Prop := topGreedyRow.holds Try.pinned (OpenSpec.ofChange topGreedyWrong)

/- THE SECOND FORM. 'bulk': how many values and letters a reading holds, each counted each time it is reached (what is shared counts as often as it is met; a slice's spare places count too). A statement '..UptoSaid' is the law's where the arguments, and the package variables that the reading takes, are together of bulk at most 1048576: NARROWER than '..Said'. Prove '..Said' where nothing that the law and all that it calls make is longer than what came in: it says more and counts as full. Else prove '..UptoSaid'. A law counts once. -/
mutual
def uptoBulk {H : Type} : DataW H → Nat
  | .lit (.string bytes) => bytes.length + 1
  | .lit _ => 1
  | .nil => 1
  | .ptr d => uptoBulk d + 1
  | .slice elems spare => uptoBulkAll elems + uptoBulkAll spare + 1
  | .agg parts => uptoBulkAll parts + 1
  | .iface _ d => uptoBulk d + 1
  | .map entries => uptoBulkEntries entries + 1
  | .held _ => 1
def uptoBulkAll {H : Type} : List (DataW H) → Nat
  | [] => 0
  | d :: r => uptoBulk d + uptoBulkAll r
def uptoBulkEntries {H : Type} : List (Lit × DataW H) → Nat
  | [] => 0
  | x :: r => uptoBulkEntry x + uptoBulkEntries r
def uptoBulkEntry {H : Type} : Lit × DataW H → Nat
  | (.string bytes, d) => bytes.length + uptoBulk d + 1
  | (_, d) => uptoBulk d + 1
 end
def uptoSmall : (H : Type) → List (DataW H) → Bool := fun _ ds => decide (uptoBulkAll ds ≤ 1048576)
def OpenSpec.upto (s : _root_.Go.ChangeSpec) : _root_.Go.OpenSpec := { _root_.Go.OpenSpec.ofChange s with cond := some uptoSmall }

/-- 'ganglionlaw13.ExactTells', WHERE WHAT IT READS IS OF BULK AT MOST 1048576: true; the input reads as it did. -/
def exactTellsUptoRow : OpenClaim := { program := "ytajmnhnepoomjaa", sum := "59644a9f7f862aafc13ddc765f4f19cc46a56c46e109acc7c884fe394fd1794c", func := "ganglion/ganglionlaw13.ExactTells", spec := "exactTells", inPlace := ["math/bits.Add64"], unfollowed := true, recurses := true, apart := false, narrowed := true }
def ExactTellsUptoSaid : Prop := exactTellsUptoRow.holds Try.pinned (OpenSpec.upto exactTellsSpec)

/-- 'ganglionlaw13.ExactMore', WHERE WHAT IT READS IS OF BULK AT MOST 1048576: true; the input reads as it did. -/
def exactMoreUptoRow : OpenClaim := { program := "ytajmnhnepoomjaa", sum := "59644a9f7f862aafc13ddc765f4f19cc46a56c46e109acc7c884fe394fd1794c", func := "ganglion/ganglionlaw13.ExactMore", spec := "exactMore", inPlace := ["math/bits.Add64"], unfollowed := true, recurses := true, apart := false, narrowed := true }
def ExactMoreUptoSaid : Prop := exactMoreUptoRow.holds Try.pinned (OpenSpec.upto exactMoreSpec)

/-- 'ganglionlaw11.ProbePlays', WHERE WHAT IT READS IS OF BULK AT MOST 1048576: true; the input reads as it did. -/
def probePlaysUptoRow : OpenClaim := { program := "ytajmnhnepoomjaa", sum := "59644a9f7f862aafc13ddc765f4f19cc46a56c46e109acc7c884fe394fd1794c", func := "ganglion/ganglionlaw11.ProbePlays", spec := "probePlays", inPlace := ["math/bits.Add64"], unfollowed := true, recurses := true, apart := false, narrowed := true }
def ProbePlaysUptoSaid : Prop := probePlaysUptoRow.holds Try.pinned (OpenSpec.upto probePlaysSpec)

/-- 'ganglionlaw11.ProbeBest', WHERE WHAT IT READS IS OF BULK AT MOST 1048576: true; the input reads as it did. -/
def probeBestUptoRow : OpenClaim := { program := "ytajmnhnepoomjaa", sum := "59644a9f7f862aafc13ddc765f4f19cc46a56c46e109acc7c884fe394fd1794c", func := "ganglion/ganglionlaw11.ProbeBest", spec := "probeBest", inPlace := ["math/bits.Add64"], unfollowed := true, recurses := true, apart := false, narrowed := true }
def ProbeBestUptoSaid : Prop := probeBestUptoRow.holds Try.pinned (OpenSpec.upto probeBestSpec)

/-- 'ganglionlaw12.PlaneTells', WHERE WHAT IT READS IS OF BULK AT MOST 1048576: true; the input reads as it did. -/
def planeTellsUptoRow : OpenClaim := { program := "ytajmnhnepoomjaa", sum := "59644a9f7f862aafc13ddc765f4f19cc46a56c46e109acc7c884fe394fd1794c", func := "ganglion/ganglionlaw12.PlaneTells", spec := "planeTells", unfollowed := true, recurses := true, apart := false, narrowed := true }
def PlaneTellsUptoSaid : Prop := planeTellsUptoRow.holds Try.pinned (OpenSpec.upto planeTellsSpec)

/-- 'ganglionlaw12.PlaneRight', WHERE WHAT IT READS IS OF BULK AT MOST 1048576: true; the input reads as it did. -/
def planeRightUptoRow : OpenClaim := { program := "ytajmnhnepoomjaa", sum := "59644a9f7f862aafc13ddc765f4f19cc46a56c46e109acc7c884fe394fd1794c", func := "ganglion/ganglionlaw12.PlaneRight", spec := "planeRight", unfollowed := true, recurses := true, apart := false, narrowed := true }
def PlaneRightUptoSaid : Prop := planeRightUptoRow.holds Try.pinned (OpenSpec.upto planeRightSpec)

/-- 'ganglionlaw14.WalkDown', WHERE WHAT IT READS IS OF BULK AT MOST 1048576: true; the input reads as it did. -/
def walkDownUptoRow : OpenClaim := { program := "ytajmnhnepoomjaa", sum := "59644a9f7f862aafc13ddc765f4f19cc46a56c46e109acc7c884fe394fd1794c", func := "ganglion/ganglionlaw14.WalkDown", spec := "walkDown", inPlace := ["math/bits.Add64"], unfollowed := true, recurses := true, apart := false, narrowed := true }
def WalkDownUptoSaid : Prop := walkDownUptoRow.holds Try.pinned (OpenSpec.upto walkDownSpec)

/-- 'gangliontop.TopLastFirst', WHERE WHAT IT READS IS OF BULK AT MOST 1048576: true; the input reads as it did. -/
def topLastFirstUptoRow : OpenClaim := { program := "ytajmnhnepoomjaa", sum := "59644a9f7f862aafc13ddc765f4f19cc46a56c46e109acc7c884fe394fd1794c", func := "ganglion/gangliontop.TopLastFirst", spec := "topLastFirst", inPlace := ["math/bits.Add64"], unfollowed := true, recurses := true, apart := false, narrowed := true }
def TopLastFirstUptoSaid : Prop := topLastFirstUptoRow.holds Try.pinned (OpenSpec.upto topLastFirstSpec)

/-- 'gangliontop.TopGreedy', WHERE WHAT IT READS IS OF BULK AT MOST 1048576: true; the input reads as it did. -/
def topGreedyUptoRow : OpenClaim := { program := "ytajmnhnepoomjaa", sum := "59644a9f7f862aafc13ddc765f4f19cc46a56c46e109acc7c884fe394fd1794c", func := "ganglion/gangliontop.TopGreedy", spec := "topGreedy", inPlace := ["math/bits.Add64"], unfollowed := true, recurses := true, apart := false, narrowed := true }
def TopGreedyUptoSaid : Prop := topGreedyUptoRow.holds Try.pinned (OpenSpec.upto topGreedySpec)

end Rows
end Go.Proofs.Ytajmnhnepoomjaa
