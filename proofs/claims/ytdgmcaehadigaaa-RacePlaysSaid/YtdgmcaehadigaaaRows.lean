/-
  No cell of these rows narrows 'for every input' (looked for: loops, veiled, ifaces, maps, wideKeys, modest, calm, conditions, laid).
  DERIVED. THE GIVEN ROWS OF THIS SEAT. 5 by the template 'for every input the law returns true; each argument reads behind the call as it read before'; 0 by the template 'total and deterministic' (their statements: YtdgmcaehadigaaaTotals.lean).
  GIVEN WITH THE SEED: the statements are not yours to turn. If you find one false, say at which input.
  Laid BY PROGRAM, IN A SANDBOX (cutbox-rows.mjs): the forced cells as the released guide's own fill.sh prints them over the translation a3fc81fde3d8321b… (all of the seat's roots in one cut). By AI agents, Wed Nov 11 2026. No macro, syntax, notation, axiom, sorry.
-/
import Derived.Test.YtdgmcaehadigaaaChecked
import GoSem.Claim
import GoSem.ClaimJoined
import GoSem.ClaimMapViews
import Derived.JoinedTies
import Derived.KernelRfl
namespace Go.Proofs.Ytdgmcaehadigaaa
/- THE CELL 'sum', in the pinned program and in every row, IS THE sha256 OF THE DUMP (.gsa) THAT YtdgmcaehadigaaaProg.lean LOADS. Nothing in Lean hashes anything: it is a label: what it is worth is what the hold of that sum in a sandbox is worth. -/
noncomputable def Try.pinned : Pinned := { name := "ytdgmcaehadigaaa", sum := "a3fc81fde3d8321b977f81e46f68f7375b76821e56fc37875bca272355646136", checked := Try.checked }
namespace Rows
def none {H : Type} : Left H := { results := [], args := [] }

/-- 'ganglionlaw18.RacePlays': WHATEVER THE INPUT: true; the input reads as it did. -/
def racePlaysSpec : ChangeSpec := { name := "racePlays", fn := fun _ => fun
  | [d] => { results := [.lit (.bool true)], args := [d] }
  | _ => none }
def racePlaysRow : OpenClaim := { program := "ytdgmcaehadigaaa", sum := "a3fc81fde3d8321b977f81e46f68f7375b76821e56fc37875bca272355646136", func := "ganglion/ganglionlaw18.RacePlays", spec := "racePlays", apart := false }
def RacePlaysSaid : Prop := racePlaysRow.holds Try.pinned (OpenSpec.ofChange racePlaysSpec)

/-- ITS FALSE NEIGHBOUR: 'it returns false'. Refute it at one input. -/
def racePlaysWrong : ChangeSpec := { name := "racePlays", fn := fun _ => fun
  | [d] => { results := [.lit (.bool false)], args := [d] }
  | _ => none }
def RacePlaysWrongFalsely : Prop := racePlaysRow.holds Try.pinned (OpenSpec.ofChange racePlaysWrong)

/-- 'ganglionlaw19.LockPlays': WHATEVER THE INPUT: true; the input reads as it did. -/
def lockPlaysSpec : ChangeSpec := { name := "lockPlays", fn := fun _ => fun
  | [d] => { results := [.lit (.bool true)], args := [d] }
  | _ => none }
def lockPlaysRow : OpenClaim := { program := "ytdgmcaehadigaaa", sum := "a3fc81fde3d8321b977f81e46f68f7375b76821e56fc37875bca272355646136", func := "ganglion/ganglionlaw19.LockPlays", spec := "lockPlays", recurses := true, apart := false }
def LockPlaysSaid : Prop := lockPlaysRow.holds Try.pinned (OpenSpec.ofChange lockPlaysSpec)

/-- ITS FALSE NEIGHBOUR: 'it returns false'. Refute it at one input. -/
def lockPlaysWrong : ChangeSpec := { name := "lockPlays", fn := fun _ => fun
  | [d] => { results := [.lit (.bool false)], args := [d] }
  | _ => none }
def LockPlaysWrongFalsely : Prop := lockPlaysRow.holds Try.pinned (OpenSpec.ofChange lockPlaysWrong)

/-- 'ganglionlaw20.EpochPlays': WHATEVER THE INPUT: true; the input reads as it did. -/
def epochPlaysSpec : ChangeSpec := { name := "epochPlays", fn := fun _ => fun
  | [d1, d2] => { results := [.lit (.bool true)], args := [d1, d2] }
  | _ => none }
def epochPlaysRow : OpenClaim := { program := "ytdgmcaehadigaaa", sum := "a3fc81fde3d8321b977f81e46f68f7375b76821e56fc37875bca272355646136", func := "ganglion/ganglionlaw20.EpochPlays", spec := "epochPlays", unfollowed := true, recurses := true, apart := false }
def EpochPlaysSaid : Prop := epochPlaysRow.holds Try.pinned (OpenSpec.ofChange epochPlaysSpec)

/-- ITS FALSE NEIGHBOUR: 'it returns false'. Refute it at one input. -/
def epochPlaysWrong : ChangeSpec := { name := "epochPlays", fn := fun _ => fun
  | [d1, d2] => { results := [.lit (.bool false)], args := [d1, d2] }
  | _ => none }
def EpochPlaysWrongFalsely : Prop := epochPlaysRow.holds Try.pinned (OpenSpec.ofChange epochPlaysWrong)

/-- 'ganglionlaw28.GetterAsks': WHATEVER THE INPUT: true; the input reads as it did. -/
def getterAsksSpec : ChangeSpec := { name := "getterAsks", fn := fun _ => fun
  | [d1, d2, d3] => { results := [.lit (.bool true)], args := [d1, d2, d3] }
  | _ => none }
def getterAsksRow : OpenClaim := { program := "ytdgmcaehadigaaa", sum := "a3fc81fde3d8321b977f81e46f68f7375b76821e56fc37875bca272355646136", func := "ganglion/ganglionlaw28.GetterAsks", spec := "getterAsks", unfollowed := true, recurses := true, apart := false }
def GetterAsksSaid : Prop := getterAsksRow.holds Try.pinned (OpenSpec.ofChange getterAsksSpec)

/-- ITS FALSE NEIGHBOUR: 'it returns false'. Refute it at one input. -/
def getterAsksWrong : ChangeSpec := { name := "getterAsks", fn := fun _ => fun
  | [d1, d2, d3] => { results := [.lit (.bool false)], args := [d1, d2, d3] }
  | _ => none }
def GetterAsksWrongFalsely : Prop := getterAsksRow.holds Try.pinned (OpenSpec.ofChange getterAsksWrong)

/-- 'ganglionlaw28.GetterMarks': WHATEVER THE INPUT: true; the input reads as it did. -/
def getterMarksSpec : ChangeSpec := { name := "getterMarks", fn := fun _ => fun
  | [d1, d2, d3] => { results := [.lit (.bool true)], args := [d1, d2, d3] }
  | _ => none }
def getterMarksRow : OpenClaim := { program := "ytdgmcaehadigaaa", sum := "a3fc81fde3d8321b977f81e46f68f7375b76821e56fc37875bca272355646136", func := "ganglion/ganglionlaw28.GetterMarks", spec := "getterMarks", unfollowed := true, recurses := true, apart := false }
def GetterMarksSaid : Prop := getterMarksRow.holds Try.pinned (OpenSpec.ofChange getterMarksSpec)

/-- ITS FALSE NEIGHBOUR: 'it returns false'. Refute it at one input. -/
def getterMarksWrong : ChangeSpec := { name := "getterMarks", fn := fun _ => fun
  | [d1, d2, d3] => { results := [.lit (.bool false)], args := [d1, d2, d3] }
  | _ => none }
def GetterMarksWrongFalsely : Prop := getterMarksRow.holds Try.pinned (OpenSpec.ofChange getterMarksWrong)

/- THE SECOND FORM. 'bulk': how many values and letters a reading holds, each counted each time it is reached (what is shared counts as often as it is met; a slice's spare places count too). A statement '..UptoSaid' is the law's where the arguments, and the package variables that the reading takes, are together of bulk at most 1048576: NARROWER than '..Said'. Prove '..Said' where nothing that the law and all that it calls make is longer than what came in: it says more and counts as full. Else prove '..UptoSaid'. A law counts once. -/
mutual
def uptoBulk {H : Type} : DataW H → Nat
  | .lit (.string bytes) => bytes.length + 1
  | .lit _ => 1
  | .nil => 1
  | .ptr d => uptoBulk d + 1
  | .slice elems spare => uptoBulkAll elems + uptoBulkAll spare + 1
  | .agg parts => uptoBulkAll parts + 1
  | .iface _ d => uptoBulk d + 1
  | .map entries => uptoBulkEntries entries + 1
  | .held _ => 1
def uptoBulkAll {H : Type} : List (DataW H) → Nat
  | [] => 0
  | d :: r => uptoBulk d + uptoBulkAll r
def uptoBulkEntries {H : Type} : List (Lit × DataW H) → Nat
  | [] => 0
  | x :: r => uptoBulkEntry x + uptoBulkEntries r
def uptoBulkEntry {H : Type} : Lit × DataW H → Nat
  | (.string bytes, d) => bytes.length + uptoBulk d + 1
  | (_, d) => uptoBulk d + 1
 end
def uptoSmall : (H : Type) → List (DataW H) → Bool := fun _ ds => decide (uptoBulkAll ds ≤ 1048576)
def OpenSpec.upto (s : _root_.Go.ChangeSpec) : _root_.Go.OpenSpec := { _root_.Go.OpenSpec.ofChange s with cond := some uptoSmall }

/-- 'ganglionlaw18.RacePlays', WHERE WHAT IT READS IS OF BULK AT MOST 1048576: true; the input reads as it did. -/
def racePlaysUptoRow : OpenClaim := { program := "ytdgmcaehadigaaa", sum := "a3fc81fde3d8321b977f81e46f68f7375b76821e56fc37875bca272355646136", func := "ganglion/ganglionlaw18.RacePlays", spec := "racePlays", apart := false, narrowed := true }
def RacePlaysUptoSaid : Prop := racePlaysUptoRow.holds Try.pinned (OpenSpec.upto racePlaysSpec)

/-- 'ganglionlaw19.LockPlays', WHERE WHAT IT READS IS OF BULK AT MOST 1048576: true; the input reads as it did. -/
def lockPlaysUptoRow : OpenClaim := { program := "ytdgmcaehadigaaa", sum := "a3fc81fde3d8321b977f81e46f68f7375b76821e56fc37875bca272355646136", func := "ganglion/ganglionlaw19.LockPlays", spec := "lockPlays", recurses := true, apart := false, narrowed := true }
def LockPlaysUptoSaid : Prop := lockPlaysUptoRow.holds Try.pinned (OpenSpec.upto lockPlaysSpec)

/-- 'ganglionlaw20.EpochPlays', WHERE WHAT IT READS IS OF BULK AT MOST 1048576: true; the input reads as it did. -/
def epochPlaysUptoRow : OpenClaim := { program := "ytdgmcaehadigaaa", sum := "a3fc81fde3d8321b977f81e46f68f7375b76821e56fc37875bca272355646136", func := "ganglion/ganglionlaw20.EpochPlays", spec := "epochPlays", unfollowed := true, recurses := true, apart := false, narrowed := true }
def EpochPlaysUptoSaid : Prop := epochPlaysUptoRow.holds Try.pinned (OpenSpec.upto epochPlaysSpec)

/-- 'ganglionlaw28.GetterAsks', WHERE WHAT IT READS IS OF BULK AT MOST 1048576: true; the input reads as it did. -/
def getterAsksUptoRow : OpenClaim := { program := "ytdgmcaehadigaaa", sum := "a3fc81fde3d8321b977f81e46f68f7375b76821e56fc37875bca272355646136", func := "ganglion/ganglionlaw28.GetterAsks", spec := "getterAsks", unfollowed := true, recurses := true, apart := false, narrowed := true }
def GetterAsksUptoSaid : Prop := getterAsksUptoRow.holds Try.pinned (OpenSpec.upto getterAsksSpec)

/-- 'ganglionlaw28.GetterMarks', WHERE WHAT IT READS IS OF BULK AT MOST 1048576: true; the input reads as it did. -/
def getterMarksUptoRow : OpenClaim := { program := "ytdgmcaehadigaaa", sum := "a3fc81fde3d8321b977f81e46f68f7375b76821e56fc37875bca272355646136", func := "ganglion/ganglionlaw28.GetterMarks", spec := "getterMarks", unfollowed := true, recurses := true, apart := false, narrowed := true }
def GetterMarksUptoSaid : Prop := getterMarksUptoRow.holds Try.pinned (OpenSpec.upto getterMarksSpec)

end Rows
end Go.Proofs.Ytdgmcaehadigaaa
