/-
  No cell of these rows narrows 'for every input' (looked for: loops, veiled, ifaces, maps, wideKeys, modest, calm, conditions, laid).
  DERIVED. THE GIVEN ROWS OF THIS SEAT. 6 by the template 'for every input the law returns true; each argument reads behind the call as it read before'; 0 by the template 'total and deterministic' (their statements: YtabcnmpnjnegdaaTotals.lean).
  GIVEN WITH THE SEED: the statements are not yours to turn. If you find one false, say at which input.
  Laid BY PROGRAM, IN A SANDBOX (cutbox-rows.mjs): the forced cells as the released guide's own fill.sh prints them over the translation a6743335b185d4e8… (all of the seat's roots in one cut). By AI agents, Wed Nov 11 2026. No macro, syntax, notation, axiom, sorry.
-/
import Derived.Test.YtabcnmpnjnegdaaChecked
import GoSem.Claim
import GoSem.ClaimJoined
import GoSem.ClaimMapViews
import Derived.JoinedTies
import Derived.KernelRfl
namespace Go.Proofs.Ytabcnmpnjnegdaa
/- THE CELL 'sum', in the pinned program and in every row, IS THE sha256 OF THE DUMP (.gsa) THAT YtabcnmpnjnegdaaProg.lean LOADS. Nothing in Lean hashes anything: it is a label: what it is worth is what the hold of that sum in a sandbox is worth. -/
noncomputable def Try.pinned : Pinned := { name := "ytabcnmpnjnegdaa", sum := "a6743335b185d4e8fb1367b67f7614f33b9804c4425dc51767228ced25e0258f", checked := Try.checked }
namespace Rows
def none {H : Type} : Left H := { results := [], args := [] }

/-- 'ganglionlaw17.ClockTells': WHATEVER THE INPUT: true; the input reads as it did. -/
def clockTellsSpec : ChangeSpec := { name := "clockTells", fn := fun _ => fun
  | [d1, d2, d3] => { results := [.lit (.bool true)], args := [d1, d2, d3] }
  | _ => none }
def clockTellsRow : OpenClaim := { program := "ytabcnmpnjnegdaa", sum := "a6743335b185d4e8fb1367b67f7614f33b9804c4425dc51767228ced25e0258f", func := "ganglion/ganglionlaw17.ClockTells", spec := "clockTells", apart := false }
def ClockTellsSaid : Prop := clockTellsRow.holds Try.pinned (OpenSpec.ofChange clockTellsSpec)

/-- ITS FALSE NEIGHBOUR: 'it returns false'. Refute it at one input. -/
def clockTellsWrong : ChangeSpec := { name := "clockTells", fn := fun _ => fun
  | [d1, d2, d3] => { results := [.lit (.bool false)], args := [d1, d2, d3] }
  | _ => none }
def ClockTellsWrongFalsely : Prop := clockTellsRow.holds Try.pinned (OpenSpec.ofChange clockTellsWrong)

/-- 'ganglionlaw17.ClockJoins': WHATEVER THE INPUT: true; the input reads as it did. -/
def clockJoinsSpec : ChangeSpec := { name := "clockJoins", fn := fun _ => fun
  | [d1, d2, d3, d4] => { results := [.lit (.bool true)], args := [d1, d2, d3, d4] }
  | _ => none }
def clockJoinsRow : OpenClaim := { program := "ytabcnmpnjnegdaa", sum := "a6743335b185d4e8fb1367b67f7614f33b9804c4425dc51767228ced25e0258f", func := "ganglion/ganglionlaw17.ClockJoins", spec := "clockJoins", apart := false }
def ClockJoinsSaid : Prop := clockJoinsRow.holds Try.pinned (OpenSpec.ofChange clockJoinsSpec)

/-- ITS FALSE NEIGHBOUR: 'it returns false'. Refute it at one input. -/
def clockJoinsWrong : ChangeSpec := { name := "clockJoins", fn := fun _ => fun
  | [d1, d2, d3, d4] => { results := [.lit (.bool false)], args := [d1, d2, d3, d4] }
  | _ => none }
def ClockJoinsWrongFalsely : Prop := clockJoinsRow.holds Try.pinned (OpenSpec.ofChange clockJoinsWrong)

/-- 'ganglionlaw18.RacePlays': WHATEVER THE INPUT: true; the input reads as it did. -/
def racePlaysSpec : ChangeSpec := { name := "racePlays", fn := fun _ => fun
  | [d] => { results := [.lit (.bool true)], args := [d] }
  | _ => none }
def racePlaysRow : OpenClaim := { program := "ytabcnmpnjnegdaa", sum := "a6743335b185d4e8fb1367b67f7614f33b9804c4425dc51767228ced25e0258f", func := "ganglion/ganglionlaw18.RacePlays", spec := "racePlays", apart := false }
def RacePlaysSaid : Prop := racePlaysRow.holds Try.pinned (OpenSpec.ofChange racePlaysSpec)

/-- ITS FALSE NEIGHBOUR: 'it returns false'. Refute it at one input. -/
def racePlaysWrong : ChangeSpec := { name := "racePlays", fn := fun _ => fun
  | [d] => { results := [.lit (.bool false)], args := [d] }
  | _ => none }
def RacePlaysWrongFalsely : Prop := racePlaysRow.holds Try.pinned (OpenSpec.ofChange racePlaysWrong)

/-- 'ganglionlaw18.RaceJust': WHATEVER THE INPUT: true; the input reads as it did. -/
def raceJustSpec : ChangeSpec := { name := "raceJust", fn := fun _ => fun
  | [d] => { results := [.lit (.bool true)], args := [d] }
  | _ => none }
def raceJustRow : OpenClaim := { program := "ytabcnmpnjnegdaa", sum := "a6743335b185d4e8fb1367b67f7614f33b9804c4425dc51767228ced25e0258f", func := "ganglion/ganglionlaw18.RaceJust", spec := "raceJust", apart := false }
def RaceJustSaid : Prop := raceJustRow.holds Try.pinned (OpenSpec.ofChange raceJustSpec)

/-- ITS FALSE NEIGHBOUR: 'it returns false'. Refute it at one input. -/
def raceJustWrong : ChangeSpec := { name := "raceJust", fn := fun _ => fun
  | [d] => { results := [.lit (.bool false)], args := [d] }
  | _ => none }
def RaceJustWrongFalsely : Prop := raceJustRow.holds Try.pinned (OpenSpec.ofChange raceJustWrong)

/-- 'gangliontop.TopHanded': WHATEVER THE INPUT: true; the input reads as it did. -/
def topHandedSpec : ChangeSpec := { name := "topHanded", fn := fun _ => fun
  | [d1, d2] => { results := [.lit (.bool true)], args := [d1, d2] }
  | _ => none }
def topHandedRow : OpenClaim := { program := "ytabcnmpnjnegdaa", sum := "a6743335b185d4e8fb1367b67f7614f33b9804c4425dc51767228ced25e0258f", func := "ganglion/gangliontop.TopHanded", spec := "topHanded", apart := false }
def TopHandedSaid : Prop := topHandedRow.holds Try.pinned (OpenSpec.ofChange topHandedSpec)

/-- ITS FALSE NEIGHBOUR: 'it returns false'. Refute it at one input. -/
def topHandedWrong : ChangeSpec := { name := "topHanded", fn := fun _ => fun
  | [d1, d2] => { results := [.lit (.bool false)], args := [d1, d2] }
  | _ => none }
def TopHandedWrongFalsely : Prop := topHandedRow.holds Try.pinned (OpenSpec.ofChange topHandedWrong)

/-- 'gangliontop.TopKnown': WHATEVER THE INPUT: true; the input reads as it did. -/
def topKnownSpec : ChangeSpec := { name := "topKnown", fn := fun _ => fun
  | [d1, d2, d3, d4, d5] => { results := [.lit (.bool true)], args := [d1, d2, d3, d4, d5] }
  | _ => none }
def topKnownRow : OpenClaim := { program := "ytabcnmpnjnegdaa", sum := "a6743335b185d4e8fb1367b67f7614f33b9804c4425dc51767228ced25e0258f", func := "ganglion/gangliontop.TopKnown", spec := "topKnown", apart := false }
def TopKnownSaid : Prop := topKnownRow.holds Try.pinned (OpenSpec.ofChange topKnownSpec)

/-- ITS FALSE NEIGHBOUR: 'it returns false'. Refute it at one input. -/
def topKnownWrong : ChangeSpec := { name := "topKnown", fn := fun _ => fun
  | [d1, d2, d3, d4, d5] => { results := [.lit (.bool false)], args := [d1, d2, d3, d4, d5] }
  | _ => none }
def TopKnownWrongFalsely : Prop := topKnownRow.holds Try.pinned (OpenSpec.ofChange topKnownWrong)

/- THE SECOND FORM. 'bulk': how many values and letters a reading holds, each counted each time it is reached (what is shared counts as often as it is met; a slice's spare places count too). A statement '..UptoSaid' is the law's where the arguments, and the package variables that the reading takes, are together of bulk at most 1048576: NARROWER than '..Said'. Prove '..Said' where nothing that the law and all that it calls make is longer than what came in: it says more and counts as full. Else prove '..UptoSaid'. A law counts once. -/
mutual
def uptoBulk {H : Type} : DataW H → Nat
  | .lit (.string bytes) => bytes.length + 1
  | .lit _ => 1
  | .nil => 1
  | .ptr d => uptoBulk d + 1
  | .slice elems spare => uptoBulkAll elems + uptoBulkAll spare + 1
  | .agg parts => uptoBulkAll parts + 1
  | .iface _ d => uptoBulk d + 1
  | .map entries => uptoBulkEntries entries + 1
  | .held _ => 1
def uptoBulkAll {H : Type} : List (DataW H) → Nat
  | [] => 0
  | d :: r => uptoBulk d + uptoBulkAll r
def uptoBulkEntries {H : Type} : List (Lit × DataW H) → Nat
  | [] => 0
  | x :: r => uptoBulkEntry x + uptoBulkEntries r
def uptoBulkEntry {H : Type} : Lit × DataW H → Nat
  | (.string bytes, d) => bytes.length + uptoBulk d + 1
  | (_, d) => uptoBulk d + 1
 end
def uptoSmall : (H : Type) → List (DataW H) → Bool := fun _ ds => decide (uptoBulkAll ds ≤ 1048576)
def OpenSpec.upto (s : _root_.Go.ChangeSpec) : _root_.Go.OpenSpec := { _root_.Go.OpenSpec.ofChange s with cond := some uptoSmall }

/-- 'ganglionlaw17.ClockTells', WHERE WHAT IT READS IS OF BULK AT MOST 1048576: true; the input reads as it did. -/
def clockTellsUptoRow : OpenClaim := { program := "ytabcnmpnjnegdaa", sum := "a6743335b185d4e8fb1367b67f7614f33b9804c4425dc51767228ced25e0258f", func := "ganglion/ganglionlaw17.ClockTells", spec := "clockTells", apart := false, narrowed := true }
def ClockTellsUptoSaid : Prop := clockTellsUptoRow.holds Try.pinned (OpenSpec.upto clockTellsSpec)

/-- 'ganglionlaw17.ClockJoins', WHERE WHAT IT READS IS OF BULK AT MOST 1048576: true; the input reads as it did. -/
def clockJoinsUptoRow : OpenClaim := { program := "ytabcnmpnjnegdaa", sum := "a6743335b185d4e8fb1367b67f7614f33b9804c4425dc51767228ced25e0258f", func := "ganglion/ganglionlaw17.ClockJoins", spec := "clockJoins", apart := false, narrowed := true }
def ClockJoinsUptoSaid : Prop := clockJoinsUptoRow.holds Try.pinned (OpenSpec.upto clockJoinsSpec)

/-- 'ganglionlaw18.RacePlays', WHERE WHAT IT READS IS OF BULK AT MOST 1048576: true; the input reads as it did. -/
def racePlaysUptoRow : OpenClaim := { program := "ytabcnmpnjnegdaa", sum := "a6743335b185d4e8fb1367b67f7614f33b9804c4425dc51767228ced25e0258f", func := "ganglion/ganglionlaw18.RacePlays", spec := "racePlays", apart := false, narrowed := true }
def RacePlaysUptoSaid : Prop := racePlaysUptoRow.holds Try.pinned (OpenSpec.upto racePlaysSpec)

/-- 'ganglionlaw18.RaceJust', WHERE WHAT IT READS IS OF BULK AT MOST 1048576: true; the input reads as it did. -/
def raceJustUptoRow : OpenClaim := { program := "ytabcnmpnjnegdaa", sum := "a6743335b185d4e8fb1367b67f7614f33b9804c4425dc51767228ced25e0258f", func := "ganglion/ganglionlaw18.RaceJust", spec := "raceJust", apart := false, narrowed := true }
def RaceJustUptoSaid : Prop := raceJustUptoRow.holds Try.pinned (OpenSpec.upto raceJustSpec)

/-- 'gangliontop.TopHanded', WHERE WHAT IT READS IS OF BULK AT MOST 1048576: true; the input reads as it did. -/
def topHandedUptoRow : OpenClaim := { program := "ytabcnmpnjnegdaa", sum := "a6743335b185d4e8fb1367b67f7614f33b9804c4425dc51767228ced25e0258f", func := "ganglion/gangliontop.TopHanded", spec := "topHanded", apart := false, narrowed := true }
def TopHandedUptoSaid : Prop := topHandedUptoRow.holds Try.pinned (OpenSpec.upto topHandedSpec)

/-- 'gangliontop.TopKnown', WHERE WHAT IT READS IS OF BULK AT MOST 1048576: true; the input reads as it did. -/
def topKnownUptoRow : OpenClaim := { program := "ytabcnmpnjnegdaa", sum := "a6743335b185d4e8fb1367b67f7614f33b9804c4425dc51767228ced25e0258f", func := "ganglion/gangliontop.TopKnown", spec := "topKnown", apart := false, narrowed := true }
def TopKnownUptoSaid : Prop := topKnownUptoRow.holds Try.pinned (OpenSpec.upto topKnownSpec)

end Rows
end Go.Proofs.Ytabcnmpnjnegdaa
