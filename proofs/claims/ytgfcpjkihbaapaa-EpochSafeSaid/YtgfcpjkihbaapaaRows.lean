/-
  No cell of these rows narrows 'for every input' (looked for: loops, veiled, ifaces, maps, wideKeys, modest, calm, conditions, laid).
  DERIVED. THE GIVEN ROWS OF THIS SEAT. 7 by the template 'for every input the law returns true; each argument reads behind the call as it read before'; 0 by the template 'total and deterministic' (their statements: YtgfcpjkihbaapaaTotals.lean).
  GIVEN WITH THE SEED: the statements are not yours to turn. If you find one false, say at which input.
  Laid BY PROGRAM, IN A SANDBOX (cutbox-rows.mjs): the forced cells as the released guide's own fill.sh prints them over the translation 54322a790507acc8… (all of the seat's roots in one cut). By AI agents, Wed Nov 11 2026. No macro, syntax, notation, axiom, sorry.
-/
import Derived.Test.YtgfcpjkihbaapaaChecked
import GoSem.Claim
import GoSem.ClaimJoined
import GoSem.ClaimMapViews
import Derived.JoinedTies
import Derived.KernelRfl
namespace Go.Proofs.Ytgfcpjkihbaapaa
/- THE CELL 'sum', in the pinned program and in every row, IS THE sha256 OF THE DUMP (.gsa) THAT YtgfcpjkihbaapaaProg.lean LOADS. Nothing in Lean hashes anything: it is a label: what it is worth is what the hold of that sum in a sandbox is worth. -/
noncomputable def Try.pinned : Pinned := { name := "ytgfcpjkihbaapaa", sum := "54322a790507acc85f68dda7483c90f6f9d3280facd448df3242d046ff4e35ba", checked := Try.checked }
namespace Rows
def none {H : Type} : Left H := { results := [], args := [] }

/-- 'ganglionlaw18.RacePlays': WHATEVER THE INPUT: true; the input reads as it did. -/
def racePlaysSpec : ChangeSpec := { name := "racePlays", fn := fun _ => fun
  | [d] => { results := [.lit (.bool true)], args := [d] }
  | _ => none }
def racePlaysRow : OpenClaim := { program := "ytgfcpjkihbaapaa", sum := "54322a790507acc85f68dda7483c90f6f9d3280facd448df3242d046ff4e35ba", func := "ganglion/ganglionlaw18.RacePlays", spec := "racePlays", apart := false }
def RacePlaysSaid : Prop := racePlaysRow.holds Try.pinned (OpenSpec.ofChange racePlaysSpec)

/-- ITS FALSE NEIGHBOUR: 'it returns false'. Refute it at one input. -/
def racePlaysWrong : ChangeSpec := { name := "racePlays", fn := fun _ => fun
  | [d] => { results := [.lit (.bool false)], args := [d] }
  | _ => none }
def RacePlaysWrongFalsely : Prop := racePlaysRow.holds Try.pinned (OpenSpec.ofChange racePlaysWrong)

/-- 'ganglionlaw19.LockPlays': WHATEVER THE INPUT: true; the input reads as it did. -/
def lockPlaysSpec : ChangeSpec := { name := "lockPlays", fn := fun _ => fun
  | [d] => { results := [.lit (.bool true)], args := [d] }
  | _ => none }
def lockPlaysRow : OpenClaim := { program := "ytgfcpjkihbaapaa", sum := "54322a790507acc85f68dda7483c90f6f9d3280facd448df3242d046ff4e35ba", func := "ganglion/ganglionlaw19.LockPlays", spec := "lockPlays", recurses := true, apart := false }
def LockPlaysSaid : Prop := lockPlaysRow.holds Try.pinned (OpenSpec.ofChange lockPlaysSpec)

/-- ITS FALSE NEIGHBOUR: 'it returns false'. Refute it at one input. -/
def lockPlaysWrong : ChangeSpec := { name := "lockPlays", fn := fun _ => fun
  | [d] => { results := [.lit (.bool false)], args := [d] }
  | _ => none }
def LockPlaysWrongFalsely : Prop := lockPlaysRow.holds Try.pinned (OpenSpec.ofChange lockPlaysWrong)

/-- 'ganglionlaw19.LockRises': WHATEVER THE INPUT: true; the input reads as it did. -/
def lockRisesSpec : ChangeSpec := { name := "lockRises", fn := fun _ => fun
  | [d] => { results := [.lit (.bool true)], args := [d] }
  | _ => none }
def lockRisesRow : OpenClaim := { program := "ytgfcpjkihbaapaa", sum := "54322a790507acc85f68dda7483c90f6f9d3280facd448df3242d046ff4e35ba", func := "ganglion/ganglionlaw19.LockRises", spec := "lockRises", recurses := true, apart := false }
def LockRisesSaid : Prop := lockRisesRow.holds Try.pinned (OpenSpec.ofChange lockRisesSpec)

/-- ITS FALSE NEIGHBOUR: 'it returns false'. Refute it at one input. -/
def lockRisesWrong : ChangeSpec := { name := "lockRises", fn := fun _ => fun
  | [d] => { results := [.lit (.bool false)], args := [d] }
  | _ => none }
def LockRisesWrongFalsely : Prop := lockRisesRow.holds Try.pinned (OpenSpec.ofChange lockRisesWrong)

/-- 'ganglionlaw20.EpochPlays': WHATEVER THE INPUT: true; the input reads as it did. -/
def epochPlaysSpec : ChangeSpec := { name := "epochPlays", fn := fun _ => fun
  | [d1, d2] => { results := [.lit (.bool true)], args := [d1, d2] }
  | _ => none }
def epochPlaysRow : OpenClaim := { program := "ytgfcpjkihbaapaa", sum := "54322a790507acc85f68dda7483c90f6f9d3280facd448df3242d046ff4e35ba", func := "ganglion/ganglionlaw20.EpochPlays", spec := "epochPlays", unfollowed := true, recurses := true, apart := false }
def EpochPlaysSaid : Prop := epochPlaysRow.holds Try.pinned (OpenSpec.ofChange epochPlaysSpec)

/-- ITS FALSE NEIGHBOUR: 'it returns false'. Refute it at one input. -/
def epochPlaysWrong : ChangeSpec := { name := "epochPlays", fn := fun _ => fun
  | [d1, d2] => { results := [.lit (.bool false)], args := [d1, d2] }
  | _ => none }
def EpochPlaysWrongFalsely : Prop := epochPlaysRow.holds Try.pinned (OpenSpec.ofChange epochPlaysWrong)

/-- 'ganglionlaw20.EpochSafe': WHATEVER THE INPUT: true; the input reads as it did. -/
def epochSafeSpec : ChangeSpec := { name := "epochSafe", fn := fun _ => fun
  | [d1, d2] => { results := [.lit (.bool true)], args := [d1, d2] }
  | _ => none }
def epochSafeRow : OpenClaim := { program := "ytgfcpjkihbaapaa", sum := "54322a790507acc85f68dda7483c90f6f9d3280facd448df3242d046ff4e35ba", func := "ganglion/ganglionlaw20.EpochSafe", spec := "epochSafe", unfollowed := true, recurses := true, apart := false }
def EpochSafeSaid : Prop := epochSafeRow.holds Try.pinned (OpenSpec.ofChange epochSafeSpec)

/-- ITS FALSE NEIGHBOUR: 'it returns false'. Refute it at one input. -/
def epochSafeWrong : ChangeSpec := { name := "epochSafe", fn := fun _ => fun
  | [d1, d2] => { results := [.lit (.bool false)], args := [d1, d2] }
  | _ => none }
def EpochSafeWrongFalsely : Prop := epochSafeRow.holds Try.pinned (OpenSpec.ofChange epochSafeWrong)

/-- 'gangliontop.TopGuarded': WHATEVER THE INPUT: true; the input reads as it did. -/
def topGuardedSpec : ChangeSpec := { name := "topGuarded", fn := fun _ => fun
  | [d] => { results := [.lit (.bool true)], args := [d] }
  | _ => none }
def topGuardedRow : OpenClaim := { program := "ytgfcpjkihbaapaa", sum := "54322a790507acc85f68dda7483c90f6f9d3280facd448df3242d046ff4e35ba", func := "ganglion/gangliontop.TopGuarded", spec := "topGuarded", apart := false }
def TopGuardedSaid : Prop := topGuardedRow.holds Try.pinned (OpenSpec.ofChange topGuardedSpec)

/-- ITS FALSE NEIGHBOUR: 'it returns false'. Refute it at one input. -/
def topGuardedWrong : ChangeSpec := { name := "topGuarded", fn := fun _ => fun
  | [d] => { results := [.lit (.bool false)], args := [d] }
  | _ => none }
def TopGuardedWrongFalsely : Prop := topGuardedRow.holds Try.pinned (OpenSpec.ofChange topGuardedWrong)

/-- 'gangliontop.TopPinned': WHATEVER THE INPUT: true; the input reads as it did. -/
def topPinnedSpec : ChangeSpec := { name := "topPinned", fn := fun _ => fun
  | [d1, d2, d3, d4] => { results := [.lit (.bool true)], args := [d1, d2, d3, d4] }
  | _ => none }
def topPinnedRow : OpenClaim := { program := "ytgfcpjkihbaapaa", sum := "54322a790507acc85f68dda7483c90f6f9d3280facd448df3242d046ff4e35ba", func := "ganglion/gangliontop.TopPinned", spec := "topPinned", unfollowed := true, recurses := true, apart := false }
def TopPinnedSaid : Prop := topPinnedRow.holds Try.pinned (OpenSpec.ofChange topPinnedSpec)

/-- ITS FALSE NEIGHBOUR: 'it returns false'. Refute it at one input. -/
def topPinnedWrong : ChangeSpec := { name := "topPinned", fn := fun _ => fun
  | [d1, d2, d3, d4] => { results := [.lit (.bool false)], args := [d1, d2, d3, d4] }
  | _ => none }
def TopPinnedWrongFalsely : Prop := topPinnedRow.holds Try.pinned (OpenSpec.ofChange topPinnedWrong)

/- THE SECOND FORM. 'bulk': how many values and letters a reading holds, each counted each time it is reached (what is shared counts as often as it is met; a slice's spare places count too). A statement '..UptoSaid' is the law's where the arguments, and the package variables that the reading takes, are together of bulk at most 1048576: NARROWER than '..Said'. Prove '..Said' where nothing that the law and all that it calls make is longer than what came in: it says more and counts as full. Else prove '..UptoSaid'. A law counts once. -/
mutual
def uptoBulk {H : Type} : DataW H → Nat
  | .lit (.string bytes) => bytes.length + 1
  | .lit _ => 1
  | .nil => 1
  | .ptr d => uptoBulk d + 1
  | .slice elems spare => uptoBulkAll elems + uptoBulkAll spare + 1
  | .agg parts => uptoBulkAll parts + 1
  | .iface _ d => uptoBulk d + 1
  | .map entries => uptoBulkEntries entries + 1
  | .held _ => 1
def uptoBulkAll {H : Type} : List (DataW H) → Nat
  | [] => 0
  | d :: r => uptoBulk d + uptoBulkAll r
def uptoBulkEntries {H : Type} : List (Lit × DataW H) → Nat
  | [] => 0
  | x :: r => uptoBulkEntry x + uptoBulkEntries r
def uptoBulkEntry {H : Type} : Lit × DataW H → Nat
  | (.string bytes, d) => bytes.length + uptoBulk d + 1
  | (_, d) => uptoBulk d + 1
 end
def uptoSmall : (H : Type) → List (DataW H) → Bool := fun _ ds => decide (uptoBulkAll ds ≤ 1048576)
def OpenSpec.upto (s : _root_.Go.ChangeSpec) : _root_.Go.OpenSpec := { _root_.Go.OpenSpec.ofChange s with cond := some uptoSmall }

/-- 'ganglionlaw18.RacePlays', WHERE WHAT IT READS IS OF BULK AT MOST 1048576: true; the input reads as it did. -/
def racePlaysUptoRow : OpenClaim := { program := "ytgfcpjkihbaapaa", sum := "54322a790507acc85f68dda7483c90f6f9d3280facd448df3242d046ff4e35ba", func := "ganglion/ganglionlaw18.RacePlays", spec := "racePlays", apart := false, narrowed := true }
def RacePlaysUptoSaid : Prop := racePlaysUptoRow.holds Try.pinned (OpenSpec.upto racePlaysSpec)

/-- 'ganglionlaw19.LockPlays', WHERE WHAT IT READS IS OF BULK AT MOST 1048576: true; the input reads as it did. -/
def lockPlaysUptoRow : OpenClaim := { program := "ytgfcpjkihbaapaa", sum := "54322a790507acc85f68dda7483c90f6f9d3280facd448df3242d046ff4e35ba", func := "ganglion/ganglionlaw19.LockPlays", spec := "lockPlays", recurses := true, apart := false, narrowed := true }
def LockPlaysUptoSaid : Prop := lockPlaysUptoRow.holds Try.pinned (OpenSpec.upto lockPlaysSpec)

/-- 'ganglionlaw19.LockRises', WHERE WHAT IT READS IS OF BULK AT MOST 1048576: true; the input reads as it did. -/
def lockRisesUptoRow : OpenClaim := { program := "ytgfcpjkihbaapaa", sum := "54322a790507acc85f68dda7483c90f6f9d3280facd448df3242d046ff4e35ba", func := "ganglion/ganglionlaw19.LockRises", spec := "lockRises", recurses := true, apart := false, narrowed := true }
def LockRisesUptoSaid : Prop := lockRisesUptoRow.holds Try.pinned (OpenSpec.upto lockRisesSpec)

/-- 'ganglionlaw20.EpochPlays', WHERE WHAT IT READS IS OF BULK AT MOST 1048576: true; the input reads as it did. -/
def epochPlaysUptoRow : OpenClaim := { program := "ytgfcpjkihbaapaa", sum := "54322a790507acc85f68dda7483c90f6f9d3280facd448df3242d046ff4e35ba", func := "ganglion/ganglionlaw20.EpochPlays", spec := "epochPlays", unfollowed := true, recurses := true, apart := false, narrowed := true }
def EpochPlaysUptoSaid : Prop := epochPlaysUptoRow.holds Try.pinned (OpenSpec.upto epochPlaysSpec)

/-- 'ganglionlaw20.EpochSafe', WHERE WHAT IT READS IS OF BULK AT MOST 1048576: true; the input reads as it did. -/
def epochSafeUptoRow : OpenClaim := { program := "ytgfcpjkihbaapaa", sum := "54322a790507acc85f68dda7483c90f6f9d3280facd448df3242d046ff4e35ba", func := "ganglion/ganglionlaw20.EpochSafe", spec := "epochSafe", unfollowed := true, recurses := true, apart := false, narrowed := true }
def EpochSafeUptoSaid : Prop := epochSafeUptoRow.holds Try.pinned (OpenSpec.upto epochSafeSpec)

/-- 'gangliontop.TopGuarded', WHERE WHAT IT READS IS OF BULK AT MOST 1048576: true; the input reads as it did. -/
def topGuardedUptoRow : OpenClaim := { program := "ytgfcpjkihbaapaa", sum := "54322a790507acc85f68dda7483c90f6f9d3280facd448df3242d046ff4e35ba", func := "ganglion/gangliontop.TopGuarded", spec := "topGuarded", apart := false, narrowed := true }
def TopGuardedUptoSaid : Prop := topGuardedUptoRow.holds Try.pinned (OpenSpec.upto topGuardedSpec)

/-- 'gangliontop.TopPinned', WHERE WHAT IT READS IS OF BULK AT MOST 1048576: true; the input reads as it did. -/
def topPinnedUptoRow : OpenClaim := { program := "ytgfcpjkihbaapaa", sum := "54322a790507acc85f68dda7483c90f6f9d3280facd448df3242d046ff4e35ba", func := "ganglion/gangliontop.TopPinned", spec := "topPinned", unfollowed := true, recurses := true, apart := false, narrowed := true }
def TopPinnedUptoSaid : Prop := topPinnedUptoRow.holds Try.pinned (OpenSpec.upto topPinnedSpec)

end Rows
end Go.Proofs.Ytgfcpjkihbaapaa
