/-
  No cell of these rows narrows 'for every input' (looked for: loops, veiled, ifaces, maps, wideKeys, modest, calm, conditions, laid).
  DERIVED. THE GIVEN ROWS OF THIS SEAT. 9 by the template 'for every input the law returns true; each argument reads behind the call as it read before'; 0 by the template 'total and deterministic' (their statements: YteiknnpoaijobaaTotals.lean).
  GIVEN WITH THE SEED: the statements are not yours to turn. If you find one false, say at which input.
  Laid BY PROGRAM, IN A SANDBOX (cutbox-rows.mjs): the forced cells as the released guide's own fill.sh prints them over the translation 97cd3f1fd5f40e6c… (all of the seat's roots in one cut). By AI agents, Wed Nov 11 2026. No macro, syntax, notation, axiom, sorry.
-/
import Derived.Test.YteiknnpoaijobaaChecked
import GoSem.Claim
import GoSem.ClaimJoined
import GoSem.ClaimMapViews
import Derived.JoinedTies
import Derived.KernelRfl
namespace Go.Proofs.Yteiknnpoaijobaa
/- THE CELL 'sum', in the pinned program and in every row, IS THE sha256 OF THE DUMP (.gsa) THAT YteiknnpoaijobaaProg.lean LOADS. Nothing in Lean hashes anything: it is a label: what it is worth is what the hold of that sum in a sandbox is worth. -/
noncomputable def Try.pinned : Pinned := { name := "yteiknnpoaijobaa", sum := "97cd3f1fd5f40e6c53b680f22a7f07606f63a036b613fe5c3d14974916c98ac6", checked := Try.checked }
namespace Rows
def none {H : Type} : Left H := { results := [], args := [] }

/-- 'ganglionlaw21.ArenaPlays': WHATEVER THE INPUT: true; the input reads as it did. -/
def arenaPlaysSpec : ChangeSpec := { name := "arenaPlays", fn := fun _ => fun
  | [d1, d2] => { results := [.lit (.bool true)], args := [d1, d2] }
  | _ => none }
def arenaPlaysRow : OpenClaim := { program := "yteiknnpoaijobaa", sum := "97cd3f1fd5f40e6c53b680f22a7f07606f63a036b613fe5c3d14974916c98ac6", func := "ganglion/ganglionlaw21.ArenaPlays", spec := "arenaPlays", apart := false }
def ArenaPlaysSaid : Prop := arenaPlaysRow.holds Try.pinned (OpenSpec.ofChange arenaPlaysSpec)

/-- ITS FALSE NEIGHBOUR: 'it returns false'. Refute it at one input. -/
def arenaPlaysWrong : ChangeSpec := { name := "arenaPlays", fn := fun _ => fun
  | [d1, d2] => { results := [.lit (.bool false)], args := [d1, d2] }
  | _ => none }
def ArenaPlaysWrongFalsely : Prop := arenaPlaysRow.holds Try.pinned (OpenSpec.ofChange arenaPlaysWrong)

/-- 'ganglionlaw21.ArenaOnce': WHATEVER THE INPUT: true; the input reads as it did. -/
def arenaOnceSpec : ChangeSpec := { name := "arenaOnce", fn := fun _ => fun
  | [d1, d2] => { results := [.lit (.bool true)], args := [d1, d2] }
  | _ => none }
def arenaOnceRow : OpenClaim := { program := "yteiknnpoaijobaa", sum := "97cd3f1fd5f40e6c53b680f22a7f07606f63a036b613fe5c3d14974916c98ac6", func := "ganglion/ganglionlaw21.ArenaOnce", spec := "arenaOnce", apart := false }
def ArenaOnceSaid : Prop := arenaOnceRow.holds Try.pinned (OpenSpec.ofChange arenaOnceSpec)

/-- ITS FALSE NEIGHBOUR: 'it returns false'. Refute it at one input. -/
def arenaOnceWrong : ChangeSpec := { name := "arenaOnce", fn := fun _ => fun
  | [d1, d2] => { results := [.lit (.bool false)], args := [d1, d2] }
  | _ => none }
def ArenaOnceWrongFalsely : Prop := arenaOnceRow.holds Try.pinned (OpenSpec.ofChange arenaOnceWrong)

/-- 'ganglionlaw22.IdmapPlays': WHATEVER THE INPUT: true; the input reads as it did. -/
def idmapPlaysSpec : ChangeSpec := { name := "idmapPlays", fn := fun _ => fun
  | [d1, d2, d3] => { results := [.lit (.bool true)], args := [d1, d2, d3] }
  | _ => none }
def idmapPlaysRow : OpenClaim := { program := "yteiknnpoaijobaa", sum := "97cd3f1fd5f40e6c53b680f22a7f07606f63a036b613fe5c3d14974916c98ac6", func := "ganglion/ganglionlaw22.IdmapPlays", spec := "idmapPlays", unfollowed := true, recurses := true, apart := false }
def IdmapPlaysSaid : Prop := idmapPlaysRow.holds Try.pinned (OpenSpec.ofChange idmapPlaysSpec)

/-- ITS FALSE NEIGHBOUR: 'it returns false'. Refute it at one input. -/
def idmapPlaysWrong : ChangeSpec := { name := "idmapPlays", fn := fun _ => fun
  | [d1, d2, d3] => { results := [.lit (.bool false)], args := [d1, d2, d3] }
  | _ => none }
def IdmapPlaysWrongFalsely : Prop := idmapPlaysRow.holds Try.pinned (OpenSpec.ofChange idmapPlaysWrong)

/-- 'ganglionlaw22.IdmapOne': WHATEVER THE INPUT: true; the input reads as it did. -/
def idmapOneSpec : ChangeSpec := { name := "idmapOne", fn := fun _ => fun
  | [d1, d2, d3] => { results := [.lit (.bool true)], args := [d1, d2, d3] }
  | _ => none }
def idmapOneRow : OpenClaim := { program := "yteiknnpoaijobaa", sum := "97cd3f1fd5f40e6c53b680f22a7f07606f63a036b613fe5c3d14974916c98ac6", func := "ganglion/ganglionlaw22.IdmapOne", spec := "idmapOne", unfollowed := true, recurses := true, apart := false }
def IdmapOneSaid : Prop := idmapOneRow.holds Try.pinned (OpenSpec.ofChange idmapOneSpec)

/-- ITS FALSE NEIGHBOUR: 'it returns false'. Refute it at one input. -/
def idmapOneWrong : ChangeSpec := { name := "idmapOne", fn := fun _ => fun
  | [d1, d2, d3] => { results := [.lit (.bool false)], args := [d1, d2, d3] }
  | _ => none }
def IdmapOneWrongFalsely : Prop := idmapOneRow.holds Try.pinned (OpenSpec.ofChange idmapOneWrong)

/-- 'ganglionlaw18.RacePlays': WHATEVER THE INPUT: true; the input reads as it did. -/
def racePlaysSpec : ChangeSpec := { name := "racePlays", fn := fun _ => fun
  | [d] => { results := [.lit (.bool true)], args := [d] }
  | _ => none }
def racePlaysRow : OpenClaim := { program := "yteiknnpoaijobaa", sum := "97cd3f1fd5f40e6c53b680f22a7f07606f63a036b613fe5c3d14974916c98ac6", func := "ganglion/ganglionlaw18.RacePlays", spec := "racePlays", apart := false }
def RacePlaysSaid : Prop := racePlaysRow.holds Try.pinned (OpenSpec.ofChange racePlaysSpec)

/-- ITS FALSE NEIGHBOUR: 'it returns false'. Refute it at one input. -/
def racePlaysWrong : ChangeSpec := { name := "racePlays", fn := fun _ => fun
  | [d] => { results := [.lit (.bool false)], args := [d] }
  | _ => none }
def RacePlaysWrongFalsely : Prop := racePlaysRow.holds Try.pinned (OpenSpec.ofChange racePlaysWrong)

/-- 'ganglionlaw19.LockPlays': WHATEVER THE INPUT: true; the input reads as it did. -/
def lockPlaysSpec : ChangeSpec := { name := "lockPlays", fn := fun _ => fun
  | [d] => { results := [.lit (.bool true)], args := [d] }
  | _ => none }
def lockPlaysRow : OpenClaim := { program := "yteiknnpoaijobaa", sum := "97cd3f1fd5f40e6c53b680f22a7f07606f63a036b613fe5c3d14974916c98ac6", func := "ganglion/ganglionlaw19.LockPlays", spec := "lockPlays", recurses := true, apart := false }
def LockPlaysSaid : Prop := lockPlaysRow.holds Try.pinned (OpenSpec.ofChange lockPlaysSpec)

/-- ITS FALSE NEIGHBOUR: 'it returns false'. Refute it at one input. -/
def lockPlaysWrong : ChangeSpec := { name := "lockPlays", fn := fun _ => fun
  | [d] => { results := [.lit (.bool false)], args := [d] }
  | _ => none }
def LockPlaysWrongFalsely : Prop := lockPlaysRow.holds Try.pinned (OpenSpec.ofChange lockPlaysWrong)

/-- 'ganglionlaw20.EpochPlays': WHATEVER THE INPUT: true; the input reads as it did. -/
def epochPlaysSpec : ChangeSpec := { name := "epochPlays", fn := fun _ => fun
  | [d1, d2] => { results := [.lit (.bool true)], args := [d1, d2] }
  | _ => none }
def epochPlaysRow : OpenClaim := { program := "yteiknnpoaijobaa", sum := "97cd3f1fd5f40e6c53b680f22a7f07606f63a036b613fe5c3d14974916c98ac6", func := "ganglion/ganglionlaw20.EpochPlays", spec := "epochPlays", unfollowed := true, recurses := true, apart := false }
def EpochPlaysSaid : Prop := epochPlaysRow.holds Try.pinned (OpenSpec.ofChange epochPlaysSpec)

/-- ITS FALSE NEIGHBOUR: 'it returns false'. Refute it at one input. -/
def epochPlaysWrong : ChangeSpec := { name := "epochPlays", fn := fun _ => fun
  | [d1, d2] => { results := [.lit (.bool false)], args := [d1, d2] }
  | _ => none }
def EpochPlaysWrongFalsely : Prop := epochPlaysRow.holds Try.pinned (OpenSpec.ofChange epochPlaysWrong)

/-- 'gangliontop.TopStale': WHATEVER THE INPUT: true; the input reads as it did. -/
def topStaleSpec : ChangeSpec := { name := "topStale", fn := fun _ => fun
  | [d1, d2] => { results := [.lit (.bool true)], args := [d1, d2] }
  | _ => none }
def topStaleRow : OpenClaim := { program := "yteiknnpoaijobaa", sum := "97cd3f1fd5f40e6c53b680f22a7f07606f63a036b613fe5c3d14974916c98ac6", func := "ganglion/gangliontop.TopStale", spec := "topStale", unfollowed := true, recurses := true, apart := false }
def TopStaleSaid : Prop := topStaleRow.holds Try.pinned (OpenSpec.ofChange topStaleSpec)

/-- ITS FALSE NEIGHBOUR: 'it returns false'. Refute it at one input. -/
def topStaleWrong : ChangeSpec := { name := "topStale", fn := fun _ => fun
  | [d1, d2] => { results := [.lit (.bool false)], args := [d1, d2] }
  | _ => none }
def TopStaleWrongFalsely : Prop := topStaleRow.holds Try.pinned (OpenSpec.ofChange topStaleWrong)

/-- 'gangliontop.TopSharded': WHATEVER THE INPUT: true; the input reads as it did. -/
def topShardedSpec : ChangeSpec := { name := "topSharded", fn := fun _ => fun
  | [d1, d2, d3] => { results := [.lit (.bool true)], args := [d1, d2, d3] }
  | _ => none }
def topShardedRow : OpenClaim := { program := "yteiknnpoaijobaa", sum := "97cd3f1fd5f40e6c53b680f22a7f07606f63a036b613fe5c3d14974916c98ac6", func := "ganglion/gangliontop.TopSharded", spec := "topSharded", unfollowed := true, recurses := true, apart := false }
def TopShardedSaid : Prop := topShardedRow.holds Try.pinned (OpenSpec.ofChange topShardedSpec)

/-- ITS FALSE NEIGHBOUR: 'it returns false'. Refute it at one input. -/
def topShardedWrong : ChangeSpec := { name := "topSharded", fn := fun _ => fun
  | [d1, d2, d3] => { results := [.lit (.bool false)], args := [d1, d2, d3] }
  | _ => none }
def TopShardedWrongFalsely : Prop := topShardedRow.holds Try.pinned (OpenSpec.ofChange topShardedWrong)

/- THE SECOND FORM. 'bulk': how many values and letters a reading holds, each counted each time it is reached (what is shared counts as often as it is met; a slice's spare places count too). A statement '..UptoSaid' is the law's where the arguments, and the package variables that the reading takes, are together of bulk at most 1048576: NARROWER than '..Said'. Prove '..Said' where nothing that the law and all that it calls make is longer than what came in: it says more and counts as full. Else prove '..UptoSaid'. A law counts once. -/
mutual
def uptoBulk {H : Type} : DataW H → Nat
  | .lit (.string bytes) => bytes.length + 1
  | .lit _ => 1
  | .nil => 1
  | .ptr d => uptoBulk d + 1
  | .slice elems spare => uptoBulkAll elems + uptoBulkAll spare + 1
  | .agg parts => uptoBulkAll parts + 1
  | .iface _ d => uptoBulk d + 1
  | .map entries => uptoBulkEntries entries + 1
  | .held _ => 1
def uptoBulkAll {H : Type} : List (DataW H) → Nat
  | [] => 0
  | d :: r => uptoBulk d + uptoBulkAll r
def uptoBulkEntries {H : Type} : List (Lit × DataW H) → Nat
  | [] => 0
  | x :: r => uptoBulkEntry x + uptoBulkEntries r
def uptoBulkEntry {H : Type} : Lit × DataW H → Nat
  | (.string bytes, d) => bytes.length + uptoBulk d + 1
  | (_, d) => uptoBulk d + 1
 end
def uptoSmall : (H : Type) → List (DataW H) → Bool := fun _ ds => decide (uptoBulkAll ds ≤ 1048576)
def OpenSpec.upto (s : _root_.Go.ChangeSpec) : _root_.Go.OpenSpec := { _root_.Go.OpenSpec.ofChange s with cond := some uptoSmall }

/-- 'ganglionlaw21.ArenaPlays', WHERE WHAT IT READS IS OF BULK AT MOST 1048576: true; the input reads as it did. -/
def arenaPlaysUptoRow : OpenClaim := { program := "yteiknnpoaijobaa", sum := "97cd3f1fd5f40e6c53b680f22a7f07606f63a036b613fe5c3d14974916c98ac6", func := "ganglion/ganglionlaw21.ArenaPlays", spec := "arenaPlays", apart := false, narrowed := true }
def ArenaPlaysUptoSaid : Prop := arenaPlaysUptoRow.holds Try.pinned (OpenSpec.upto arenaPlaysSpec)

/-- 'ganglionlaw21.ArenaOnce', WHERE WHAT IT READS IS OF BULK AT MOST 1048576: true; the input reads as it did. -/
def arenaOnceUptoRow : OpenClaim := { program := "yteiknnpoaijobaa", sum := "97cd3f1fd5f40e6c53b680f22a7f07606f63a036b613fe5c3d14974916c98ac6", func := "ganglion/ganglionlaw21.ArenaOnce", spec := "arenaOnce", apart := false, narrowed := true }
def ArenaOnceUptoSaid : Prop := arenaOnceUptoRow.holds Try.pinned (OpenSpec.upto arenaOnceSpec)

/-- 'ganglionlaw22.IdmapPlays', WHERE WHAT IT READS IS OF BULK AT MOST 1048576: true; the input reads as it did. -/
def idmapPlaysUptoRow : OpenClaim := { program := "yteiknnpoaijobaa", sum := "97cd3f1fd5f40e6c53b680f22a7f07606f63a036b613fe5c3d14974916c98ac6", func := "ganglion/ganglionlaw22.IdmapPlays", spec := "idmapPlays", unfollowed := true, recurses := true, apart := false, narrowed := true }
def IdmapPlaysUptoSaid : Prop := idmapPlaysUptoRow.holds Try.pinned (OpenSpec.upto idmapPlaysSpec)

/-- 'ganglionlaw22.IdmapOne', WHERE WHAT IT READS IS OF BULK AT MOST 1048576: true; the input reads as it did. -/
def idmapOneUptoRow : OpenClaim := { program := "yteiknnpoaijobaa", sum := "97cd3f1fd5f40e6c53b680f22a7f07606f63a036b613fe5c3d14974916c98ac6", func := "ganglion/ganglionlaw22.IdmapOne", spec := "idmapOne", unfollowed := true, recurses := true, apart := false, narrowed := true }
def IdmapOneUptoSaid : Prop := idmapOneUptoRow.holds Try.pinned (OpenSpec.upto idmapOneSpec)

/-- 'ganglionlaw18.RacePlays', WHERE WHAT IT READS IS OF BULK AT MOST 1048576: true; the input reads as it did. -/
def racePlaysUptoRow : OpenClaim := { program := "yteiknnpoaijobaa", sum := "97cd3f1fd5f40e6c53b680f22a7f07606f63a036b613fe5c3d14974916c98ac6", func := "ganglion/ganglionlaw18.RacePlays", spec := "racePlays", apart := false, narrowed := true }
def RacePlaysUptoSaid : Prop := racePlaysUptoRow.holds Try.pinned (OpenSpec.upto racePlaysSpec)

/-- 'ganglionlaw19.LockPlays', WHERE WHAT IT READS IS OF BULK AT MOST 1048576: true; the input reads as it did. -/
def lockPlaysUptoRow : OpenClaim := { program := "yteiknnpoaijobaa", sum := "97cd3f1fd5f40e6c53b680f22a7f07606f63a036b613fe5c3d14974916c98ac6", func := "ganglion/ganglionlaw19.LockPlays", spec := "lockPlays", recurses := true, apart := false, narrowed := true }
def LockPlaysUptoSaid : Prop := lockPlaysUptoRow.holds Try.pinned (OpenSpec.upto lockPlaysSpec)

/-- 'ganglionlaw20.EpochPlays', WHERE WHAT IT READS IS OF BULK AT MOST 1048576: true; the input reads as it did. -/
def epochPlaysUptoRow : OpenClaim := { program := "yteiknnpoaijobaa", sum := "97cd3f1fd5f40e6c53b680f22a7f07606f63a036b613fe5c3d14974916c98ac6", func := "ganglion/ganglionlaw20.EpochPlays", spec := "epochPlays", unfollowed := true, recurses := true, apart := false, narrowed := true }
def EpochPlaysUptoSaid : Prop := epochPlaysUptoRow.holds Try.pinned (OpenSpec.upto epochPlaysSpec)

/-- 'gangliontop.TopStale', WHERE WHAT IT READS IS OF BULK AT MOST 1048576: true; the input reads as it did. -/
def topStaleUptoRow : OpenClaim := { program := "yteiknnpoaijobaa", sum := "97cd3f1fd5f40e6c53b680f22a7f07606f63a036b613fe5c3d14974916c98ac6", func := "ganglion/gangliontop.TopStale", spec := "topStale", unfollowed := true, recurses := true, apart := false, narrowed := true }
def TopStaleUptoSaid : Prop := topStaleUptoRow.holds Try.pinned (OpenSpec.upto topStaleSpec)

/-- 'gangliontop.TopSharded', WHERE WHAT IT READS IS OF BULK AT MOST 1048576: true; the input reads as it did. -/
def topShardedUptoRow : OpenClaim := { program := "yteiknnpoaijobaa", sum := "97cd3f1fd5f40e6c53b680f22a7f07606f63a036b613fe5c3d14974916c98ac6", func := "ganglion/gangliontop.TopSharded", spec := "topSharded", unfollowed := true, recurses := true, apart := false, narrowed := true }
def TopShardedUptoSaid : Prop := topShardedUptoRow.holds Try.pinned (OpenSpec.upto topShardedSpec)

end Rows
end Go.Proofs.Yteiknnpoaijobaa
