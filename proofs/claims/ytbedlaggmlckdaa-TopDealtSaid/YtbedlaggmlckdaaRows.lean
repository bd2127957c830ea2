/-
  No cell of these rows narrows 'for every input' (looked for: loops, veiled, ifaces, maps, wideKeys, modest, calm, conditions, laid).
  DERIVED. THE GIVEN ROWS OF THIS SEAT. 7 by the template 'for every input the law returns true; each argument reads behind the call as it read before'; 0 by the template 'total and deterministic' (their statements: YtbedlaggmlckdaaTotals.lean).
  GIVEN WITH THE SEED: the statements are not yours to turn. If you find one false, say at which input.
  Laid BY PROGRAM, IN A SANDBOX (cutbox-rows.mjs): the forced cells as the released guide's own fill.sh prints them over the translation c0253fd36c0e4e86… (all of the seat's roots in one cut). By AI agents, Wed Nov 11 2026. No macro, syntax, notation, axiom, sorry.
-/
import Derived.Test.YtbedlaggmlckdaaChecked
import GoSem.Claim
import GoSem.ClaimJoined
import GoSem.ClaimMapViews
import Derived.JoinedTies
import Derived.KernelRfl
namespace Go.Proofs.Ytbedlaggmlckdaa
/- THE CELL 'sum', in the pinned program and in every row, IS THE sha256 OF THE DUMP (.gsa) THAT YtbedlaggmlckdaaProg.lean LOADS. Nothing in Lean hashes anything: it is a label: what it is worth is what the hold of that sum in a sandbox is worth. -/
noncomputable def Try.pinned : Pinned := { name := "ytbedlaggmlckdaa", sum := "c0253fd36c0e4e869eb3afbabbc6a689b71685113bc9637f5d19e373c37b591c", checked := Try.checked }
namespace Rows
def none {H : Type} : Left H := { results := [], args := [] }

/-- 'ganglionlaw03.RngTells': WHATEVER THE INPUT: true; the input reads as it did. -/
def rngTellsSpec : ChangeSpec := { name := "rngTells", fn := fun _ => fun
  | [d1, d2, d3, d4] => { results := [.lit (.bool true)], args := [d1, d2, d3, d4] }
  | _ => none }
def rngTellsRow : OpenClaim := { program := "ytbedlaggmlckdaa", sum := "c0253fd36c0e4e869eb3afbabbc6a689b71685113bc9637f5d19e373c37b591c", func := "ganglion/ganglionlaw03.RngTells", spec := "rngTells", apart := false }
def RngTellsSaid : Prop := rngTellsRow.holds Try.pinned (OpenSpec.ofChange rngTellsSpec)

/-- ITS FALSE NEIGHBOUR: 'it returns false'. Refute it at one input. -/
def rngTellsWrong : ChangeSpec := { name := "rngTells", fn := fun _ => fun
  | [d1, d2, d3, d4] => { results := [.lit (.bool false)], args := [d1, d2, d3, d4] }
  | _ => none }
def RngTellsWrongFalsely : Prop := rngTellsRow.holds Try.pinned (OpenSpec.ofChange rngTellsWrong)

/-- 'ganglionlaw03.RngBack': WHATEVER THE INPUT: true; the input reads as it did. -/
def rngBackSpec : ChangeSpec := { name := "rngBack", fn := fun _ => fun
  | [d1, d2, d3] => { results := [.lit (.bool true)], args := [d1, d2, d3] }
  | _ => none }
def rngBackRow : OpenClaim := { program := "ytbedlaggmlckdaa", sum := "c0253fd36c0e4e869eb3afbabbc6a689b71685113bc9637f5d19e373c37b591c", func := "ganglion/ganglionlaw03.RngBack", spec := "rngBack", apart := false }
def RngBackSaid : Prop := rngBackRow.holds Try.pinned (OpenSpec.ofChange rngBackSpec)

/-- ITS FALSE NEIGHBOUR: 'it returns false'. Refute it at one input. -/
def rngBackWrong : ChangeSpec := { name := "rngBack", fn := fun _ => fun
  | [d1, d2, d3] => { results := [.lit (.bool false)], args := [d1, d2, d3] }
  | _ => none }
def RngBackWrongFalsely : Prop := rngBackRow.holds Try.pinned (OpenSpec.ofChange rngBackWrong)

/-- 'ganglionlaw03.RngSpread': WHATEVER THE INPUT: true; the input reads as it did. -/
def rngSpreadSpec : ChangeSpec := { name := "rngSpread", fn := fun _ => fun
  | [d1, d2, d3, d4] => { results := [.lit (.bool true)], args := [d1, d2, d3, d4] }
  | _ => none }
def rngSpreadRow : OpenClaim := { program := "ytbedlaggmlckdaa", sum := "c0253fd36c0e4e869eb3afbabbc6a689b71685113bc9637f5d19e373c37b591c", func := "ganglion/ganglionlaw03.RngSpread", spec := "rngSpread", apart := false }
def RngSpreadSaid : Prop := rngSpreadRow.holds Try.pinned (OpenSpec.ofChange rngSpreadSpec)

/-- ITS FALSE NEIGHBOUR: 'it returns false'. Refute it at one input. -/
def rngSpreadWrong : ChangeSpec := { name := "rngSpread", fn := fun _ => fun
  | [d1, d2, d3, d4] => { results := [.lit (.bool false)], args := [d1, d2, d3, d4] }
  | _ => none }
def RngSpreadWrongFalsely : Prop := rngSpreadRow.holds Try.pinned (OpenSpec.ofChange rngSpreadWrong)

/-- 'ganglionlaw04.LittleTells': WHATEVER THE INPUT: true; the input reads as it did. -/
def littleTellsSpec : ChangeSpec := { name := "littleTells", fn := fun _ => fun
  | [d1, d2, d3, d4] => { results := [.lit (.bool true)], args := [d1, d2, d3, d4] }
  | _ => none }
def littleTellsRow : OpenClaim := { program := "ytbedlaggmlckdaa", sum := "c0253fd36c0e4e869eb3afbabbc6a689b71685113bc9637f5d19e373c37b591c", func := "ganglion/ganglionlaw04.LittleTells", spec := "littleTells", apart := false }
def LittleTellsSaid : Prop := littleTellsRow.holds Try.pinned (OpenSpec.ofChange littleTellsSpec)

/-- ITS FALSE NEIGHBOUR: 'it returns false'. Refute it at one input. -/
def littleTellsWrong : ChangeSpec := { name := "littleTells", fn := fun _ => fun
  | [d1, d2, d3, d4] => { results := [.lit (.bool false)], args := [d1, d2, d3, d4] }
  | _ => none }
def LittleTellsWrongFalsely : Prop := littleTellsRow.holds Try.pinned (OpenSpec.ofChange littleTellsWrong)

/-- 'ganglionlaw04.LittleBack': WHATEVER THE INPUT: true; the input reads as it did. -/
def littleBackSpec : ChangeSpec := { name := "littleBack", fn := fun _ => fun
  | [d1, d2, d3] => { results := [.lit (.bool true)], args := [d1, d2, d3] }
  | _ => none }
def littleBackRow : OpenClaim := { program := "ytbedlaggmlckdaa", sum := "c0253fd36c0e4e869eb3afbabbc6a689b71685113bc9637f5d19e373c37b591c", func := "ganglion/ganglionlaw04.LittleBack", spec := "littleBack", apart := false }
def LittleBackSaid : Prop := littleBackRow.holds Try.pinned (OpenSpec.ofChange littleBackSpec)

/-- ITS FALSE NEIGHBOUR: 'it returns false'. Refute it at one input. -/
def littleBackWrong : ChangeSpec := { name := "littleBack", fn := fun _ => fun
  | [d1, d2, d3] => { results := [.lit (.bool false)], args := [d1, d2, d3] }
  | _ => none }
def LittleBackWrongFalsely : Prop := littleBackRow.holds Try.pinned (OpenSpec.ofChange littleBackWrong)

/-- 'gangliontop.TopDealt': WHATEVER THE INPUT: true; the input reads as it did. -/
def topDealtSpec : ChangeSpec := { name := "topDealt", fn := fun _ => fun
  | [d1, d2] => { results := [.lit (.bool true)], args := [d1, d2] }
  | _ => none }
def topDealtRow : OpenClaim := { program := "ytbedlaggmlckdaa", sum := "c0253fd36c0e4e869eb3afbabbc6a689b71685113bc9637f5d19e373c37b591c", func := "ganglion/gangliontop.TopDealt", spec := "topDealt", apart := false }
def TopDealtSaid : Prop := topDealtRow.holds Try.pinned (OpenSpec.ofChange topDealtSpec)

/-- ITS FALSE NEIGHBOUR: 'it returns false'. Refute it at one input. -/
def topDealtWrong : ChangeSpec := { name := "topDealt", fn := fun _ => fun
  | [d1, d2] => { results := [.lit (.bool false)], args := [d1, d2] }
  | _ => none }
def TopDealtWrongFalsely : Prop := topDealtRow.holds Try.pinned (OpenSpec.ofChange topDealtWrong)

/-- 'gangliontop.TopMixedBack': WHATEVER THE INPUT: true; the input reads as it did. -/
def topMixedBackSpec : ChangeSpec := { name := "topMixedBack", fn := fun _ => fun
  | [d] => { results := [.lit (.bool true)], args := [d] }
  | _ => none }
def topMixedBackRow : OpenClaim := { program := "ytbedlaggmlckdaa", sum := "c0253fd36c0e4e869eb3afbabbc6a689b71685113bc9637f5d19e373c37b591c", func := "ganglion/gangliontop.TopMixedBack", spec := "topMixedBack", apart := false }
def TopMixedBackSaid : Prop := topMixedBackRow.holds Try.pinned (OpenSpec.ofChange topMixedBackSpec)

/-- ITS FALSE NEIGHBOUR: 'it returns false'. Refute it at one input. -/
def topMixedBackWrong : ChangeSpec := { name := "topMixedBack", fn := fun _ => fun
  | [d] => { results := [.lit (.bool false)], args := [d] }
  | _ => none }
def TopMixedBackWrongFalsely : Prop := topMixedBackRow.holds Try.pinned (OpenSpec.ofChange topMixedBackWrong)

/- THE SECOND FORM. 'bulk': how many values and letters a reading holds, each counted each time it is reached (what is shared counts as often as it is met; a slice's spare places count too). A statement '..UptoSaid' is the law's where the arguments, and the package variables that the reading takes, are together of bulk at most 1048576: NARROWER than '..Said'. Prove '..Said' where nothing that the law and all that it calls make is longer than what came in: it says more and counts as full. Else prove '..UptoSaid'. A law counts once. -/
mutual
def uptoBulk {H : Type} : DataW H → Nat
  | .lit (.string bytes) => bytes.length + 1
  | .lit _ => 1
  | .nil => 1
  | .ptr d => uptoBulk d + 1
  | .slice elems spare => uptoBulkAll elems + uptoBulkAll spare + 1
  | .agg parts => uptoBulkAll parts + 1
  | .iface _ d => uptoBulk d + 1
  | .map entries => uptoBulkEntries entries + 1
  | .held _ => 1
def uptoBulkAll {H : Type} : List (DataW H) → Nat
  | [] => 0
  | d :: r => uptoBulk d + uptoBulkAll r
def uptoBulkEntries {H : Type} : List (Lit × DataW H) → Nat
  | [] => 0
  | x :: r => uptoBulkEntry x + uptoBulkEntries r
def uptoBulkEntry {H : Type} : Lit × DataW H → Nat
  | (.string bytes, d) => bytes.length + uptoBulk d + 1
  | (_, d) => uptoBulk d + 1
 end
def uptoSmall : (H : Type) → List (DataW H) → Bool := fun _ ds => decide (uptoBulkAll ds ≤ 1048576)
def OpenSpec.upto (s : _root_.Go.ChangeSpec) : _root_.Go.OpenSpec := { _root_.Go.OpenSpec.ofChange s with cond := some uptoSmall }

/-- 'ganglionlaw03.RngTells', WHERE WHAT IT READS IS OF BULK AT MOST 1048576: true; the input reads as it did. -/
def rngTellsUptoRow : OpenClaim := { program := "ytbedlaggmlckdaa", sum := "c0253fd36c0e4e869eb3afbabbc6a689b71685113bc9637f5d19e373c37b591c", func := "ganglion/ganglionlaw03.RngTells", spec := "rngTells", apart := false, narrowed := true }
def RngTellsUptoSaid : Prop := rngTellsUptoRow.holds Try.pinned (OpenSpec.upto rngTellsSpec)

/-- 'ganglionlaw03.RngBack', WHERE WHAT IT READS IS OF BULK AT MOST 1048576: true; the input reads as it did. -/
def rngBackUptoRow : OpenClaim := { program := "ytbedlaggmlckdaa", sum := "c0253fd36c0e4e869eb3afbabbc6a689b71685113bc9637f5d19e373c37b591c", func := "ganglion/ganglionlaw03.RngBack", spec := "rngBack", apart := false, narrowed := true }
def RngBackUptoSaid : Prop := rngBackUptoRow.holds Try.pinned (OpenSpec.upto rngBackSpec)

/-- 'ganglionlaw03.RngSpread', WHERE WHAT IT READS IS OF BULK AT MOST 1048576: true; the input reads as it did. -/
def rngSpreadUptoRow : OpenClaim := { program := "ytbedlaggmlckdaa", sum := "c0253fd36c0e4e869eb3afbabbc6a689b71685113bc9637f5d19e373c37b591c", func := "ganglion/ganglionlaw03.RngSpread", spec := "rngSpread", apart := false, narrowed := true }
def RngSpreadUptoSaid : Prop := rngSpreadUptoRow.holds Try.pinned (OpenSpec.upto rngSpreadSpec)

/-- 'ganglionlaw04.LittleTells', WHERE WHAT IT READS IS OF BULK AT MOST 1048576: true; the input reads as it did. -/
def littleTellsUptoRow : OpenClaim := { program := "ytbedlaggmlckdaa", sum := "c0253fd36c0e4e869eb3afbabbc6a689b71685113bc9637f5d19e373c37b591c", func := "ganglion/ganglionlaw04.LittleTells", spec := "littleTells", apart := false, narrowed := true }
def LittleTellsUptoSaid : Prop := littleTellsUptoRow.holds Try.pinned (OpenSpec.upto littleTellsSpec)

/-- 'ganglionlaw04.LittleBack', WHERE WHAT IT READS IS OF BULK AT MOST 1048576: true; the input reads as it did. -/
def littleBackUptoRow : OpenClaim := { program := "ytbedlaggmlckdaa", sum := "c0253fd36c0e4e869eb3afbabbc6a689b71685113bc9637f5d19e373c37b591c", func := "ganglion/ganglionlaw04.LittleBack", spec := "littleBack", apart := false, narrowed := true }
def LittleBackUptoSaid : Prop := littleBackUptoRow.holds Try.pinned (OpenSpec.upto littleBackSpec)

/-- 'gangliontop.TopDealt', WHERE WHAT IT READS IS OF BULK AT MOST 1048576: true; the input reads as it did. -/
def topDealtUptoRow : OpenClaim := { program := "ytbedlaggmlckdaa", sum := "c0253fd36c0e4e869eb3afbabbc6a689b71685113bc9637f5d19e373c37b591c", func := "ganglion/gangliontop.TopDealt", spec := "topDealt", apart := false, narrowed := true }
def TopDealtUptoSaid : Prop := topDealtUptoRow.holds Try.pinned (OpenSpec.upto topDealtSpec)

/-- 'gangliontop.TopMixedBack', WHERE WHAT IT READS IS OF BULK AT MOST 1048576: true; the input reads as it did. -/
def topMixedBackUptoRow : OpenClaim := { program := "ytbedlaggmlckdaa", sum := "c0253fd36c0e4e869eb3afbabbc6a689b71685113bc9637f5d19e373c37b591c", func := "ganglion/gangliontop.TopMixedBack", spec := "topMixedBack", apart := false, narrowed := true }
def TopMixedBackUptoSaid : Prop := topMixedBackUptoRow.holds Try.pinned (OpenSpec.upto topMixedBackSpec)

end Rows
end Go.Proofs.Ytbedlaggmlckdaa
