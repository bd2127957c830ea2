/- slices.insertionSortCmpFunc, of the library, at candidates: its body is the one that the kit's contract speaks of. -/
import Derived.Shelf.SlGeneric
import Derived.Shelf.SlLaysF0
import Derived.Shelf.SlSortCmp.InsertionK
import Derived.Test.YtlgkdonaplejdaaProg
namespace Go.Proofs.Ytlgkdonaplejdaa
open Go.Shelf
def candRen : Go.Shelf.Ren := ⟨fun | 20 => 192 | n => n, fun | 22 => 108 | 24 => 165 | 25 => 167 | 3 => 3 | 4 => 4 | n => n, fun | n => n⟩
theorem candIns : Go.Proofs.SlLaysF0.n20 Try.prog candRen := {
  mixed := by kernel_rfl
  f20 := ⟨Try.f192.name, by decide, Try.func192.trans (congrArg some (by kernel_rfl))⟩
  t0 := Try.underlying0
  a0 := Try.isAgg0
  z0 := Try.sizeOf0
  v0 := Try.zeroValue0
  t3 := Try.underlying3
  a3 := Try.isAgg3
  z3 := Try.sizeOf3
  v3 := Try.zeroValue3
  t4 := Try.underlying4
  a4 := Try.isAgg4
  z4 := Try.sizeOf4
  v4 := Try.zeroValue4
  t22 := Try.underlying108
  a22 := Try.isAgg108
  z22 := Try.sizeOf108
  v22 := Try.zeroValue108
  t25 := Try.underlying167
  a25 := Try.isAgg167
  z25 := Try.sizeOf167
  v25 := Try.zeroValue167 }
end Go.Proofs.Ytlgkdonaplejdaa
