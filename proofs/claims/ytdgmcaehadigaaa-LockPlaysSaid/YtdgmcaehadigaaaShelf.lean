/- The contracts of slices.Clone (at refs and clashes) and slices.Sort (at numbers), of the library, at this dump. -/
import Derived.Shelf.SlGeneric
import Derived.Shelf.SlLaysE0
import Derived.Shelf.SlLaysN
import Derived.Shelf.SlLaysNS
import Derived.Shelf.SlicesE.Clone
import Derived.Test.YtdgmcaehadigaaaProg
namespace Go.Proofs.Ytdgmcaehadigaaa
open Go.Shelf
def Try.cloneRef_ren : Go.Shelf.Ren := ⟨fun | 41 => 97 | n => n, fun | 22 => 67 | 23 => 154 | 4 => 4 | n => n, fun | n => n⟩
theorem Try.cloneRef : Go.Proofs.SlLaysE0.n41 Try.prog Try.cloneRef_ren := {
  mixed := by kernel_rfl
  f41 := ⟨Try.f97.name, by decide, Try.func97.trans (congrArg some (by kernel_rfl))⟩
  t4 := Try.underlying4
  a4 := Try.isAgg4
  z4 := Try.sizeOf4
  v4 := Try.zeroValue4
  t22 := Try.underlying67
  a22 := Try.isAgg67
  z22 := Try.sizeOf67
  v22 := Try.zeroValue67 }
def Try.cloneClash_ren : Go.Shelf.Ren := ⟨fun | 41 => 85 | n => n, fun | 22 => 28 | 23 => 120 | 4 => 4 | n => n, fun | n => n⟩
theorem Try.cloneClash : Go.Proofs.SlLaysE0.n41 Try.prog Try.cloneClash_ren := {
  mixed := by kernel_rfl
  f41 := ⟨Try.f85.name, by decide, Try.func85.trans (congrArg some (by kernel_rfl))⟩
  t4 := Try.underlying4
  a4 := Try.isAgg4
  z4 := Try.sizeOf4
  v4 := Try.zeroValue4
  t22 := Try.underlying28
  a22 := Try.isAgg28
  z22 := Try.sizeOf28
  v22 := Try.zeroValue28 }
def Try.sortInts_ren : Go.Shelf.Ren := ⟨fun | 53 => 91 | 64 => 119 | 63 => 118 | 78 => 142 | 79 => 143 | 70 => 133 | 71 => 134 | 72 => 135 | 73 => 136 | 74 => 137 | 75 => 138 | 59 => 139 | 76 => 140 | 77 => 141 | 88 => 149 | 89 => 150 | 90 => 151 | 91 => 152 | 92 => 153 | 68 => 154 | 96 => 159 | n => n, fun | 22 => 38 | 23 => 3 | 3 => 3 | 51 => 182 | 0 => 0 | 67 => 200 | 69 => 88 | 4 => 4 | 61 => 194 | 60 => 193 | 44 => 55 | 5 => 5 | 9 => 9 | 75 => 206 | 79 => 210 | 83 => 212 | 84 => 213 | n => n, fun | n => n⟩
theorem Try.sortInts : Go.Proofs.SlLaysN.n53 Try.prog Try.sortInts_ren := {
  mixed := by kernel_rfl
  f53 := ⟨Try.f91.name, by decide, Try.func91.trans (congrArg some (by kernel_rfl))⟩
  f59 := ⟨Try.f139.name, by decide, Try.func139.trans (congrArg some (by kernel_rfl))⟩
  f63 := ⟨Try.f118.name, by decide, Try.func118.trans (congrArg some (by kernel_rfl))⟩
  f64 := Try.func119.trans (congrArg some (by kernel_rfl))
  f68 := ⟨Try.f154.name, by decide, Try.func154.trans (congrArg some (by kernel_rfl))⟩
  f70 := ⟨Try.f133.name, by decide, Try.func133.trans (congrArg some (by kernel_rfl))⟩
  f71 := ⟨Try.f134.name, by decide, Try.func134.trans (congrArg some (by kernel_rfl))⟩
  f72 := ⟨Try.f135.name, by decide, Try.func135.trans (congrArg some (by kernel_rfl))⟩
  f73 := ⟨Try.f136.name, by decide, Try.func136.trans (congrArg some (by kernel_rfl))⟩
  f74 := ⟨Try.f137.name, by decide, Try.func137.trans (congrArg some (by kernel_rfl))⟩
  f75 := ⟨Try.f138.name, by decide, Try.func138.trans (congrArg some (by kernel_rfl))⟩
  f76 := ⟨Try.f140.name, by decide, Try.func140.trans (congrArg some (by kernel_rfl))⟩
  f77 := ⟨Try.f141.name, by decide, Try.func141.trans (congrArg some (by kernel_rfl))⟩
  f78 := Try.func142.trans (congrArg some (by kernel_rfl))
  f79 := Try.func143.trans (congrArg some (by kernel_rfl))
  f88 := ⟨Try.f149.name, by decide, Try.func149.trans (congrArg some (by kernel_rfl))⟩
  f89 := Try.func150.trans (congrArg some (by kernel_rfl))
  f90 := Try.func151.trans (congrArg some (by kernel_rfl))
  f91 := ⟨Try.f152.name, by decide, Try.func152.trans (congrArg some (by kernel_rfl))⟩
  f92 := ⟨Try.f153.name, by decide, Try.func153.trans (congrArg some (by kernel_rfl))⟩
  f96 := ⟨Try.f159.name, by decide, Try.func159.trans (congrArg some (by kernel_rfl))⟩
  t0 := Try.underlying0
  a0 := Try.isAgg0
  z0 := Try.sizeOf0
  v0 := Try.zeroValue0
  t3 := Try.underlying3
  a3 := Try.isAgg3
  z3 := Try.sizeOf3
  v3 := Try.zeroValue3
  t4 := Try.underlying4
  a4 := Try.isAgg4
  z4 := Try.sizeOf4
  v4 := Try.zeroValue4
  t5 := Try.underlying5
  a5 := Try.isAgg5
  z5 := Try.sizeOf5
  v5 := Try.zeroValue5
  t9 := Try.underlying9
  a9 := Try.isAgg9
  z9 := Try.sizeOf9
  v9 := Try.zeroValue9
  t22 := Try.underlying38
  a22 := Try.isAgg38
  z22 := Try.sizeOf38
  v22 := Try.zeroValue38
  t23 := Try.underlying3
  a23 := Try.isAgg3
  z23 := Try.sizeOf3
  v23 := Try.zeroValue3
  t44 := Try.underlying55
  a44 := Try.isAgg55
  z44 := Try.sizeOf55
  v44 := Try.zeroValue55
  t51 := Try.underlying182
  a51 := Try.isAgg182
  z51 := Try.sizeOf182
  v51 := Try.zeroValue182
  t60 := Try.underlying193
  a60 := Try.isAgg193
  z60 := Try.sizeOf193
  v60 := Try.zeroValue193
  t61 := Try.underlying194
  a61 := Try.isAgg194
  z61 := Try.sizeOf194
  v61 := Try.zeroValue194
  t67 := Try.underlying200
  a67 := Try.isAgg200
  z67 := Try.sizeOf200
  v67 := Try.zeroValue200
  t69 := Try.underlying88
  a69 := Try.isAgg88
  z69 := Try.sizeOf88
  v69 := Try.zeroValue88
  t75 := Try.underlying206
  a75 := Try.isAgg206
  z75 := Try.sizeOf206
  v75 := Try.zeroValue206
  t79 := Try.underlying210
  a79 := Try.isAgg210
  z79 := Try.sizeOf210
  v79 := Try.zeroValue210
  t83 := Try.underlying212
  a83 := Try.isAgg212
  z83 := Try.sizeOf212
  v83 := Try.zeroValue212
  t84 := Try.underlying213
  a84 := Try.isAgg213
  z84 := Try.sizeOf213
  v84 := Try.zeroValue213 }
end Go.Proofs.Ytdgmcaehadigaaa
