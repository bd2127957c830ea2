/- The contracts of slices.Sort (at ints) and slices.Clone (at refs), of the library, at this dump. -/
import Derived.Shelf.SlGeneric
import Derived.Shelf.SlLaysN
import Derived.Shelf.SlLaysNS
import Derived.Shelf.SlLaysE0
import Derived.Shelf.SortG.Plain
import Derived.Shelf.SortG.SortNone
import Derived.Shelf.SlicesE.Clone
import Derived.Test.YtgfcpjkihbaapaaProg
namespace Go.Proofs.Ytgfcpjkihbaapaa
open Go.Shelf
def Try.sortInts_ren : Go.Shelf.Ren := ⟨fun | 53 => 84 | 64 => 104 | 63 => 103 | 78 => 118 | 79 => 119 | 70 => 109 | 71 => 110 | 72 => 111 | 73 => 112 | 74 => 113 | 75 => 114 | 59 => 115 | 76 => 116 | 77 => 117 | 88 => 120 | 89 => 121 | 90 => 122 | 91 => 123 | 92 => 124 | 68 => 125 | 96 => 126 | n => n, fun | 22 => 38 | 23 => 3 | 3 => 3 | 51 => 152 | 0 => 0 | 67 => 163 | 69 => 165 | 4 => 4 | 61 => 157 | 60 => 156 | 44 => 55 | 5 => 5 | 9 => 9 | 75 => 166 | 79 => 170 | 83 => 172 | 84 => 173 | n => n, fun | n => n⟩
theorem Try.sortInts : Go.Proofs.SlLaysN.n53 Try.prog Try.sortInts_ren := {
  mixed := by kernel_rfl
  f53 := ⟨Try.f84.name, by decide, Try.func84.trans (congrArg some (by kernel_rfl))⟩
  f59 := ⟨Try.f115.name, by decide, Try.func115.trans (congrArg some (by kernel_rfl))⟩
  f63 := ⟨Try.f103.name, by decide, Try.func103.trans (congrArg some (by kernel_rfl))⟩
  f64 := Try.func104.trans (congrArg some (by kernel_rfl))
  f68 := ⟨Try.f125.name, by decide, Try.func125.trans (congrArg some (by kernel_rfl))⟩
  f70 := ⟨Try.f109.name, by decide, Try.func109.trans (congrArg some (by kernel_rfl))⟩
  f71 := ⟨Try.f110.name, by decide, Try.func110.trans (congrArg some (by kernel_rfl))⟩
  f72 := ⟨Try.f111.name, by decide, Try.func111.trans (congrArg some (by kernel_rfl))⟩
  f73 := ⟨Try.f112.name, by decide, Try.func112.trans (congrArg some (by kernel_rfl))⟩
  f74 := ⟨Try.f113.name, by decide, Try.func113.trans (congrArg some (by kernel_rfl))⟩
  f75 := ⟨Try.f114.name, by decide, Try.func114.trans (congrArg some (by kernel_rfl))⟩
  f76 := ⟨Try.f116.name, by decide, Try.func116.trans (congrArg some (by kernel_rfl))⟩
  f77 := ⟨Try.f117.name, by decide, Try.func117.trans (congrArg some (by kernel_rfl))⟩
  f78 := Try.func118.trans (congrArg some (by kernel_rfl))
  f79 := Try.func119.trans (congrArg some (by kernel_rfl))
  f88 := ⟨Try.f120.name, by decide, Try.func120.trans (congrArg some (by kernel_rfl))⟩
  f89 := Try.func121.trans (congrArg some (by kernel_rfl))
  f90 := Try.func122.trans (congrArg some (by kernel_rfl))
  f91 := ⟨Try.f123.name, by decide, Try.func123.trans (congrArg some (by kernel_rfl))⟩
  f92 := ⟨Try.f124.name, by decide, Try.func124.trans (congrArg some (by kernel_rfl))⟩
  f96 := ⟨Try.f126.name, by decide, Try.func126.trans (congrArg some (by kernel_rfl))⟩
  t0 := Try.underlying0
  a0 := Try.isAgg0
  z0 := Try.sizeOf0
  v0 := Try.zeroValue0
  t3 := Try.underlying3
  a3 := Try.isAgg3
  z3 := Try.sizeOf3
  v3 := Try.zeroValue3
  t4 := Try.underlying4
  a4 := Try.isAgg4
  z4 := Try.sizeOf4
  v4 := Try.zeroValue4
  t5 := Try.underlying5
  a5 := Try.isAgg5
  z5 := Try.sizeOf5
  v5 := Try.zeroValue5
  t9 := Try.underlying9
  a9 := Try.isAgg9
  z9 := Try.sizeOf9
  v9 := Try.zeroValue9
  t22 := Try.underlying38
  a22 := Try.isAgg38
  z22 := Try.sizeOf38
  v22 := Try.zeroValue38
  t23 := Try.underlying3
  a23 := Try.isAgg3
  z23 := Try.sizeOf3
  v23 := Try.zeroValue3
  t44 := Try.underlying55
  a44 := Try.isAgg55
  z44 := Try.sizeOf55
  v44 := Try.zeroValue55
  t51 := Try.underlying152
  a51 := Try.isAgg152
  z51 := Try.sizeOf152
  v51 := Try.zeroValue152
  t60 := Try.underlying156
  a60 := Try.isAgg156
  z60 := Try.sizeOf156
  v60 := Try.zeroValue156
  t61 := Try.underlying157
  a61 := Try.isAgg157
  z61 := Try.sizeOf157
  v61 := Try.zeroValue157
  t67 := Try.underlying163
  a67 := Try.isAgg163
  z67 := Try.sizeOf163
  v67 := Try.zeroValue163
  t69 := Try.underlying165
  a69 := Try.isAgg165
  z69 := Try.sizeOf165
  v69 := Try.zeroValue165
  t75 := Try.underlying166
  a75 := Try.isAgg166
  z75 := Try.sizeOf166
  v75 := Try.zeroValue166
  t79 := Try.underlying170
  a79 := Try.isAgg170
  z79 := Try.sizeOf170
  v79 := Try.zeroValue170
  t83 := Try.underlying172
  a83 := Try.isAgg172
  z83 := Try.sizeOf172
  v83 := Try.zeroValue172
  t84 := Try.underlying173
  a84 := Try.isAgg173
  z84 := Try.sizeOf173
  v84 := Try.zeroValue173 }
def Try.cloneRef_ren : Go.Shelf.Ren := ⟨fun | 41 => 90 | n => n, fun | 22 => 67 | 23 => 131 | 4 => 4 | n => n, fun | n => n⟩
theorem Try.cloneRef : Go.Proofs.SlLaysE0.n41 Try.prog Try.cloneRef_ren := {
  mixed := by kernel_rfl
  f41 := ⟨Try.f90.name, by decide, Try.func90.trans (congrArg some (by kernel_rfl))⟩
  t4 := Try.underlying4
  a4 := Try.isAgg4
  z4 := Try.sizeOf4
  v4 := Try.zeroValue4
  t22 := Try.underlying67
  a22 := Try.isAgg67
  z22 := Try.sizeOf67
  v22 := Try.zeroValue67 }
end Go.Proofs.Ytgfcpjkihbaapaa
