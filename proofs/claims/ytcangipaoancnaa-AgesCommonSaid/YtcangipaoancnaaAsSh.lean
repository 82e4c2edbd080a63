/-
  The library's sort of int64 and its product of two words, as its own contracts say it, at this program. No condition.
-/
import Derived.Shelf.Bits.Mul64
import Derived.Shelf.SortG.Plain
import Derived.Shelf.SortG.SortNone
import Derived.Ground.SlgnProg
import Derived.Test.YtcangipaoancnaaProg
namespace Go.Proofs.Ytcangipaoancnaa
open Go.Shelf
def lays212_ren : Go.Shelf.Ren := ⟨fun | 212 => 93 | 263 => 113 | 264 => 114 | n => n, fun | 46 => 194 | 51 => 38 | 146 => 216 | 53 => 218 | 148 => 219 | n => n, fun | n => n⟩
theorem lays212 : Go.Proofs.Lays.n212 Try.prog lays212_ren := {
  mixed := by kernel_rfl
  f212 := Try.func93.trans (congrArg some (by kernel_rfl))
  f263 := Try.func113.trans (congrArg some (by kernel_rfl))
  f264 := Try.func114.trans (congrArg some (by kernel_rfl))
  t46 := Try.underlying194
  a46 := Try.isAgg194
  z46 := Try.sizeOf194
  v46 := Try.zeroValue194
  t51 := Try.underlying38
  a51 := Try.isAgg38
  z51 := Try.sizeOf38
  v51 := Try.zeroValue38
  t53 := Try.underlying218
  a53 := Try.isAgg218
  z53 := Try.sizeOf218
  v53 := Try.zeroValue218
  t146 := Try.underlying216
  a146 := Try.isAgg216
  z146 := Try.sizeOf216
  v146 := Try.zeroValue216
  t148 := Try.underlying219
  a148 := Try.isAgg219
  z148 := Try.sizeOf219
  v148 := Try.zeroValue219 }
def sortI_ren : Go.Shelf.Ren := ⟨fun | 53 => 91 | 64 => 112 | 63 => 111 | 78 => 125 | 79 => 126 | 70 => 116 | 71 => 117 | 72 => 118 | 73 => 119 | 74 => 120 | 75 => 121 | 59 => 122 | 76 => 123 | 77 => 124 | 88 => 127 | 89 => 128 | 90 => 129 | 91 => 130 | 92 => 131 | 68 => 132 | 96 => 133 | n => n, fun | 22 => 121 | 23 => 2 | 3 => 3 | 51 => 194 | 0 => 0 | 67 => 38 | 69 => 218 | 4 => 4 | 61 => 224 | 60 => 223 | 44 => 229 | 5 => 5 | 9 => 9 | 75 => 233 | 79 => 237 | 83 => 239 | 84 => 240 | n => n, fun | n => n⟩
theorem sortI : Go.Proofs.SlLaysN.n53 Try.prog sortI_ren := {
  mixed := by kernel_rfl
  f53 := ⟨Try.f91.name, by decide, Try.func91.trans (congrArg some (by kernel_rfl))⟩
  f59 := ⟨Try.f122.name, by decide, Try.func122.trans (congrArg some (by kernel_rfl))⟩
  f63 := ⟨Try.f111.name, by decide, Try.func111.trans (congrArg some (by kernel_rfl))⟩
  f64 := Try.func112.trans (congrArg some (by kernel_rfl))
  f68 := ⟨Try.f132.name, by decide, Try.func132.trans (congrArg some (by kernel_rfl))⟩
  f70 := ⟨Try.f116.name, by decide, Try.func116.trans (congrArg some (by kernel_rfl))⟩
  f71 := ⟨Try.f117.name, by decide, Try.func117.trans (congrArg some (by kernel_rfl))⟩
  f72 := ⟨Try.f118.name, by decide, Try.func118.trans (congrArg some (by kernel_rfl))⟩
  f73 := ⟨Try.f119.name, by decide, Try.func119.trans (congrArg some (by kernel_rfl))⟩
  f74 := ⟨Try.f120.name, by decide, Try.func120.trans (congrArg some (by kernel_rfl))⟩
  f75 := ⟨Try.f121.name, by decide, Try.func121.trans (congrArg some (by kernel_rfl))⟩
  f76 := ⟨Try.f123.name, by decide, Try.func123.trans (congrArg some (by kernel_rfl))⟩
  f77 := ⟨Try.f124.name, by decide, Try.func124.trans (congrArg some (by kernel_rfl))⟩
  f78 := Try.func125.trans (congrArg some (by kernel_rfl))
  f79 := Try.func126.trans (congrArg some (by kernel_rfl))
  f88 := ⟨Try.f127.name, by decide, Try.func127.trans (congrArg some (by kernel_rfl))⟩
  f89 := Try.func128.trans (congrArg some (by kernel_rfl))
  f90 := Try.func129.trans (congrArg some (by kernel_rfl))
  f91 := ⟨Try.f130.name, by decide, Try.func130.trans (congrArg some (by kernel_rfl))⟩
  f92 := ⟨Try.f131.name, by decide, Try.func131.trans (congrArg some (by kernel_rfl))⟩
  f96 := ⟨Try.f133.name, by decide, Try.func133.trans (congrArg some (by kernel_rfl))⟩
  t0 := Try.underlying0
  a0 := Try.isAgg0
  z0 := Try.sizeOf0
  v0 := Try.zeroValue0
  t3 := Try.underlying3
  a3 := Try.isAgg3
  z3 := Try.sizeOf3
  v3 := Try.zeroValue3
  t4 := Try.underlying4
  a4 := Try.isAgg4
  z4 := Try.sizeOf4
  v4 := Try.zeroValue4
  t5 := Try.underlying5
  a5 := Try.isAgg5
  z5 := Try.sizeOf5
  v5 := Try.zeroValue5
  t9 := Try.underlying9
  a9 := Try.isAgg9
  z9 := Try.sizeOf9
  v9 := Try.zeroValue9
  t22 := Try.underlying121
  a22 := Try.isAgg121
  z22 := Try.sizeOf121
  v22 := Try.zeroValue121
  t23 := Try.underlying2
  a23 := Try.isAgg2
  z23 := Try.sizeOf2
  v23 := Try.zeroValue2
  t44 := Try.underlying229
  a44 := Try.isAgg229
  z44 := Try.sizeOf229
  v44 := Try.zeroValue229
  t51 := Try.underlying194
  a51 := Try.isAgg194
  z51 := Try.sizeOf194
  v51 := Try.zeroValue194
  t60 := Try.underlying223
  a60 := Try.isAgg223
  z60 := Try.sizeOf223
  v60 := Try.zeroValue223
  t61 := Try.underlying224
  a61 := Try.isAgg224
  z61 := Try.sizeOf224
  v61 := Try.zeroValue224
  t67 := Try.underlying38
  a67 := Try.isAgg38
  z67 := Try.sizeOf38
  v67 := Try.zeroValue38
  t69 := Try.underlying218
  a69 := Try.isAgg218
  z69 := Try.sizeOf218
  v69 := Try.zeroValue218
  t75 := Try.underlying233
  a75 := Try.isAgg233
  z75 := Try.sizeOf233
  v75 := Try.zeroValue233
  t79 := Try.underlying237
  a79 := Try.isAgg237
  z79 := Try.sizeOf237
  v79 := Try.zeroValue237
  t83 := Try.underlying239
  a83 := Try.isAgg239
  z83 := Try.sizeOf239
  v83 := Try.zeroValue239
  t84 := Try.underlying240
  a84 := Try.isAgg240
  z84 := Try.sizeOf240
  v84 := Try.zeroValue240 }
end Go.Proofs.Ytcangipaoancnaa

