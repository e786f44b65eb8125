/- the insertion sort at groups, laid at this seat's own numbers. -/
import Derived.Shelf.SlSortCmp.InsertionK
import Derived.KernelRfl
import Derived.Test.YtbdnonphkobkoaaGreatProg
namespace Go.Proofs
open Go.Shelf Go.RowKit
def Tryz.insGrp_ren : Go.Shelf.Ren := ⟨fun | 20 => 188 | n => n, fun | 0 => 0 | 1 => 1 | 2 => 2 | 3 => 3 | 4 => 4 | 5 => 5 | 6 => 6 | 7 => 7 | 8 => 8 | 9 => 9 | 10 => 10 | 11 => 11 | 12 => 12 | 13 => 13 | 14 => 14 | 15 => 15 | 16 => 16 | 17 => 17 | 18 => 18 | 19 => 19 | 20 => 20 | 21 => 21 | 22 => 112 | 23 => 169 | 24 => 115 | 25 => 170 | 27 => 126 | 29 => 203 | 30 => 234 | 37 => 230 | 38 => 177 | 39 => 178 | 42 => 67 | 44 => 229 | 45 => 214 | 46 => 215 | 50 => 81 | 52 => 220 | 53 => 221 | 54 => 222 | 55 => 223 | 66 => 235 | 67 => 236 | 68 => 237 | 70 => 239 | 76 => 246 | 77 => 247 | 81 => 82 | 82 => 257 | 83 => 258 | 84 => 259 | 85 => 260 | 86 => 261 | 87 => 262 | 88 => 263 | 89 => 264 | 90 => 265 | 91 => 228 | 92 => 266 | 93 => 267 | 94 => 268 | 95 => 269 | 96 => 242 | n => n, fun n => n⟩
theorem Tryz.insGrp : Go.Proofs.SlLaysF0.n20 Tryz.prog Tryz.insGrp_ren := {
  mixed := by kernel_rfl
  f20 := ⟨"slices.insertionSortCmpFunc[leporello/group.group]", by decide, Tryz.func188.trans (congrArg some (by kernel_rfl))⟩
  t0 := Tryz.underlying0
  a0 := Tryz.isAgg0
  z0 := Tryz.sizeOf0
  v0 := Tryz.zeroValue0
  t3 := Tryz.underlying3
  a3 := Tryz.isAgg3
  z3 := Tryz.sizeOf3
  v3 := Tryz.zeroValue3
  t4 := Tryz.underlying4
  a4 := Tryz.isAgg4
  z4 := Tryz.sizeOf4
  v4 := Tryz.zeroValue4
  t22 := Tryz.underlying112
  a22 := Tryz.isAgg112
  z22 := Tryz.sizeOf112
  v22 := Tryz.zeroValue112
  t25 := Tryz.underlying170
  a25 := Tryz.isAgg170
  z25 := Tryz.sizeOf170
  v25 := Tryz.zeroValue170 }
end Go.Proofs
