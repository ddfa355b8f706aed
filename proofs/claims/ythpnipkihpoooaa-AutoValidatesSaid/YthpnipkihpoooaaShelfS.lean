/-
  A contract of a library function at this program, laid by the kit's tool in plain words.
-/
import Derived.Shelf.SlSorted.Search
import Derived.Ground.SlsoProg
import Derived.Test.YthpnipkihpoooaaProg
namespace Go.Proofs
open Go.Shelf
def Try.laysSearchStrings_ren : Go.Shelf.Ren := ⟨fun | 15 => 91 | 23 => 104 | 16 => 103 | n => n, fun | 30 => 22 | 9 => 9 | 3 => 3 | 0 => 0 | 35 => 80 | 4 => 4 | 38 => 121 | n => n, fun | n => n⟩
theorem Try.laysSearchStrings : Go.Proofs.SlLaysO.n15 Try.prog Try.laysSearchStrings_ren := {
  mixed := by kernel_rfl
  f15 := Try.func91.trans (congrArg some (by kernel_rfl))
  f16 := Try.func103.trans (congrArg some (by kernel_rfl))
  f23 := Try.func104.trans (congrArg some (by kernel_rfl))
  t0 := Try.underlying0
  a0 := Try.isAgg0
  z0 := Try.sizeOf0
  v0 := Try.zeroValue0
  t3 := Try.underlying3
  a3 := Try.isAgg3
  z3 := Try.sizeOf3
  v3 := Try.zeroValue3
  t4 := Try.underlying4
  a4 := Try.isAgg4
  z4 := Try.sizeOf4
  v4 := Try.zeroValue4
  t9 := Try.underlying9
  a9 := Try.isAgg9
  z9 := Try.sizeOf9
  v9 := Try.zeroValue9
  t30 := Try.underlying22
  a30 := Try.isAgg22
  z30 := Try.sizeOf22
  v30 := Try.zeroValue22
  t35 := Try.underlying80
  a35 := Try.isAgg80
  z35 := Try.sizeOf80
  v35 := Try.zeroValue80
  t38 := Try.underlying121
  a38 := Try.isAgg121
  z38 := Try.sizeOf121
  v38 := Try.zeroValue121 }
end Go.Proofs
