/- Rev. -/
import Derived.Shelf.SlicesQ.Reverse
import Derived.Test.YthndopokabceiaaGreatDoorProg
/- The contract of slices.Reverse at entries, laid by the kit at this program. -/
namespace Go.Proofs
open Go.Shelf
def Tryz.reverseE_ren : Go.Shelf.Ren := ⟨fun | 35 => 85 | n => n, fun | 22 => 37 | 23 => 49 | 3 => 3 | 4 => 4 | 0 => 0 | n => n, fun | n => n⟩
theorem Tryz.reverseE : Go.Proofs.SlLaysE0.n35 Tryz.prog Tryz.reverseE_ren := {
  mixed := by kernel_rfl
  f35 := ⟨Tryz.f85.name, by decide, Tryz.func85.trans (congrArg some (by kernel_rfl))⟩
  t0 := Tryz.underlying0
  a0 := Tryz.isAgg0
  z0 := Tryz.sizeOf0
  v0 := Tryz.zeroValue0
  t3 := Tryz.underlying3
  a3 := Tryz.isAgg3
  z3 := Tryz.sizeOf3
  v3 := Tryz.zeroValue3
  t4 := Tryz.underlying4
  a4 := Tryz.isAgg4
  z4 := Tryz.sizeOf4
  v4 := Tryz.zeroValue4
  t22 := Tryz.underlying37
  a22 := Tryz.isAgg37
  z22 := Tryz.sizeOf37
  v22 := Tryz.zeroValue37 }
end Go.Proofs
