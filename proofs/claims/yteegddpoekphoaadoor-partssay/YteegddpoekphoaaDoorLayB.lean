/-
  The library's text at this program: its functions and types by number, held alike by the kernel.
-/
import Derived.Shelf.Slices.CompactI
import Derived.Test.YteegddpoekphoaaDoorRows
namespace Go.Proofs.YteegddpoekphoaaDoor
open Go.Shelf

def laysn20_ren : Go.Shelf.Ren := ⟨fun | 20 => 14 | n => n, fun | 22 => 22 | 3 => 3 | 4 => 4 | 0 => 0 | n => n, fun | n => n⟩
theorem laysn20 : Go.Proofs.Lays2.n20 Tryd.prog laysn20_ren := {
  mixed := by kernel_rfl
  f20 := Tryd.func14.trans (congrArg some (by kernel_rfl))
  t0 := Tryd.underlying0
  a0 := Tryd.isAgg0
  z0 := Tryd.sizeOf0
  v0 := Tryd.zeroValue0
  t3 := Tryd.underlying3
  a3 := Tryd.isAgg3
  z3 := Tryd.sizeOf3
  v3 := Tryd.zeroValue3
  t4 := Tryd.underlying4
  a4 := Tryd.isAgg4
  z4 := Tryd.sizeOf4
  v4 := Tryd.zeroValue4
  t22 := Tryd.underlying22
  a22 := Tryd.isAgg22
  z22 := Tryd.sizeOf22
  v22 := Tryd.zeroValue22
  i3 := by kernel_rfl }

end Go.Proofs.YteegddpoekphoaaDoor
