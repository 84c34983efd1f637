/-
  The library's own contract on strings.Compare, laid at this program: a table of numbers and one theorem.
-/
import Derived.Shelf.Small.Strs
import Derived.Test.YtmhoilliaeefcaaDoorProg
namespace Go.Proofs
open Go.Shelf
def Tryd.cmpStr_ren : Go.Shelf.Ren := ⟨fun | 106 => 107 | 213 => 116 | 265 => 120 | n => n, fun | 9 => 9 | 3 => 3 | n => n, fun | n => n⟩
theorem Tryd.cmpStr : Go.Proofs.Lays.n106 Tryd.prog Tryd.cmpStr_ren := {
  mixed := by kernel_rfl
  f106 := Tryd.func107.trans (congrArg some (by kernel_rfl))
  f213 := Tryd.func116.trans (congrArg some (by kernel_rfl))
  f265 := Tryd.func120.trans (congrArg some (by kernel_rfl))
  t3 := Tryd.underlying3
  a3 := Tryd.isAgg3
  z3 := Tryd.sizeOf3
  v3 := Tryd.zeroValue3
  t9 := Tryd.underlying9
  a9 := Tryd.isAgg9
  z9 := Tryd.sizeOf9
  v9 := Tryd.zeroValue9 }
end Go.Proofs
