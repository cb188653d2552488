/-
  The laying of slices.Reverse, at bytes, at this program: a table of numbers and facts of the program alone.
-/
import Derived.Shelf.SlicesE.Reverse
import Derived.Test.YtlgcggfenljdnaaProg
namespace Go.Proofs
open Go.Shelf
def Try.revByte_ren : Go.Shelf.Ren := ⟨fun | 35 => 51 | n => n, fun | 22 => 97 | 23 => 5 | n => n, fun | n => n⟩
theorem Try.revByte : Go.Proofs.SlLaysE.n35 Try.prog Try.revByte_ren := {
  mixed := by kernel_rfl
  f35 := ⟨Try.f51.name, by decide, Try.func51.trans (congrArg some (by kernel_rfl))⟩
  t0 := Try.underlying0
  a0 := Try.isAgg0
  z0 := Try.sizeOf0
  v0 := Try.zeroValue0
  t3 := Try.underlying3
  a3 := Try.isAgg3
  z3 := Try.sizeOf3
  v3 := Try.zeroValue3
  t4 := Try.underlying4
  a4 := Try.isAgg4
  z4 := Try.sizeOf4
  v4 := Try.zeroValue4
  t22 := Try.underlying97
  a22 := Try.isAgg97
  z22 := Try.sizeOf97
  v22 := Try.zeroValue97
  a23 := Try.isAgg5
  z23 := Try.sizeOf5 }
end Go.Proofs
