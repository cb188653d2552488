/-
  The laying of slices.Reverse, at trees and at bytes, at this program: tables of numbers and facts of the program alone.
-/
import Derived.Shelf.SlicesQ.Reverse
import Derived.Shelf.SlicesE.Reverse
import Derived.Test.YtdnagboonjcehaaProg
namespace Go.Proofs
open Go.Shelf
def Try.revRex_ren : Go.Shelf.Ren := ⟨fun | 35 => 25 | n => n, fun | 22 => 25 | 23 => 27 | n => n, fun | n => n⟩
theorem Try.revRex : Go.Proofs.SlLaysE0.n35 Try.prog Try.revRex_ren := {
  mixed := by kernel_rfl
  f35 := ⟨Try.f25.name, by decide, Try.func25.trans (congrArg some (by kernel_rfl))⟩
  t0 := Try.underlying0
  a0 := Try.isAgg0
  z0 := Try.sizeOf0
  v0 := Try.zeroValue0
  t3 := Try.underlying3
  a3 := Try.isAgg3
  z3 := Try.sizeOf3
  v3 := Try.zeroValue3
  t4 := Try.underlying4
  a4 := Try.isAgg4
  z4 := Try.sizeOf4
  v4 := Try.zeroValue4
  t22 := Try.underlying25
  a22 := Try.isAgg25
  z22 := Try.sizeOf25
  v22 := Try.zeroValue25 }
def Try.revByte_ren : Go.Shelf.Ren := ⟨fun | 35 => 26 | n => n, fun | 22 => 57 | 23 => 5 | n => n, fun | n => n⟩
theorem Try.revByte : Go.Proofs.SlLaysE.n35 Try.prog Try.revByte_ren := {
  mixed := by kernel_rfl
  f35 := ⟨Try.f26.name, by decide, Try.func26.trans (congrArg some (by kernel_rfl))⟩
  t0 := Try.underlying0
  a0 := Try.isAgg0
  z0 := Try.sizeOf0
  v0 := Try.zeroValue0
  t3 := Try.underlying3
  a3 := Try.isAgg3
  z3 := Try.sizeOf3
  v3 := Try.zeroValue3
  t4 := Try.underlying4
  a4 := Try.isAgg4
  z4 := Try.sizeOf4
  v4 := Try.zeroValue4
  t22 := Try.underlying57
  a22 := Try.isAgg57
  z22 := Try.sizeOf57
  v22 := Try.zeroValue57
  a23 := Try.isAgg5
  z23 := Try.sizeOf5 }
end Go.Proofs
