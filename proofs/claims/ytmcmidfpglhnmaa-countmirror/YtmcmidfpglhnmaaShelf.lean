/-
  The laying of slices.Reverse, at numbers, at this program: a table of numbers and facts of the program alone.
-/
import Derived.Shelf.SlicesE.Reverse
import Derived.Test.YtmcmidfpglhnmaaProg
namespace Go.Proofs
open Go.Shelf
def Try.revInt_ren : Go.Shelf.Ren := ⟨fun | 35 => 25 | n => n, fun | 22 => 25 | 23 => 3 | n => n, fun | n => n⟩
theorem Try.revInt : Go.Proofs.SlLaysE.n35 Try.prog Try.revInt_ren := {
  mixed := by kernel_rfl
  f35 := ⟨Try.f25.name, by decide, Try.func25.trans (congrArg some (by kernel_rfl))⟩
  t0 := Try.underlying0
  a0 := Try.isAgg0
  z0 := Try.sizeOf0
  v0 := Try.zeroValue0
  t3 := Try.underlying3
  a3 := Try.isAgg3
  z3 := Try.sizeOf3
  v3 := Try.zeroValue3
  t4 := Try.underlying4
  a4 := Try.isAgg4
  z4 := Try.sizeOf4
  v4 := Try.zeroValue4
  t22 := Try.underlying25
  a22 := Try.isAgg25
  z22 := Try.sizeOf25
  v22 := Try.zeroValue25
  a23 := Try.isAgg3
  z23 := Try.sizeOf3 }
end Go.Proofs
