/-
  The laying of stringslite.Clone at this program: a table of numbers and facts of the program alone.
-/
import Derived.Shelf.Pu.Clone
import Derived.Test.YtcdnbkfjiigdmaaProg
namespace Go.Proofs
open Go.Shelf
def Try.cloneStr_ren : Go.Shelf.Ren := ⟨fun | 25 => 28 | n => n, fun | 37 => 68 | 47 => 69 | n => n, fun | n => n⟩
theorem Try.cloneStr : Go.Proofs.LaysPu.n25 Try.prog Try.cloneStr_ren := {
  mixed := by kernel_rfl
  f25 := Try.func28.trans (congrArg some (by kernel_rfl))
  t0 := Try.underlying0
  a0 := Try.isAgg0
  z0 := Try.sizeOf0
  v0 := Try.zeroValue0
  i0 := by kernel_rfl
  t3 := Try.underlying3
  a3 := Try.isAgg3
  z3 := Try.sizeOf3
  v3 := Try.zeroValue3
  i3 := by kernel_rfl
  t4 := Try.underlying4
  a4 := Try.isAgg4
  z4 := Try.sizeOf4
  v4 := Try.zeroValue4
  i4 := by kernel_rfl
  t5 := Try.underlying5
  a5 := Try.isAgg5
  z5 := Try.sizeOf5
  v5 := Try.zeroValue5
  i5 := by kernel_rfl
  t9 := Try.underlying9
  a9 := Try.isAgg9
  z9 := Try.sizeOf9
  v9 := Try.zeroValue9
  i9 := by kernel_rfl
  t37 := Try.underlying68
  a37 := Try.isAgg68
  z37 := Try.sizeOf68
  v37 := Try.zeroValue68
  i37 := by kernel_rfl
  t47 := Try.underlying69
  a47 := Try.isAgg69
  z47 := Try.sizeOf69
  v47 := Try.zeroValue69
  i47 := by kernel_rfl }
end Go.Proofs
