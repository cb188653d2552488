/-
  The contracts of pushref.Col and ll.isRow.
-/
import Derived.Test.YtpbnnmfjahckmaaLlLow
import Derived.Test.YtpbnnmfjahckmaaIxOpen
namespace Go.Proofs.Ytpbnnmfjahckmaa
open Go.RowKit
open Cg

theorem mod_wd (x : Wd) (k : Nat) : ((((x.toNat : Int) / 2 ^ k).tmod 2 : Int) == 1) = x.getLsbD k := by
  rw [wd_div, Int.tmod_eq_emod_of_nonneg (Int.natCast_nonneg _), wd_bit]
  generalize x.toNat / 2 ^ k = n
  by_cases h : n % 2 = 1
  · simp [h]; omega
  · simp [h]; omega
theorem top_wd (x : Wd) : (((x.toNat : Int) / 9223372036854775808 : Int) == 1) = x.getLsbD 63 := by
  have h := x.isLt
  rw [wd_bit, show (2 : Nat) ^ 63 = 9223372036854775808 from rfl]
  have h2 : x.toNat / 9223372036854775808 < 2 := by omega
  have e : ((x.toNat : Int) / 9223372036854775808) = ((x.toNat / 9223372036854775808 : Nat) : Int) := by simp
  rw [e]
  generalize x.toNat / 9223372036854775808 = n at h2
  have : n = 0 ∨ n = 1 := by omega
  rcases this with rfl | rfl <;> rfl
theorem and_wd (x : Wd) (k : Nat) : (bits .and .u64 ((x.toNat : Int) / 2 ^ k) 1 == 0) = !x.getLsbD k := by
  have h1 := x.isLt
  have h2 : x.toNat / 2 ^ k ≤ x.toNat := Nat.div_le_self _ _
  rw [wd_div]
  have := u64_and_nat (x.toNat / 2 ^ k) 1 (by omega) (by omega)
  rw [show ((1 : Nat) : Int) = 1 from rfl] at this
  rw [this, Nat.and_one_is_mod, wd_bit]
  generalize x.toNat / 2 ^ k = n
  have : n % 2 = 0 ∨ n % 2 = 1 := by omega
  rcases this with h | h <;> rw [h] <;> rfl
theorem ret_bool {a b : Bool} (h : a = b) : Ending.returned (.bool a) = .returned (.bool b) := by rw [h]
end Go.Proofs.Ytpbnnmfjahckmaa
