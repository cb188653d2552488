/-
  The contracts of ll.bitOf, ll.isProdOf, pushref.Col.
-/
import Derived.Test.YtpbnnmfjahckmaaLlRows
namespace Go.Proofs.Ytpbnnmfjahckmaa
open Go.RowKit
open Cg

set_option maxHeartbeats 1600000 in
set_option maxRecDepth 20000 in
theorem bitOf_any (T col : Nat) (n : Int) (pv : Value) (w : World) (hpv : ∃ ao m c, pv = .slice ao m c) :
    Calls Try.prog 83 #[.agg #[.int .i64 (T : Int), .int .i64 n, pv], .int .i64 (col : Int)] w fun e w' => e = .returned (.int .i64 (bc T col : Int)) ∧ Below w.heap.size w w' := by
  obtain ⟨ao, m, c, rfl⟩ := hpv
  by_cases h : col = T
  · have h1 : ((col : Int) == (T : Int)) = true := by simp [h]
    have h2 : bc T col = 63 := if_pos h
    rw [h2]
    clear h h2
    go_enter Try.func83, Try.ntmps83
    go_wp2_with fail
    go_ret
    exact ⟨by simp, below_alloc _ _⟩
  · have h1 : ((col : Int) == (T : Int)) = false := by simp; omega
    have h2 : bc T col = col := if_neg h
    rw [h2]
    clear h h2
    go_enter Try.func83, Try.ntmps83
    go_wp2_with fail
    go_ret
    exact ⟨by simp, below_alloc _ _⟩
end Go.Proofs.Ytpbnnmfjahckmaa
