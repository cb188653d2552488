/-
  pushkeep.two.
-/
import Derived.Test.YtlmlkpdppkgenaaMxL
namespace Go.Proofs.Ytlmlkpdppkgenaa
open Go.RowKit
open Cls Rex

set_option maxHeartbeats 4000000 in
set_option maxRecDepth 20000 in
theorem two_any (kd : Int) (hkd : -9223372036854775808 ≤ kd ∧ kd ≤ 9223372036854775807) (s t : T) (v u : Value) (B : Nat) (w : World) (hx : Rx w B v s) (hy : Rx w B u t) (hBw : B ≤ w.heap.size) :
    Calls Try.prog 44 #[.int .i64 kd, v, u] w fun e' w' => ∃ v', e' = .returned v' ∧ Rx w' w'.heap.size v' (.mk kd empty [s, t]) ∧ Below w.heap.size w w' := by
  obtain ⟨k0, c0, a0, p0, kids0, vals0, rfl, _⟩ := hx.shape
  obtain ⟨k1, c1, a1, p1, kids1, vals1, rfl, _⟩ := hy.shape
  obtain ⟨n0, HN0⟩ : ∃ n, Hid (kids0.length = n) := ⟨_, (rfl : kids0.length = kids0.length)⟩
  obtain ⟨n1, HN1⟩ : ∃ n, Hid (kids1.length = n) := ⟨_, (rfl : kids1.length = kids1.length)⟩
  rw [HN0.out] at hx ⊢
  rw [HN1.out] at hy ⊢
  have HX : Hid (Rx w B (.agg #[.int .i64 k0, .int .u64 (c0.1.toNat : Int), .int .u64 (c0.2.1.toNat : Int), .int .u64 (c0.2.2.1.toNat : Int), .int .u64 (c0.2.2.2.toNat : Int), .slice a0 n0 p0]) s ∧ Rx w B (.agg #[.int .i64 k1, .int .u64 (c1.1.toNat : Int), .int .u64 (c1.2.1.toNat : Int), .int .u64 (c1.2.2.1.toNat : Int), .int .u64 (c1.2.2.2.toNat : Int), .slice a1 n1 p1]) t) := ⟨hx, hy⟩
  clear hx hy
  go_enter Try.func44, Try.ntmps44
  go_wp2_with fail
  have hz := block_new (((w.alloc (.cells #[.int .i64 k0, .int .u64 (c0.1.toNat : Int), .int .u64 (c0.2.1.toNat : Int), .int .u64 (c0.2.2.1.toNat : Int), .int .u64 (c0.2.2.2.toNat : Int), .slice a0 n0 p0] 44)).alloc (.cells #[.int .i64 k1, .int .u64 (c1.1.toNat : Int), .int .u64 (c1.2.1.toNat : Int), .int .u64 (c1.2.2.1.toNat : Int), .int .u64 (c1.2.2.2.toNat : Int), .slice a1 n1 p1] 44)).alloc (.cells #[.int .i64 kd, .int .u64 0, .int .u64 0, .int .u64 0, .int .u64 0, .slice (some ⟨w.heap.size + 1 + 1 + 1, 0, none⟩) 2 2] 44)) (.cells #[.int .i64 k0, .int .u64 (c0.1.toNat : Int), .int .u64 (c0.2.1.toNat : Int), .int .u64 (c0.2.2.1.toNat : Int), .int .u64 (c0.2.2.2.toNat : Int), .slice a0 n0 p0, .int .i64 k1, .int .u64 (c1.1.toNat : Int), .int .u64 (c1.2.1.toNat : Int), .int .u64 (c1.2.2.1.toNat : Int), .int .u64 (c1.2.2.2.toNat : Int), .slice a1 n1 p1] 44)
  have hB : Below w.heap.size w ((((w.alloc (.cells #[.int .i64 k0, .int .u64 (c0.1.toNat : Int), .int .u64 (c0.2.1.toNat : Int), .int .u64 (c0.2.2.1.toNat : Int), .int .u64 (c0.2.2.2.toNat : Int), .slice a0 n0 p0] 44)).alloc (.cells #[.int .i64 k1, .int .u64 (c1.1.toNat : Int), .int .u64 (c1.2.1.toNat : Int), .int .u64 (c1.2.2.1.toNat : Int), .int .u64 (c1.2.2.2.toNat : Int), .slice a1 n1 p1] 44)).alloc (.cells #[.int .i64 kd, .int .u64 0, .int .u64 0, .int .u64 0, .int .u64 0, .slice (some ⟨w.heap.size + 1 + 1 + 1, 0, none⟩) 2 2] 44)).alloc (.cells #[.int .i64 k0, .int .u64 (c0.1.toNat : Int), .int .u64 (c0.2.1.toNat : Int), .int .u64 (c0.2.2.1.toNat : Int), .int .u64 (c0.2.2.2.toNat : Int), .slice a0 n0 p0, .int .i64 k1, .int .u64 (c1.1.toNat : Int), .int .u64 (c1.2.1.toNat : Int), .int .u64 (c1.2.2.1.toNat : Int), .int .u64 (c1.2.2.2.toNat : Int), .slice a1 n1 p1] 44)) := ((((Below.refl _ w).alloc (Nat.le_refl _) _).alloc (by simp) _).alloc (by simp; omega) _).alloc (by simp; omega) _
  have e : (((w.alloc (.cells #[.int .i64 k0, .int .u64 (c0.1.toNat : Int), .int .u64 (c0.2.1.toNat : Int), .int .u64 (c0.2.2.1.toNat : Int), .int .u64 (c0.2.2.2.toNat : Int), .slice a0 n0 p0] 44)).alloc (.cells #[.int .i64 k1, .int .u64 (c1.1.toNat : Int), .int .u64 (c1.2.1.toNat : Int), .int .u64 (c1.2.2.1.toNat : Int), .int .u64 (c1.2.2.2.toNat : Int), .slice a1 n1 p1] 44)).alloc (.cells #[.int .i64 kd, .int .u64 0, .int .u64 0, .int .u64 0, .int .u64 0, .slice (some ⟨w.heap.size + 1 + 1 + 1, 0, none⟩) 2 2] 44)).heap.size = w.heap.size + 1 + 1 + 1 := by simp
  rw [e] at hz
  refine bodyPost_ret (v := .agg #[.int .i64 kd, .int .u64 0, .int .u64 0, .int .u64 0, .int .u64 0, .slice (some ⟨w.heap.size + 1 + 1 + 1, 0, none⟩) 2 2]) (by simp [results, Try.results44, go_sem]) rfl ⟨_, rfl, ?_, hB⟩
  refine Rx.mk kd empty (some ⟨w.heap.size + 1 + 1 + 1, 0, none⟩) 2 [s, t] (fun i => if i = 0 then .agg #[.int .i64 k0, .int .u64 (c0.1.toNat : Int), .int .u64 (c0.2.1.toNat : Int), .int .u64 (c0.2.2.1.toNat : Int), .int .u64 (c0.2.2.2.toNat : Int), .slice a0 n0 p0] else .agg #[.int .i64 k1, .int .u64 (c1.1.toNat : Int), .int .u64 (c1.2.1.toNat : Int), .int .u64 (c1.2.2.1.toNat : Int), .int .u64 (c1.2.2.2.toNat : Int), .slice a1 n1 p1]) hkd (by simp) (Or.inr ⟨w.heap.size + 1 + 1 + 1, 0, rfl, blk_lt hz, ?_⟩) ?_
  · intro i hi j hj
    have hi' : i = 0 ∨ i = 1 := by simp at hi; omega
    rw [cell_of_row _ _ _ _ 44 (0, 0) hz]
    rcases hi' with rfl | rfl <;> (rcases (show j = 0 ∨ j = 1 ∨ j = 2 ∨ j = 3 ∨ j = 4 ∨ j = 5 by omega) with rfl | rfl | rfl | rfl | rfl | rfl <;> rfl)
  · intro i hi
    have hi' : i = 0 ∨ i = 1 := by simp at hi; omega
    rcases hi' with rfl | rfl
    · exact (HX.out.1.next (hB.mono hBw)).wide (Nat.le_trans hBw hB.size)
    · exact (HX.out.2.next (hB.mono hBw)).wide (Nat.le_trans hBw hB.size)
end Go.Proofs.Ytlmlkpdppkgenaa
