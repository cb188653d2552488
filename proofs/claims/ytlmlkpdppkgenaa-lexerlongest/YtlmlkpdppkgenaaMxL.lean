/-
  pushkeep.star, letter.
-/
import Derived.Test.YtlmlkpdppkgenaaTree
import Derived.Test.YtlmlkpdppkgenaaChecks
import Derived.Test.YtlmlkpdppkgenaaInvs
import Derived.OwnWalk
import Derived.Laws.AppendOwn
import Derived.Deep.AppendLies
import Derived.Deep.RegionHeld3
import Derived.Laws.OwnMore
import Derived.Maps.OwnSet
import Derived.Maps.Own
import Derived.DeepKeys4
import Derived.Laws.AppendOwnNone
namespace Go.Proofs.Ytlmlkpdppkgenaa
open Go.RowKit
open Cls Rex

set_option maxHeartbeats 4000000 in
set_option maxRecDepth 20000 in
theorem star_any (t : T) (v : Value) (B : Nat) (w : World) (hx : Rx w B v t) (hBw : B ≤ w.heap.size) :
    Calls Try.prog 45 #[v] w fun e' w' => ∃ v', e' = .returned v' ∧ Rx w' w'.heap.size v' (.mk 6 empty [t]) ∧ Below w.heap.size w w' := by
  obtain ⟨k, c, ao, cap, kids, vals, rfl, _⟩ := hx.shape
  obtain ⟨n, HN⟩ : ∃ n, Hid (kids.length = n) := ⟨_, (rfl : kids.length = kids.length)⟩
  rw [HN.out] at hx ⊢
  have HX : Hid (Rx w B (.agg #[.int .i64 k, .int .u64 (c.1.toNat : Int), .int .u64 (c.2.1.toNat : Int), .int .u64 (c.2.2.1.toNat : Int), .int .u64 (c.2.2.2.toNat : Int), .slice ao n cap]) t) := hx
  clear hx
  go_enter Try.func45, Try.ntmps45
  go_wp2_with fail
  have hz := block_new ((w.alloc (.cells #[.int .i64 k, .int .u64 (c.1.toNat : Int), .int .u64 (c.2.1.toNat : Int), .int .u64 (c.2.2.1.toNat : Int), .int .u64 (c.2.2.2.toNat : Int), .slice ao n cap] 44)).alloc (.cells #[.int .i64 6, .int .u64 0, .int .u64 0, .int .u64 0, .int .u64 0, .slice (some ⟨w.heap.size + 1 + 1, 0, none⟩) 1 1] 44)) (.cells #[.int .i64 k, .int .u64 (c.1.toNat : Int), .int .u64 (c.2.1.toNat : Int), .int .u64 (c.2.2.1.toNat : Int), .int .u64 (c.2.2.2.toNat : Int), .slice ao n cap] 44)
  have hB : Below w.heap.size w (((w.alloc (.cells #[.int .i64 k, .int .u64 (c.1.toNat : Int), .int .u64 (c.2.1.toNat : Int), .int .u64 (c.2.2.1.toNat : Int), .int .u64 (c.2.2.2.toNat : Int), .slice ao n cap] 44)).alloc (.cells #[.int .i64 6, .int .u64 0, .int .u64 0, .int .u64 0, .int .u64 0, .slice (some ⟨w.heap.size + 1 + 1, 0, none⟩) 1 1] 44)).alloc (.cells #[.int .i64 k, .int .u64 (c.1.toNat : Int), .int .u64 (c.2.1.toNat : Int), .int .u64 (c.2.2.1.toNat : Int), .int .u64 (c.2.2.2.toNat : Int), .slice ao n cap] 44)) := (((Below.refl _ w).alloc (Nat.le_refl _) _).alloc (by simp) _).alloc (by simp; omega) _
  have e : ((w.alloc (.cells #[.int .i64 k, .int .u64 (c.1.toNat : Int), .int .u64 (c.2.1.toNat : Int), .int .u64 (c.2.2.1.toNat : Int), .int .u64 (c.2.2.2.toNat : Int), .slice ao n cap] 44)).alloc (.cells #[.int .i64 6, .int .u64 0, .int .u64 0, .int .u64 0, .int .u64 0, .slice (some ⟨w.heap.size + 1 + 1, 0, none⟩) 1 1] 44)).heap.size = w.heap.size + 1 + 1 := by simp
  rw [e] at hz
  refine bodyPost_ret (v := .agg #[.int .i64 6, .int .u64 0, .int .u64 0, .int .u64 0, .int .u64 0, .slice (some ⟨w.heap.size + 1 + 1, 0, none⟩) 1 1]) (by simp [results, Try.results45, go_sem]) rfl ⟨_, rfl, ?_, hB⟩
  refine Rx.mk 6 empty (some ⟨w.heap.size + 1 + 1, 0, none⟩) 1 [t] (fun _ => .agg #[.int .i64 k, .int .u64 (c.1.toNat : Int), .int .u64 (c.2.1.toNat : Int), .int .u64 (c.2.2.1.toNat : Int), .int .u64 (c.2.2.2.toNat : Int), .slice ao n cap]) ⟨by omega, by omega⟩ (by simp) (Or.inr ⟨w.heap.size + 1 + 1, 0, rfl, blk_lt hz, ?_⟩) ?_
  · intro i hi j _
    have : i = 0 := by simpa using hi
    subst this
    rw [show 0 + 0 * 6 + j = j by omega]
    exact cell_of_row _ _ j _ 44 (0, 0) hz
  · intro i hi
    have : i = 0 := by simpa using hi
    subst this
    exact (HX.out.next (hB.mono hBw)).wide (Nat.le_trans hBw hB.size)
end Go.Proofs.Ytlmlkpdppkgenaa

namespace Go.Proofs.Ytlmlkpdppkgenaa
open Go.RowKit
open Cls Rex

theorem box_keep (w : World) (o : Obj) : Below w.heap.size w (w.alloc o) := (Below.refl _ w).alloc (Nat.le_refl _) o
end Go.Proofs.Ytlmlkpdppkgenaa

namespace Go.Proofs.Ytlmlkpdppkgenaa
open Go.RowKit
open Cls Rex

set_option maxHeartbeats 4000000 in
set_option maxRecDepth 20000 in
theorem letter_any (z : Int) (h1 : -9223372036854775808 ≤ z) (h2 : z ≤ 9223372036854775807) (w : World) :
    Calls Try.prog 14 #[.int .i64 z] w fun e' w' => ∃ v', e' = .returned v' ∧ Rx w' w'.heap.size v' (.mk 3 (range z z) []) ∧ Below w.heap.size w w' := by
  have hb1 := box_keep w (.cells #[.int .i64 0, .int .u64 0, .int .u64 0, .int .u64 0, .int .u64 0, .slice none 0 0] 44)
  have hz1 := block_new w (.cells #[.int .i64 0, .int .u64 0, .int .u64 0, .int .u64 0, .int .u64 0, .slice none 0 0] 44)
  obtain ⟨w1, HW1⟩ : ∃ w1, Hid (w.alloc (.cells #[.int .i64 0, .int .u64 0, .int .u64 0, .int .u64 0, .int .u64 0, .slice none 0 0] 44) = w1) := ⟨_, (rfl : w.alloc (.cells #[.int .i64 0, .int .u64 0, .int .u64 0, .int .u64 0, .int .u64 0, .slice none 0 0] 44) = w.alloc (.cells #[.int .i64 0, .int .u64 0, .int .u64 0, .int .u64 0, .int .u64 0, .slice none 0 0] 44))⟩
  rw [HW1.out] at hb1 hz1
  have HC : Hid (Calls Try.prog 38 #[.int .i64 z, .int .i64 z] w1 fun e w' => e = .returned (.agg #[.int .u64 ((range z z).1.toNat : Int), .int .u64 ((range z z).2.1.toNat : Int), .int .u64 ((range z z).2.2.1.toNat : Int), .int .u64 ((range z z).2.2.2.toNat : Int)]) ∧ Below w1.heap.size w1 w') := range_any z z h2 h1 h2 w1
  go_enter Try.func14, Try.ntmps14
  go_wp2_with fail
  rw [HW1.out]
  refine HC.out.mono ?_
  rintro e1 w2 ⟨rfl, hb2⟩
  have hz2 := blk_next hb2 hz1
  have HZ2 : Hid (w2.heap[w.heap.size]? = some (.cells #[.int .i64 0, .int .u64 0, .int .u64 0, .int .u64 0, .int .u64 0, .slice none 0 0] 44)) := hz2
  have q0 := cell_of_row w2 w.heap.size 0 _ 44 (0, 0) hz2
  have q1 := cell_of_row w2 w.heap.size 1 _ 44 (0, 0) hz2
  have q2 := cell_of_row w2 w.heap.size 2 _ 44 (0, 0) hz2
  have q3 := cell_of_row w2 w.heap.size 3 _ 44 (0, 0) hz2
  have q4 := cell_of_row w2 w.heap.size 4 _ 44 (0, 0) hz2
  have q5 := cell_of_row w2 w.heap.size 5 _ 44 (0, 0) hz2
  have r0 := frozen_of_row w2 w.heap.size 0 _ 44 hz2
  have r1 := frozen_of_row w2 w.heap.size 1 _ 44 hz2
  have r2 := frozen_of_row w2 w.heap.size 2 _ 44 hz2
  have r3 := frozen_of_row w2 w.heap.size 3 _ 44 hz2
  have r4 := frozen_of_row w2 w.heap.size 4 _ 44 hz2
  have r5 := frozen_of_row w2 w.heap.size 5 _ 44 hz2
  have HB2 : Hid (Below w.heap.size w w2) := hb1.trans (hb2.mono hb1.size)
  clear hz2 hb2
  go_wp2_with fail
  have y0 := heap_setCell_same w2 w.heap.size 0 _ 44 (.int .i64 3) HZ2.out
  have y1 := heap_setCell_same _ w.heap.size 1 _ 44 (.int .u64 ((range z z).1.toNat : Int)) y0
  have y2 := heap_setCell_same _ w.heap.size 2 _ 44 (.int .u64 ((range z z).2.1.toNat : Int)) y1
  have y3 := heap_setCell_same _ w.heap.size 3 _ 44 (.int .u64 ((range z z).2.2.1.toNat : Int)) y2
  have y4 := heap_setCell_same _ w.heap.size 4 _ 44 (.int .u64 ((range z z).2.2.2.toNat : Int)) y3
  have y5 := heap_setCell_same _ w.heap.size 5 _ 44 (.slice none 0 0) y4
  have hB : Below w.heap.size w ((((((w2.setCell ⟨w.heap.size, 0, none⟩ (.int .i64 3)).setCell ⟨w.heap.size, 1, none⟩ (.int .u64 ((range z z).1.toNat : Int))).setCell ⟨w.heap.size, 2, none⟩ (.int .u64 ((range z z).2.1.toNat : Int))).setCell ⟨w.heap.size, 3, none⟩ (.int .u64 ((range z z).2.2.1.toNat : Int))).setCell ⟨w.heap.size, 4, none⟩ (.int .u64 ((range z z).2.2.2.toNat : Int))).setCell ⟨w.heap.size, 5, none⟩ (.slice none 0 0)) := (((((HB2.out.setCell (p := ⟨w.heap.size, 0, none⟩) (Nat.le_refl _) _).setCell (p := ⟨w.heap.size, 1, none⟩) (Nat.le_refl _) _).setCell (p := ⟨w.heap.size, 2, none⟩) (Nat.le_refl _) _).setCell (p := ⟨w.heap.size, 3, none⟩) (Nat.le_refl _) _).setCell (p := ⟨w.heap.size, 4, none⟩) (Nat.le_refl _) _).setCell (p := ⟨w.heap.size, 5, none⟩) (Nat.le_refl _) _
  have d0 := cell_of_row _ w.heap.size 0 _ 44 (0, 0) y5
  have d1 := cell_of_row _ w.heap.size 1 _ 44 (0, 0) y5
  have d2 := cell_of_row _ w.heap.size 2 _ 44 (0, 0) y5
  have d3 := cell_of_row _ w.heap.size 3 _ 44 (0, 0) y5
  have d4 := cell_of_row _ w.heap.size 4 _ 44 (0, 0) y5
  have d5 := cell_of_row _ w.heap.size 5 _ 44 (0, 0) y5
  clear q0 q1 q2 q3 q4 q5 r0 r1 r2 r3 r4 r5 y0 y1 y2 y3 y4 y5
  generalize ((((((w2.setCell ⟨w.heap.size, 0, none⟩ (.int .i64 3)).setCell ⟨w.heap.size, 1, none⟩ (.int .u64 ((range z z).1.toNat : Int))).setCell ⟨w.heap.size, 2, none⟩ (.int .u64 ((range z z).2.1.toNat : Int))).setCell ⟨w.heap.size, 3, none⟩ (.int .u64 ((range z z).2.2.1.toNat : Int))).setCell ⟨w.heap.size, 4, none⟩ (.int .u64 ((range z z).2.2.2.toNat : Int))).setCell ⟨w.heap.size, 5, none⟩ (.slice none 0 0)) = w9 at hB d0 d1 d2 d3 d4 d5 ⊢
  simp at d0 d1 d2 d3 d4 d5
  refine bodyPost_ret (v := .agg #[.int .i64 3, .int .u64 ((range z z).1.toNat : Int), .int .u64 ((range z z).2.1.toNat : Int), .int .u64 ((range z z).2.2.1.toNat : Int), .int .u64 ((range z z).2.2.2.toNat : Int), .slice none 0 0]) (by simp [results, Try.results14, go_sem, d0, d1, d2, d3, d4, d5]) rfl ⟨_, rfl, ?_, hB⟩
  exact Rx.mk 3 (range z z) none 0 [] (fun _ => .slice none 0 0) ⟨by omega, by omega⟩ (by simp) (Or.inl rfl) (fun i hi => absurd hi (Nat.not_lt_zero _))
end Go.Proofs.Ytlmlkpdppkgenaa
