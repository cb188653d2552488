/-
  The contracts of rex.kidCount and rex.isNode: has a node what its Kind asks for? For every node.
-/
import Derived.Test.YtlmlkpdppkgenaaRx
import Derived.Test.YtlmlkpdppkgenaaKeeps
import Derived.Deep.DeepCutAuto
namespace Go.Proofs.Ytlmlkpdppkgenaa
open Go.RowKit
open Cls Rex

theorem ret_i64 {a b : Int} (h : a = b) : Ending.returned (.int .i64 a) = .returned (.int .i64 b) := by rw [h]
theorem kidCount_any (k : Int) (w : World) : Calls Try.prog 88 #[.int .i64 k] w fun e w' => e = .returned (.int .i64 (kidCount k)) ∧ w' = w := by
  rcases (show k = 1 ∨ k = 2 ∨ k = 3 ∨ k = 6 ∨ k = 4 ∨ k = 5 ∨ (k ≠ 1 ∧ k ≠ 2 ∧ k ≠ 3 ∧ k ≠ 6 ∧ k ≠ 4 ∧ k ≠ 5) by omega) with rfl | rfl | rfl | rfl | rfl | rfl | ⟨h1, h2, h3, h6, h4, h5⟩
  all_goals
    go_enter Try.func88, Try.ntmps88
    go_wp2
    go_ret
    first | exact ⟨rfl, rfl⟩ | exact ⟨ret_i64 (by unfold kidCount; rw [if_neg (by omega), if_neg (by omega), if_neg (by omega)]), rfl⟩
/-- What isNode's region keeps: a box of a node. -/
def S6 (w : World) (b : Nat) (k : Int) (c : Cl) (s : Value) (W : World) : Prop := Below w.heap.size w W ∧ W.cell? ⟨b, 0, none⟩ = some (.int .i64 k) ∧ W.cell? ⟨b, 1, none⟩ = some (.int .u64 (c.1.toNat : Int)) ∧ W.cell? ⟨b, 2, none⟩ = some (.int .u64 (c.2.1.toNat : Int)) ∧ W.cell? ⟨b, 3, none⟩ = some (.int .u64 (c.2.2.1.toNat : Int)) ∧ W.cell? ⟨b, 4, none⟩ = some (.int .u64 (c.2.2.2.toNat : Int)) ∧ W.cell? ⟨b, 5, none⟩ = some s
theorem cell_next {W W' : World} {p : Addr} {v : Value} (h : W.cell? p = some v) (hb : Below W.heap.size W W') : W'.cell? p = some v := (hb.cell (World.block_lt_of_cell? W p h)).trans h
theorem S6.next {w : World} {b : Nat} {k : Int} {c : Cl} {s : Value} (W W' : World) (h : S6 w b k c s W) (hb : Below W.heap.size W W') : S6 w b k c s W' :=
  ⟨h.1.trans (hb.mono h.1.size), cell_next h.2.1 hb, cell_next h.2.2.1 hb, cell_next h.2.2.2.1 hb, cell_next h.2.2.2.2.1 hb, cell_next h.2.2.2.2.2.1 hb, cell_next h.2.2.2.2.2.2 hb⟩
theorem s6_new (w : World) (k : Int) (c : Cl) (s : Value) : S6 w w.heap.size k c s (w.alloc (.cells #[.int .i64 k, .int .u64 (c.1.toNat : Int), .int .u64 (c.2.1.toNat : Int), .int .u64 (c.2.2.1.toNat : Int), .int .u64 (c.2.2.2.toNat : Int), s] 44)) := by
  refine ⟨(Below.refl _ w).alloc (Nat.le_refl _) _, ?_, ?_, ?_, ?_, ?_, ?_⟩ <;> simp

set_option maxHeartbeats 2000000 in
set_option maxRecDepth 20000 in
theorem isNode_any (k : Int) (c : Cl) (ao : Option Addr) (n cap : Nat) (w : World) :
    Calls Try.prog 82 #[.agg #[.int .i64 k, .int .u64 (c.1.toNat : Int), .int .u64 (c.2.1.toNat : Int), .int .u64 (c.2.2.1.toNat : Int), .int .u64 (c.2.2.2.toNat : Int), .slice ao n cap]] w fun e w' => e = .returned (.bool (isNode k c n)) ∧ Below w.heap.size w w' := by
  obtain ⟨hc, HC⟩ : ∃ hc, Hid (decide (c = empty) = hc) := ⟨_, (rfl : decide (c = empty) = decide (c = empty))⟩
  obtain ⟨q, HQ⟩ : ∃ q, Hid (kidCount k = q) := ⟨_, (rfl : kidCount k = kidCount k)⟩
  have hq : ∀ W, (Op.equalIn 10000 42 (.agg #[.int .u64 (c.1.toNat : Int), .int .u64 (c.2.1.toNat : Int), .int .u64 (c.2.2.1.toNat : Int), .int .u64 (c.2.2.2.toNat : Int)]) (.agg #[.int .u64 0, .int .u64 0, .int .u64 0, .int .u64 0])).run Try.prog W = .ok hc W := fun W => by rw [eqIn_zero, HC.out]
  have hgd := guard24
  have HK : Hid (∀ W, Calls Try.prog 88 #[.int .i64 k] W fun e w' => e = .returned (.int .i64 q) ∧ Below W.heap.size W w') := fun W => (kidCount_any k W).mono fun _ _ ⟨h1, h2⟩ => ⟨by rw [h1, HQ.out], by rw [h2]; exact Below.refl _ _⟩
  have S1 := s6_new w k c (.slice ao n cap)
  have HE : Hid (isNode k c n = (decide ((n : Int) = q) && ((!hc) == decide (k = 3)))) := by
    show isNode k c n = _
    unfold isNode
    rw [HQ.out, ← HC.out]
    simp
  go_enter Try.func82, Try.ntmps82
  go_upto_region 2 with fail
  have S1' : S6 w w.heap.size k c (.slice ao n cap) _ := ⟨S1.1.drew, S1.2⟩
  clear S1
  have p0 : ∀ p : Kp (S6 w w.heap.size k c (.slice ao n cap)), p.W.cell? ⟨w.heap.size, 0, none⟩ = some (.int .i64 k) := fun p => p.h.2.1
  have p1 : ∀ p : Kp (S6 w w.heap.size k c (.slice ao n cap)), p.W.cell? ⟨w.heap.size, 1, none⟩ = some (.int .u64 (c.1.toNat : Int)) := fun p => p.h.2.2.1
  have p2 : ∀ p : Kp (S6 w w.heap.size k c (.slice ao n cap)), p.W.cell? ⟨w.heap.size, 2, none⟩ = some (.int .u64 (c.2.1.toNat : Int)) := fun p => p.h.2.2.2.1
  have p3 : ∀ p : Kp (S6 w w.heap.size k c (.slice ao n cap)), p.W.cell? ⟨w.heap.size, 3, none⟩ = some (.int .u64 (c.2.2.1.toNat : Int)) := fun p => p.h.2.2.2.2.1
  have p4 : ∀ p : Kp (S6 w w.heap.size k c (.slice ao n cap)), p.W.cell? ⟨w.heap.size, 4, none⟩ = some (.int .u64 (c.2.2.2.toNat : Int)) := fun p => p.h.2.2.2.2.2.1
  have p5 : ∀ p : Kp (S6 w w.heap.size k c (.slice ao n cap)), p.W.cell? ⟨w.heap.size, 5, none⟩ = some (.slice ao n cap) := fun p => p.h.2.2.2.2.2.2
  have hne : Nonempty (Kp (S6 w w.heap.size k c (.slice ao n cap))) := ⟨⟨_, S1'⟩⟩
  by_cases hn : (n : Int) = q
  · have hb : ((n : Int) == q) = true := by simp [hn]
    have HN : Hid ((n : Int) = q) := hn
    clear hn
    refine wp_region_kept mixed (by kernel_rfl) S1' ?_
    clear S1'
    repeat (go_big_quiet_step (first | (go_at_call 88; with_reducible exact Kp.calls _ S6.next (HK.out _))))
    refine wpQuiet_nil ?_
    intro W1 hw1
    obtain ⟨⟨W1, HS⟩, rfl⟩ := hw1
    have HB := HS.1
    clear p0 p1 p2 p3 p4 p5 hne HS
    go_wp2_with fail
    go_ret
    refine ⟨?_, HB⟩
    rw [HE.out]
    have := HN.out
    by_cases h3 : k = 3 <;> cases hc <;> simp [h3, this]
  · have hb : ((n : Int) == q) = false := by simp [hn]
    have HN : Hid (¬ (n : Int) = q) := hn
    clear hn
    refine wp_region_kept mixed (by kernel_rfl) S1' ?_
    clear S1'
    repeat (go_big_quiet_step (first | (go_at_call 88; with_reducible exact Kp.calls _ S6.next (HK.out _))))
    refine wpQuiet_nil ?_
    intro W1 hw1
    obtain ⟨⟨W1, HS⟩, rfl⟩ := hw1
    have HB := HS.1
    clear p0 p1 p2 p3 p4 p5 hne HS
    go_wp2_with fail
    go_ret
    exact ⟨by rw [HE.out]; have := HN.out; simp [this], HB⟩
end Go.Proofs.Ytlmlkpdppkgenaa
