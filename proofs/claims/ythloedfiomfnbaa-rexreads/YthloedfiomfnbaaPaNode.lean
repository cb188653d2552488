/-
  The contracts of class.Join, rex.byteOf and rex.node.
-/
import Derived.Test.YthloedfiomfnbaaPaItem
namespace Go.Proofs.Ythloedfiomfnbaa
open Go.RowKit
open Cls Txt

set_option maxHeartbeats 1000000 in
set_option maxRecDepth 20000 in
theorem join_any (c d : Cl) (w : World) :
    Calls Try.prog 83 #[.agg #[.int .u64 ((c).1.toNat : Int), .int .u64 ((c).2.1.toNat : Int), .int .u64 ((c).2.2.1.toNat : Int), .int .u64 ((c).2.2.2.toNat : Int)], .agg #[.int .u64 ((d).1.toNat : Int), .int .u64 ((d).2.1.toNat : Int), .int .u64 ((d).2.2.1.toNat : Int), .int .u64 ((d).2.2.2.toNat : Int)]] w fun e w' => e = .returned (.agg #[.int .u64 ((join c d).1.toNat : Int), .int .u64 ((join c d).2.1.toNat : Int), .int .u64 ((join c d).2.2.1.toNat : Int), .int .u64 ((join c d).2.2.2.toNat : Int)]) ∧ Below w.heap.size w w' := by
  go_enter Try.func83, Try.ntmps83
  go_wp2
  refine wp_loop_rounds 5 ?_
  rw [rounds_succ]; go_wp2_with fail
  go_region
  go_wp2_with fail
  rw [rounds_succ]; go_wp2_with fail
  go_region
  go_wp2_with fail
  rw [rounds_succ]; go_wp2_with fail
  go_region
  go_wp2_with fail
  rw [rounds_succ]; go_wp2_with fail
  go_region
  go_wp2_with fail
  rw [rounds_succ]; go_wp2_with fail
  refine bodyPost_ret (v := .agg #[.int .u64 ((join c d).1.toNat : Int), .int .u64 ((join c d).2.1.toNat : Int), .int .u64 ((join c d).2.2.1.toNat : Int), .int .u64 ((join c d).2.2.2.toNat : Int)]) (by simp [results, Try.results83, go_sem, or64, join]) rfl ⟨rfl, ?_⟩
  exact ((((((Below.refl _ w).alloc (Nat.le_refl _) _).alloc (by simp) _).alloc (by simp; omega) _).drew.drew.drew.drew))

theorem block6 {W : World} {b : Nat} {v0 v1 v2 v3 v4 v5 : Value} (h : W.heap[b]? = some (.cells #[v0, v1, v2, v3, v4, v5] 27)) :
    (W.cell? ⟨b, 0, none⟩ = some v0 ∧ W.cell? ⟨b, 1, none⟩ = some v1 ∧ W.cell? ⟨b, 2, none⟩ = some v2 ∧ W.cell? ⟨b, 3, none⟩ = some v3 ∧ W.cell? ⟨b, 4, none⟩ = some v4 ∧ W.cell? ⟨b, 5, none⟩ = some v5) ∧
    (W.frozen? ⟨b, 0, none⟩ = false ∧ W.frozen? ⟨b, 1, none⟩ = false ∧ W.frozen? ⟨b, 2, none⟩ = false ∧ W.frozen? ⟨b, 3, none⟩ = false ∧ W.frozen? ⟨b, 4, none⟩ = false ∧ W.frozen? ⟨b, 5, none⟩ = false) := by
  have hf : ∀ o, W.frozen? ⟨b, o, none⟩ = false := fun o => by simp [World.frozen?, h]
  refine ⟨⟨?_, ?_, ?_, ?_, ?_, ?_⟩, hf 0, hf 1, hf 2, hf 3, hf 4, hf 5⟩ <;> simp [World.cell?, h]

set_option maxHeartbeats 1000000 in
set_option maxRecDepth 20000 in
theorem byteOf_any (c : Cl) (w : World) :
    Calls Try.prog 74 #[.agg #[.int .u64 ((c).1.toNat : Int), .int .u64 ((c).2.1.toNat : Int), .int .u64 ((c).2.2.1.toNat : Int), .int .u64 ((c).2.2.2.toNat : Int)]] w fun e w' => e = .returned (.agg #[.int .i64 3, .int .u64 ((c).1.toNat : Int), .int .u64 ((c).2.1.toNat : Int), .int .u64 ((c).2.2.1.toNat : Int), .int .u64 ((c).2.2.2.toNat : Int), .slice none 0 0]) ∧ Below w.heap.size w w' := by
  go_enter Try.func74, Try.ntmps74
  go_wp2_with fail
  refine bodyPost_ret (v := .agg #[.int .i64 3, .int .u64 ((c).1.toNat : Int), .int .u64 ((c).2.1.toNat : Int), .int .u64 ((c).2.2.1.toNat : Int), .int .u64 ((c).2.2.2.toNat : Int), .slice none 0 0]) (by simp [results, Try.results74, go_sem]) rfl ⟨rfl, ?_⟩
  exact ((Below.refl _ w).alloc (Nat.le_refl _) _).alloc (by simp) _
set_option maxHeartbeats 1000000 in
set_option maxRecDepth 20000 in
theorem node_any (k : Int) (ao : Option Addr) (n c : Nat) (w : World) :
    Calls Try.prog 37 #[.int .i64 k, .slice ao n c] w fun e w' => e = .returned (.agg #[.int .i64 k, .int .u64 0, .int .u64 0, .int .u64 0, .int .u64 0, .slice ao n c]) ∧ Below w.heap.size w w' := by
  go_enter Try.func37, Try.ntmps37
  go_wp2_with fail
  refine bodyPost_ret (v := .agg #[.int .i64 k, .int .u64 0, .int .u64 0, .int .u64 0, .int .u64 0, .slice ao n c]) (by simp [results, Try.results37, go_sem]) rfl ⟨rfl, ?_⟩
  exact (Below.refl _ w).alloc (Nat.le_refl _) _
end Go.Proofs.Ythloedfiomfnbaa
