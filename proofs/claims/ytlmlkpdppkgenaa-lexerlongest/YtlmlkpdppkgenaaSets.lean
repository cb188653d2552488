/-
  The contracts of class.Meet, class.Not and class.below: each answers the class that YtlmlkpdppkgenaaMath says, for every class and every number, and leaves what lay below the heap's end as it was.
-/
import Derived.Test.YtlmlkpdppkgenaaBits
import Derived.LoopN
namespace Go.Proofs.Ytlmlkpdppkgenaa
open Go.RowKit
open Cls

theorem or64 (a b : Wd) : bits .or .u64 (a.toNat : Int) (b.toNat : Int) = ((a ||| b).toNat : Int) := by
  rw [u64_or_nat _ _ a.isLt b.isLt, BitVec.toNat_or]
theorem and64 (a b : Wd) : bits .and .u64 (a.toNat : Int) (b.toNat : Int) = ((a &&& b).toNat : Int) := by
  rw [u64_and_nat _ _ a.isLt b.isLt, BitVec.toNat_and]

set_option maxHeartbeats 1000000 in
set_option maxRecDepth 20000 in
theorem meet_any (c d : Cl) (w : World) :
    Calls Try.prog 62 #[.agg #[.int .u64 (c.1.toNat : Int), .int .u64 (c.2.1.toNat : Int), .int .u64 (c.2.2.1.toNat : Int), .int .u64 (c.2.2.2.toNat : Int)], .agg #[.int .u64 (d.1.toNat : Int), .int .u64 (d.2.1.toNat : Int), .int .u64 (d.2.2.1.toNat : Int), .int .u64 (d.2.2.2.toNat : Int)]] w fun e w' => e = .returned (.agg #[.int .u64 ((meet c d).1.toNat : Int), .int .u64 ((meet c d).2.1.toNat : Int), .int .u64 ((meet c d).2.2.1.toNat : Int), .int .u64 ((meet c d).2.2.2.toNat : Int)]) ∧ Below w.heap.size w w' := by
  go_enter Try.func62, Try.ntmps62
  go_wp2
  refine wp_loop_rounds 5 ?_
  rw [rounds_succ]; go_wp2_with fail
  go_region
  go_wp2_with fail
  rw [rounds_succ]; go_wp2_with fail
  go_region
  go_wp2_with fail
  rw [rounds_succ]; go_wp2_with fail
  go_region
  go_wp2_with fail
  rw [rounds_succ]; go_wp2_with fail
  go_region
  go_wp2_with fail
  rw [rounds_succ]; go_wp2_with fail
  refine bodyPost_ret (v := .agg #[.int .u64 ((meet c d).1.toNat : Int), .int .u64 ((meet c d).2.1.toNat : Int), .int .u64 ((meet c d).2.2.1.toNat : Int), .int .u64 ((meet c d).2.2.2.toNat : Int)]) (by simp [results, Try.results62, go_sem, and64, meet]) rfl ⟨rfl, ?_⟩
  exact ((((((Below.refl _ w).alloc (Nat.le_refl _) _).alloc (by simp) _).alloc (by simp; omega) _).drew.drew.drew.drew))

theorem not64 (a : Wd) : bits .xor .u64 IntKind.u64.max (a.toNat : Int) = ((~~~a).toNat : Int) := by
  have e : IntKind.u64.max = ((18446744073709551615 : Nat) : Int) := by decide
  rw [e, u64_xor_nat _ _ (by omega) a.isLt]
  have : (~~~a) = (BitVec.allOnes 64) ^^^ a := (BitVec.allOnes_xor).symm
  rw [this, BitVec.toNat_xor]
  simp

set_option maxHeartbeats 1000000 in
set_option maxRecDepth 20000 in
theorem not_any (c : Cl) (w : World) :
    Calls Try.prog 63 #[.agg #[.int .u64 (c.1.toNat : Int), .int .u64 (c.2.1.toNat : Int), .int .u64 (c.2.2.1.toNat : Int), .int .u64 (c.2.2.2.toNat : Int)]] w fun e w' => e = .returned (.agg #[.int .u64 ((neg c).1.toNat : Int), .int .u64 ((neg c).2.1.toNat : Int), .int .u64 ((neg c).2.2.1.toNat : Int), .int .u64 ((neg c).2.2.2.toNat : Int)]) ∧ Below w.heap.size w w' := by
  go_enter Try.func63, Try.ntmps63
  go_wp2
  refine wp_loop_rounds 5 ?_
  rw [rounds_succ]; go_wp2_with fail
  rw [rounds_succ]; go_wp2_with fail
  rw [rounds_succ]; go_wp2_with fail
  rw [rounds_succ]; go_wp2_with fail
  rw [rounds_succ]; go_wp2_with fail
  have n64 := not64
  refine bodyPost_ret (v := .agg #[.int .u64 ((neg c).1.toNat : Int), .int .u64 ((neg c).2.1.toNat : Int), .int .u64 ((neg c).2.2.1.toNat : Int), .int .u64 ((neg c).2.2.2.toNat : Int)]) (by simp [results, Try.results63, go_sem, n64, neg]) rfl ⟨rfl, ?_⟩
  exact (((Below.refl _ w).alloc (Nat.le_refl _) _).alloc (by simp) _)

theorem ones_zero : ones 0 = 0#64 := rfl
theorem ones_val (k : Nat) : IntKind.u64.wrap (IntKind.u64.wrap ((2 : Int) ^ min k 64) - 1) = ((ones k).toNat : Int) := by
  have hw : ∀ n : Int, IntKind.u64.wrap n = n % 18446744073709551616 := fun n => by simp [IntKind.wrap, IntKind.bits, IntKind.signed]
  rw [hw, hw]
  unfold ones
  have e : ((2 : Int) ^ min k 64) = ((2 ^ min k 64 : Nat) : Int) := by simp
  have hp : 2 ^ min k 64 ≤ 2 ^ 64 := Nat.pow_le_pow_right (by omega) (Nat.min_le_right _ _)
  have h0 : 0 < 2 ^ min k 64 := Nat.pow_pos (by omega)
  rw [e, BitVec.toNat_ofNat]
  generalize 2 ^ min k 64 = p at *
  by_cases h : p = 18446744073709551616
  · subst h; decide
  · omega

theorem ones_small (k : Nat) (h : k < 64) : IntKind.u64.wrap (IntKind.u64.wrap ((2 : Int) ^ k) - 1) = ((ones k).toNat : Int) := by
  have := ones_val k
  rwa [Nat.min_eq_left (by omega)] at this

set_option maxHeartbeats 4000000 in
set_option maxRecDepth 20000 in
theorem below_nat (n : Nat) (hz2 : (n : Int) ≤ 9223372036854775807) (w : World) :
    Calls Try.prog 61 #[.int .i64 (n : Int)] w fun e w' => e = .returned (.agg #[.int .u64 ((below n).1.toNat : Int), .int .u64 ((below n).2.1.toNat : Int), .int .u64 ((below n).2.2.1.toNat : Int), .int .u64 ((below n).2.2.2.toNat : Int)]) ∧ Below w.heap.size w w' := by
  rcases (show n < 64 ∨ (64 ≤ n ∧ n < 128) ∨ (128 ≤ n ∧ n < 192) ∨ 192 ≤ n by omega) with h | h | h | h
  · have HM1 : Hid (n - 64 = 0) := (by omega : n - 64 = 0)
    have e1 : (n : Int) - 64 < 0 := by omega
    have HM2 : Hid (n - 128 = 0) := (by omega : n - 128 = 0)
    have e2 : (n : Int) - 128 < 0 := by omega
    have HM3 : Hid (n - 192 = 0) := (by omega : n - 192 = 0)
    have e3 : (n : Int) - 192 < 0 := by omega
    clear h
    go_enter Try.func61, Try.ntmps61
    go_wp2
    refine wp_loop_rounds 5 ?_
    rw [rounds_succ]; go_wp2_with fail
    rw [rounds_succ]; go_wp2_with fail
    rw [rounds_succ]; go_wp2_with fail
    rw [rounds_succ]; go_wp2_with fail
    rw [rounds_succ]; go_wp2_with fail
    have hv := ones_small n (by have := HM1.out; have := HM2.out; have := HM3.out; omega)
    have g1 := HM1.out
    have g2 := HM2.out
    have g3 := HM3.out
    refine bodyPost_ret (v := .agg #[.int .u64 ((below n).1.toNat : Int), .int .u64 ((below n).2.1.toNat : Int), .int .u64 ((below n).2.2.1.toNat : Int), .int .u64 ((below n).2.2.2.toNat : Int)]) (by simp [results, Try.results61, go_sem, below, hv, g1, g2, g3, ones_zero]) rfl ⟨rfl, ?_⟩
    exact (((Below.refl _ w).alloc (Nat.le_refl _) _).alloc (by simp) _)
  · obtain ⟨m1, HM1⟩ : ∃ m, Hid (n - 64 = m) := ⟨_, rfl⟩
    have e1 : (n : Int) - 64 = (m1 : Int) := by have := HM1.out; omega
    have HM2 : Hid (n - 128 = 0) := (by omega : n - 128 = 0)
    have e2 : (n : Int) - 128 < 0 := by omega
    have HM3 : Hid (n - 192 = 0) := (by omega : n - 192 = 0)
    have e3 : (n : Int) - 192 < 0 := by omega
    clear h
    go_enter Try.func61, Try.ntmps61
    go_wp2
    refine wp_loop_rounds 5 ?_
    rw [rounds_succ]; go_wp2_with fail
    rw [rounds_succ]; go_wp2_with fail
    rw [rounds_succ]; go_wp2_with fail
    rw [rounds_succ]; go_wp2_with fail
    rw [rounds_succ]; go_wp2_with fail
    have hv := ones_small m1 (by have := HM1.out; have := HM2.out; have := HM3.out; omega)
    have hv2 := ones_val
    have g1 := HM1.out
    have g2 := HM2.out
    have g3 := HM3.out
    refine bodyPost_ret (v := .agg #[.int .u64 ((below n).1.toNat : Int), .int .u64 ((below n).2.1.toNat : Int), .int .u64 ((below n).2.2.1.toNat : Int), .int .u64 ((below n).2.2.2.toNat : Int)]) (by simp [results, Try.results61, go_sem, below, hv, hv2, g1, g2, g3, ones_zero]) rfl ⟨rfl, ?_⟩
    exact (((Below.refl _ w).alloc (Nat.le_refl _) _).alloc (by simp) _)
  · obtain ⟨m1, HM1⟩ : ∃ m, Hid (n - 64 = m) := ⟨_, rfl⟩
    have e1 : (n : Int) - 64 = (m1 : Int) := by have := HM1.out; omega
    obtain ⟨m2, HM2⟩ : ∃ m, Hid (n - 128 = m) := ⟨_, rfl⟩
    have e2 : (n : Int) - 128 = (m2 : Int) := by have := HM2.out; omega
    have HM3 : Hid (n - 192 = 0) := (by omega : n - 192 = 0)
    have e3 : (n : Int) - 192 < 0 := by omega
    clear h
    go_enter Try.func61, Try.ntmps61
    go_wp2
    refine wp_loop_rounds 5 ?_
    rw [rounds_succ]; go_wp2_with fail
    rw [rounds_succ]; go_wp2_with fail
    rw [rounds_succ]; go_wp2_with fail
    rw [rounds_succ]; go_wp2_with fail
    rw [rounds_succ]; go_wp2_with fail
    have hv := ones_small m2 (by have := HM1.out; have := HM2.out; have := HM3.out; omega)
    have hv2 := ones_val
    have g1 := HM1.out
    have g2 := HM2.out
    have g3 := HM3.out
    refine bodyPost_ret (v := .agg #[.int .u64 ((below n).1.toNat : Int), .int .u64 ((below n).2.1.toNat : Int), .int .u64 ((below n).2.2.1.toNat : Int), .int .u64 ((below n).2.2.2.toNat : Int)]) (by simp [results, Try.results61, go_sem, below, hv, hv2, g1, g2, g3, ones_zero]) rfl ⟨rfl, ?_⟩
    exact (((Below.refl _ w).alloc (Nat.le_refl _) _).alloc (by simp) _)
  · obtain ⟨m1, HM1⟩ : ∃ m, Hid (n - 64 = m) := ⟨_, rfl⟩
    have e1 : (n : Int) - 64 = (m1 : Int) := by have := HM1.out; omega
    obtain ⟨m2, HM2⟩ : ∃ m, Hid (n - 128 = m) := ⟨_, rfl⟩
    have e2 : (n : Int) - 128 = (m2 : Int) := by have := HM2.out; omega
    obtain ⟨m3, HM3⟩ : ∃ m, Hid (n - 192 = m) := ⟨_, rfl⟩
    have e3 : (n : Int) - 192 = (m3 : Int) := by have := HM3.out; omega
    clear h
    go_enter Try.func61, Try.ntmps61
    go_wp2
    refine wp_loop_rounds 5 ?_
    rw [rounds_succ]; go_wp2_with fail
    rw [rounds_succ]; go_wp2_with fail
    rw [rounds_succ]; go_wp2_with fail
    rw [rounds_succ]; go_wp2_with fail
    rw [rounds_succ]; go_wp2_with fail
    have hv := ones_val
    have g1 := HM1.out
    have g2 := HM2.out
    have g3 := HM3.out
    refine bodyPost_ret (v := .agg #[.int .u64 ((below n).1.toNat : Int), .int .u64 ((below n).2.1.toNat : Int), .int .u64 ((below n).2.2.1.toNat : Int), .int .u64 ((below n).2.2.2.toNat : Int)]) (by simp [results, Try.results61, go_sem, below, hv, g1, g2, g3]) rfl ⟨rfl, ?_⟩
    exact (((Below.refl _ w).alloc (Nat.le_refl _) _).alloc (by simp) _)

set_option maxHeartbeats 1000000 in
set_option maxRecDepth 20000 in
theorem below_any (z : Int) (hz2 : z ≤ 9223372036854775807) (w : World) :
    Calls Try.prog 61 #[.int .i64 z] w fun e w' => e = .returned (.agg #[.int .u64 ((below z.toNat).1.toNat : Int), .int .u64 ((below z.toNat).2.1.toNat : Int), .int .u64 ((below z.toNat).2.2.1.toNat : Int), .int .u64 ((below z.toNat).2.2.2.toNat : Int)]) ∧ Below w.heap.size w w' := by
  by_cases hneg : z < 0
  · have g0 : Hid (z.toNat = 0) := (by omega : z.toNat = 0)
    go_enter Try.func61, Try.ntmps61
    go_wp2
    refine wp_loop_rounds 5 ?_
    rw [rounds_succ]; go_wp2_with fail
    rw [rounds_succ]; go_wp2_with fail
    rw [rounds_succ]; go_wp2_with fail
    rw [rounds_succ]; go_wp2_with fail
    rw [rounds_succ]; go_wp2_with fail
    have g := g0.out
    refine bodyPost_ret (v := .agg #[.int .u64 ((below z.toNat).1.toNat : Int), .int .u64 ((below z.toNat).2.1.toNat : Int), .int .u64 ((below z.toNat).2.2.1.toNat : Int), .int .u64 ((below z.toNat).2.2.2.toNat : Int)]) (by simp [results, Try.results61, go_sem, below, g, ones_zero]) rfl ⟨rfl, ?_⟩
    exact (((Below.refl _ w).alloc (Nat.le_refl _) _).alloc (by simp) _)
  · obtain ⟨n, rfl⟩ := Int.eq_ofNat_of_zero_le (show 0 ≤ z by omega)
    exact below_nat n hz2 w
end Go.Proofs.Ytlmlkpdppkgenaa
