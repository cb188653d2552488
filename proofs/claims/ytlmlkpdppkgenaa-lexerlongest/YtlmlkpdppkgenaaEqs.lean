/-
  Two classes held against each other by == and !=, and boxes of classes that stay while a call makes memory of its own. No function is walked here.
-/
import Derived.Test.YtlmlkpdppkgenaaOpens
import Derived.Test.YtlmlkpdppkgenaaRanges
namespace Go.Proofs.Ytlmlkpdppkgenaa
open Go.RowKit
open Cls

theorem guard24 : Try.prog.eqGuardType Try.prog.depth 42 = false := by kernel_rfl
theorem eqIn23 (c d : Cl) (w : World) : (Op.equalIn 10000 42 (.agg #[.int .u64 (c.1.toNat : Int), .int .u64 (c.2.1.toNat : Int), .int .u64 (c.2.2.1.toNat : Int), .int .u64 (c.2.2.2.toNat : Int)]) (.agg #[.int .u64 (d.1.toNat : Int), .int .u64 (d.2.1.toNat : Int), .int .u64 (d.2.2.1.toNat : Int), .int .u64 (d.2.2.2.toNat : Int)])).run Try.prog w = .ok (decide (c = d)) w := by
  have h := eql23 c d w
  rw [run_eql_struct] at h
  generalize (Op.equalIn 10000 42 (.agg #[.int .u64 (c.1.toNat : Int), .int .u64 (c.2.1.toNat : Int), .int .u64 (c.2.2.1.toNat : Int), .int .u64 (c.2.2.2.toNat : Int)]) (.agg #[.int .u64 (d.1.toNat : Int), .int .u64 (d.2.1.toNat : Int), .int .u64 (d.2.2.1.toNat : Int), .int .u64 (d.2.2.2.toNat : Int)])).run Try.prog w = r at h ⊢
  cases r with
  | ok b w1 =>
    simp only [Result.andThen_ok, Result.ok.injEq, Value.bool.injEq] at h
    obtain ⟨rfl, rfl⟩ := h; rfl
  | halt p w1 => simp [Result.andThen] at h
/-- A class against one written out. -/
theorem eqIn_lit (c d : Cl) (z0 z1 z2 z3 : Int) (h0 : z0 = (d.1.toNat : Int)) (h1 : z1 = (d.2.1.toNat : Int)) (h2 : z2 = (d.2.2.1.toNat : Int)) (h3 : z3 = (d.2.2.2.toNat : Int)) (w : World) :
    (Op.equalIn 10000 42 (.agg #[.int .u64 (c.1.toNat : Int), .int .u64 (c.2.1.toNat : Int), .int .u64 (c.2.2.1.toNat : Int), .int .u64 (c.2.2.2.toNat : Int)]) (.agg #[.int .u64 z0, .int .u64 z1, .int .u64 z2, .int .u64 z3])).run Try.prog w = .ok (decide (c = d)) w := by
  subst h0 h1 h2 h3; exact eqIn23 c d w
theorem eqIn_zero (c : Cl) (w : World) : (Op.equalIn 10000 42 (.agg #[.int .u64 (c.1.toNat : Int), .int .u64 (c.2.1.toNat : Int), .int .u64 (c.2.2.1.toNat : Int), .int .u64 (c.2.2.2.toNat : Int)]) (.agg #[.int .u64 0, .int .u64 0, .int .u64 0, .int .u64 0])).run Try.prog w = .ok (decide (c = empty)) w := eqIn_lit c empty 0 0 0 0 rfl rfl rfl rfl w

/-- Block b holds the class c. -/
def Bx (W : World) (b : Nat) (c : Cl) : Prop := W.cell? ⟨b, 0, none⟩ = some (.int .u64 (c.1.toNat : Int)) ∧ W.cell? ⟨b, 1, none⟩ = some (.int .u64 (c.2.1.toNat : Int)) ∧ W.cell? ⟨b, 2, none⟩ = some (.int .u64 (c.2.2.1.toNat : Int)) ∧ W.cell? ⟨b, 3, none⟩ = some (.int .u64 (c.2.2.2.toNat : Int))
theorem Bx.next {W W' : World} {b : Nat} {c : Cl} (h : Bx W b c) (hb : Below W.heap.size W W') : Bx W' b c := keep4 h hb
theorem Bx.lt {W : World} {b : Nat} {c : Cl} (h : Bx W b c) : b < W.heap.size := World.block_lt_of_cell? W ⟨b, 0, none⟩ h.1
theorem Bx.alloc {W : World} {b : Nat} {c : Cl} (h : Bx W b c) (o : Obj) : Bx (W.alloc o) b c := h.next ((Below.refl _ W).alloc (Nat.le_refl _) o)
theorem Bx.drew {W : World} {b : Nat} {c : Cl} (h : Bx W b c) : Bx W.drew b c := h
end Go.Proofs.Ytlmlkpdppkgenaa
