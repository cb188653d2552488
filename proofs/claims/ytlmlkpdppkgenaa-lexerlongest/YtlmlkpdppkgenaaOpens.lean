/-
  What an argument that is a class is; and what '==' says of two classes. No function is walked here.
-/
import Derived.Test.YtlmlkpdppkgenaaRows
import Derived.Test.YtlmlkpdppkgenaaMath
import Derived.WalkKit
import Derived.ProofKit
import Derived.OpenShut
import Derived.Carry
import Derived.Below
import Derived.Deep.Slices
import Derived.Deep.Strs
import Derived.Laws.StructEq
import Derived.ChangeKeysEq
import Derived.OwnWalk
namespace Go.Proofs.Ytlmlkpdppkgenaa
open Go.ChangeShapes Go.WideShapes Go.ChangeAt Go.RowKit
open Cls

theorem cells23 : Try.prog.cellsOf 42 = 4 := by kernel_rfl
theorem cells37 : Try.prog.cellsOf 40 = 1 := by kernel_rfl
/-! ### Two classes held against each other -/
theorem wd_ne {a b : Wd} (h : a ≠ b) : ¬ ((a.toNat : Int) = (b.toNat : Int)) := fun e => h (BitVec.eq_of_toNat_eq (by omega))
theorem info37 : (Try.prog.info? 40).map (fun i => (i.zero, i.size, i.bytes)) = some (some (.int .u64 0), 1, 8) := by kernel_rfl
theorem eql23 (c d : Cl) (w : World) : (binOp .eql 42 (.agg #[.int .u64 (c.1.toNat : Int), .int .u64 (c.2.1.toNat : Int), .int .u64 (c.2.2.1.toNat : Int), .int .u64 (c.2.2.2.toNat : Int)]) (.agg #[.int .u64 (d.1.toNat : Int), .int .u64 (d.2.1.toNat : Int), .int .u64 (d.2.2.1.toNat : Int), .int .u64 (d.2.2.2.toNat : Int)])).run Try.prog w = .ok (.bool (decide (c = d))) w := by
  obtain ⟨i, hi, _, _, _⟩ := info_parts info37
  have u22 := Try.underlying40
  rw [run_eql_struct, show (10000 : Nat) = 9999 + 1 from rfl, run_equalIn_array w 9999 _ _ Try.underlying42 hi]
  simp only [cells37]
  obtain ⟨c0, c1, c2, c3⟩ := c
  obtain ⟨d0, d1, d2, d3⟩ := d
  by_cases h0 : c0 = d0
  · subst h0
    by_cases h1 : c1 = d1
    · subst h1
      by_cases h2 : c2 = d2
      · subst h2
        by_cases h3 : c3 = d3
        · subst h3
          simp [Op.eqItems, List.range_succ, go_sem, u22]
        · have := wd_ne h3
          simp [Op.eqItems, List.range_succ, go_sem, u22, this, h3]
      · have := wd_ne h2
        simp [Op.eqItems, List.range_succ, go_sem, u22, this, h2]
    · have := wd_ne h1
      simp [Op.eqItems, List.range_succ, go_sem, u22, this, h1]
  · have := wd_ne h0
    simp [Op.eqItems, List.range_succ, go_sem, u22, this, h0]

variable {H : Type} {enc : TypeId × Value → H}

end Go.Proofs.Ytlmlkpdppkgenaa
