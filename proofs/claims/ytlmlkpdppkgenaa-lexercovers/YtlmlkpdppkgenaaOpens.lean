/-
  What an argument that is a class is; and what '==' says of two classes. No function is walked here.
-/
import Derived.Test.YtlmlkpdppkgenaaRows
import Derived.Test.YtlmlkpdppkgenaaMath
import Derived.WalkKit
import Derived.ProofKit
import Derived.OpenShut
import Derived.Carry
import Derived.Below
import Derived.Deep.Slices
import Derived.Deep.Strs
import Derived.Laws.StructEq
import Derived.ChangeKeysEq
import Derived.OwnWalk
namespace Go.Proofs.Ytlmlkpdppkgenaa
open Go.ChangeShapes Go.WideShapes Go.ChangeAt Go.RowKit
open Cls

theorem cells23 : Try.prog.cellsOf 42 = 4 := by kernel_rfl
theorem cells37 : Try.prog.cellsOf 40 = 1 := by kernel_rfl
theorem bytes24 : Try.prog.bytesOf 42 = 32 := by kernel_rfl

/-! ### Two classes held against each other -/
theorem wd_ne {a b : Wd} (h : a ≠ b) : ¬ ((a.toNat : Int) = (b.toNat : Int)) := fun e => h (BitVec.eq_of_toNat_eq (by omega))
theorem info37 : (Try.prog.info? 40).map (fun i => (i.zero, i.size, i.bytes)) = some (some (.int .u64 0), 1, 8) := by kernel_rfl
theorem eql23 (c d : Cl) (w : World) : (binOp .eql 42 (.agg #[.int .u64 (c.1.toNat : Int), .int .u64 (c.2.1.toNat : Int), .int .u64 (c.2.2.1.toNat : Int), .int .u64 (c.2.2.2.toNat : Int)]) (.agg #[.int .u64 (d.1.toNat : Int), .int .u64 (d.2.1.toNat : Int), .int .u64 (d.2.2.1.toNat : Int), .int .u64 (d.2.2.2.toNat : Int)])).run Try.prog w = .ok (.bool (decide (c = d))) w := by
  obtain ⟨i, hi, _, _, _⟩ := info_parts info37
  have u22 := Try.underlying40
  rw [run_eql_struct, show (10000 : Nat) = 9999 + 1 from rfl, run_equalIn_array w 9999 _ _ Try.underlying42 hi]
  simp only [cells37]
  obtain ⟨c0, c1, c2, c3⟩ := c
  obtain ⟨d0, d1, d2, d3⟩ := d
  by_cases h0 : c0 = d0
  · subst h0
    by_cases h1 : c1 = d1
    · subst h1
      by_cases h2 : c2 = d2
      · subst h2
        by_cases h3 : c3 = d3
        · subst h3
          simp [Op.eqItems, List.range_succ, go_sem, u22]
        · have := wd_ne h3
          simp [Op.eqItems, List.range_succ, go_sem, u22, this, h3]
      · have := wd_ne h2
        simp [Op.eqItems, List.range_succ, go_sem, u22, this, h2]
    · have := wd_ne h1
      simp [Op.eqItems, List.range_succ, go_sem, u22, this, h1]
  · have := wd_ne h0
    simp [Op.eqItems, List.range_succ, go_sem, u22, this, h0]

variable {H : Type} {enc : TypeId × Value → H}

theorem okWide_array {P : Program} {w : World} {r : Reach} {base n : Nat} {t e : TypeId} {v : Value} (ht : P.underlying t = some (.array n e)) (h : Value.okWide P w r base t v) : ∃ cs, v = .agg cs ∧ cs.size = P.cellsOf t := by
  simp only [Value.okWide, ht] at h
  obtain ⟨cs, h1, h2, _⟩ := h
  exact ⟨cs, h1, h2⟩

theorem open_word {W : World} {base m : Nat} {spare : Nat → Bool} {held : Bool} {x : Value} {y : DataW H × List MemPlace} (h : DataW.trod enc Try.prog W base spare held m 40 [x] = some y) : ∃ a : Wd, x = .int .u64 (a.toNat : Int) := by
  obtain ⟨z, e0, _, hw⟩ := DataW.trod_int Try.underlying40 h
  simp at e0
  subst e0
  have h2 : 0 ≤ z ∧ z ≤ 18446744073709551615 := by simpa [Lit.wf, IntKind.min, IntKind.max, IntKind.signed, IntKind.bits] using hw
  refine ⟨BitVec.ofNat 64 z.toNat, ?_⟩
  have : (BitVec.ofNat 64 z.toNat).toNat = z.toNat := by rw [BitVec.toNat_ofNat]; omega
  rw [this]
  have : (z.toNat : Int) = z := by omega
  rw [this]
/-- Four cells that read as a class. -/
theorem open_cells {W : World} {base m : Nat} {spare : Nat → Bool} {held : Bool} {cs : List Value} {y : DataW H × List MemPlace} (h : DataW.trod enc Try.prog W base spare held m 42 cs = some y) :
    ∃ c : Cl, cs = [.int .u64 (c.1.toNat : Int), .int .u64 (c.2.1.toNat : Int), .int .u64 (c.2.2.1.toNat : Int), .int .u64 (c.2.2.2.toNat : Int)] := by
  obtain ⟨xs, k, _, _, hl, hn, hf⟩ := DataW.trod_array Try.underlying42 h
  rw [cells23] at hl
  simp only [cells37] at hf
  match cs, hl with
  | [x0, x1, x2, x3], _ =>
    match xs, hn with
    | [y0, y1, y2, y3], _ =>
      have h0 := hf 0 (by omega)
      have h1 := hf 1 (by omega)
      have h2 := hf 2 (by omega)
      have h3 := hf 3 (by omega)
      simp at h0 h1 h2 h3
      obtain ⟨a0, rfl⟩ := open_word h0
      obtain ⟨a1, rfl⟩ := open_word h1
      obtain ⟨a2, rfl⟩ := open_word h2
      obtain ⟨a3, rfl⟩ := open_word h3
      exact ⟨(a0, a1, a2, a3), rfl⟩
set_option maxRecDepth 20000 in
theorem open_class {W : World} {base b0 : Nat} {spare : Nat → Bool} {held : Bool} {r : Reach} {v : Value} {d : DataW H} {p : List MemPlace} (hv : Value.okWide Try.prog W r b0 42 v) (h : DataW.Trod enc Try.prog W base spare held 42 v d p) :
    ∃ c : Cl, v = .agg #[.int .u64 (c.1.toNat : Int), .int .u64 (c.2.1.toNat : Int), .int .u64 (c.2.2.1.toNat : Int), .int .u64 (c.2.2.2.toNat : Int)] := by
  obtain ⟨cs, rfl, hsz⟩ := okWide_array Try.underlying42 hv
  obtain ⟨fuel, hf⟩ := h
  obtain ⟨c, hc⟩ := open_cells hf
  refine ⟨c, ?_⟩
  have : cs = #[.int .u64 (c.1.toNat : Int), .int .u64 (c.2.1.toNat : Int), .int .u64 (c.2.2.1.toNat : Int), .int .u64 (c.2.2.2.toNat : Int)] := by
    apply Array.toList_inj.1
    simpa [Value.cells] using hc
  rw [this]

end Go.Proofs.Ytlmlkpdppkgenaa
