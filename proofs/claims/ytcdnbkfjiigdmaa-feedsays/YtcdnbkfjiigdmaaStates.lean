/-
  The contract of dfa.areStates: it answers whether each number of these rows is none or a state's.
-/
import Derived.Test.YtcdnbkfjiigdmaaOpens
import Derived.Deep.QuietTactic
import Derived.BigQuiet
namespace Go.Proofs.Ytcdnbkfjiigdmaa
open Go.RowKit
open Dfa

theorem wrap_small {z : Int} (h : -32768 ≤ z ∧ z ≤ 32767) : IntKind.i64.wrap z = z := by
  unfold IntKind.wrap
  simp [IntKind.bits, IntKind.signed]
  omega
/-- The cells of a row. -/
def rl (f : Nat → Int) : List Value := (List.range 256).map fun j => Value.int .i16 (f j)
theorem rl_length (f : Nat → Int) : (rl f).length = 256 := by simp [rl]
theorem rl_at (f : Nat → Int) (j : Nat) (hj : j < 256) : (rl f)[j]? = some (.int .i16 (f j)) := by simp [rl, hj]
theorem rl_one (f : Nat → Int) : (rl f).toArray.all (·.oneCell') = true := all_oneCell_toArray fun v hv => by
  simp only [rl, List.mem_map] at hv
  obtain ⟨j, _, rfl⟩ := hv
  rfl
theorem range_of_cells {w : World} {b o : Nat} {f : Nat → Int} (h : ∀ j, j < 256 → w.cell? ⟨b, o + j, none⟩ = some (.int .i16 (f j))) : w.rangeAt b o (rl f) := fun j v hv => by
  have hj : j < 256 := by have := (List.getElem?_eq_some_iff.1 hv).1; rwa [rl_length] at this
  rw [rl_at f j hj] at hv
  rw [h j hj, hv]
theorem range_new (w : World) (f : Nat → Int) : (w.alloc (.cells (rl f).toArray 62)).rangeAt w.heap.size 0 (rl f) := fun j v hv => by
  rw [Nat.zero_add, cell_of_row _ _ j (rl f).toArray 62 (0, 0) (heap_alloc_last w _)]
  simpa using hv
theorem index_row (f : Nat → Int) (j : Nat) (hj : j < 256) (w : World) : (Instr.index 62 (.agg (rl f).toArray) (.int .i64 (j : Int))).run Try.prog w = .ok (.int .i16 (f j)) w := by
  have h1 : (0 : Int) ≤ (j : Int) ∧ (j : Int) < (256 : Nat) := by omega
  have h2 := rl_at f j hj
  have h3 := rl_length f
  simp [Instr.index, run_underlying Try.underlying62, asIntOf, h1, go_sem, h3, hj]
  rw [List.getElem?_eq_getElem (by omega)] at h2
  exact Option.some.inj h2
theorem wpList_store_new {ops : Array Oper} {rest : List Oper} {op : Oper} {a : Act} {w : World} {Q : Exit → Act → World → Prop} (hgd : op.guard = none) (x y : Operand) (ho : op.op = .store 62 x y)
    (c c' : Array Value) (hx : a.eval x = .pointer (some ⟨w.heap.size, 0, none⟩)) (hy : a.eval y = .agg c') (hc : c.size = 256) (hc' : c'.size = 256) (h1 : c'.all (·.oneCell') = true)
    (h : wpList Try.prog ops Q rest (a.put op.dst undef) (w.alloc (.cells c' 62))) : wpList Try.prog ops Q (op :: rest) a (w.alloc (.cells c 62)) :=
  wpList_plain hgd fun K hK => by
    unfold Oper.wp execOp
    simp only [ho, hx, hy, Sem.run_bind, run_storeAt_new w 62 c c' (by rw [hc']; exact size62) (by omega) h1, Result.andThen_ok]
    exact hK _ _ h
theorem zero62 : ∃ zs : Array Value, (∀ w, (zeroValue 62).run Try.prog w = .ok (.agg zs) w) ∧ zs.size = 256 :=
  ⟨_, (zero_of_info (P := Try.prog) (t := 62) (v := .agg (Array.replicate 256 (.int .i16 0))) (n := 256) (by kernel_rfl)).1, by simp⟩

end Go.Proofs.Ytcdnbkfjiigdmaa
