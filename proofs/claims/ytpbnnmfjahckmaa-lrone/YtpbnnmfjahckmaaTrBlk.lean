/-
  Blocks in memory; plainly.
-/
import Derived.Test.YtpbnnmfjahckmaaGrB
namespace Go.Proofs.Ytpbnnmfjahckmaa
open Go.RowKit
open Cg

structure B2 (w : World) (g : Nat) (x y : Int) : Prop where
  lt : g < w.heap.size
  c0 : w.cell? ⟨g, 0, none⟩ = some (.int .i64 x)
  c1 : w.cell? ⟨g, 1, none⟩ = some (.int .i64 y)
theorem B2.box (w : World) (x y : Int) (ty : Nat) : B2 (w.alloc (Obj.cells #[.int .i64 x, .int .i64 y] ty)) w.heap.size x y :=
  ⟨by simp, cell_new w _ ty 0, cell_new w _ ty 1⟩
theorem B2.next {w w' : World} {g : Nat} {x y : Int} (h : B2 w g x y) (hb : Below w.heap.size w w') : B2 w' g x y :=
  ⟨Nat.lt_of_lt_of_le h.lt hb.size, (hb.cell (p := ⟨g, 0, none⟩) h.lt).trans h.c0, (hb.cell (p := ⟨g, 1, none⟩) h.lt).trans h.c1⟩
theorem heap_lt3 {w : World} {k : Nat} {o : Obj} (h : w.heap[k]? = some o) : k < w.heap.size := by
  rcases Nat.lt_or_ge k w.heap.size with h' | h'
  · exact h'
  · rw [Array.getElem?_eq_none h'] at h; cases h
theorem tcell_blk {w : World} {g : Nat} {cs : Array Value} {t : TypeId} {fr : Nat × Nat} (h : w.heap[g]? = some (.cells cs t fr)) (i : Nat) : w.cell? ⟨g, i, none⟩ = cs[i]? := by
  unfold World.cell?
  simp only [h]
  rfl
end Go.Proofs.Ytpbnnmfjahckmaa
