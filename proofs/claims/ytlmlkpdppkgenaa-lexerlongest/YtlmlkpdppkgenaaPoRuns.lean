/-
  The contracts of places.having, places.behind and places.run.
-/
import Derived.Test.YtlmlkpdppkgenaaPoWalks
import Derived.Test.YtlmlkpdppkgenaaKeeps
import Derived.Deep.WholeRow
namespace Go.Proofs.Ytlmlkpdppkgenaa
open Go.RowKit
open Cls Po

theorem block_cell {w : World} {g : Nat} {cs : Array Value} {t : TypeId} {fr : Nat × Nat} (h : w.heap[g]? = some (.cells cs t fr)) (i : Nat) : w.cell? ⟨g, i, none⟩ = cs[i]? := by simp [World.cell?, h]
theorem block_free {w : World} {g : Nat} {cs : Array Value} {t : TypeId} (h : w.heap[g]? = some (.cells cs t (0, 0))) (i : Nat) : w.frozen? ⟨g, i, none⟩ = false := by simp [World.frozen?, h]
theorem block_store {w : World} {g i : Nat} {cs : Array Value} {t : TypeId} {fr : Nat × Nat} (h : w.heap[g]? = some (.cells cs t fr)) (v : Value) : (w.setCell ⟨g, i, none⟩ v).heap[g]? = some (.cells (cs.setIfInBounds i v) t fr) := by
  rw [setCell_eq_setRow w g i cs t fr v h]
  exact setRow_heap w g _ _ t _ h
/-- Marks, as they lie in memory. -/
def tb (n : Nat) (F : Nat → Bool) : Array Value := ((List.range n).map fun i => Value.bool (F i)).toArray
/-- What was below the heap's end stays; the Posn lies there, and in its box. -/
structure Px (w : World) (g : Nat) (v0 v1 v2 v3 v4 v5 : Value) (p : P) (W : World) : Prop where
  below : Below w.heap.size w W
  pn : Pn W v0 v1 v2 v3 v4 v5 p
  c0 : W.cell? ⟨g, 0, none⟩ = some v0
  c1 : W.cell? ⟨g, 1, none⟩ = some v1
  c2 : W.cell? ⟨g, 2, none⟩ = some v2
  c3 : W.cell? ⟨g, 3, none⟩ = some v3
  c4 : W.cell? ⟨g, 4, none⟩ = some v4
  c5 : W.cell? ⟨g, 5, none⟩ = some v5
  lt : g < W.heap.size
theorem Px.next {w : World} {g : Nat} {v0 v1 v2 v3 v4 v5 : Value} {p : P} (W W' : World) (h : Px w g v0 v1 v2 v3 v4 v5 p W) (hb : Below W.heap.size W W') : Px w g v0 v1 v2 v3 v4 v5 p W' :=
  ⟨h.below.trans (hb.mono h.below.size), h.pn.below hb, (hb.cell (p := ⟨g, 0, none⟩) h.lt).trans h.c0, (hb.cell (p := ⟨g, 1, none⟩) h.lt).trans h.c1, (hb.cell (p := ⟨g, 2, none⟩) h.lt).trans h.c2, (hb.cell (p := ⟨g, 3, none⟩) h.lt).trans h.c3, (hb.cell (p := ⟨g, 4, none⟩) h.lt).trans h.c4, (hb.cell (p := ⟨g, 5, none⟩) h.lt).trans h.c5, Nat.lt_of_lt_of_le h.lt hb.size⟩
theorem Px.drew {w : World} {g : Nat} {v0 v1 v2 v3 v4 v5 : Value} {p : P} {W : World} (h : Px w g v0 v1 v2 v3 v4 v5 p W) : Px w g v0 v1 v2 v3 v4 v5 p W.drew :=
  h.next W W.drew ⟨rfl, rfl, rfl, Nat.le_refl _, fun _ _ => rfl⟩
theorem Px.box {w : World} {v0 v1 v2 v3 v4 v5 : Value} {p : P} (h : Pn w v0 v1 v2 v3 v4 v5 p) : Px w w.heap.size v0 v1 v2 v3 v4 v5 p (w.alloc (Obj.cells #[v0, v1, v2, v3, v4, v5] 27)) := by
  have B0 : Below w.heap.size w (w.alloc (Obj.cells #[v0, v1, v2, v3, v4, v5] 27)) := (Below.refl _ _).alloc (Nat.le_refl _) _
  exact ⟨B0, h.below B0, by simp, by simp, by simp, by simp, by simp, by simp, by simp⟩
end Go.Proofs.Ytlmlkpdppkgenaa
