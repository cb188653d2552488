/-
  The contracts of places.having, places.behind and places.run.
-/
import Derived.Test.YtlmlkpdppkgenaaPoWalks
import Derived.Test.YtlmlkpdppkgenaaKeeps
import Derived.Deep.WholeRow
namespace Go.Proofs.Ytlmlkpdppkgenaa
open Go.RowKit
open Cls Po

theorem take_filter {α : Type} (l : List α) (f : α → Bool) (q : Nat) (h : q < l.length) : (l.take (q + 1)).filter f = (l.take q).filter f ++ (if f l[q] = true then [l[q]] else []) := by
  rw [List.take_succ_eq_append_getElem h, List.filter_append]
  congr 1
  by_cases e : f l[q] = true
  · simp [e]
  · simp [e]

/-- A cell of a block ahead of the row that grew. -/
theorem grown_cell {w w2 : World} {v : Value} (hg : w.grownBy w2 v.ownBlock) (g o : Nat) (hlt : g < w.heap.size) (hne : ∀ k, v.ownBlock = some k → g < k) : w2.cell? ⟨g, o, none⟩ = w.cell? ⟨g, o, none⟩ := by
  have h : w2.heap[g]? = w.heap[g]? := hg.block g hlt (by intro e; have := hne g e.symm; omega)
  simp [World.cell?, h]
theorem block_cell {w : World} {g : Nat} {cs : Array Value} {t : TypeId} {fr : Nat × Nat} (h : w.heap[g]? = some (.cells cs t fr)) (i : Nat) : w.cell? ⟨g, i, none⟩ = cs[i]? := by simp [World.cell?, h]
theorem block_free {w : World} {g : Nat} {cs : Array Value} {t : TypeId} (h : w.heap[g]? = some (.cells cs t (0, 0))) (i : Nat) : w.frozen? ⟨g, i, none⟩ = false := by simp [World.frozen?, h]
theorem block_store {w : World} {g i : Nat} {cs : Array Value} {t : TypeId} {fr : Nat × Nat} (h : w.heap[g]? = some (.cells cs t fr)) (v : Value) : (w.setCell ⟨g, i, none⟩ v).heap[g]? = some (.cells (cs.setIfInBounds i v) t fr) := by
  rw [setCell_eq_setRow w g i cs t fr v h]
  exact setRow_heap w g _ _ t _ h
theorem block_lt {w : World} {g : Nat} {o : Obj} (h : w.heap[g]? = some o) : g < w.heap.size := by
  rcases Nat.lt_or_ge g w.heap.size with h' | h'
  · exact h'
  · simp [Array.getElem?_eq_none h'] at h
/-- Marks, as they lie in memory. -/
def tb (n : Nat) (F : Nat → Bool) : Array Value := ((List.range n).map fun i => Value.bool (F i)).toArray
theorem tb_at (n : Nat) (F : Nat → Bool) (i : Nat) (h : i < n) : (tb n F)[i]? = some (.bool (F i)) := by simp [tb, h]
theorem tb_set (n : Nat) (F : Nat → Bool) (x : Nat) : (tb n F).setIfInBounds x (.bool true) = tb n (fun i => F i || i == x) := by
  apply Array.ext_getElem?
  intro i
  rw [Array.getElem?_setIfInBounds]
  by_cases h : i < n
  · rw [tb_at _ _ _ h, tb_at _ _ _ h]
    by_cases e : x = i
    · subst e
      simp [tb, h]
    · rw [if_neg e]
      have : (i == x) = false := by simp; exact fun e' => e e'.symm
      rw [this, Bool.or_false]
  · have e1 : (tb n F)[i]? = none := Array.getElem?_eq_none (by simp [tb]; omega)
    have e2 : (tb n (fun i => F i || i == x))[i]? = none := Array.getElem?_eq_none (by simp [tb]; omega)
    rw [e1, e2]
    split
    · rw [if_neg (by simp [tb]; omega)]
    · rfl
theorem tb_none (n : Nat) : Array.replicate n (Value.bool false) = tb n (fun _ => false) := by
  unfold tb
  apply Array.toList_inj.1
  simp only [Array.toList_replicate]
  apply List.ext_getElem
  · simp
  · intro i h1 h2; simp
theorem bls_block {w : World} {g n : Nat} {F : Nat → Bool} {t : TypeId} (h : w.heap[g]? = some (.cells (tb n F) t (0, 0))) (hn : n ≤ 9223372036854775807) : Bls w (.slice (some ⟨g, 0, none⟩) n n) ((List.range n).map F) := by
  refine ⟨some ⟨g, 0, none⟩, n, by simp, by simpa using hn, Or.inr ⟨g, 0, rfl, block_lt h, fun i hi => ?_⟩⟩
  have hi' : i < n := by simpa using hi
  rw [Nat.zero_add, block_cell h, tb_at _ _ _ hi']
  simp
theorem map_getD (n : Nat) (F : Nat → Bool) : sel ((List.range n).map F).length (((List.range n).map F).getD · false) = sel n F := by
  rw [List.length_map, List.length_range]
  exact sel_congr fun x hx => by simp [List.getD, hx]

theorem behindB_snoc (p : P) (l : List Int) (q : Nat) (h : q < l.length) (x : Nat) : behindB p (l.take (q + 1)) x = (behindB p (l.take q) x || (p.follow.getD l[q].toNat []).contains (x : Int)) := by
  unfold behindB
  rw [List.take_succ_eq_append_getElem h, List.any_append]
  simp
theorem contains_snoc (m : List Int) (j : Nat) (h : j < m.length) (x : Int) : (m.take (j + 1)).contains x = ((m.take j).contains x || x == m[j]) := by
  have e : m.take (j + 1) = m.take j ++ [m[j]] := List.take_succ_eq_append_getElem h
  rw [e, Bool.eq_iff_iff]
  simp only [List.contains_iff_mem, List.mem_append, List.mem_singleton, Bool.or_eq_true, beq_iff_eq]

/-- What was below the heap's end stays; the Posn lies there, and in its box. -/
structure Px (w : World) (g : Nat) (v0 v1 v2 v3 v4 v5 : Value) (p : P) (W : World) : Prop where
  below : Below w.heap.size w W
  pn : Pn W v0 v1 v2 v3 v4 v5 p
  c0 : W.cell? ⟨g, 0, none⟩ = some v0
  c1 : W.cell? ⟨g, 1, none⟩ = some v1
  c2 : W.cell? ⟨g, 2, none⟩ = some v2
  c3 : W.cell? ⟨g, 3, none⟩ = some v3
  c4 : W.cell? ⟨g, 4, none⟩ = some v4
  c5 : W.cell? ⟨g, 5, none⟩ = some v5
  lt : g < W.heap.size
theorem Px.next {w : World} {g : Nat} {v0 v1 v2 v3 v4 v5 : Value} {p : P} (W W' : World) (h : Px w g v0 v1 v2 v3 v4 v5 p W) (hb : Below W.heap.size W W') : Px w g v0 v1 v2 v3 v4 v5 p W' :=
  ⟨h.below.trans (hb.mono h.below.size), h.pn.below hb, (hb.cell (p := ⟨g, 0, none⟩) h.lt).trans h.c0, (hb.cell (p := ⟨g, 1, none⟩) h.lt).trans h.c1, (hb.cell (p := ⟨g, 2, none⟩) h.lt).trans h.c2, (hb.cell (p := ⟨g, 3, none⟩) h.lt).trans h.c3, (hb.cell (p := ⟨g, 4, none⟩) h.lt).trans h.c4, (hb.cell (p := ⟨g, 5, none⟩) h.lt).trans h.c5, Nat.lt_of_lt_of_le h.lt hb.size⟩
theorem Px.drew {w : World} {g : Nat} {v0 v1 v2 v3 v4 v5 : Value} {p : P} {W : World} (h : Px w g v0 v1 v2 v3 v4 v5 p W) : Px w g v0 v1 v2 v3 v4 v5 p W.drew :=
  h.next W W.drew ⟨rfl, rfl, rfl, Nat.le_refl _, fun _ _ => rfl⟩
theorem Px.box {w : World} {v0 v1 v2 v3 v4 v5 : Value} {p : P} (h : Pn w v0 v1 v2 v3 v4 v5 p) : Px w w.heap.size v0 v1 v2 v3 v4 v5 p (w.alloc (Obj.cells #[v0, v1, v2, v3, v4, v5] 27)) := by
  have B0 : Below w.heap.size w (w.alloc (Obj.cells #[v0, v1, v2, v3, v4, v5] 27)) := (Below.refl _ _).alloc (Nat.le_refl _) _
  exact ⟨B0, h.below B0, by simp, by simp, by simp, by simp, by simp, by simp, by simp⟩
end Go.Proofs.Ytlmlkpdppkgenaa
