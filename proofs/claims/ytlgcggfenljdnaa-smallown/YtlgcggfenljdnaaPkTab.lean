/-
  Rows of one's own, one behind the other: a table that grows by columns. No function is walked here.
-/
import Derived.Test.YtlgcggfenljdnaaPkCol
import Derived.Deep.AppendLies
namespace Go.Proofs.Ytlgcggfenljdnaa
open Go.RowKit
open Dfa

theorem tl_succ (k : Nat) (T : Nat → Int) : tl (k + 1) T = tl k T ++ [.int .i64 (T k)] := by simp [tl, List.range_succ]
theorem tl_congr (k : Nat) (T U : Nat → Int) (h : ∀ j, j < k → T j = U j) : tl k T = tl k U := by
  unfold tl
  apply List.map_congr_left
  intro j hj
  rw [h j (by simpa using hj)]
theorem cell_of_one3 {W : World} {u : Value} {j : Nat} : (W.alloc (.cells #[u] 3)).cell? ⟨W.heap.size, j, none⟩ = ([u] : List Value)[j]? := cell_of_block W [u] 3 j
theorem cell_set_other {w : World} {a : Addr} {b j : Nat} {u : Value} (h : b ≠ a.block) : (w.setCell a u).cell? ⟨b, j, none⟩ = w.cell? ⟨b, j, none⟩ := by
  simp [World.cell?, Below.heap_setCell w a u b h]
theorem step_call_append {P : Program} {ops : Array Oper} {o : Oper} {a : Act} {K : Act → World → Prop} {Q : Exit → Act → World → Prop} {E : Prop} {W W1 : World} {v sv xv : Value} (hgd : o.guard = none) (s x : Operand) (t : TypeId) (ho : o.op = .call { callee := .builtin .append, args := #[s, x], argTypes := #[t, t] })
    (hs : a.eval s = sv) (hx : a.eval x = xv) (hr : (Builtin.append_ #[t, t] o.type #[sv, xv]).run P W = .ok v W1) (h : K (a.put o.dst v) W1) : if Region.wanted o (yielded ops a.tmps) = true then Oper.wp P o a W K Q else E := by
  have hw : Region.wanted o (yielded ops a.tmps) = true := by simp [Region.wanted, hgd]
  rw [if_pos hw]
  unfold Oper.wp
  simp [execOp, ho, resolve, invoke, builtin, hs, hx, hr, Result.andThen]
  exact h
/-- A table whose rows are one's own: row i has C i numbers. -/
structure Tn (B gN n : Nat) (C : Nat → Nat) (X : Nat → Nat → Int) (V : Nat → Value) (W : World) : Prop where
  top : W.rowIs gN 23 n V
  own : ∀ i, i < n → W.ownsRow B 3 1 (V i) (C i) (tl (C i) (X i))
  ne : ∀ i j, i < n → j < n → i ≠ j → ∀ q, (V i).ownBlock = some q → (V j).ownBlock ≠ some q
  lt : gN < B
  size : B ≤ W.heap.size
/-- .. while row i has grown and its place in the table is not yet written. -/
structure Th (B gN n i : Nat) (C : Nat → Nat) (X : Nat → Nat → Int) (V : Nat → Value) (gr cr : Nat) (W : World) : Prop where
  top : W.rowIs gN 23 n V
  own : ∀ j, j < n → j ≠ i → W.ownsRow B 3 1 (V j) (C j) (tl (C j) (X j))
  new : W.ownsRow B 3 1 (.slice (some ⟨gr, 0, none⟩) (C i + 1) cr) (C i + 1) (tl (C i + 1) (X i))
  ne : ∀ k j, k < n → j < n → k ≠ j → ∀ q, (V k).ownBlock = some q → (V j).ownBlock ≠ some q
  ne2 : ∀ j, j < n → j ≠ i → (V j).ownBlock ≠ some gr
  lt : gN < B
  size : B ≤ W.heap.size
variable {B gN n i gr cr : Nat} {C : Nat → Nat} {X : Nat → Nat → Int} {V : Nat → Value} {W W' : World}
theorem Tn.next (h : Tn B gN n C X V W) (hb : Below W.heap.size W W') : Tn B gN n C X V W' :=
  ⟨h.top.of_block (hb.block _ h.top.lt), fun i hi => own_same (h.own i hi) fun k hk => hb.block k ((h.own i hi).lt k hk).2, h.ne, h.lt, Nat.le_trans h.size hb.size⟩
theorem Tn.congrC {C' : Nat → Nat} (h : Tn B gN n C X V W) (e : ∀ j, j < n → C j = C' j) : Tn B gN n C' X V W :=
  ⟨h.top, fun i hi => by rw [← e i hi]; exact h.own i hi, h.ne, h.lt, h.size⟩
theorem Tn.congrX {X' : Nat → Nat → Int} (h : Tn B gN n C X V W) (e : ∀ i, i < n → ∀ j, j < C i → X i j = X' i j) : Tn B gN n C X' V W :=
  ⟨h.top, fun i hi => by rw [← tl_congr _ _ _ (e i hi)]; exact h.own i hi, h.ne, h.lt, h.size⟩
theorem Tn.grow (h : Tn B gN n C X V W) (hi : i < n) (hg : W.grownBy W' (V i).ownBlock) (ho : W'.ownsRow B 3 1 (.slice (some ⟨gr, 0, none⟩) (C i + 1) cr) (C i + 1) (tl (C i + 1) (X i))) (hb : (V i).ownBlock = some gr ∨ gr = W.heap.size) : Th B gN n i C X V gr cr W' := by
  have e : ∀ k, k < W.heap.size → (V i).ownBlock ≠ some k → W'.heap[k]? = W.heap[k]? := fun k hk hk2 => hg.block k hk (fun x => hk2 x.symm)
  refine ⟨h.top.of_block (e _ h.top.lt (fun x => by have := ((h.own i hi).lt _ x).1; have := h.lt; omega)), fun j hj hji => own_same (h.own j hj) fun k hk => e k ((h.own j hj).lt k hk).2 (h.ne j i hj hi hji k hk), ho, h.ne, fun j hj hji x => ?_, h.lt, Nat.le_trans h.size hg.size⟩
  rcases hb with hb | hb
  · exact h.ne j i hj hi hji gr x hb
  · have := ((h.own j hj).lt gr x).2; omega
theorem Th.put (h : Th B gN n i C X V gr cr W) (hi : i < n) : Tn B gN n (fun j => if j = i then C i + 1 else C j) X (fun j => if j = i then (.slice (some ⟨gr, 0, none⟩) (C i + 1) cr) else V j) (W.setCell ⟨gN, i, none⟩ (.slice (some ⟨gr, 0, none⟩) (C i + 1) cr)) := by
  have hl := h.lt
  have e : ∀ k, k ≠ gN → (W.setCell ⟨gN, i, none⟩ (.slice (some ⟨gr, 0, none⟩) (C i + 1) cr)).heap[k]? = W.heap[k]? := fun k hk => Below.heap_setCell _ _ _ _ hk
  refine ⟨(h.top.set i (.slice (some ⟨gr, 0, none⟩) (C i + 1) cr)).congr fun j hj => rfl, fun j hj => ?_, fun j k hj hk hjk q => ?_, h.lt, by simp only [World.setCell, Array.size_modify]; exact h.size⟩
  · by_cases ej : j = i
    · subst ej
      simp only [if_true]
      exact own_same h.new fun k hk => e k (by have := (h.new.lt k hk).1; omega)
    · simp only [ej, if_false]
      exact own_same (h.own j hj ej) fun k hk => e k (by have := ((h.own j hj ej).lt k hk).1; omega)
  · by_cases ej : j = i
    · by_cases ek : k = i
      · omega
      · subst ej
        simp only [if_true, ek, if_false]
        intro hq
        simp [Value.ownBlock] at hq
        subst hq
        exact h.ne2 k hk ek
    · by_cases ek : k = i
      · subst ek
        simp only [if_true, ej, if_false]
        intro hq hq2
        simp [Value.ownBlock] at hq2
        subst hq2
        exact h.ne2 j hj ej hq
      · simp only [ej, ek, if_false]
        exact h.ne j k hj hk hjk q
/-- All that is below the table's rows, and not the table itself, stays. -/
structure Mk (B gN : Nat) (W W' : World) : Prop where
  os : W'.os = W.os
  tape : W'.tape = W.tape
  output : W'.output = W.output
  size : W.heap.size ≤ W'.heap.size
  blk : ∀ k, k < B → k ≠ gN → W'.heap[k]? = W.heap[k]?
theorem Mk.refl (B gN : Nat) (W : World) : Mk B gN W W := ⟨rfl, rfl, rfl, Nat.le_refl _, fun _ _ _ => rfl⟩
theorem Mk.below {W'' : World} (h : Mk B gN W W') (hb : Below W'.heap.size W' W'') (hs : B ≤ W'.heap.size) : Mk B gN W W'' :=
  ⟨hb.os.trans h.os, hb.tape.trans h.tape, hb.output.trans h.output, Nat.le_trans h.size hb.size, fun k h1 h2 => (hb.block k (by omega)).trans (h.blk k h1 h2)⟩
theorem Mk.grown {own : Option Nat} {W'' : World} (h : Mk B gN W W') (hb : W'.grownBy W'' own) (ho : ∀ k, own = some k → B ≤ k) (hs : B ≤ W'.heap.size) : Mk B gN W W'' :=
  ⟨hb.os.trans h.os, hb.tape.trans h.tape, hb.output.trans h.output, Nat.le_trans h.size hb.size, fun k h1 h2 => (hb.block k (by omega) (fun e => by have := ho k e.symm; omega)).trans (h.blk k h1 h2)⟩
theorem Mk.set (h : Mk B gN W W') (j : Nat) (u : Value) : Mk B gN W (W'.setCell ⟨gN, j, none⟩ u) :=
  ⟨h.os, h.tape, h.output, by simp only [World.setCell, Array.size_modify]; exact h.size, fun k h1 h2 => (Below.heap_setCell _ _ _ _ (by simpa using h2)).trans (h.blk k h1 h2)⟩
theorem Mk.trans {W'' : World} (h : Mk B gN W W') (k : Mk B gN W' W'') : Mk B gN W W'' :=
  ⟨k.os.trans h.os, k.tape.trans h.tape, k.output.trans h.output, Nat.le_trans h.size k.size, fun q h1 h2 => (k.blk q h1 h2).trans (h.blk q h1 h2)⟩
structure RD4 (w wr : World) (B gN gc n i : Nat) (C : Nat → Nat) (X : Nat → Nat → Int) (V : Nat → Value) (Z : Nat → Int) (gb : Nat) (gr : Nat) (cr : Nat) (d : Nat → Bool) (x10 x11 x12 x13 x14 x15 x16 x17 x18 x19 x20 x21 x22 : Value) (W : World) : Prop where
  f0 : d 0 = true → x10 = (.slice (some ⟨gN, 0, none⟩) n n)
  f1 : d 1 = true → x11 = (.int .i64 (i : Int))
  f2 : d 2 = true → x12 = (.slice (some ⟨gN, 0, none⟩) n n)
  f3 : d 3 = true → x13 = (.int .i64 (i : Int))
  f4 : d 4 = true → x14 = (.pointer (some ⟨gN, i, none⟩))
  f5 : d 5 = true → x15 = (V i)
  f6 : d 6 = true → x16 = (.int .i64 (i : Int))
  f7 : d 7 = true → x17 = (.pointer (some ⟨gc, i, none⟩))
  f8 : d 8 = true → x18 = (.int .i16 (Z i))
  f9 : d 9 = true → x19 = (.int .i64 (Z i))
  f10 : d 10 = true → x20 = (.slice (some ⟨gb, 0, none⟩) 1 1)
  f11 : d 11 = true → x21 = (.slice (some ⟨gr, 0, none⟩) (C i + 1) cr)
  f12 : d 12 = true → x22 = (.pointer (some ⟨gN, i, none⟩))
  f13 : d 13 = true → True
  o9_8 : d 9 = true → d 8 = true
  o10_8 : d 10 = true → d 8 = true
  p5 : d 11 = true → d 5 = true
  p8 : d 11 = true → d 8 = true
  p10 : d 11 = true → d 10 = true
  q13 : d 13 = true → d 11 = true
  tn : d 11 = false → Tn B gN n C X V W
  cc : ∀ s, s < 200 → W.cell? ⟨gc, s, none⟩ = some (.int .i16 (Z s))
  bs : d 10 = true → d 11 = false → ∀ j u, ([.int .i64 (Z i)] : List Value)[j]? = some u → W.cell? ⟨gb, j, none⟩ = some u
  th : d 11 = true → d 13 = false → Th B gN n i C X V gr cr W
  mv : Mk B gN wr W
  fin : d 13 = true → Tn B gN n (fun j => if j = i then C i + 1 else C j) X (fun j => if j = i then (.slice (some ⟨gr, 0, none⟩) (C i + 1) cr) else V j) W

end Go.Proofs.Ytlgcggfenljdnaa
