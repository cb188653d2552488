/-
  What pushref.Packed holds in memory while it goes through the bytes. No function is walked here.
-/
import Derived.Test.YtkogbokelaanjaaPkSame
namespace Go.Proofs.Ytkogbokelaanjaa
open Go.RowKit
open Dfa

structure PQ (w : World) (n : Nat) (R : Nat → Nat → Int) (rv tv : Value) (gN gp B b : Nat) (fs : List Nat) (V : Nat → Value) (fv : Value) (W : World) : Prop where
  below : Below w.heap.size w W
  c0 : W.cell? ⟨w.heap.size, 0, none⟩ = some rv
  c1 : W.cell? ⟨w.heap.size, 1, none⟩ = some tv
  rs : W.rowIs (w.heap.size + 1) 29 258 (pf (fun _ => 0) (.slice none 0 0) (.slice none 0 0))
  pb : W.rowIs gp 29 258 (pf (ofb n R b) (.slice (some ⟨gN, 0, none⟩) n n) tv)
  tn : Tn B gN n (fun _ => fs.length) (fun i t => R i (fs.getD t 0)) V W
  ff : W.ownsRow B 3 1 fv fs.length (tl fs.length (fun t => ((fs.getD t 0 : Nat) : Int)))
  nf : ∀ i, i < n → ∀ q, (V i).ownBlock = some q → fv.ownBlock ≠ some q
variable {w : World} {n : Nat} {R : Nat → Nat → Int} {rv tv : Value} {gN gp B b : Nat} {fs : List Nat} {V : Nat → Value} {fv : Value} {W W' : World}
/-- The firsts, as a slice. -/
theorem PQ.shape (h : PQ w n R rv tv gN gp B b fs V fv W) : ∃ ao fc, fv = .slice ao fs.length fc ∧ ∀ t, t < fs.length → ∃ g, ao = some ⟨g, 0, none⟩ ∧ W.cell? ⟨g, t, none⟩ = some (.int .i64 ((fs.getD t 0 : Nat) : Int)) := by
  obtain ⟨hl, ⟨hv, hc⟩ | ⟨g, cap, cur, hv, hg, hb, h1, h2, h3, h4⟩⟩ := h.ff
  · exact ⟨none, 0, by rw [hc]; exact hv, fun t ht => by omega⟩
  · refine ⟨_, _, hv, fun t ht => ⟨g, rfl, ?_⟩⟩
    have h5 : cur[t]? = some (.int .i64 ((fs.getD t 0 : Nat) : Int)) := by
      have := tl_at fs.length (fun t => ((fs.getD t 0 : Nat) : Int)) t ht
      rw [← h4, List.getElem?_take_of_lt (by omega), Array.getElem?_toList] at this
      exact this
    simp [World.cell?, hb, h5]
theorem PQ.same (h : PQ w n R rv tv gN gp B b fs V fv W) (hs : Sm W W') : PQ w n R rv tv gN gp B b fs V fv W' := by
  have e : ∀ k : Nat, W'.heap[k]? = W.heap[k]? := fun k => by rw [hs.heap]
  exact ⟨h.below.trans ⟨hs.os, hs.tape, hs.output, by rw [hs.heap]; exact Nat.le_refl _, fun k _ => e k⟩, (cell_same (e _) 0).trans h.c0, (cell_same (e _) 1).trans h.c1, h.rs.of_block (e _), h.pb.of_block (e _), ⟨h.tn.top.of_block (e _), fun i hi => own_same (h.tn.own i hi) fun k _ => e k, h.tn.ne, h.tn.lt, by rw [hs.heap]; exact h.tn.size⟩, own_same h.ff fun k _ => e k, h.nf⟩
theorem PQ.start (h1 : Below w.heap.size w W) (h2 : W.cell? ⟨w.heap.size, 0, none⟩ = some rv) (h3 : W.cell? ⟨w.heap.size, 1, none⟩ = some tv) (h4 : W.rowIs (w.heap.size + 1) 29 258 (pf (fun _ => 0) (.slice none 0 0) (.slice none 0 0))) (h5 : W.rowIs gN 23 n (fun _ => .slice none 0 0)) (h8 : W.rowIs gp 29 258 (pf (fun _ => 0) (.slice (some ⟨gN, 0, none⟩) n n) tv)) :
    PQ w n R rv tv gN gp W.heap.size 0 (fsts n R 0) (fun _ => .slice none 0 0) (.slice none 0 0) W :=
  ⟨h1, h2, h3, h4, h8.congr fun q _ => by simp [pf, ofb], ⟨h5, fun i _ => World.ownsRow_nil _ _ _ _, fun i j _ _ _ q hq => by simp [Value.ownBlock] at hq, h5.lt, Nat.le_refl _⟩, World.ownsRow_nil _ _ _ _, fun i _ q hq => by simp [Value.ownBlock] at hq⟩
/-- The number of a byte is written. -/
theorem PQ.of (h : PQ w n R rv tv gN gp B b fs V fv W) (h1 : w.heap.size + 2 ≤ gp) (h2 : gN ≠ gp) (h3 : gp < B) (hb : b < 256) : PQ w n R rv tv gN gp B (b + 1) fs V fv (W.setCell ⟨gp, b, none⟩ (.int .u8 (idx n R (fsts n R b) b : Int))) := by
  have e : ∀ k, k ≠ gp → (W.setCell ⟨gp, b, none⟩ (.int .u8 (idx n R (fsts n R b) b : Int))).heap[k]? = W.heap[k]? := fun k hk => Below.heap_setCell _ _ _ _ hk
  refine ⟨h.below.setCell (by simp; omega) _, (cell_same (e _ (by omega)) 0).trans h.c0, (cell_same (e _ (by omega)) 1).trans h.c1, h.rs.of_block (e _ (by omega)), (h.pb.set b _).congr fun q hq => ?_, ⟨h.tn.top.of_block (e _ h2), fun i hi => own_same (h.tn.own i hi) fun k hk => e k (by have := ((h.tn.own i hi).lt k hk).1; omega), h.tn.ne, h.tn.lt, by simp only [World.setCell, Array.size_modify]; exact h.tn.size⟩, own_same h.ff fun k hk => e k (by have := (h.ff.lt k hk).1; omega), h.nf⟩
  by_cases hq2 : q = b
  · subst hq2; simp [pf, ofb, hb]
  · have h3 : q < b + 1 ↔ q < b := by omega
    simp [pf, ofb, hq2, h3]
theorem PQ.first {ao : Option Addr} {m fc t : Nat} (h : PQ w n R rv tv gN gp B b fs V (.slice ao m fc) W) (hm : fs.length = m) (ht : t < m) : ∃ g, ao = some ⟨g, 0, none⟩ ∧ W.cell? ⟨g, t, none⟩ = some (.int .i64 ((fs.getD t 0 : Nat) : Int)) := by
  obtain ⟨ao', fc', e, hc⟩ := h.shape
  simp at e
  obtain ⟨g, e2, h2⟩ := hc t (by omega)
  exact ⟨g, by rw [e.1, e2], h2⟩
theorem PQ.next (h : PQ w n R rv tv gN gp B b fs V fv W) (hb : Below W.heap.size W W') : PQ w n R rv tv gN gp B b fs V fv W' := by
  have h0 := h.rs.lt
  exact ⟨h.below.trans (hb.mono h.below.size), (hb.cell (p := ⟨w.heap.size, 0, none⟩) (by simp; omega)).trans h.c0, (hb.cell (p := ⟨w.heap.size, 1, none⟩) (by simp; omega)).trans h.c1, h.rs.of_block (hb.block _ h.rs.lt), h.pb.of_block (hb.block _ h.pb.lt), h.tn.next hb, own_same h.ff fun k hk => hb.block k (h.ff.lt k hk).2, h.nf⟩
theorem sm_drewN (w : World) (k : Nat) : Sm w (w.drewN k) := ⟨rfl, rfl, rfl, rfl⟩
theorem idx_is {t y : Nat} (ht : t < fs.length) (h1 : eqc n R (fs.getD t 0) y = true) (h2 : ∀ u, u < t → eqc n R (fs.getD u 0) y = false) : idx n R fs y = t := by
  unfold idx
  rw [List.findIdx_eq ht]
  have e : ∀ u (hu : u < fs.length), fs.getD u 0 = fs[u] := fun u hu => by rw [List.getD_eq_getElem?_getD, List.getElem?_eq_getElem hu]; rfl
  rw [e t ht] at h1
  exact ⟨h1, fun u hu => by have := h2 u hu; rwa [e u (by omega)] at this⟩
theorem idx_all {t y : Nat} (ht : fs.length = t) (h2 : ∀ u, u < t → eqc n R (fs.getD u 0) y = false) : idx n R fs y = t := by
  have h3 := idx_le n R fs y
  by_cases h : idx n R fs y < fs.length
  · have h1 := idx_some h
    have := h2 (idx n R fs y) (by omega)
    rw [List.getD_eq_getElem?_getD, List.getElem?_eq_getElem h] at this
    simp only [Option.getD_some] at this
    rw [h1] at this
    cases this
  · omega
/-- What is held beside the table. -/
structure Kf (w : World) (n : Nat) (R : Nat → Nat → Int) (rv tv : Value) (gN gp B b : Nat) (fs : List Nat) (fv : Value) (W : World) : Prop where
  below : Below w.heap.size w W
  c0 : W.cell? ⟨w.heap.size, 0, none⟩ = some rv
  c1 : W.cell? ⟨w.heap.size, 1, none⟩ = some tv
  rs : W.rowIs (w.heap.size + 1) 29 258 (pf (fun _ => 0) (.slice none 0 0) (.slice none 0 0))
  pb : W.rowIs gp 29 258 (pf (ofb n R b) (.slice (some ⟨gN, 0, none⟩) n n) tv)
  ff : W.ownsRow B 3 1 fv fs.length (tl fs.length (fun t => ((fs.getD t 0 : Nat) : Int)))
theorem Kf.next (h : Kf w n R rv tv gN gp B b fs fv W) (hb : Below W.heap.size W W') : Kf w n R rv tv gN gp B b fs fv W' := by
  have h0 := h.rs.lt
  exact ⟨h.below.trans (hb.mono h.below.size), (hb.cell (p := ⟨w.heap.size, 0, none⟩) (by simp; omega)).trans h.c0, (hb.cell (p := ⟨w.heap.size, 1, none⟩) (by simp; omega)).trans h.c1, h.rs.of_block (hb.block _ h.rs.lt), h.pb.of_block (hb.block _ h.pb.lt), own_same h.ff fun k hk => hb.block k (h.ff.lt k hk).2⟩
theorem Kf.grown {own : Option Nat} (h : Kf w n R rv tv gN gp B b fs fv W) (h1 : w.heap.size + 2 ≤ B) (h3 : gp < B) (hg : W.grownBy W' own) (ho : ∀ k, own = some k → B ≤ k) (hne : ∀ k, own = some k → fv.ownBlock ≠ some k) : Kf w n R rv tv gN gp B b fs fv W' := by
  have h0 := h.rs.lt
  have e : ∀ k, k < W.heap.size → own ≠ some k → W'.heap[k]? = W.heap[k]? := fun k hk hk2 => hg.block k hk (fun x => hk2 x.symm)
  have e2 : ∀ k, k < W.heap.size → k < B → W'.heap[k]? = W.heap[k]? := fun k hk hk2 => e k hk (fun x => by have := ho k x; omega)
  exact ⟨h.below.grown hg h.below.size (fun k hk => by have := ho k hk; omega), (cell_same (e2 _ (by omega) (by omega)) 0).trans h.c0, (cell_same (e2 _ (by omega) (by omega)) 1).trans h.c1, h.rs.of_block (e2 _ h0 (by omega)), h.pb.of_block (e2 _ h.pb.lt h3), own_same h.ff fun k hk => e k (h.ff.lt k hk).2 (fun x => hne k x hk)⟩
theorem Kf.set (h : Kf w n R rv tv gN gp B b fs fv W) (h1 : w.heap.size + 2 ≤ gN) (h2 : gN ≠ gp) (h3 : gN < B) (j : Nat) (u : Value) : Kf w n R rv tv gN gp B b fs fv (W.setCell ⟨gN, j, none⟩ u) := by
  have e : ∀ k, k ≠ gN → (W.setCell ⟨gN, j, none⟩ u).heap[k]? = W.heap[k]? := fun k hk => Below.heap_setCell _ _ _ _ hk
  exact ⟨h.below.setCell (by simp; omega) _, (cell_same (e _ (by omega)) 0).trans h.c0, (cell_same (e _ (by omega)) 1).trans h.c1, h.rs.of_block (e _ (by omega)), h.pb.of_block (e _ (fun x => h2 x.symm)), own_same h.ff fun k hk => e k (by have := (h.ff.lt k hk).1; omega)⟩
theorem PQ.appended {ao : Option Addr} {t fc gr cr : Nat} (h : PQ w n R rv tv gN gp B b fs V (.slice ao t fc) W) (hl : fs.length = t) (g2 : w.heap.size + 2 ≤ gp) (g3 : gp < B)
    (ho : W'.ownsRow B 3 1 (.slice (some ⟨gr, 0, none⟩) (t + 1) cr) (t + 1) (tl t (fun u => ((fs.getD u 0 : Nat) : Int)) ++ [.int .i64 (b : Int)])) (hg : W.grownBy W' (Value.slice ao t fc).ownBlock) (hb : (Value.slice ao t fc).ownBlock = some gr ∨ gr = W.heap.size) :
    Kf w n R rv tv gN gp B b (fs ++ [b]) (.slice (some ⟨gr, 0, none⟩) (t + 1) cr) W' ∧ Tn B gN n (fun _ => t) (fun i u => R i ((fs ++ [b]).getD u 0)) V W' ∧ ∀ j, j < n → ∀ q, (V j).ownBlock = some q → (Value.slice (some ⟨gr, 0, none⟩) (t + 1) cr).ownBlock ≠ some q := by
  subst hl
  have h0 := h.rs.lt
  have hob : ∀ k, (Value.slice ao fs.length fc).ownBlock = some k → B ≤ k := fun k hk => (h.ff.lt k hk).1
  have e : ∀ k, k < W.heap.size → (Value.slice ao fs.length fc).ownBlock ≠ some k → W'.heap[k]? = W.heap[k]? := fun k hk hk2 => hg.block k hk (fun x => hk2 x.symm)
  have e2 : ∀ k, k < W.heap.size → k < B → W'.heap[k]? = W.heap[k]? := fun k hk hk2 => e k hk (fun x => by have := hob k x; omega)
  have hx : ∀ i u, u < fs.length → R i (fs.getD u 0) = R i ((fs ++ [b]).getD u 0) := fun i u hu => by simp only [List.getD_eq_getElem?_getD]; rw [List.getElem?_append_left hu]
  refine ⟨⟨h.below.grown hg h.below.size (fun k hk => by have := hob k hk; omega), (cell_same (e2 _ (by omega) (by omega)) 0).trans h.c0, (cell_same (e2 _ (by omega) (by omega)) 1).trans h.c1, h.rs.of_block (e2 _ h0 (by omega)), h.pb.of_block (e2 _ h.pb.lt g3), ?_⟩, ?_, fun j hj q hq hq2 => ?_⟩
  · rw [List.length_append, List.length_singleton, tl_succ]
    have e3 : (fs ++ [b]).getD fs.length 0 = b := by simp
    rw [e3, tl_congr fs.length _ (fun u => ((fs.getD u 0 : Nat) : Int)) (fun u hu => by simp only [List.getD_eq_getElem?_getD]; rw [List.getElem?_append_left hu])]
    exact ho
  · exact (⟨h.tn.top.of_block (e2 _ h.tn.top.lt h.tn.lt), fun i hi => own_same (h.tn.own i hi) fun k hk => e k ((h.tn.own i hi).lt k hk).2 (fun x => h.nf i hi k hk x), h.tn.ne, h.tn.lt, Nat.le_trans h.tn.size hg.size⟩ : Tn B gN n (fun _ => fs.length) (fun i t => R i (fs.getD t 0)) V W').congrX fun i hi u hu => hx i u hu
  · simp [Value.ownBlock] at hq2
    subst hq2
    rcases hb with hb | hb
    · exact h.nf j hj gr hq hb
    · have := ((h.tn.own j hj).lt gr hq).2; omega
theorem wpList_append_run {P : Program} {ops : Array Oper} {rest : List Oper} {o : Oper} {a : Act} {Q : Exit → Act → World → Prop} {W W1 : World} {v sv xv : Value} (hgd : o.guard = none) (s x : Operand) (t : TypeId) (ho : o.op = .call { callee := .builtin .append, args := #[s, x], argTypes := #[t, t] })
    (hs : a.eval s = sv) (hx : a.eval x = xv) (hr : (Builtin.append_ #[t, t] o.type #[sv, xv]).run P W = .ok v W1) (h : wpList P ops Q rest (a.put o.dst v) W1) : wpList P ops Q (o :: rest) a W :=
  wpList_plain hgd fun K hK => by
    unfold Oper.wp
    simp [execOp, ho, resolve, invoke, builtin, hs, hx, hr, Result.andThen]
    exact hK _ _ h
end Go.Proofs.Ytkogbokelaanjaa
