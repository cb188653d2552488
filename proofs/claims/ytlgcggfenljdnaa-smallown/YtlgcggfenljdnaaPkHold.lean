/-
  What small.Pack holds in memory while it goes through the bytes. No function is walked here.
-/
import Derived.Test.YtlgcggfenljdnaaPkSet
namespace Go.Proofs.Ytlgcggfenljdnaa
open Go.RowKit
open Go.Maps
open Dfa

/-- The numbers of the columns of the first bytes. -/
def ofb (n : Nat) (R : Nat → Nat → Int) (b q : Nat) : Nat := if q < b then idx n R (fsts n R q) q else 0
structure PL (w : World) (n : Nat) (R : Nat → Nat → Int) (T : Nat → Int) (rv tv : Value) (gN gt ct gp gm b : Nat) (fs : List Nat) (D : DataW Unit) (V : Nat → Value) (W : World) : Prop where
  below : Below w.heap.size w W
  c0 : W.cell? ⟨w.heap.size, 0, none⟩ = some rv
  c1 : W.cell? ⟨w.heap.size, 1, none⟩ = some tv
  rs : W.rowIs (w.heap.size + 1) 47 258 (pf (fun _ => 0) (.slice none 0 0) (.slice none 0 0))
  tg : Tg gt ct n T W
  pb : W.rowIs gp 47 258 (pf (ofb n R b) (.slice (some ⟨gN, 0, none⟩) n n) (.slice (some ⟨gt, 0, none⟩) n ct))
  tn : Tn (gm + 1) gN n (fun _ => fs.length) (fun i t => R i (fs.getD t 0)) V W
  mp : W.ownsMap Try.prog 83 (plainElem Try.prog 5) gm fs.length D
  mi : MI n R D fs
variable {w : World} {n : Nat} {R : Nat → Nat → Int} {T : Nat → Int} {rv tv : Value} {gN gt ct gp gm b : Nat} {fs : List Nat} {D : DataW Unit} {V : Nat → Value} {W W' : World}
/-- The blocks' order. -/
structure Go_ (w : World) (gN gt gp gm : Nat) : Prop where
  h1 : w.heap.size + 2 ≤ gN
  h2 : w.heap.size + 2 ≤ gt
  h3 : w.heap.size + 2 ≤ gp
  h4 : gN < gm
  h5 : gt < gm
  h6 : gp < gm
  n1 : gN ≠ gt
  n2 : gN ≠ gp
  n3 : gt ≠ gp
theorem map_same {k : TypeId} {m : Nat} (h : W.ownsMap Try.prog k (plainElem Try.prog 5) gm m D) (e : W'.heap[gm]? = W.heap[gm]?) : W'.ownsMap Try.prog k (plainElem Try.prog 5) gm m D := by
  unfold World.ownsMap at *
  rw [e]; exact h
theorem PL.next (h : PL w n R T rv tv gN gt ct gp gm b fs D V W) (g : Go_ w gN gt gp gm) (hb : Below W.heap.size W W') : PL w n R T rv tv gN gt ct gp gm b fs D V W' := by
  have hs := h.tn.size
  have e : ∀ k, k < gm + 1 → W'.heap[k]? = W.heap[k]? := fun k hk => hb.block k (by omega)
  exact ⟨h.below.trans (hb.mono h.below.size), (cell_same (e _ (by have := g.h1; have := g.h4; omega)) 0).trans h.c0, (cell_same (e _ (by have := g.h1; have := g.h4; omega)) 1).trans h.c1, h.rs.of_block (e _ (by have := g.h1; have := g.h4; omega)), h.tg.same (e _ (by have := g.h5; omega)), h.pb.of_block (e _ (by have := g.h6; omega)), h.tn.next hb, map_same h.mp (e _ (by omega)), h.mi⟩
/-- One more column is in the map. -/
theorem PL.mapped (h : PL w n R T rv tv gN gt ct gp gm b fs D V W) (g : Go_ w gN gt gp gm) (hg : W.grownBy W' (some gm)) :
    Below w.heap.size w W' ∧ W'.cell? ⟨w.heap.size, 0, none⟩ = some rv ∧ W'.cell? ⟨w.heap.size, 1, none⟩ = some tv ∧ W'.rowIs (w.heap.size + 1) 47 258 (pf (fun _ => 0) (.slice none 0 0) (.slice none 0 0)) ∧ Tg gt ct n T W' ∧ W'.rowIs gp 47 258 (pf (ofb n R b) (.slice (some ⟨gN, 0, none⟩) n n) (.slice (some ⟨gt, 0, none⟩) n ct)) ∧ Tn (gm + 1) gN n (fun _ => fs.length) (fun i t => R i (fs.getD t 0)) V W' := by
  have hs := h.tn.size
  have g1 := g.h1
  have g4 := g.h4
  have e : ∀ k, k < W.heap.size → k ≠ gm → W'.heap[k]? = W.heap[k]? := fun k hk hk2 => hg.block k hk (fun x => hk2 (Option.some.inj x))
  refine ⟨h.below.grown hg h.below.size (fun k hk => by simp at hk; omega), (cell_same (e _ (by omega) (by omega)) 0).trans h.c0, (cell_same (e _ (by omega) (by omega)) 1).trans h.c1, h.rs.of_block (e _ (by omega) (by omega)), h.tg.same (e _ (by have := g.h5; omega) (by have := g.h5; omega)), h.pb.of_block (e _ (by have := g.h6; omega) (by have := g.h6; omega)), ⟨h.tn.top.of_block (e _ h.tn.top.lt (by omega)), fun i hi => own_same (h.tn.own i hi) fun k hk => e k ((h.tn.own i hi).lt k hk).2 (by have := ((h.tn.own i hi).lt k hk).1; omega), h.tn.ne, h.tn.lt, Nat.le_trans h.tn.size hg.size⟩⟩
theorem PL.start (e : W.heap.size = gm) (h1 : Below w.heap.size w W) (h2 : W.cell? ⟨w.heap.size, 0, none⟩ = some rv) (h3 : W.cell? ⟨w.heap.size, 1, none⟩ = some tv) (h4 : W.rowIs (w.heap.size + 1) 47 258 (pf (fun _ => 0) (.slice none 0 0) (.slice none 0 0))) (h5 : W.rowIs gN 23 n (fun _ => .slice none 0 0)) (h6 : Tg gt ct n T W) (h8 : W.rowIs gp 47 258 (pf (fun _ => 0) (.slice (some ⟨gN, 0, none⟩) n n) (.slice (some ⟨gt, 0, none⟩) n ct))) :
    ∃ D V, PL w n R T rv tv gN gt ct gp gm 0 (fsts n R 0) D V (W.alloc (Obj.map #[] 0)) := by
  have hm := World.ownsMap_made (H := Unit) W Try.prog 83 (plainElem Try.prog 5)
  rw [e] at hm
  refine ⟨.map [], fun _ => .slice none 0 0, h1.alloc h1.size _, Go.Lib.cell?_alloc_some _ h2, Go.Lib.cell?_alloc_some _ h3, h4.alloc _, ⟨fun i hi => Go.Lib.cell?_alloc_some _ (h6.1 i hi), h6.2.1.imp fun _ hf => hf.alloc _, h6.2.2⟩, (h8.alloc _).congr fun q _ => ?_, ⟨h5.alloc _, fun i _ => World.ownsRow_nil _ _ _ _, fun i j _ _ _ q hq => by simp [Value.ownBlock] at hq, by have := h5.lt; omega, by simp; omega⟩, hm, MI.none n R⟩
  simp [pf, ofb]
/-- The number of a byte is written. -/
theorem PL.of (h : PL w n R T rv tv gN gt ct gp gm b fs D V W) (g : Go_ w gN gt gp gm) (hb : b < 256) : PL w n R T rv tv gN gt ct gp gm (b + 1) fs D V (W.setCell ⟨gp, b, none⟩ (.int .u8 (idx n R (fsts n R b) b : Int))) := by
  have e : ∀ k, k ≠ gp → (W.setCell ⟨gp, b, none⟩ (.int .u8 (idx n R (fsts n R b) b : Int))).heap[k]? = W.heap[k]? := fun k hk => Below.heap_setCell _ _ _ _ hk
  have g1 := g.h3
  have g2 := g.n2
  have g3 := g.n3
  have g4 := g.h6
  refine ⟨h.below.setCell (by simp; omega) _, (cell_same (e _ (by omega)) 0).trans h.c0, (cell_same (e _ (by omega)) 1).trans h.c1, h.rs.of_block (e _ (by omega)), h.tg.same (e _ (by omega)), (h.pb.set b _).congr fun q hq => ?_, ⟨h.tn.top.of_block (e _ (by omega)), fun i hi => own_same (h.tn.own i hi) fun k hk => e k (by have := ((h.tn.own i hi).lt k hk).1; omega), h.tn.ne, h.tn.lt, by simp only [World.setCell, Array.size_modify]; exact h.tn.size⟩, map_same h.mp (e _ (by omega)), h.mi⟩
  by_cases hq2 : q = b
  · subst hq2; simp [pf, ofb, hb]
  · have h3 : q < b + 1 ↔ q < b := by omega
    simp [pf, ofb, hq2, h3]
/-- One more column is in the table and in the map. -/
theorem PL.added {fs' : List Nat} {D' : DataW Unit} {V' : Nat → Value} (h : PL w n R T rv tv gN gt ct gp gm b fs D V W) (g : Go_ w gN gt gp gm) (hb : Below w.heap.size w W') (e : ∀ k, k < gm → k ≠ gN → W'.heap[k]? = W.heap[k]?)
    (ht : Tn (gm + 1) gN n (fun _ => fs'.length) (fun i t => R i (fs'.getD t 0)) V' W') (hm : W'.ownsMap Try.prog 83 (plainElem Try.prog 5) gm fs'.length D') (hi : MI n R D' fs') : PL w n R T rv tv gN gt ct gp gm b fs' D' V' W' := by
  have g1 := g.h1
  have g2 := g.h4
  have g3 := g.n1
  have g4 := g.n2
  exact ⟨hb, (cell_same (e _ (by omega) (by omega)) 0).trans h.c0, (cell_same (e _ (by omega) (by omega)) 1).trans h.c1, h.rs.of_block (e _ (by omega) (by omega)), h.tg.same (e _ g.h5 (by omega)), h.pb.of_block (e _ g.h6 (by omega)), ht, hm, hi⟩
theorem Tn.nx {B : Nat} {C : Nat → Nat} {X : Nat → Nat → Int} (h : Tn B gN n C X V W) (hn : n ≤ 200) (hX : ∀ i j, -32768 ≤ X i j ∧ X i j ≤ 32767) (hC : ∀ i, C i ≤ 256) : Nx W (.slice (some ⟨gN, 0, none⟩) n n) n C X := by
  have hX2 : ∀ i j, -9223372036854775808 ≤ X i j ∧ X i j ≤ 9223372036854775807 := fun i j => by have := hX i j; omega
  refine ⟨_, _, rfl, by omega, Or.inr ⟨gN, 0, rfl, h.top.lt, fun i hi => ⟨V i, by rw [Nat.zero_add]; exact h.top.cell hi, ?_⟩⟩⟩
  obtain ⟨hl, ⟨hv, hc⟩ | ⟨g, cap, cur, hv, hg, hb, h1, h2, h3, h4⟩⟩ := h.own i hi
  · rw [hv, hc]; exact ⟨_, _, rfl, by omega, hX2 i, Or.inl rfl⟩
  · rw [hv]
    refine ⟨_, _, rfl, by have := hC i; omega, hX2 i, Or.inr ⟨g, 0, rfl, (Array.getElem?_eq_some_iff.1 hb).1, fun j hj => ?_⟩⟩
    have h5 : cur[j]? = some (.int .i64 (X i j)) := by
      have := tl_at (C i) (X i) j hj
      rw [← h4, List.getElem?_take_of_lt (by omega), Array.getElem?_toList] at this
      exact this
    rw [Nat.zero_add]
    simp [World.cell?, hb, h5]
theorem pl_congr {O P : Nat → Nat} (u v : Value) (h : ∀ j, j < 256 → O j = P j) : pl O u v = pl P u v := by
  unfold pl ol
  congr 1
  apply List.map_congr_left
  intro j hj
  rw [h j (by simpa using hj)]
end Go.Proofs.Ytlgcggfenljdnaa
