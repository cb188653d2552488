/-
  What chart.node holds while the Kids of a node are made: plain parts, and how they stay.
-/
import Derived.Test.YtpfehghicaaghaaChNodA
import Derived.Test.YtpfehghicaaghaaChUqs
namespace Go.Proofs.Ytpfehghicaaghaa
open Go.RowKit
open Cg

theorem cutL_at : ∀ (l : List T) (k c : Nat) (x : T), l[c]? = some x → (cutL k l).2[c]? = some (cutT (k - szL (l.take c)) x).2
  | [], k, c, x, h => by simp at h
  | z :: l, k, 0, x, h => by
    simp at h; subst h
    rw [cutL]; simp [szL]
  | z :: l, k, c + 1, x, h => by
    rw [cutL]
    simp only [List.getElem?_cons_succ] at h ⊢
    rw [cutL_at l _ c x h, cutT_left, List.take_succ_cons, szL, Nat.sub_sub]
theorem szL_take : ∀ (l : List T) (c : Nat) (x : T), l[c]? = some x → szL (l.take (c + 1)) = szL (l.take c) + x.sz
  | [], c, x, h => by simp at h
  | z :: l, 0, x, h => by simp at h; subst h; simp [szL]
  | z :: l, c + 1, x, h => by
    simp only [List.getElem?_cons_succ] at h
    rw [List.take_succ_cons, List.take_succ_cons, szL, szL, szL_take l c x h]; omega
theorem Ch.fm {w0 : World} {y : Lay} {t : Int} {n : Nat} {pv wv : Value} {ps : List Pd} {ws : List Int} {op : Bool} {N : Tb} {B : Nat → Nat → Nat → Nat → Nat} {W W' : World} {lb : Nat} (h : Ch w0 y t n pv wv ps ws op N B W) (hf : Fm (fun b => b = lb) W W') (h0 : w0.heap.size ≤ lb) (h1 : lb ≠ y.q ∧ lb ≠ y.bn ∧ lb ≠ y.bb ∧ ∀ p, p < ps.length → y.bs p ≠ lb) : Ch w0 y t n pv wv ps ws op N B W' :=
  ⟨h.bel.trans (hf.below h.bel.size fun k e => by have e2 : k = lb := e; omega), (hf.block _ (heap_lt3 h.box) fun e => h1.1 (show lb = y.q from Eq.symm e)).trans h.box, h.nons.of_block (hf.block _ h.nons.lt fun e => h1.2.1 (show lb = y.bn from Eq.symm e)), h.bods.of_block (hf.block _ h.bods.lt fun e => h1.2.2.1 (show lb = y.bb from Eq.symm e)), fun p hp => (h.body p hp).of_block (hf.block _ (h.body p hp).lt fun e => h1.2.2.2 p hp e), h.oq, h.on, h.ob, h.os, h.qn, h.qb, h.nb, h.qs, h.ss⟩
def st3 (W : World) (b o : Nat) (x y z : Value) : World := ((W.setCell ⟨b, o, none⟩ x).setCell ⟨b, o + 1, none⟩ y).setCell ⟨b, o + 2, none⟩ z
theorem st3_eq (W : World) (b o : Nat) (x y z : Value) : st3 W b o x y z = ((W.setCell ⟨b, o, none⟩ x).setCell ⟨b, o + 1, none⟩ y).setCell ⟨b, o + 2, none⟩ z := rfl
theorem st3_apart {W : World} {b o k : Nat} {x y z : Value} (h : k ≠ b) : (st3 W b o x y z).heap[k]? = W.heap[k]? := by
  unfold st3
  rw [Below.heap_setCell _ _ _ _ (by simpa using h), Below.heap_setCell _ _ _ _ (by simpa using h), Below.heap_setCell _ _ _ _ (by simpa using h)]
theorem st3_size {W : World} {b o : Nat} {x y z : Value} : (st3 W b o x y z).heap.size = W.heap.size := by simp [st3, World.setCell]
theorem st3_row {W : World} {b o n : Nat} {t : TypeId} {F : Nat → Value} (h : W.rowIs b t n F) (x y z : Value) : (st3 W b o x y z).rowIs b t n (fun i => if i = o + 2 then z else if i = o + 1 then y else if i = o then x else F i) :=
  ((h.set o x).set (o + 1) y).set (o + 2) z
theorem Fm.st3 {X : Nat → Prop} {w W : World} (h : Fm X w W) {b o : Nat} (hb : w.heap.size ≤ b) (x y z : Value) : Fm X w (st3 W b o x y z) := ((h.more (a := ⟨b, o, Option.none⟩) hb x).more (a := ⟨b, o + 1, Option.none⟩) hb y).more (a := ⟨b, o + 2, Option.none⟩) hb z
def rs3 (W : World) (g : Nat) (x y z : Value) : World := ((W.setCell ⟨g, 0, none⟩ x).setCell ⟨g, 1, none⟩ y).setCell ⟨g, 2, none⟩ z
theorem rs3_eq (W : World) (g : Nat) (x y z : Value) : rs3 W g x y z = ((W.setCell ⟨g, 0, none⟩ x).setCell ⟨g, 1, none⟩ y).setCell ⟨g, 2, none⟩ z := rfl
theorem rs3_blk {W : World} {g : Nat} {a b c : Value} (h : W.heap[g]? = some (.cells #[a, b, c] 32)) (x y z : Value) : (rs3 W g x y z).heap[g]? = some (.cells #[x, y, z] 32) := by
  have h1 := tblock_store (i := 0) h x
  have h2 := tblock_store (i := 1) h1 y
  have h3 := tblock_store (i := 2) h2 z
  simpa [rs3] using h3
/-- What node holds in its loop, but for how many may still be made. -/
structure Nc (w w0 : World) (y : Lay) (t : Int) (n : Nat) (pv wv : Value) (ps : List Pd) (ws : List Int) (op : Bool) (N : Tb) (B : Nat → Nat → Nat → Nat → Nat) (lb kb g bl : Nat) (f : Nat → Nat) (q0 : Int) (k : Nat) (l0 : List T) (c : Nat) (W : World) : Prop where
  ch : Ch w0 y t n pv wv ps ws op N B W
  fm : Fm (fun b => b = lb) w W
  tv : W.heap[kb + 1]? = some (.cells #[.int .i64 q0, .int .i64 0, .slice (some ⟨kb, 0, none⟩) bl bl] 32)
  rv : W.heap[w.heap.size + 1]? = some (.cells #[.int .i64 0, .int .i64 0, .slice none 0 0] 32)
  cu : W.rowIs g 3 (bl + 1) (fun x => .int .i64 ((f x : Nat) : Int))
  rw : ∃ (F : Nat → Value) (vals : Nat → Value), W.rowIs kb 32 (bl * 3) F ∧ ∀ i, i < c → ∃ x, (cutL k l0).2[i]? = some x ∧ Tx W (fun b => kb + 1 < b) (vals i) x ∧ ∀ j, j < 3 → some (F (i * 3 + j)) = (vals i).cells[j]?
  lt : lb < w.heap.size
  l0' : w0.heap.size ≤ lb
  l1 : lb ≠ y.q ∧ lb ≠ y.bn ∧ lb ≠ y.bb ∧ ∀ p, p < ps.length → y.bs p ≠ lb
  gl : w.heap.size + 2 ≤ g
  gk : g < kb
  yk : y.q < w.heap.size ∧ y.bn < w.heap.size ∧ y.bb < w.heap.size ∧ ∀ p, p < ps.length → y.bs p < w.heap.size
section
variable {w w0 : World} {y : Lay} {t : Int} {n : Nat} {pv wv : Value} {ps : List Pd} {ws : List Int} {op : Bool} {N : Tb} {B : Nat → Nat → Nat → Nat → Nat} {lb kb g bl : Nat} {f : Nat → Nat} {q0 : Int} {k : Nat} {l0 : List T} {c : Nat} {W W' : World}
/-- It stays where no block but that of the number changes. -/
theorem Nc.fmv (h : Nc w w0 y t n pv wv ps ws op N B lb kb g bl f q0 k l0 c W) (hf : Fm (fun b => b = lb) W W') : Nc w w0 y t n pv wv ps ws op N B lb kb g bl f q0 k l0 c W' := by
  have hgl := h.gl
  have hgk := h.gk
  have hlt := h.lt
  refine ⟨h.ch.fm hf h.l0' h.l1, h.fm.trans hf fun _ _ e => e, ?_, ?_, h.cu.of_block (hf.block _ h.cu.lt fun e => by have e2 : g = lb := e; omega), ?_, h.lt, h.l0', h.l1, h.gl, h.gk, h.yk⟩
  · exact (hf.block _ (heap_lt3 h.tv) fun e => by have e2 : kb + 1 = lb := e; omega).trans h.tv
  · exact (hf.block _ (heap_lt3 h.rv) fun e => by have e2 : w.heap.size + 1 = lb := e; omega).trans h.rv
  · obtain ⟨F, vals, h1, h2⟩ := h.rw
    refine ⟨F, vals, h1.of_block (hf.block _ h1.lt fun e => by have e2 : kb = lb := e; omega), fun i hi => ?_⟩
    obtain ⟨x, h3, h4, h5⟩ := h2 i hi
    exact ⟨x, h3, h4.next (fun b hb hp => hf.block b hb fun e => by have e2 : b = lb := e; have hp2 : kb + 1 < b := hp; omega) hf.size, h5⟩
theorem Nc.next (h : Nc w w0 y t n pv wv ps ws op N B lb kb g bl f q0 k l0 c W) (hb : Below W.heap.size W W') : Nc w w0 y t n pv wv ps ws op N B lb kb g bl f q0 k l0 c W' := h.fmv (Fm.of hb)
/-- One more Kid is laid. -/
theorem Nc.put (h : Nc w w0 y t n pv wv ps ws op N B lb kb g bl f q0 k l0 c W) {p' k' : Int} {a' : Option Addr} {n' c' : Nat} {x : T} (hx : Tx W (fun b => kb + 1 < b) (.agg #[.int .i64 p', .int .i64 k', .slice a' n' c']) x) (hl : (cutL k l0).2[c]? = some x) : Nc w w0 y t n pv wv ps ws op N B lb kb g bl f q0 k l0 (c + 1) (st3 W kb (c * 3) (.int .i64 p') (.int .i64 k') (.slice a' n' c')) := by
  have hgl := h.gl
  have hgk := h.gk
  have hlt := h.lt
  have hyk := h.yk
  obtain ⟨F, vals, h1, h2⟩ := h.rw
  have hch : Ch w0 y t n pv wv ps ws op N B (st3 W kb (c * 3) (.int .i64 p') (.int .i64 k') (.slice a' n' c')) := by
    have hob := h.ch.oq
    have o1 : ∀ {V : World} {o : Nat} {v : Value}, Ch w0 y t n pv wv ps ws op N B V → Ch w0 y t n pv wv ps ws op N B (V.setCell ⟨kb, o, none⟩ v) := fun hv => hv.other (a := ⟨kb, _, none⟩) (by show w0.heap.size ≤ kb; omega) (by show y.q ≠ kb; omega) (by show y.bn ≠ kb; omega) (by show y.bb ≠ kb; omega) (fun p hp => by show y.bs p ≠ kb; have := hyk.2.2.2 p hp; omega) _
    exact o1 (o1 (o1 h.ch))
  have htx : ∀ {v : Value} {z : T}, Tx W (fun b => kb + 1 < b) v z → Tx (st3 W kb (c * 3) (.int .i64 p') (.int .i64 k') (.slice a' n' c')) (fun b => kb + 1 < b) v z := fun hv => hv.next (fun b _ hp => st3_apart (by have hp2 : kb + 1 < b := hp; omega)) (by rw [st3_size]; exact Nat.le_refl _)
  refine ⟨hch, h.fm.st3 (by omega) _ _ _, ?_, ?_, h.cu.of_block (st3_apart (by omega)), ?_, h.lt, h.l0', h.l1, h.gl, h.gk, h.yk⟩
  · rw [st3_apart (by omega)]; exact h.tv
  · rw [st3_apart (by omega)]; exact h.rv
  · refine ⟨_, fun i => if i = c then (.agg #[.int .i64 p', .int .i64 k', .slice a' n' c']) else vals i, st3_row h1 _ _ _, fun i hi => ?_⟩
    by_cases e : i = c
    · subst e
      refine ⟨x, hl, by simpa using htx hx, fun j hj => ?_⟩
      have : j = 0 ∨ j = 1 ∨ j = 2 := by omega
      rcases this with rfl | rfl | rfl <;> simp [Value.cells]
    · obtain ⟨z, h3, h4, h5⟩ := h2 i (by omega)
      refine ⟨z, h3, by simpa [e] using htx h4, fun j hj => ?_⟩
      simp only [if_neg e]
      rw [if_neg (by omega), if_neg (by omega), if_neg (by omega)]
      exact h5 j hj
/-- All Kids are laid: the tree. -/
theorem Nc.tree (h : Nc w w0 y t n pv wv ps ws op N B lb kb g bl f q0 k l0 bl W) (hl : l0.length = bl) (hbl : bl ≤ 8) : Tx W (fun b => kb ≤ b) (.agg #[.int .i64 q0, .int .i64 0, .slice (some ⟨kb, 0, none⟩) bl bl]) (.mk q0 0 (cutL k l0).2) := by
  obtain ⟨F, vals, h1, h2⟩ := h.rw
  have hlen : (cutL k l0).2.length = bl := by rw [cutL_len, hl]
  have := Tx.mk (w := W) (P := fun b => kb ≤ b) q0 0 (some ⟨kb, 0, none⟩) bl (cutL k l0).2 vals (by rw [hlen]; omega) (Or.inr ⟨kb, 0, rfl, Nat.le_refl _, h1.lt, fun i hi j hj => by
    rw [hlen] at hi
    obtain ⟨z, h3, h4, h5⟩ := h2 i hi
    rw [Nat.zero_add, h1.cell (i := i * 3 + j) (by omega)]
    exact h5 j hj⟩) (fun i hi => by
    rw [hlen] at hi
    obtain ⟨z, h3, h4, h5⟩ := h2 i hi
    have h6 := List.getElem?_eq_some_iff.1 h3
    obtain ⟨_, h7⟩ := h6
    rw [h7]
    exact h4.mono fun b _ hp => by have hp2 : kb + 1 < b := hp; show kb ≤ b; omega)
  rw [hlen] at this; exact this
end
end Go.Proofs.Ytpfehghicaaghaa
