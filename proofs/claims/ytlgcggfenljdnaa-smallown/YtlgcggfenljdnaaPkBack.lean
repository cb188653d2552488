/-
  What is packed is unpacked: the mathematics of columns; boxes in memory. No function is walked here.
-/
import Derived.Test.YtlgcggfenljdnaaPkBad
import Derived.Test.YtlgcggfenljdnaaMnMin
import Derived.Test.YtlgcggfenljdnaaMnUniq
namespace Go.Proofs.Ytlgcggfenljdnaa
open Go.RowKit
open Dfa

theorem fsts_mono (n : Nat) (R : Nat → Nat → Int) (a : Nat) : ∀ d, ∃ gs, fsts n R (a + d) = fsts n R a ++ gs
  | 0 => ⟨[], by simp⟩
  | d + 1 => by
    obtain ⟨gs, h⟩ := fsts_mono n R a d
    rw [← Nat.add_assoc, fsts]
    split
    · exact ⟨gs ++ [a + d], by rw [h, List.append_assoc]⟩
    · exact ⟨gs, h⟩
/-- The number of a byte's column. -/
def ofp (n : Nat) (R : Nat → Nat → Int) (b : Nat) : Nat := if b < 256 then idx n R (fsts n R b) b else 0
theorem ofp_lt (n : Nat) (R : Nat → Nat → Int) (b : Nat) : ofp n R b < 256 := by
  unfold ofp
  split
  · have := idx_le n R (fsts n R b) b
    have := fsts_length n R b
    omega
  · omega
theorem ofp_at (n : Nat) (R : Nat → Nat → Int) {b : Nat} (hb : b < 256) : ofp n R b < (fsts n R 256).length ∧ ∀ i, i < n → R i ((fsts n R 256).getD (ofp n R b) 0) = R i b := by
  obtain ⟨gs, e⟩ := fsts_mono n R (b + 1) (256 - (b + 1))
  rw [show b + 1 + (256 - (b + 1)) = 256 by omega] at e
  have hle := idx_le n R (fsts n R b) b
  unfold ofp
  rw [if_pos hb]
  by_cases h : idx n R (fsts n R b) b = (fsts n R b).length
  · have e1 : fsts n R (b + 1) = fsts n R b ++ [b] := by rw [fsts, if_pos h]
    rw [e, e1]
    refine ⟨by simp; omega, fun i hi => ?_⟩
    rw [h]
    simp
  · have e1 : fsts n R (b + 1) = fsts n R b := by rw [fsts, if_neg h]
    have hlt : idx n R (fsts n R b) b < (fsts n R b).length := by omega
    rw [e, e1]
    refine ⟨by simp; omega, fun i hi => ?_⟩
    have h2 := eqc_iff.1 (idx_some hlt) i hi
    have e3 : (fsts n R b ++ gs).getD (idx n R (fsts n R b) b) 0 = (fsts n R b)[idx n R (fsts n R b) b] := by rw [List.getD_eq_getElem?_getD, List.getElem?_append_left hlt, List.getElem?_eq_getElem hlt]; rfl
    rw [e3]
    exact h2
theorem pack_right {n : Nat} {R : Nat → Nat → Int} {T : Nat → Int} (hc : chk n n R T = 0) : chkP n n (ofp n R) (fun _ => (fsts n R 256).length) (fun i t => R i ((fsts n R 256).getD t 0)) T = 0 := by
  obtain ⟨h0, h1, -, h2, h3⟩ := chk_zero hc
  have a1 : colsOk n (ofp n R) (fun _ => (fsts n R 256).length) = true := by
    simp only [colsOk, Bool.and_eq_true, decide_eq_true_eq]
    exact ⟨all_true fun i _ => by simp, fsts_length n R 256, all_true fun j hj => by simp; exact (ofp_at n R hj).1⟩
  have a2 : statesOk n (fun _ => (fsts n R 256).length) (fun i t => R i ((fsts n R 256).getD t 0)) = true := all_true fun i hi => all_true fun t ht => by
    have hm : (fsts n R 256).getD t 0 ∈ fsts n R 256 := by rw [List.getD_eq_getElem?_getD, List.getElem?_eq_getElem ht]; exact List.getElem_mem _
    have := row_at h2 hi (fsts_lt n R 256 _ hm)
    simp only [Bool.and_eq_true, decide_eq_true_eq]
    exact ⟨this.1, by have := this.2; omega⟩
  have a3 : upOk n T 19 = true := all_true fun i hi => by
    have := all_at h3 i hi
    simp [tagOk] at this ⊢
    omega
  unfold chkP
  rw [if_neg (by omega), if_neg (by omega), if_pos ⟨a1, a2, a3⟩]
/-- A box of two cells. -/
structure Bb (g : Nat) (u v : Value) (W : World) : Prop where
  c0 : W.cell? ⟨g, 0, none⟩ = some u
  c1 : W.cell? ⟨g, 1, none⟩ = some v
  lt : g < W.heap.size
theorem Bb.next {g : Nat} {u v : Value} {W W' : World} (h : Bb g u v W) (hb : Below W.heap.size W W') : Bb g u v W' := ⟨(hb.cell (p := ⟨g, 0, none⟩) h.lt).trans h.c0, (hb.cell (p := ⟨g, 1, none⟩) h.lt).trans h.c1, Nat.lt_of_lt_of_le h.lt hb.size⟩
theorem Bb.box (W : World) (u v : Value) (t : TypeId) : Bb W.heap.size u v (W.alloc (Obj.cells #[u, v] t)) := ⟨by simp, by simp, by simp⟩
theorem below_box (W : World) (o : Obj) : Below W.heap.size W (W.alloc o) := (Below.refl _ _).alloc (Nat.le_refl _) _
/-- A row of cells in memory. -/
structure Rg (g : Nat) (l : List Value) (W : World) : Prop where
  rng : W.rangeAt g 0 l
  lt : g < W.heap.size
theorem Rg.next {g : Nat} {l : List Value} {W W' : World} (h : Rg g l W) (hb : Below W.heap.size W W') : Rg g l W' := ⟨fun j v hv => (hb.cell (p := ⟨g, 0 + j, none⟩) h.lt).trans (h.rng j v hv), Nat.lt_of_lt_of_le h.lt hb.size⟩
theorem wpList_store_new47 {ops : Array Oper} {rest : List Oper} {op : Oper} {a : Act} {w : World} {Q : Exit → Act → World → Prop} (hgd : op.guard = none) (x y : Operand) (ho : op.op = .store 47 x y)
    (c c' : Array Value) (hx : a.eval x = .pointer (some ⟨w.heap.size, 0, none⟩)) (hy : a.eval y = .agg c') (hc : c.size = 258) (hc' : c'.size = 258) (h1 : c'.all (·.oneCell') = true)
    (h : wpList Try.prog ops Q rest (a.put op.dst undef) (w.alloc (.cells c' 47))) : wpList Try.prog ops Q (op :: rest) a (w.alloc (.cells c 47)) :=
  wpList_plain hgd fun K hK => by
    unfold Oper.wp execOp
    simp only [ho, hx, hy, Sem.run_bind, run_storeAt_new w 47 c c' (by rw [hc']; exact size47) (by omega) h1, Result.andThen_ok]
    exact hK _ _ h
end Go.Proofs.Ytlgcggfenljdnaa
