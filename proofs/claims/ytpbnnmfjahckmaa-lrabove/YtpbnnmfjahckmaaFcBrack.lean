/-
  The contracts of pushkeep.term, non and brackets.
-/
import Derived.Test.YtpbnnmfjahckmaaGrE
namespace Go.Proofs.Ytpbnnmfjahckmaa
open Go.RowKit
open Cg

theorem cell_blk {w : World} {g : Nat} {cs : Array Value} {t : TypeId} (h : w.heap[g]? = some (.cells cs t)) (i : Nat) : w.cell? ⟨g, i, none⟩ = cs[i]? := by
  unfold World.cell?
  simp only [h]
  rfl
theorem frozen_blk {w : World} {g : Nat} {cs : Array Value} {t : TypeId} (h : w.heap[g]? = some (.cells cs t)) (i : Nat) : w.frozen? ⟨g, i, none⟩ = false := by
  simp [World.frozen?, h]
theorem block_store {w : World} {g i : Nat} {cs : Array Value} {t : TypeId} {fr : Nat × Nat} (h : w.heap[g]? = some (.cells cs t fr)) (v : Value) : (w.setCell ⟨g, i, none⟩ v).heap[g]? = some (.cells (cs.setIfInBounds i v) t fr) := by
  simp [World.setCell, Array.getElem?_modify, h]
theorem box_next {w w' : World} {k : Nat} {o : Obj} (h : w.heap[k]? = some o) (hb : Below w.heap.size w w') : w'.heap[k]? = some o := by
  have hlt : k < w.heap.size := by
    rcases Nat.lt_or_ge k w.heap.size with h' | h'
    · exact h'
    · rw [Array.getElem?_eq_none h'] at h; cases h
  rw [hb.block k hlt]; exact h

set_option maxRecDepth 20000 in
theorem term_any (x : Int) (w : World) : Calls Try.prog 32 #[.int .i64 x] w fun e w' => e = .returned (.agg #[.int .i64 1, .int .i64 x]) ∧ Below w.heap.size w w' := by
  go_enter Try.func32, Try.ntmps32
  go_wp2_with fail
  exact bodyPost_ret (v := .agg #[.int .i64 1, .int .i64 x]) (by simp [results, Try.results32, go_sem]) rfl ⟨rfl, below_alloc _ _⟩
set_option maxRecDepth 20000 in
theorem non_any (x : Int) (w : World) : Calls Try.prog 33 #[.int .i64 x] w fun e w' => e = .returned (.agg #[.int .i64 2, .int .i64 x]) ∧ Below w.heap.size w w' := by
  go_enter Try.func33, Try.ntmps33
  go_wp2_with fail
  exact bodyPost_ret (v := .agg #[.int .i64 2, .int .i64 x]) (by simp [results, Try.results33, go_sem]) rfl ⟨rfl, below_alloc _ _⟩
def brs : List Pd := [(0, []), (0, [(1, 0), (2, 0), (1, 1), (2, 0)])]
theorem heap_lt2 {w : World} {k : Nat} {o : Obj} (h : w.heap[k]? = some o) : k < w.heap.size := by
  rcases Nat.lt_or_ge k w.heap.size with h' | h'
  · exact h'
  · rw [Array.getElem?_eq_none h'] at h; cases h
theorem brs_pds {W : World} {b g : Nat} (h1 : W.heap[b]? = some (Obj.cells #[.int .i64 1, .int .i64 0, .int .i64 2, .int .i64 0, .int .i64 1, .int .i64 1, .int .i64 2, .int .i64 0] 80)) (h2 : W.heap[g]? = some (Obj.cells #[.int .i64 0, .slice none 0 0, .int .i64 0, .slice (some ⟨b, 0, none⟩) 4 4] 79)) : Pds W (.slice (some ⟨g, 0, none⟩) 2 2) brs := by
  have e0 := cell_blk h1
  have e1 := cell_blk h2
  refine ⟨some ⟨g, 0, none⟩, 2, rfl, by decide, Or.inr ⟨g, 0, rfl, heap_lt2 h2, fun i hi => ?_⟩⟩
  have : i = 0 ∨ i = 1 := by simp [brs] at hi; omega
  rcases this with rfl | rfl
  · exact ⟨e1 0, .slice none 0 0, e1 1, syms_nil _⟩
  · refine ⟨e1 2, _, e1 3, some ⟨b, 0, none⟩, 4, rfl, by simp [brs], Or.inr ⟨b, 0, rfl, heap_lt2 h1, fun j hj => ?_⟩⟩
    have : j = 0 ∨ j = 1 ∨ j = 2 ∨ j = 3 := by simp [brs] at hj; omega
    rcases this with rfl | rfl | rfl | rfl
    · exact ⟨e0 0, e0 1⟩
    · exact ⟨e0 2, e0 3⟩
    · exact ⟨e0 4, e0 5⟩
    · exact ⟨e0 6, e0 7⟩
set_option maxHeartbeats 3200000 in
set_option maxRecDepth 20000 in
theorem brackets_any (w : World) : Calls Try.prog 14 #[] w fun e w' => ∃ g, e = .returned (.agg #[.int .i64 2, .int .i64 1, .slice (some ⟨g, 0, none⟩) 2 2]) ∧ Pds w' (.slice (some ⟨g, 0, none⟩) 2 2) brs ∧ Below w.heap.size w w' := by
  have HB0 : Hid (Below w.heap.size w (w.alloc (Obj.cells #[.int .i64 0, .int .i64 0, .slice none 0 0] 24)) ∧ (w.alloc (Obj.cells #[.int .i64 0, .int .i64 0, .slice none 0 0] 24)).heap[w.heap.size]? = some (Obj.cells #[.int .i64 0, .int .i64 0, .slice none 0 0] 24)) := ⟨below_alloc _ _, heap_alloc_new _ _⟩
  go_enter Try.func14, Try.ntmps14
  go_wp2_with fail
  generalize w.alloc (Obj.cells #[.int .i64 0, .int .i64 0, .slice none 0 0] 24) = w0 at HB0 ⊢
  refine (term_any 0 _).mono ?_
  rintro _ w1 ⟨rfl, hb⟩
  have HB1 : Hid (Below w.heap.size w w1 ∧ w1.heap[w.heap.size]? = some (Obj.cells #[.int .i64 0, .int .i64 0, .slice none 0 0] 24)) := ⟨HB0.out.1.trans (hb.mono HB0.out.1.size), box_next HB0.out.2 hb⟩
  clear hb HB0
  go_wp2_with fail
  refine (non_any 0 _).mono ?_
  rintro _ w2 ⟨rfl, hb⟩
  have HB2 : Hid (Below w.heap.size w w2 ∧ w2.heap[w.heap.size]? = some (Obj.cells #[.int .i64 0, .int .i64 0, .slice none 0 0] 24)) := ⟨HB1.out.1.trans (hb.mono HB1.out.1.size), box_next HB1.out.2 hb⟩
  clear hb HB1
  go_wp2_with fail
  refine (term_any 1 _).mono ?_
  rintro _ w3 ⟨rfl, hb⟩
  have HB3 : Hid (Below w.heap.size w w3 ∧ w3.heap[w.heap.size]? = some (Obj.cells #[.int .i64 0, .int .i64 0, .slice none 0 0] 24)) := ⟨HB2.out.1.trans (hb.mono HB2.out.1.size), box_next HB2.out.2 hb⟩
  clear hb HB2
  go_wp2_with fail
  refine (non_any 0 _).mono ?_
  rintro _ w4 ⟨rfl, hb⟩
  have HB4 : Hid (Below w.heap.size w w4 ∧ w4.heap[w.heap.size]? = some (Obj.cells #[.int .i64 0, .int .i64 0, .slice none 0 0] 24)) := ⟨HB3.out.1.trans (hb.mono HB3.out.1.size), box_next HB3.out.2 hb⟩
  clear hb HB3
  have hrb : ((w4.alloc (Obj.cells #[.int .i64 1, .int .i64 0, .int .i64 2, .int .i64 0, .int .i64 1, .int .i64 1, .int .i64 2, .int .i64 0] 80)).alloc (Obj.cells #[.int .i64 0, .slice none 0 0, .int .i64 0, .slice (some ⟨w4.heap.size, 0, none⟩) 4 4] 79)).heap[w.heap.size]? = some (Obj.cells #[.int .i64 0, .int .i64 0, .slice none 0 0] 24) := box_next (box_next HB4.out.2 (below_alloc _ _)) (below_alloc _ _)
  have HH : Hid (((w4.alloc (Obj.cells #[.int .i64 1, .int .i64 0, .int .i64 2, .int .i64 0, .int .i64 1, .int .i64 1, .int .i64 2, .int .i64 0] 80)).alloc (Obj.cells #[.int .i64 0, .slice none 0 0, .int .i64 0, .slice (some ⟨w4.heap.size, 0, none⟩) 4 4] 79)).heap[w4.heap.size]? = some (Obj.cells #[.int .i64 1, .int .i64 0, .int .i64 2, .int .i64 0, .int .i64 1, .int .i64 1, .int .i64 2, .int .i64 0] 80) ∧ ((w4.alloc (Obj.cells #[.int .i64 1, .int .i64 0, .int .i64 2, .int .i64 0, .int .i64 1, .int .i64 1, .int .i64 2, .int .i64 0] 80)).alloc (Obj.cells #[.int .i64 0, .slice none 0 0, .int .i64 0, .slice (some ⟨w4.heap.size, 0, none⟩) 4 4] 79)).heap[w4.heap.size + 1]? = some (Obj.cells #[.int .i64 0, .slice none 0 0, .int .i64 0, .slice (some ⟨w4.heap.size, 0, none⟩) 4 4] 79) ∧ w.heap.size < w4.heap.size) := by
    refine ⟨box_next (heap_alloc_new w4 _) (below_alloc _ _), ?_, heap_lt2 HB4.out.2⟩
    have := heap_alloc_new (w4.alloc (Obj.cells #[.int .i64 1, .int .i64 0, .int .i64 2, .int .i64 0, .int .i64 1, .int .i64 1, .int .i64 2, .int .i64 0] 80)) (Obj.cells #[.int .i64 0, .slice none 0 0, .int .i64 0, .slice (some ⟨w4.heap.size, 0, none⟩) 4 4] 79)
    rw [show (w4.alloc (Obj.cells #[.int .i64 1, .int .i64 0, .int .i64 2, .int .i64 0, .int .i64 1, .int .i64 1, .int .i64 2, .int .i64 0] 80)).heap.size = w4.heap.size + 1 by simp] at this
    exact this
  have HBB : Hid (Below w.heap.size w ((w4.alloc (Obj.cells #[.int .i64 1, .int .i64 0, .int .i64 2, .int .i64 0, .int .i64 1, .int .i64 1, .int .i64 2, .int .i64 0] 80)).alloc (Obj.cells #[.int .i64 0, .slice none 0 0, .int .i64 0, .slice (some ⟨w4.heap.size, 0, none⟩) 4 4] 79))) := (HB4.out.1.alloc HB4.out.1.size _).alloc (by have := HB4.out.1.size; simp; omega) _
  have r1 := block_store (i := 0) hrb (.int .i64 2)
  have r2 := block_store (i := 1) r1 (.int .i64 1)
  have r3 := block_store (i := 2) r2 (.slice (some ⟨w4.heap.size + 1, 0, none⟩) 2 2)
  simp only [List.setIfInBounds_toArray, List.set_cons_zero, List.set_cons_succ] at r1 r2 r3
  have y0 := cell_blk hrb 0
  have y1 := cell_blk r1 1
  have y2 := cell_blk r2 2
  have v0 := cell_blk r3 0
  have v1 := cell_blk r3 1
  have v2 := cell_blk r3 2
  have f0 := frozen_blk hrb 0
  have f1 := frozen_blk r1 1
  have f2 := frozen_blk r2 2
  simp only [List.getElem?_toArray, List.getElem?_cons_zero, List.getElem?_cons_succ] at y0 y1 y2 v0 v1 v2
  have HFIN : Hid (Pds (((((w4.alloc (Obj.cells #[.int .i64 1, .int .i64 0, .int .i64 2, .int .i64 0, .int .i64 1, .int .i64 1, .int .i64 2, .int .i64 0] 80)).alloc (Obj.cells #[.int .i64 0, .slice none 0 0, .int .i64 0, .slice (some ⟨w4.heap.size, 0, none⟩) 4 4] 79)).setCell ⟨w.heap.size, 0, none⟩ (.int .i64 2)).setCell ⟨w.heap.size, 1, none⟩ (.int .i64 1)).setCell ⟨w.heap.size, 2, none⟩ (.slice (some ⟨w4.heap.size + 1, 0, none⟩) 2 2)) (.slice (some ⟨w4.heap.size + 1, 0, none⟩) 2 2) brs ∧ Below w.heap.size w (((((w4.alloc (Obj.cells #[.int .i64 1, .int .i64 0, .int .i64 2, .int .i64 0, .int .i64 1, .int .i64 1, .int .i64 2, .int .i64 0] 80)).alloc (Obj.cells #[.int .i64 0, .slice none 0 0, .int .i64 0, .slice (some ⟨w4.heap.size, 0, none⟩) 4 4] 79)).setCell ⟨w.heap.size, 0, none⟩ (.int .i64 2)).setCell ⟨w.heap.size, 1, none⟩ (.int .i64 1)).setCell ⟨w.heap.size, 2, none⟩ (.slice (some ⟨w4.heap.size + 1, 0, none⟩) 2 2))) := by
    have h3 := HH.out.2.2
    refine ⟨brs_pds (b := w4.heap.size) ?_ ?_, ((HBB.out.setCell (p := ⟨w.heap.size, 0, none⟩) (Nat.le_refl _) _).setCell (p := ⟨w.heap.size, 1, none⟩) (Nat.le_refl _) _).setCell (p := ⟨w.heap.size, 2, none⟩) (Nat.le_refl _) _⟩
    · rw [Below.heap_setCell _ _ _ _ (by simp; omega), Below.heap_setCell _ _ _ _ (by simp; omega), Below.heap_setCell _ _ _ _ (by simp; omega)]; exact HH.out.1
    · rw [Below.heap_setCell _ _ _ _ (by simp; omega), Below.heap_setCell _ _ _ _ (by simp; omega), Below.heap_setCell _ _ _ _ (by simp; omega)]; exact HH.out.2.1
  clear hrb r1 r2 r3
  go_wp2_with fail
  exact bodyPost_ret (v := .agg #[.int .i64 2, .int .i64 1, .slice (some ⟨w4.heap.size + 1, 0, none⟩) 2 2]) (by simp [results, Try.results14, go_sem, v0, v1, v2]) rfl ⟨_, rfl, HFIN.out.1, HFIN.out.2⟩
end Go.Proofs.Ytpbnnmfjahckmaa
