/-
  The contract of pushref.SameGrammar at two that are the same, and of cfg.Mirror where Check says no.
-/
import Derived.Test.YtgoafahglajfmaaMirror
namespace Go.Proofs.Ytgoafahglajfmaa
open Go.RowKit
open Cg

theorem Gb.elder {w w1 : World} {g : Nat} {t n : Int} {pv : Value} {ps : List Pd} {W : World} (h : Gb w1 g t n pv ps W) (hb : Below w.heap.size w w1) : Gb w g t n pv ps W :=
  ⟨hb.trans (h.below.mono hb.size), h.lt, Nat.le_trans hb.size h.ge, h.c0, h.c1, h.c2, h.pds⟩
set_option maxHeartbeats 4000000 in
set_option maxRecDepth 20000 in
theorem same_true (t n : Int) (pv pv2 : Value) (ps : List Pd) (w : World) (h : Pds w pv ps) (h2 : Pds w pv2 ps) :
    Calls Try.prog 9 #[.agg #[.int .i64 t, .int .i64 n, pv], .agg #[.int .i64 t, .int .i64 n, pv2]] w fun e w' => e = .returned (.bool true) ∧ Below w.heap.size w w' := by
  obtain ⟨ao, c, rfl, hm, hcs⟩ := h
  obtain ⟨ao2, c2, rfl, -, hcs2⟩ := h2
  have HG0 : Hid (Gb w w.heap.size t n (.slice ao ps.length c) ps ((w.alloc (Obj.cells #[.int .i64 t, .int .i64 n, .slice ao ps.length c] 24)).alloc (Obj.cells #[.int .i64 t, .int .i64 n, .slice ao2 ps.length c2] 24))) := (Gb.box ⟨ao, c, rfl, hm, hcs⟩ t n).next (below_alloc _ _)
  have HH0 : Hid (Gb w (w.heap.size + 1) t n (.slice ao2 ps.length c2) ps ((w.alloc (Obj.cells #[.int .i64 t, .int .i64 n, .slice ao ps.length c] 24)).alloc (Obj.cells #[.int .i64 t, .int .i64 n, .slice ao2 ps.length c2] 24))) := by
    have e := Gb.box (w := w.alloc (Obj.cells #[.int .i64 t, .int .i64 n, .slice ao ps.length c] 24)) (Pds.below (w := w) ⟨ao2, c2, rfl, hm, hcs2⟩ (below_alloc _ _)) t n
    rw [show (w.alloc (Obj.cells #[.int .i64 t, .int .i64 n, .slice ao ps.length c] 24)).heap.size = w.heap.size + 1 by simp] at e
    exact e.elder (below_alloc _ _)
  have b1 : (t != t) = false := by simp
  have b2 : (n != n) = false := by simp
  have b3 : ((ps.length : Int) != (ps.length : Int)) = false := by simp
  go_enter Try.func9, Try.ntmps9
  go_wp2_with fail
  clear b1 b2 b3
  generalize (w.alloc (Obj.cells #[.int .i64 t, .int .i64 n, .slice ao ps.length c] 24)).alloc (Obj.cells #[.int .i64 t, .int .i64 n, .slice ao2 ps.length c2] 24) = wb at HG0 HH0 ⊢
  go_loopw [5] (fun i wr => ∃ q : Nat, q ≤ ps.length ∧ i = .int .i64 (q : Int) ∧ Hid (Gb w w.heap.size t n (.slice ao ps.length c) ps wr ∧ Gb w (w.heap.size + 1) t n (.slice ao2 ps.length c2) ps wr)) (fun i _ => ps.length - (intOf i).toNat)
  case atStart => exact ⟨0, by omega, rfl, HG0.out, HH0.out⟩
  case round =>
    obtain ⟨q, hq, rfl, HG⟩ := hrel
    clear HG0 HH0
    have z2 := HG.out.1.c2
    by_cases hlt : q < ps.length
    · obtain ⟨b, o, rfl, hb, hc⟩ := hcs.resolve_left (by intro e; subst e; simp at hlt)
      obtain ⟨b2, o2, rfl, hb2, hc2⟩ := hcs2.resolve_left (by intro e; subst e; simp at hlt)
      obtain ⟨d0, u, d1, hsy⟩ := hc q hlt
      obtain ⟨f0, u2, f1, hsy2⟩ := hc2 q hlt
      generalize ps[q].1 = x at d0 f0
      generalize ps[q].2 = l at hsy hsy2
      have hbw : Below w.heap.size w wr := HG.out.1.below
      have hxx : (x != x) = false := by simp
      have HCA : Hid (∀ p_1 : Kp (Sb wr), Calls Try.prog 18 #[u, u2] p_1.W fun e w'' => e = .returned (.bool true) ∧ ∃ q : Kp (Sb wr), w'' = q.W) := fun p_1 => by
        have := equalS_any u u2 l l p_1.W ((hsy.below hbw).below p_1.h) ((hsy2.below hbw).below p_1.h)
        rw [decide_eq_true rfl] at this
        exact Kp.calls p_1 Sb.next this
      have m2 : ∀ p_1 : Kp (Sb wr), p_1.W.cell? ⟨w.heap.size, 2, none⟩ = some (.slice (some ⟨b, o, none⟩) ps.length c) := fun p_1 => (Below.cell p_1.h (p := ⟨w.heap.size, 2, none⟩) HG.out.1.lt).trans z2
      have m3 : ∀ p_1 : Kp (Sb wr), p_1.W.cell? ⟨w.heap.size + 1, 2, none⟩ = some (.slice (some ⟨b2, o2, none⟩) ps.length c2) := fun p_1 => (Below.cell p_1.h (p := ⟨w.heap.size + 1, 2, none⟩) HG.out.2.lt).trans HG.out.2.c2
      have hbs := hbw.size
      have m4 : ∀ p_1 : Kp (Sb wr), p_1.W.cell? ⟨b, o + q * 2, none⟩ = some (.int .i64 x) := fun p_1 => (Below.cell p_1.h (p := ⟨b, o + q * 2, none⟩) (by simp; omega)).trans ((hbw.cell (p := ⟨b, o + q * 2, none⟩) hb).trans d0)
      have m5 : ∀ p_1 : Kp (Sb wr), p_1.W.cell? ⟨b, o + q * 2 + 1, none⟩ = some u := fun p_1 => (Below.cell p_1.h (p := ⟨b, o + q * 2 + 1, none⟩) (by simp; omega)).trans ((hbw.cell (p := ⟨b, o + q * 2 + 1, none⟩) hb).trans d1)
      have m6 : ∀ p_1 : Kp (Sb wr), p_1.W.cell? ⟨b2, o2 + q * 2, none⟩ = some (.int .i64 x) := fun p_1 => (Below.cell p_1.h (p := ⟨b2, o2 + q * 2, none⟩) (by simp; omega)).trans ((hbw.cell (p := ⟨b2, o2 + q * 2, none⟩) hb2).trans f0)
      have m7 : ∀ p_1 : Kp (Sb wr), p_1.W.cell? ⟨b2, o2 + q * 2 + 1, none⟩ = some u2 := fun p_1 => (Below.cell p_1.h (p := ⟨b2, o2 + q * 2 + 1, none⟩) (by simp; omega)).trans ((hbw.cell (p := ⟨b2, o2 + q * 2 + 1, none⟩) hb2).trans f1)
      have hne : Nonempty (Kp (Sb wr)) := ⟨⟨_, Sb.drew wr⟩⟩
      have hk1 : (q : Int) < (ps.length : Int) := by omega
      obtain ⟨uo, uc, rfl, -, -⟩ := hsy
      obtain ⟨uo2, uc2, rfl, -, -⟩ := hsy2
      clear hc hc2 hcs hcs2 d0 d1 f0 f1 hbw hbs
      go_wp2_with fail
      refine wp_region_kept mixed (by kernel_rfl) (Sb.drew wr) ?_
      repeat (go_big_quiet_step (first | (go_at_call 18; with_reducible exact HCA.out _)))
      refine wpQuiet_nil ?_
      intro W2 hw2
      obtain ⟨⟨W2, HS2⟩, rfl⟩ := hw2
      have HG4 : Hid (Gb w w.heap.size t n (.slice (some ⟨b, o, none⟩) ps.length c) ps W2 ∧ Gb w (w.heap.size + 1) t n (.slice (some ⟨b2, o2, none⟩) ps.length c2) ps W2) := ⟨HG.out.1.next HS2, HG.out.2.next HS2⟩
      clear HS2 hne m2 m3 m4 m5 m6 m7 HCA HG z2
      go_wp2_with fail
      go_roundw
      case rel => exact ⟨q + 1, by omega, by go_num, HG4.out⟩
      case measure => simp [intOf]; omega
    · go_wp2_with fail
      go_ret
      exact ⟨by simp, HG.out.1.below⟩
set_option maxHeartbeats 4000000 in
set_option maxRecDepth 20000 in
theorem Mirror_bad (t n : Int) (pv : Value) (ps : List Pd) (w : World) (h : Pds w pv ps) (r : Int) (hr : chk t n ps = r) (h0 : r ≠ 0) :
    Calls Try.prog 7 #[.agg #[.int .i64 t, .int .i64 n, pv]] w fun e w' => e = .returned (.tuple #[.agg #[.int .i64 0, .int .i64 0, .slice none 0 0], .int .i64 r]) ∧ Below w.heap.size w w' := by
  have HR : Hid (chk t n ps = r) := hr
  have h0b : (r != 0) = true := by simp; exact h0
  obtain ⟨ao, c, rfl, hm, hcs⟩ := h
  have h' : Pds w (.slice ao ps.length c) ps := ⟨ao, c, rfl, hm, hcs⟩
  have HG0 : Hid (Gb w w.heap.size t n (.slice ao ps.length c) ps ((w.alloc (Obj.cells #[.int .i64 t, .int .i64 n, .slice ao ps.length c] 24)).alloc (Obj.cells #[.int .i64 0, .int .i64 0, .slice none 0 0] 24))) := (Gb.box h' t n).next (below_alloc _ _)
  have HB0 : Hid (((w.alloc (Obj.cells #[.int .i64 t, .int .i64 n, .slice ao ps.length c] 24)).alloc (Obj.cells #[.int .i64 0, .int .i64 0, .slice none 0 0] 24)).heap[w.heap.size + 1]? = some (Obj.cells #[.int .i64 0, .int .i64 0, .slice none 0 0] 24)) := by
    have := heap_alloc_new (w.alloc (Obj.cells #[.int .i64 t, .int .i64 n, .slice ao ps.length c] 24)) (Obj.cells #[.int .i64 0, .int .i64 0, .slice none 0 0] 24)
    rw [show (w.alloc (Obj.cells #[.int .i64 t, .int .i64 n, .slice ao ps.length c] 24)).heap.size = w.heap.size + 1 by simp] at this
    exact this
  clear hr h0 h'
  go_enter Try.func7, Try.ntmps7
  go_wp2_with fail
  have hc := Check_any t n _ ps _ HG0.out.pds
  rw [HR.out] at hc
  refine hc.mono ?_
  rintro _ w1 ⟨rfl, hb⟩
  have HG1 : Hid (Gb w w.heap.size t n (.slice ao ps.length c) ps w1) := HG0.out.next hb
  have hrb : w1.heap[w.heap.size + 1]? = some (Obj.cells #[.int .i64 0, .int .i64 0, .slice none 0 0] 24) := box_next HB0.out hb
  clear hc hb HG0 HB0
  have r1 := block_store (i := 0) hrb (.int .i64 0)
  have r2 := block_store (i := 1) r1 (.int .i64 0)
  have r3 := block_store (i := 2) r2 (.slice none 0 0)
  simp only [List.setIfInBounds_toArray, List.set_cons_zero, List.set_cons_succ] at r1 r2 r3
  have y0 := cell_blk hrb 0
  have y1 := cell_blk r1 1
  have y2 := cell_blk r2 2
  have v0 := cell_blk r3 0
  have v1 := cell_blk r3 1
  have v2 := cell_blk r3 2
  have f0 := frozen_blk hrb 0
  have f1 := frozen_blk r1 1
  have f2 := frozen_blk r2 2
  simp only [List.getElem?_toArray, List.getElem?_cons_zero, List.getElem?_cons_succ] at y0 y1 y2 v0 v1 v2
  have HFIN : Hid (Below w.heap.size w (((w1.setCell ⟨w.heap.size + 1, 0, none⟩ (.int .i64 0)).setCell ⟨w.heap.size + 1, 1, none⟩ (.int .i64 0)).setCell ⟨w.heap.size + 1, 2, none⟩ (.slice none 0 0))) := ((HG1.out.below.setCell (by simp) _).setCell (by simp) _).setCell (by simp) _
  clear hrb r1 r2 r3 HG1 hcs
  go_wp2_with fail
  exact bodyPost_ret (v := .tuple #[.agg #[.int .i64 0, .int .i64 0, .slice none 0 0], .int .i64 r]) (by simp [results, Try.results7, go_sem, v0, v1, v2]) rfl ⟨rfl, HFIN.out⟩
end Go.Proofs.Ytgoafahglajfmaa
