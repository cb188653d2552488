/-
  The contract of pushlaw.SameFacts, at two that are the same.
-/
import Derived.Test.YtjdaijghfipecaaFcRef1
namespace Go.Proofs.Ytjdaijghfipecaa
open Go.RowKit
open Cg

set_option maxHeartbeats 6400000 in
set_option maxRecDepth 20000 in
theorem equalnn_bool (w : World) : Calls Try.prog 24 #[(.slice none 0 0), (.slice none 0 0)] w fun e w' => e = .returned (.bool true) ∧ Below w.heap.size w w' := by
  go_enter Try.func24, Try.ntmps24
  go_wp2_with fail
  refine wp_loop_rounds 1 ?_
  rw [rounds_succ]
  go_wp2_with fail
  go_ret
  exact ⟨by simp, Below.refl _ _⟩
set_option maxHeartbeats 6400000 in
set_option maxRecDepth 20000 in
theorem equalnn_u64 (w : World) : Calls Try.prog 25 #[(.slice none 0 0), (.slice none 0 0)] w fun e w' => e = .returned (.bool true) ∧ Below w.heap.size w w' := by
  go_enter Try.func25, Try.ntmps25
  go_wp2_with fail
  refine wp_loop_rounds 1 ?_
  rw [rounds_succ]
  go_wp2_with fail
  go_ret
  exact ⟨by simp, Below.refl _ _⟩
set_option maxHeartbeats 6400000 in
set_option maxRecDepth 20000 in
theorem same_facts (n : Nat) (hn : n ≤ 1000) (be bf bw br bm be' bf' bw' br' bm' : Nat) (E : Nat → Bool) (F V : Nat → Wd) (R M : Nat → Bool) (w : World) (h1 : Fx n be bf bw br bm E F V R M w) (h2 : Fx n be' bf' bw' br' bm' E F V R M w) :
    Calls Try.prog 8 #[.agg #[(.slice (some ⟨be, 0, none⟩) n n), (.slice (some ⟨bf, 0, none⟩) n n), (.slice (some ⟨bw, 0, none⟩) n n), (.slice (some ⟨br, 0, none⟩) n n), (.slice (some ⟨bm, 0, none⟩) n n)], .agg #[(.slice (some ⟨be', 0, none⟩) n n), (.slice (some ⟨bf', 0, none⟩) n n), (.slice (some ⟨bw', 0, none⟩) n n), (.slice (some ⟨br', 0, none⟩) n n), (.slice (some ⟨bm', 0, none⟩) n n)]] w fun e w' => e = .returned (.bool true) ∧ Below w.heap.size w w' := by
  obtain ⟨wb, HWB⟩ : ∃ wb, Hid ((w.alloc (Obj.cells #[(.slice (some ⟨be, 0, none⟩) n n), (.slice (some ⟨bf, 0, none⟩) n n), (.slice (some ⟨bw, 0, none⟩) n n), (.slice (some ⟨br, 0, none⟩) n n), (.slice (some ⟨bm, 0, none⟩) n n)] 32)).alloc (Obj.cells #[(.slice (some ⟨be', 0, none⟩) n n), (.slice (some ⟨bf', 0, none⟩) n n), (.slice (some ⟨bw', 0, none⟩) n n), (.slice (some ⟨br', 0, none⟩) n n), (.slice (some ⟨bm', 0, none⟩) n n)] 32) = wb) := ⟨_, (rfl : _ = _)⟩
  have hb0 := below_alloc2 w (Obj.cells #[(.slice (some ⟨be, 0, none⟩) n n), (.slice (some ⟨bf, 0, none⟩) n n), (.slice (some ⟨bw, 0, none⟩) n n), (.slice (some ⟨br, 0, none⟩) n n), (.slice (some ⟨bm, 0, none⟩) n n)] 32) (Obj.cells #[(.slice (some ⟨be', 0, none⟩) n n), (.slice (some ⟨bf', 0, none⟩) n n), (.slice (some ⟨bw', 0, none⟩) n n), (.slice (some ⟨br', 0, none⟩) n n), (.slice (some ⟨bm', 0, none⟩) n n)] 32)
  have r1 := (row_vals5 w (.slice (some ⟨be, 0, none⟩) n n) (.slice (some ⟨bf, 0, none⟩) n n) (.slice (some ⟨bw, 0, none⟩) n n) (.slice (some ⟨br, 0, none⟩) n n) (.slice (some ⟨bm, 0, none⟩) n n)).alloc (Obj.cells #[(.slice (some ⟨be', 0, none⟩) n n), (.slice (some ⟨bf', 0, none⟩) n n), (.slice (some ⟨bw', 0, none⟩) n n), (.slice (some ⟨br', 0, none⟩) n n), (.slice (some ⟨bm', 0, none⟩) n n)] 32)
  have r2 := row_vals5 (w.alloc (Obj.cells #[(.slice (some ⟨be, 0, none⟩) n n), (.slice (some ⟨bf, 0, none⟩) n n), (.slice (some ⟨bw, 0, none⟩) n n), (.slice (some ⟨br, 0, none⟩) n n), (.slice (some ⟨bm, 0, none⟩) n n)] 32)) (.slice (some ⟨be', 0, none⟩) n n) (.slice (some ⟨bf', 0, none⟩) n n) (.slice (some ⟨bw', 0, none⟩) n n) (.slice (some ⟨br', 0, none⟩) n n) (.slice (some ⟨bm', 0, none⟩) n n)
  rw [show (w.alloc (Obj.cells #[(.slice (some ⟨be, 0, none⟩) n n), (.slice (some ⟨bf, 0, none⟩) n n), (.slice (some ⟨bw, 0, none⟩) n n), (.slice (some ⟨br, 0, none⟩) n n), (.slice (some ⟨bm, 0, none⟩) n n)] 32)).heap.size = w.heap.size + 1 by simp] at r2
  rw [HWB.out] at hb0 r1 r2
  have HR1 : Hid (wb.rowIs w.heap.size 32 5 (fv (.slice (some ⟨be, 0, none⟩) n n) (.slice (some ⟨bf, 0, none⟩) n n) (.slice (some ⟨bw, 0, none⟩) n n) (.slice (some ⟨br, 0, none⟩) n n) (.slice (some ⟨bm, 0, none⟩) n n))) := r1
  have HR2 : Hid (wb.rowIs (w.heap.size + 1) 32 5 (fv (.slice (some ⟨be', 0, none⟩) n n) (.slice (some ⟨bf', 0, none⟩) n n) (.slice (some ⟨bw', 0, none⟩) n n) (.slice (some ⟨br', 0, none⟩) n n) (.slice (some ⟨bm', 0, none⟩) n n))) := r2
  have HB : Hid (Below w.heap.size w wb) := hb0
  have HX : Hid (Fx n be bf bw br bm E F V R M wb ∧ Fx n be' bf' bw' br' bm' E F V R M wb) := ⟨h1.next hb0, h2.next hb0⟩
  have HN : Hid (n ≤ 1000) := hn
  clear hb0 h1 h2 hn
  have a0 := r1.cell (i := 0) (by omega)
  have c0 := r2.cell (i := 0) (by omega)
  have a1 := r1.cell (i := 1) (by omega)
  have c1 := r2.cell (i := 1) (by omega)
  have a2 := r1.cell (i := 2) (by omega)
  have c2 := r2.cell (i := 2) (by omega)
  have a3 := r1.cell (i := 3) (by omega)
  have c3 := r2.cell (i := 3) (by omega)
  have a4 := r1.cell (i := 4) (by omega)
  have c4 := r2.cell (i := 4) (by omega)
  simp only [fv] at a0 a1 a2 a3 a4 c0 c1 c2 c3 c4
  rw [← HWB.out] at a0 a1 a2 a3 a4 c0 c1 c2 c3 c4
  clear r1 r2
  go_enter Try.func8, Try.ntmps8
  go_wp2_with fail
  rw [HWB.out]
  clear a0 a1 a2 a3 a4 c0 c1 c2 c3 c4
  have HQ0 : Hid (Below wb.heap.size wb wb) := Below.refl _ _
  refine (equalbool_any n be be' n n HN.out _ _ _ (fun i hi => (HX.out.1.next HQ0.out).e.cell hi) (fun i hi => (HX.out.2.next HQ0.out).e.cell hi)).mono ?_
  rintro _ w1 ⟨r, rfl, hr, hb⟩
  obtain rfl : r = true := hr.2 fun _ _ => rfl
  clear hr
  have HQ1 : Hid (Below wb.heap.size wb w1) := HQ0.out.trans (hb.mono HQ0.out.size)
  clear hb
  have q1 := HR1.out.of_block (HQ1.out.block _ HR1.out.lt)
  have q2 := HR2.out.of_block (HQ1.out.block _ HR2.out.lt)
  have a0 := q1.cell (i := 0) (by omega)
  have c0 := q2.cell (i := 0) (by omega)
  have a1 := q1.cell (i := 1) (by omega)
  have c1 := q2.cell (i := 1) (by omega)
  have a2 := q1.cell (i := 2) (by omega)
  have c2 := q2.cell (i := 2) (by omega)
  have a3 := q1.cell (i := 3) (by omega)
  have c3 := q2.cell (i := 3) (by omega)
  have a4 := q1.cell (i := 4) (by omega)
  have c4 := q2.cell (i := 4) (by omega)
  simp only [fv] at a0 a1 a2 a3 a4 c0 c1 c2 c3 c4
  clear q1 q2
  go_wp2_with fail
  clear a0 a1 a2 a3 a4 c0 c1 c2 c3 c4
  refine (equalu64_any n bf bf' n n HN.out _ _ _ (fun i hi => (HX.out.1.next HQ1.out).f.cell hi) (fun i hi => (HX.out.2.next HQ1.out).f.cell hi)).mono ?_
  rintro _ w2 ⟨r, rfl, hr, hb⟩
  obtain rfl : r = true := hr.2 fun _ _ => rfl
  clear hr
  have HQ2 : Hid (Below wb.heap.size wb w2) := HQ1.out.trans (hb.mono HQ1.out.size)
  clear hb
  have q1 := HR1.out.of_block (HQ2.out.block _ HR1.out.lt)
  have q2 := HR2.out.of_block (HQ2.out.block _ HR2.out.lt)
  have a0 := q1.cell (i := 0) (by omega)
  have c0 := q2.cell (i := 0) (by omega)
  have a1 := q1.cell (i := 1) (by omega)
  have c1 := q2.cell (i := 1) (by omega)
  have a2 := q1.cell (i := 2) (by omega)
  have c2 := q2.cell (i := 2) (by omega)
  have a3 := q1.cell (i := 3) (by omega)
  have c3 := q2.cell (i := 3) (by omega)
  have a4 := q1.cell (i := 4) (by omega)
  have c4 := q2.cell (i := 4) (by omega)
  simp only [fv] at a0 a1 a2 a3 a4 c0 c1 c2 c3 c4
  clear q1 q2
  go_wp2_with fail
  clear a0 a1 a2 a3 a4 c0 c1 c2 c3 c4
  refine (equalu64_any n bw bw' n n HN.out _ _ _ (fun i hi => (HX.out.1.next HQ2.out).v.cell hi) (fun i hi => (HX.out.2.next HQ2.out).v.cell hi)).mono ?_
  rintro _ w3 ⟨r, rfl, hr, hb⟩
  obtain rfl : r = true := hr.2 fun _ _ => rfl
  clear hr
  have HQ3 : Hid (Below wb.heap.size wb w3) := HQ2.out.trans (hb.mono HQ2.out.size)
  clear hb
  have q1 := HR1.out.of_block (HQ3.out.block _ HR1.out.lt)
  have q2 := HR2.out.of_block (HQ3.out.block _ HR2.out.lt)
  have a0 := q1.cell (i := 0) (by omega)
  have c0 := q2.cell (i := 0) (by omega)
  have a1 := q1.cell (i := 1) (by omega)
  have c1 := q2.cell (i := 1) (by omega)
  have a2 := q1.cell (i := 2) (by omega)
  have c2 := q2.cell (i := 2) (by omega)
  have a3 := q1.cell (i := 3) (by omega)
  have c3 := q2.cell (i := 3) (by omega)
  have a4 := q1.cell (i := 4) (by omega)
  have c4 := q2.cell (i := 4) (by omega)
  simp only [fv] at a0 a1 a2 a3 a4 c0 c1 c2 c3 c4
  clear q1 q2
  go_wp2_with fail
  clear a0 a1 a2 a3 a4 c0 c1 c2 c3 c4
  refine (equalbool_any n br br' n n HN.out _ _ _ (fun i hi => (HX.out.1.next HQ3.out).r.cell hi) (fun i hi => (HX.out.2.next HQ3.out).r.cell hi)).mono ?_
  rintro _ w4 ⟨r, rfl, hr, hb⟩
  obtain rfl : r = true := hr.2 fun _ _ => rfl
  clear hr
  have HQ4 : Hid (Below wb.heap.size wb w4) := HQ3.out.trans (hb.mono HQ3.out.size)
  clear hb
  have q1 := HR1.out.of_block (HQ4.out.block _ HR1.out.lt)
  have q2 := HR2.out.of_block (HQ4.out.block _ HR2.out.lt)
  have a0 := q1.cell (i := 0) (by omega)
  have c0 := q2.cell (i := 0) (by omega)
  have a1 := q1.cell (i := 1) (by omega)
  have c1 := q2.cell (i := 1) (by omega)
  have a2 := q1.cell (i := 2) (by omega)
  have c2 := q2.cell (i := 2) (by omega)
  have a3 := q1.cell (i := 3) (by omega)
  have c3 := q2.cell (i := 3) (by omega)
  have a4 := q1.cell (i := 4) (by omega)
  have c4 := q2.cell (i := 4) (by omega)
  simp only [fv] at a0 a1 a2 a3 a4 c0 c1 c2 c3 c4
  clear q1 q2
  go_wp2_with fail
  clear a0 a1 a2 a3 a4 c0 c1 c2 c3 c4
  refine (equalbool_any n bm bm' n n HN.out _ _ _ (fun i hi => (HX.out.1.next HQ4.out).m.cell hi) (fun i hi => (HX.out.2.next HQ4.out).m.cell hi)).mono ?_
  rintro _ w5 ⟨r, rfl, hr, hb⟩
  obtain rfl : r = true := hr.2 fun _ _ => rfl
  clear hr
  have HQ5 : Hid (Below wb.heap.size wb w5) := HQ4.out.trans (hb.mono HQ4.out.size)
  clear hb
  have q1 := HR1.out.of_block (HQ5.out.block _ HR1.out.lt)
  have q2 := HR2.out.of_block (HQ5.out.block _ HR2.out.lt)
  have a0 := q1.cell (i := 0) (by omega)
  have c0 := q2.cell (i := 0) (by omega)
  have a1 := q1.cell (i := 1) (by omega)
  have c1 := q2.cell (i := 1) (by omega)
  have a2 := q1.cell (i := 2) (by omega)
  have c2 := q2.cell (i := 2) (by omega)
  have a3 := q1.cell (i := 3) (by omega)
  have c3 := q2.cell (i := 3) (by omega)
  have a4 := q1.cell (i := 4) (by omega)
  have c4 := q2.cell (i := 4) (by omega)
  simp only [fv] at a0 a1 a2 a3 a4 c0 c1 c2 c3 c4
  clear q1 q2
  go_wp2_with fail
  clear a0 a1 a2 a3 a4 c0 c1 c2 c3 c4
  go_ret
  exact ⟨by simp, HB.out.trans (HQ5.out.mono HB.out.size)⟩
set_option maxHeartbeats 6400000 in
set_option maxRecDepth 20000 in
theorem same_nil  (w : World) :
    Calls Try.prog 8 #[.agg #[(.slice none 0 0), (.slice none 0 0), (.slice none 0 0), (.slice none 0 0), (.slice none 0 0)], .agg #[(.slice none 0 0), (.slice none 0 0), (.slice none 0 0), (.slice none 0 0), (.slice none 0 0)]] w fun e w' => e = .returned (.bool true) ∧ Below w.heap.size w w' := by
  obtain ⟨wb, HWB⟩ : ∃ wb, Hid ((w.alloc (Obj.cells #[(.slice none 0 0), (.slice none 0 0), (.slice none 0 0), (.slice none 0 0), (.slice none 0 0)] 32)).alloc (Obj.cells #[(.slice none 0 0), (.slice none 0 0), (.slice none 0 0), (.slice none 0 0), (.slice none 0 0)] 32) = wb) := ⟨_, (rfl : _ = _)⟩
  have hb0 := below_alloc2 w (Obj.cells #[(.slice none 0 0), (.slice none 0 0), (.slice none 0 0), (.slice none 0 0), (.slice none 0 0)] 32) (Obj.cells #[(.slice none 0 0), (.slice none 0 0), (.slice none 0 0), (.slice none 0 0), (.slice none 0 0)] 32)
  have r1 := (row_vals5 w (.slice none 0 0) (.slice none 0 0) (.slice none 0 0) (.slice none 0 0) (.slice none 0 0)).alloc (Obj.cells #[(.slice none 0 0), (.slice none 0 0), (.slice none 0 0), (.slice none 0 0), (.slice none 0 0)] 32)
  have r2 := row_vals5 (w.alloc (Obj.cells #[(.slice none 0 0), (.slice none 0 0), (.slice none 0 0), (.slice none 0 0), (.slice none 0 0)] 32)) (.slice none 0 0) (.slice none 0 0) (.slice none 0 0) (.slice none 0 0) (.slice none 0 0)
  rw [show (w.alloc (Obj.cells #[(.slice none 0 0), (.slice none 0 0), (.slice none 0 0), (.slice none 0 0), (.slice none 0 0)] 32)).heap.size = w.heap.size + 1 by simp] at r2
  rw [HWB.out] at hb0 r1 r2
  have HR1 : Hid (wb.rowIs w.heap.size 32 5 (fv (.slice none 0 0) (.slice none 0 0) (.slice none 0 0) (.slice none 0 0) (.slice none 0 0))) := r1
  have HR2 : Hid (wb.rowIs (w.heap.size + 1) 32 5 (fv (.slice none 0 0) (.slice none 0 0) (.slice none 0 0) (.slice none 0 0) (.slice none 0 0))) := r2
  have HB : Hid (Below w.heap.size w wb) := hb0
  clear hb0
  have a0 := r1.cell (i := 0) (by omega)
  have c0 := r2.cell (i := 0) (by omega)
  have a1 := r1.cell (i := 1) (by omega)
  have c1 := r2.cell (i := 1) (by omega)
  have a2 := r1.cell (i := 2) (by omega)
  have c2 := r2.cell (i := 2) (by omega)
  have a3 := r1.cell (i := 3) (by omega)
  have c3 := r2.cell (i := 3) (by omega)
  have a4 := r1.cell (i := 4) (by omega)
  have c4 := r2.cell (i := 4) (by omega)
  simp only [fv] at a0 a1 a2 a3 a4 c0 c1 c2 c3 c4
  rw [← HWB.out] at a0 a1 a2 a3 a4 c0 c1 c2 c3 c4
  clear r1 r2
  go_enter Try.func8, Try.ntmps8
  go_wp2_with fail
  rw [HWB.out]
  clear a0 a1 a2 a3 a4 c0 c1 c2 c3 c4
  have HQ0 : Hid (Below wb.heap.size wb wb) := Below.refl _ _
  refine (equalnn_bool _).mono ?_
  rintro _ w1 ⟨rfl, hb⟩
  have HQ1 : Hid (Below wb.heap.size wb w1) := HQ0.out.trans (hb.mono HQ0.out.size)
  clear hb
  have q1 := HR1.out.of_block (HQ1.out.block _ HR1.out.lt)
  have q2 := HR2.out.of_block (HQ1.out.block _ HR2.out.lt)
  have a0 := q1.cell (i := 0) (by omega)
  have c0 := q2.cell (i := 0) (by omega)
  have a1 := q1.cell (i := 1) (by omega)
  have c1 := q2.cell (i := 1) (by omega)
  have a2 := q1.cell (i := 2) (by omega)
  have c2 := q2.cell (i := 2) (by omega)
  have a3 := q1.cell (i := 3) (by omega)
  have c3 := q2.cell (i := 3) (by omega)
  have a4 := q1.cell (i := 4) (by omega)
  have c4 := q2.cell (i := 4) (by omega)
  simp only [fv] at a0 a1 a2 a3 a4 c0 c1 c2 c3 c4
  clear q1 q2
  go_wp2_with fail
  clear a0 a1 a2 a3 a4 c0 c1 c2 c3 c4
  refine (equalnn_u64 _).mono ?_
  rintro _ w2 ⟨rfl, hb⟩
  have HQ2 : Hid (Below wb.heap.size wb w2) := HQ1.out.trans (hb.mono HQ1.out.size)
  clear hb
  have q1 := HR1.out.of_block (HQ2.out.block _ HR1.out.lt)
  have q2 := HR2.out.of_block (HQ2.out.block _ HR2.out.lt)
  have a0 := q1.cell (i := 0) (by omega)
  have c0 := q2.cell (i := 0) (by omega)
  have a1 := q1.cell (i := 1) (by omega)
  have c1 := q2.cell (i := 1) (by omega)
  have a2 := q1.cell (i := 2) (by omega)
  have c2 := q2.cell (i := 2) (by omega)
  have a3 := q1.cell (i := 3) (by omega)
  have c3 := q2.cell (i := 3) (by omega)
  have a4 := q1.cell (i := 4) (by omega)
  have c4 := q2.cell (i := 4) (by omega)
  simp only [fv] at a0 a1 a2 a3 a4 c0 c1 c2 c3 c4
  clear q1 q2
  go_wp2_with fail
  clear a0 a1 a2 a3 a4 c0 c1 c2 c3 c4
  refine (equalnn_u64 _).mono ?_
  rintro _ w3 ⟨rfl, hb⟩
  have HQ3 : Hid (Below wb.heap.size wb w3) := HQ2.out.trans (hb.mono HQ2.out.size)
  clear hb
  have q1 := HR1.out.of_block (HQ3.out.block _ HR1.out.lt)
  have q2 := HR2.out.of_block (HQ3.out.block _ HR2.out.lt)
  have a0 := q1.cell (i := 0) (by omega)
  have c0 := q2.cell (i := 0) (by omega)
  have a1 := q1.cell (i := 1) (by omega)
  have c1 := q2.cell (i := 1) (by omega)
  have a2 := q1.cell (i := 2) (by omega)
  have c2 := q2.cell (i := 2) (by omega)
  have a3 := q1.cell (i := 3) (by omega)
  have c3 := q2.cell (i := 3) (by omega)
  have a4 := q1.cell (i := 4) (by omega)
  have c4 := q2.cell (i := 4) (by omega)
  simp only [fv] at a0 a1 a2 a3 a4 c0 c1 c2 c3 c4
  clear q1 q2
  go_wp2_with fail
  clear a0 a1 a2 a3 a4 c0 c1 c2 c3 c4
  refine (equalnn_bool _).mono ?_
  rintro _ w4 ⟨rfl, hb⟩
  have HQ4 : Hid (Below wb.heap.size wb w4) := HQ3.out.trans (hb.mono HQ3.out.size)
  clear hb
  have q1 := HR1.out.of_block (HQ4.out.block _ HR1.out.lt)
  have q2 := HR2.out.of_block (HQ4.out.block _ HR2.out.lt)
  have a0 := q1.cell (i := 0) (by omega)
  have c0 := q2.cell (i := 0) (by omega)
  have a1 := q1.cell (i := 1) (by omega)
  have c1 := q2.cell (i := 1) (by omega)
  have a2 := q1.cell (i := 2) (by omega)
  have c2 := q2.cell (i := 2) (by omega)
  have a3 := q1.cell (i := 3) (by omega)
  have c3 := q2.cell (i := 3) (by omega)
  have a4 := q1.cell (i := 4) (by omega)
  have c4 := q2.cell (i := 4) (by omega)
  simp only [fv] at a0 a1 a2 a3 a4 c0 c1 c2 c3 c4
  clear q1 q2
  go_wp2_with fail
  clear a0 a1 a2 a3 a4 c0 c1 c2 c3 c4
  refine (equalnn_bool _).mono ?_
  rintro _ w5 ⟨rfl, hb⟩
  have HQ5 : Hid (Below wb.heap.size wb w5) := HQ4.out.trans (hb.mono HQ4.out.size)
  clear hb
  have q1 := HR1.out.of_block (HQ5.out.block _ HR1.out.lt)
  have q2 := HR2.out.of_block (HQ5.out.block _ HR2.out.lt)
  have a0 := q1.cell (i := 0) (by omega)
  have c0 := q2.cell (i := 0) (by omega)
  have a1 := q1.cell (i := 1) (by omega)
  have c1 := q2.cell (i := 1) (by omega)
  have a2 := q1.cell (i := 2) (by omega)
  have c2 := q2.cell (i := 2) (by omega)
  have a3 := q1.cell (i := 3) (by omega)
  have c3 := q2.cell (i := 3) (by omega)
  have a4 := q1.cell (i := 4) (by omega)
  have c4 := q2.cell (i := 4) (by omega)
  simp only [fv] at a0 a1 a2 a3 a4 c0 c1 c2 c3 c4
  clear q1 q2
  go_wp2_with fail
  clear a0 a1 a2 a3 a4 c0 c1 c2 c3 c4
  go_ret
  exact ⟨by simp, HB.out.trans (HQ5.out.mono HB.out.size)⟩
end Go.Proofs.Ytjdaijghfipecaa
