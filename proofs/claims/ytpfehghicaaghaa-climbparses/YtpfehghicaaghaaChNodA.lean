/-
  chart.node where nothing may be made any more, and of a leaf.
-/
import Derived.Test.YtpfehghicaaghaaChCuts
import Derived.Test.YtpfehghicaaghaaChCutt
namespace Go.Proofs.Ytpfehghicaaghaa
open Go.RowKit
open Cg

theorem make32 (c : Nat) (h : c ≤ 8) (w : World) : (Instr.makeSlice 30 (.int .i64 (c : Int)) (.int .i64 (c : Int))).run Try.prog w = .ok (.slice (some ⟨w.heap.size, 0, none⟩) c c) (w.alloc (.cells (madeCells #[.int .i64 0, .int .i64 0, .slice none 0 0] (c * 3)) 32)) := by
  obtain ⟨i, hi, hz, hs, hb⟩ := info_parts info32
  have hr := run_make (P := Try.prog) w 30 32 i _ Try.underlying30 hi hz .i64 .i64 c c (by omega) (Int.le_refl _) (by rw [hb]; omega) (by omega)
  rw [hs] at hr
  simp only [Int.toNat_natCast, Value.cells] at hr
  exact hr
theorem two_allocs (w : World) (A B : Obj) : Below w.heap.size w ((w.alloc A).alloc B) := (below_alloc _ _).trans ((below_alloc _ _).mono (by simp))
set_option maxHeartbeats 8000000 in
set_option maxRecDepth 20000 in
theorem node_zero (q : Nat) (s0 s1 : Int) (i j lb : Nat) (x : T) (w : World) (hlb : w.heap[lb]? = some (.cells #[.int .i64 0] 3)) :
    Calls Try.prog 67 #[.pointer (some ⟨q, 0, none⟩), .agg #[.int .i64 s0, .int .i64 s1], .int .i64 (i : Int), .int .i64 (j : Int), .pointer (some ⟨lb, 0, none⟩)] w fun e w' => ∃ v, e = .returned v ∧ Tx w' (fun b => w.heap.size ≤ b) v (cutT 0 x).2 ∧ w'.heap[lb]? = some (.cells #[.int .i64 ((cutT 0 x).1 : Int)] 3) ∧ Fm (fun b => b = lb) w w' := by
  rw [cutT_zero]
  have hlt := heap_lt3 hlb
  have HBA : Hid (Below w.heap.size w ((w.alloc (Obj.cells #[.int .i64 s0, .int .i64 s1] 47)).alloc (Obj.cells #[.int .i64 0, .int .i64 0, .slice none 0 0] 32))) := (below_alloc _ _).trans ((below_alloc _ _).mono (by simp))
  have c0 : (((w.alloc (Obj.cells #[.int .i64 s0, .int .i64 s1] 47)).alloc (Obj.cells #[.int .i64 0, .int .i64 0, .slice none 0 0] 32))).cell? ⟨lb, 0, none⟩ = some (.int .i64 0) := (HBA.out.cell (p := ⟨lb, 0, none⟩) hlt).trans (by simp [World.cell?, hlb])
  have HLB : Hid (w.heap[lb]? = some (.cells #[.int .i64 0] 3)) := hlb
  have hlt2 : Hid (lb < w.heap.size) := hlt
  clear hlb hlt
  go_enter Try.func67, Try.ntmps67
  go_wp2_with fail
  refine bodyPost_ret (results_cell_row Try.results67 _ _ (w.heap.size + 1) 32 #[.int .i64 0, .int .i64 0, .slice none 0 0] _ _ rfl (heap_alloc2_new w _ _) Try.underlying32 rfl (by kernel_rfl)) rfl ⟨_, rfl, .mk 0 0 none 0 [] (fun _ => undef) (by simp) (Or.inl rfl) (by simp), (HBA.out.block lb hlt2.out).trans HLB.out, Fm.of HBA.out⟩
set_option maxHeartbeats 8000000 in
set_option maxRecDepth 20000 in
theorem node_leaf (q k : Nat) (hk1 : k + 1 ≤ 1000) (s0 s1 : Int) (h4 : s0 = 1) (i j lb : Nat) (w : World) (hlb : w.heap[lb]? = some (.cells #[.int .i64 ((k + 1 : Nat) : Int)] 3)) :
    Calls Try.prog 67 #[.pointer (some ⟨q, 0, none⟩), .agg #[.int .i64 s0, .int .i64 s1], .int .i64 (i : Int), .int .i64 (j : Int), .pointer (some ⟨lb, 0, none⟩)] w fun e w' => ∃ v, e = .returned v ∧ Tx w' (fun b => w.heap.size ≤ b) v (cutT (k + 1) (.mk (-1) (i : Int) [])).2 ∧ w'.heap[lb]? = some (.cells #[.int .i64 ((cutT (k + 1) (.mk (-1) (i : Int) [])).1 : Int)] 3) ∧ Fm (fun b => b = lb) w w' := by
  have hlt := heap_lt3 hlb
  have HBA : Hid (Below w.heap.size w ((w.alloc (Obj.cells #[.int .i64 s0, .int .i64 s1] 47)).alloc (Obj.cells #[.int .i64 0, .int .i64 0, .slice none 0 0] 32))) := (below_alloc _ _).trans ((below_alloc _ _).mono (by simp))
  have g0 := cell_new w #[.int .i64 s0, .int .i64 s1] 47
  have HBT : Hid (Below (w.heap.size + 1) (w.alloc (Obj.cells #[.int .i64 s0, .int .i64 s1] 47)) ((w.alloc (Obj.cells #[.int .i64 s0, .int .i64 s1] 47)).alloc (Obj.cells #[.int .i64 0, .int .i64 0, .slice none 0 0] 32))) := by show Below _ _ _; have := below_alloc (w.alloc (Obj.cells #[.int .i64 s0, .int .i64 s1] 47)) (Obj.cells #[.int .i64 0, .int .i64 0, .slice none 0 0] 32); simpa using this
  have t0 := cell_new (w.alloc (Obj.cells #[.int .i64 s0, .int .i64 s1] 47)) #[.int .i64 0, .int .i64 0, .slice none 0 0] 32
  have c0 : (((w.alloc (Obj.cells #[.int .i64 s0, .int .i64 s1] 47)).alloc (Obj.cells #[.int .i64 0, .int .i64 0, .slice none 0 0] 32))).cell? ⟨lb, 0, none⟩ = some (.int .i64 ((k : Int) + 1)) := (HBA.out.cell (p := ⟨lb, 0, none⟩) hlt).trans (by simp [World.cell?, hlb])
  have y0 : (((w.alloc (Obj.cells #[.int .i64 s0, .int .i64 s1] 47)).alloc (Obj.cells #[.int .i64 0, .int .i64 0, .slice none 0 0] 32))).cell? ⟨w.heap.size, 0, none⟩ = some (.int .i64 s0) := (HBT.out.cell (p := ⟨w.heap.size, 0, none⟩) (by simp)).trans (g0 0)
  have y1 : (((w.alloc (Obj.cells #[.int .i64 s0, .int .i64 s1] 47)).alloc (Obj.cells #[.int .i64 0, .int .i64 0, .slice none 0 0] 32))).cell? ⟨w.heap.size, 1, none⟩ = some (.int .i64 s1) := (HBT.out.cell (p := ⟨w.heap.size, 1, none⟩) (by simp)).trans (g0 1)
  have f0 : (((w.alloc (Obj.cells #[.int .i64 s0, .int .i64 s1] 47)).alloc (Obj.cells #[.int .i64 0, .int .i64 0, .slice none 0 0] 32))).frozen? ⟨lb, 0, none⟩ = false := by have := HBA.out.block lb hlt; simp [World.frozen?, this, hlb]
  have hk0 : ((k : Int) + 1 == 0) = false := by simp; omega
  clear t0 HBT g0
  have HLB : Hid (w.heap[lb]? = some (.cells #[.int .i64 ((k + 1 : Nat) : Int)] 3)) := hlb
  clear hlb
  have HS : Hid ((cutT (k + 1) (.mk (-1) (i : Int) [])) = (k, .mk (-1) (i : Int) [])) := by show _ = _; rw [cutT, cutL]
  have hb4 : (s0 == 1) = true := by rw [h4]; rfl
  have hkb : (k : Int) ≤ 1000 := by omega
  have y0' : (((w.alloc (Obj.cells #[.int .i64 s0, .int .i64 s1] 47)).alloc (Obj.cells #[.int .i64 0, .int .i64 0, .slice none 0 0] 32)).setCell ⟨lb, 0, none⟩ (.int .i64 (k : Int))).cell? ⟨w.heap.size, 0, none⟩ = some (.int .i64 s0) := (World.cell?_of_block (w := ((w.alloc (Obj.cells #[.int .i64 s0, .int .i64 s1] 47)).alloc (Obj.cells #[.int .i64 0, .int .i64 0, .slice none 0 0] 32))) (Below.heap_setCell ((w.alloc (Obj.cells #[.int .i64 s0, .int .i64 s1] 47)).alloc (Obj.cells #[.int .i64 0, .int .i64 0, .slice none 0 0] 32)) ⟨lb, 0, none⟩ _ w.heap.size (by show w.heap.size ≠ lb; omega))).trans y0
  clear h4
  go_enter Try.func67, Try.ntmps67
  go_wp2_with fail
  refine bodyPost_ret (results_cell_row Try.results67 _ _ (w.heap.size + 1) 32 #[.int .i64 (-1), .int .i64 (i : Int), .slice none 0 0] _ _ rfl (by have := heap_alloc2_new (w.setCell ⟨lb, 0, none⟩ (.int .i64 (k : Int))) (.cells #[.int .i64 s0, .int .i64 s1] 47) (.cells #[.int .i64 (-1), .int .i64 (i : Int), .slice none 0 0] 32); simpa using this) Try.underlying32 rfl (by kernel_rfl)) rfl ?_
  have B2 := two_allocs (w.setCell ⟨lb, 0, none⟩ (.int .i64 (k : Int))) (.cells #[.int .i64 s0, .int .i64 s1] 47) (.cells #[.int .i64 (-1), .int .i64 (i : Int), .slice none 0 0] 32)
  rw [HS.out]
  refine ⟨_, rfl, .mk (-1) (i : Int) none 0 [] (fun _ => undef) (by simp) (Or.inl rfl) (by simp), ?_, (Fm.set (X := fun b => b = lb) _ rfl).trans (Fm.of B2) fun _ _ h => h⟩
  rw [B2.block lb (by simpa using hlt)]
  exact heap_setCell_same w lb 0 _ 3 (.int .i64 (k : Int)) HLB.out
end Go.Proofs.Ytpfehghicaaghaa
