/-
  What the laws over small.Apart make themselves: automata of one state; boxes. No function is walked here.
-/
import Derived.Test.YtlgcggfenljdnaaApTold
namespace Go.Proofs.Ytlgcggfenljdnaa
open Go.RowKit
open Dfa

theorem infoRow : (Try.prog.info? 42).map (fun i => (i.zero, i.size, i.bytes)) = some (some (.agg (Array.replicate 256 (.int .i16 0))), 256, 512) := by kernel_rfl
theorem rl_zero : (rl fun _ => 0).toArray = Array.replicate 256 (Value.int .i16 0) := by
  apply Array.ext
  · simp [rl_length]
  · intro i h1 h2
    simp [rl]
theorem zeroRow' (w : World) : (zeroValue 42).run Try.prog w = .ok (.agg (rl fun _ => 0).toArray) w := by
  rw [rl_zero]
  exact (zero_of_info (P := Try.prog) (t := 42) (v := .agg (Array.replicate 256 (.int .i16 0))) (n := 256) (by kernel_rfl)).1 w
theorem rw_one (w : World) : Rw (w.alloc (Obj.cells (rl fun _ => 0).toArray 42)) (.slice (some ⟨w.heap.size, 0, none⟩) 1 1) 1 (fun _ _ => 0) := by
  refine ⟨_, _, rfl, by omega, fun _ _ => by simp, Or.inr ⟨_, 0, rfl, by simp, fun i hi j hj => ?_⟩⟩
  obtain rfl : i = 0 := by omega
  rw [show 0 + 0 * 256 + j = j by omega, cell_of_block, rl_at _ j hj]
theorem ts_one (w : World) (t : Int) (h : 0 ≤ t ∧ t < 20) : Ts (w.alloc (Obj.cells #[.int .i64 t] 3)) (.slice (some ⟨w.heap.size, 0, none⟩) 1 1) 1 (fun _ => t) := by
  refine ⟨_, _, rfl, by omega, fun _ => by dsimp only; omega, Or.inr ⟨_, 0, rfl, by simp, fun i hi => ?_⟩⟩
  obtain rfl : i = 0 := by omega
  simp
theorem bytes_nil {s : ByteArray} (h : s.data.toList = []) : s = ⟨#[]⟩ := by
  obtain ⟨⟨l⟩⟩ := s
  simp at h
  rw [h]
theorem bytes_ext {s t : ByteArray} (h : s.data.toList = t.data.toList) : s = t := by
  obtain ⟨⟨l⟩⟩ := s
  obtain ⟨⟨m⟩⟩ := t
  simp at h
  rw [h]
theorem ext_take (s : ByteArray) (k : Nat) : (s.extract 0 k).data.toList = s.data.toList.take k := by
  simp
/-- Both automata in their boxes. -/
structure Bx (w : World) (r t u v : Value) (W : World) : Prop where
  below : Below w.heap.size w W
  c0 : W.cell? ⟨w.heap.size, 0, none⟩ = some r
  c1 : W.cell? ⟨w.heap.size, 1, none⟩ = some t
  c2 : W.cell? ⟨w.heap.size + 1, 0, none⟩ = some u
  c3 : W.cell? ⟨w.heap.size + 1, 1, none⟩ = some v
  lt : w.heap.size + 2 ≤ W.heap.size
theorem Bx.next {w : World} {r t u v : Value} {W W' : World} (h : Bx w r t u v W) (hb : Below W.heap.size W W') : Bx w r t u v W' := by
  have hl := h.lt
  exact ⟨h.below.trans (hb.mono h.below.size), (hb.cell (p := ⟨w.heap.size, 0, none⟩) (by first | (simp; done) | (simp; omega))).trans h.c0, (hb.cell (p := ⟨w.heap.size, 1, none⟩) (by first | (simp; done) | (simp; omega))).trans h.c1, (hb.cell (p := ⟨w.heap.size + 1, 0, none⟩) (by first | (simp; done) | (simp; omega))).trans h.c2, (hb.cell (p := ⟨w.heap.size + 1, 1, none⟩) (by first | (simp; done) | (simp; omega))).trans h.c3, Nat.le_trans hl hb.size⟩
end Go.Proofs.Ytlgcggfenljdnaa
