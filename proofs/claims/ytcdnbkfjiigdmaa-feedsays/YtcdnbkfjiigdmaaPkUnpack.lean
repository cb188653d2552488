/-
  What serves the walks that make rows.
-/
import Derived.Test.YtcdnbkfjiigdmaaTails
import Derived.Test.YtcdnbkfjiigdmaaFree
import Derived.Deep.OwnRows
import Derived.Lib.SliceRun
namespace Go.Proofs.Ytcdnbkfjiigdmaa
open Go.RowKit
open Dfa

theorem zero62' : (Try.prog.info? 62).map (fun i => (i.zero, i.size, i.bytes)) = some (some (.agg (Array.replicate 256 (.int .i16 0))), 256, 512) := by kernel_rfl
theorem made_rows (n : Nat) : madeCells (Array.replicate 256 (Value.int .i16 0)) (n * 256) = Array.replicate (n * 256) (Value.int .i16 0) := by
  apply Array.ext
  · simp [madeCells]
  · intro i h1 h2
    have h3 : i % 256 < 256 := Nat.mod_lt _ (by omega)
    simp only [madeCells, Array.getElem_map, Array.getElem_range, Array.size_replicate, Array.getElem_replicate]
    rw [getElem!_pos _ _ (by simpa using h3)]
    simp
theorem make_rows (n : Nat) (hn : 0 < n ∧ n ≤ 200) (w : World) : (Instr.makeSlice 49 (.int .i64 (n : Int)) (.int .i64 (n : Int))).run Try.prog w = .ok (.slice (some ⟨w.heap.size, 0, none⟩) n n) (w.alloc (.cells (Array.replicate (n * 256) (Value.int .i16 0)) 62)) := by
  obtain ⟨i, hi, hz, hs, hb⟩ := info_parts zero62'
  have := run_make (P := Try.prog) w 49 62 i _ Try.underlying49 hi hz .i64 .i64 (n : Int) (n : Int) (by omega) (Int.le_refl _) (by rw [hb]; omega) (by omega)
  rw [this, hs]
  simp only [Int.toNat_natCast, Value.cells]
  rw [made_rows]
theorem rows_made (w : World) (n : Nat) : (w.alloc (.cells (Array.replicate (n * 256) (Value.int .i16 0)) 62)).rowIs w.heap.size 62 (n * 256) (fun _ => .int .i16 0) := by
  have := World.rowIs_alloc w (Array.replicate (n * 256) (Value.int .i16 0)) 62 (fun _ => .int .i16 0) (fun i hi => by simp at hi; simp [hi])
  simpa using this
theorem row_two (w : World) (u v : Value) : (w.alloc (.cells #[u, v] 51)).rowIs w.heap.size 51 2 (fun i => if i = 0 then u else v) := by
  have := World.rowIs_alloc w #[u, v] 51 (fun i => if i = 0 then u else v) (fun i hi => by
    have : i = 0 ∨ i = 1 := by simp at hi; omega
    rcases this with rfl | rfl <;> simp)
  simpa using this
/-- Two cells of a block are stored: all else stays. -/
theorem same_two (w : World) (g : Nat) (u v : Value) : ((w.setCell ⟨g, 0, none⟩ u).setCell ⟨g, 1, none⟩ v).heap.size = w.heap.size ∧ ((w.setCell ⟨g, 0, none⟩ u).setCell ⟨g, 1, none⟩ v).os = w.os ∧ ((w.setCell ⟨g, 0, none⟩ u).setCell ⟨g, 1, none⟩ v).tape = w.tape ∧ ((w.setCell ⟨g, 0, none⟩ u).setCell ⟨g, 1, none⟩ v).output = w.output ∧
    ∀ k, k ≠ g → ((w.setCell ⟨g, 0, none⟩ u).setCell ⟨g, 1, none⟩ v).heap[k]? = w.heap[k]? :=
  ⟨by simp [World.setCell], rfl, rfl, rfl, fun k hk => by rw [Below.heap_setCell _ _ _ _ (by simpa using hk), Below.heap_setCell _ _ _ _ (by simpa using hk)]⟩
theorem row_two_set {w : World} {g : Nat} {f : Nat → Value} (h : w.rowIs g 51 2 f) (u v : Value) : ((w.setCell ⟨g, 0, none⟩ u).setCell ⟨g, 1, none⟩ v).rowIs g 51 2 (fun i => if i = 0 then u else v) :=
  ((h.set 0 u).set 1 v).congr fun i hi => by
    have : i = 0 ∨ i = 1 := by omega
    rcases this with rfl | rfl <;> simp
theorem cell_same {w w' : World} {g : Nat} (h : w'.heap[g]? = w.heap[g]?) (i : Nat) : w'.cell? ⟨g, i, none⟩ = w.cell? ⟨g, i, none⟩ := by simp [World.cell?, h]
theorem Px.set {w0 : World} {g : Nat} {O : Nat → Nat} {nv tv : Value} {n m : Nat} {L : Nat → Nat} {X : Nat → Nat → Int} {T : Nat → Int} {l : List Value} {w w' : World} {b : Nat} (h : Px w0 g O nv tv n m L X T l w) (hx : Nx w0 nv n L X) (ht : Ts w0 tv m T)
    (hs : w'.heap.size = w.heap.size ∧ w'.os = w.os ∧ w'.tape = w.tape ∧ w'.output = w.output ∧ ∀ k, k ≠ b → w'.heap[k]? = w.heap[k]?) (hb : g ≠ b) (hb2 : w0.heap.size ≤ b) : Px w0 g O nv tv n m L X T l w' := by
  have e : ∀ j, w'.cell? ⟨g, j, none⟩ = w.cell? ⟨g, j, none⟩ := fun j => cell_same (hs.2.2.2.2 g hb) j
  have hB : Below w0.heap.size w0 w' := h.below.trans ⟨hs.2.1, hs.2.2.1, hs.2.2.2.1, by rw [hs.1]; exact Nat.le_refl _, fun k hk => hs.2.2.2.2 k (by omega)⟩
  exact ⟨(e _).trans h.c1, (e _).trans h.c2, fun j hj => (e _).trans (h.of j hj), fun j v hv => (e _).trans (h.all j v hv), fun j v hv => (e _).trans (h.cols j v hv), hx.below hB (Nat.le_refl _), ht.below hB (Nat.le_refl _), by rw [hs.1]; exact h.lt, hB⟩

theorem index_of (O : Nat → Nat) (j : Nat) (hj : j < 256) (w : World) : (Instr.index 22 (.agg (ol O).toArray) (.int .i64 (j : Int))).run Try.prog w = .ok (.int .u8 (O j : Int)) w := by
  have h1 : (0 : Int) ≤ (j : Int) ∧ (j : Int) < (256 : Nat) := by omega
  have h2 := ol_at O j hj
  have h3 := ol_length O
  simp [Instr.index, run_underlying Try.underlying22, asIntOf, h1, go_sem, h3, hj]
  rw [List.getElem?_eq_getElem (by omega)] at h2
  exact Option.some.inj h2
theorem wrap16 {z : Int} (h : -32768 ≤ z ∧ z ≤ 32767) : IntKind.i16.wrap z = z := by
  unfold IntKind.wrap
  simp [IntKind.bits, IntKind.signed]
  omega

end Go.Proofs.Ytcdnbkfjiigdmaa
