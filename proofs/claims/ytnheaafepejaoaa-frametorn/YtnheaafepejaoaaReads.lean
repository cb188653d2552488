/-
  The contract of frame.read: of at least eight bytes it answers the frame that YtnheaafepejaoaaMath says; what was there stays.
-/
import Derived.Test.YtnheaafepejaoaaLooks
namespace Go.Proofs.Ytnheaafepejaoaa
open Go.RowKit
open Frm Crc

theorem rd_body (s : ByteArray) (h : 8 ≤ s.size) : s.extract 4 (s.size - 4) = (rd s.data.toList).body := by
  apply ByteArray.ext
  apply Array.ext'
  have := ext_list s 4 (s.size - 8)
  rw [show 4 + (s.size - 8) = s.size - 4 by omega] at this
  rw [this]
  simp [rd]

set_option maxHeartbeats 1600000 in
set_option maxRecDepth 20000 in
theorem readfr_any (s : ByteArray) (h8 : 8 ≤ s.size) (hs : s.size ≤ 281474976710656) (w : World) :
    Calls Try.prog 24 #[.string s] w fun e w' => e = .returned (.agg #[.int .i64 (rd s.data.toList).kind, .int .i64 (rd s.data.toList).who, .string (rd s.data.toList).body]) ∧ Below w.heap.size w w' := by
  have hw0 := wrap64_byte s[0]
  have hw1 := wrap64_byte s[1]
  have hv0 : IntKind.i64.wrap (s[0].toNat : Int) = (s[0].toNat : Int) := wrap_i64 _ (by have := s[0].toNat_lt; omega)
  have hv1 : IntKind.i64.wrap (s[1].toNat : Int) = (s[1].toNat : Int) := wrap_i64 _ (by have := s[1].toNat_lt; omega)
  have hT : ((s.size : Int) - 4).toNat = s.size - 4 := by omega
  have hwz : IntKind.i64.wrap ((s.size : Int) - 4) = (s.size : Int) - 4 := by
    have e : (s.size : Int) - 4 = ((s.size - 4 : Nat) : Int) := by omega
    rw [e]; exact wrap_i64 _ (by omega)
  have j1 : (4 : Int) ≤ (s.size : Int) - 4 := by omega
  have j2 : (s.size : Int) - 4 ≤ (s.size : Int) := by omega
  have j3 : (0 : Int) ≤ (s.size : Int) - 4 := by omega
  go_enter Try.func24, Try.ntmps24
  go_wp2_with fail
  go_region_held3 (fun _ => True) (trivial) ((go_at_call 22; refine (clone_any _ (by simp; omega) _).mono ?_; rintro e w' ⟨rfl, hbel⟩; have hbk : w'.heap[w.heap.size]? = some (Obj.cells #[.int .i64 0, .int .i64 0, .string ⟨#[]⟩] 23) := (hbel.block w.heap.size (by simp)).trans (heap_alloc_new w _); have c0 := block_cell hbk 0; have c1 := block_cell hbk 1; have c2 := block_cell hbk 2; have f0 := block_free hbk 0; have f1 := block_free hbk 1; have f2 := block_free hbk 2))
  all_goals
    have hB : Below w.heap.size w w' := (((Below.refl _ w).alloc (Nat.le_refl _) _).drew).trans (hbel.mono (by simp))
    have hB3 := ((hB.setCell (p := ⟨w.heap.size, 0, none⟩) (Nat.le_refl _) (.int .i64 (s[0].toNat : Int))).setCell (p := ⟨w.heap.size, 1, none⟩) (Nat.le_refl _) (.int .i64 (s[1].toNat : Int))).setCell (p := ⟨w.heap.size, 2, none⟩) (Nat.le_refl _) (.string (s.extract 4 (s.size - 4)))
    have hbk3 := block_store (i := 2) (block_store (i := 1) (block_store (i := 0) hbk (.int .i64 (s[0].toNat : Int))) (.int .i64 (s[1].toNat : Int))) (.string (s.extract 4 (s.size - 4)))
    generalize hw3 : ((w'.setCell ⟨w.heap.size, 0, none⟩ (.int .i64 (s[0].toNat : Int))).setCell ⟨w.heap.size, 1, none⟩ (.int .i64 (s[1].toNat : Int))).setCell ⟨w.heap.size, 2, none⟩ (.string (s.extract 4 (s.size - 4))) = w3 at hB3 hbk3 ⊢
    clear hw3 hB hbel hbk c0 c1 c2 f0 f1 f2
    have d0 : w3.cell? ⟨w.heap.size, 0, none⟩ = some (.int .i64 (s[0].toNat : Int)) := block_cell hbk3 0
    have d1 : w3.cell? ⟨w.heap.size, 1, none⟩ = some (.int .i64 (s[1].toNat : Int)) := block_cell hbk3 1
    have d2 : w3.cell? ⟨w.heap.size, 2, none⟩ = some (.string (s.extract 4 (s.size - 4))) := block_cell hbk3 2
    clear hbk3
    go_wp2_with fail
    refine bodyPost_ret (v := .agg #[.int .i64 (s[0].toNat : Int), .int .i64 (s[1].toNat : Int), .string (s.extract 4 (s.size - 4))]) (by simp [results, Try.results24, go_sem, d0, d1, d2]) rfl ⟨?_, hB3⟩
    rw [rd_body s h8, at_list s 0 (by omega), at_list s 1 (by omega)]
    rfl
end Go.Proofs.Ytnheaafepejaoaa
