/-
  The contract of pushref.Rest (a number below the second one, and not below 0), and what a text's bytes are in a slice of new memory.
-/
import Derived.Test.YtnheaafepejaoaaWrites
import Derived.Deep.DrawnRows
import Derived.ChangeOld
namespace Go.Proofs.Ytnheaafepejaoaa
open Go.RowKit
open Frm Crc

theorem tmod_neg_bounds (a b : Int) (ha : a < 0) (hb : 0 < b) : -b < a.tmod b ∧ a.tmod b ≤ 0 := by
  have e : a.tmod b = -((-a) % b) := by
    have h1 := Int.neg_tmod (-a) b
    rw [Int.neg_neg] at h1
    rw [h1, Int.tmod_eq_emod_of_nonneg (by omega)]
  have h1 : 0 ≤ (-a) % b := Int.emod_nonneg _ (by omega)
  have h2 : (-a) % b < b := Int.emod_lt_of_pos _ hb
  omega
/-- pushref.Rest: what is left of a number at a positive one, never below 0. -/
theorem rest_any (a : Int) (b : Int) (ha : -9223372036854775808 ≤ a ∧ a ≤ 9223372036854775807) (hb : 0 < b) (hb2 : b ≤ 1125899906842624) (w : World) :
    Calls Try.prog 17 #[.int .i64 a, .int .i64 b] w fun e w' => (∃ K : Nat, e = .returned (.int .i64 (K : Int)) ∧ (K : Int) < b) ∧ w' = w := by
  have hbz : (b == 0) = false := by simp; omega
  by_cases h0 : 0 ≤ a
  · have h1 : 0 ≤ a % b := Int.emod_nonneg _ (by omega)
    have h2 : a % b < b := Int.emod_lt_of_pos _ hb
    go_enter Try.func17, Try.ntmps17
    go_wp2
    go_ret
    exact ⟨⟨(a % b).toNat, ret_int (by omega), by omega⟩, rfl⟩
  · have h1 := tmod_neg_bounds a b (by omega) hb
    obtain ⟨h2, h3⟩ := h1
    go_enter Try.func17, Try.ntmps17
    go_wp2
    · go_ret
      exact ⟨⟨(a.tmod b + b).toNat, ret_int (by omega), by omega⟩, rfl⟩
    · go_ret
      exact ⟨⟨(a.tmod b).toNat, ret_int (by omega), by omega⟩, rfl⟩
theorem bytes_made (w : World) (s : ByteArray) : ∃ cap W2, (convert 9 44 (.string s)).run Try.prog w = .ok (.slice (some ⟨w.heap.size, 0, none⟩) s.size cap) W2 ∧
    (∀ j, j < s.size → W2.cell? ⟨w.heap.size, j, none⟩ = some (.int .u8 ((s.data.toList.getD j 0).toNat : Int))) ∧
    (∀ j, j < s.size → W2.frozen? ⟨w.heap.size, j, none⟩ = false) ∧ Below w.heap.size w W2 ∧ w.heap.size < W2.heap.size := by
  have hr := run_bytes_of_string (P := Try.prog) w 9 44 5 s Try.underlying9 Try.underlying44 Try.underlying5
  generalize hcap : grownCap w s.size 0 5 = cap at hr
  refine ⟨cap, _, hr, ?_, ?_, ?_, ?_⟩
  · intro j hj
    have e := World.cell?_alloc_mark w.drew (bytesRow s cap) 5 ((bytesRow s cap).size, (bytesRow s cap).size + 1) j
    have e2 : (w.drew.alloc (.cells (bytesRow s cap) 5 ((bytesRow s cap).size, (bytesRow s cap).size + 1))).cell? ⟨w.heap.size, j, none⟩ = (bytesRow s cap)[j]? := e
    rw [e2, bytesRow_at s cap j hj]
    have : s.data.toList.getD j 0 = s.data[j]'hj := by simp [List.getD, Array.getElem?_eq_getElem (show j < s.data.size from hj)]
    rw [this]
  · intro j hj
    have e := World.frozen?_alloc_mark w.drew (bytesRow s cap) 5 (bytesRow s cap).size ((bytesRow s cap).size + 1) j
    have e2 : (w.drew.alloc (.cells (bytesRow s cap) 5 ((bytesRow s cap).size, (bytesRow s cap).size + 1))).frozen? ⟨w.heap.size, j, none⟩ = (decide ((bytesRow s cap).size ≤ j) && decide (j < (bytesRow s cap).size + 1)) := e
    rw [e2]
    have : j < (bytesRow s cap).size := by simp [bytesRow]; have : j < s.data.size := hj; omega
    have : decide ((bytesRow s cap).size ≤ j) = false := by simp; omega
    rw [this]; rfl
  · exact ((Below.refl _ w).drew).alloc (Nat.le_refl _) _
  · show w.heap.size < (w.heap.push _).size
    simp
theorem bounds_i64 {z : Int} (h : (Lit.int .i64 z).wf = true) : -9223372036854775808 ≤ z ∧ z ≤ 9223372036854775807 := by simpa [Lit.wf, IntKind.min, IntKind.max, IntKind.signed, IntKind.bits] using h
theorem bounds_u8 {z : Int} (h : (Lit.int .u8 z).wf = true) : 0 ≤ z ∧ z ≤ 255 := by simpa [Lit.wf, IntKind.min, IntKind.max, IntKind.signed, IntKind.bits] using h
theorem xor_byte8 (c g : UInt8) : bits .xor .u8 (c.toNat : Int) (g.toNat : Int) = ((c ^^^ g).toNat : Int) := by
  rw [u8_xor_nat _ _ c.toNat_lt g.toNat_lt, UInt8.toNat_xor]
/-- Bytes that lie in a row, one of them stored anew, as a string. -/
theorem conv_set {w : World} {g n c p : Nat} {l : List UInt8} {v : UInt8} (hn : n = l.length) (hp : p < l.length) (hc : ∀ j, j < l.length → w.cell? ⟨g, j, none⟩ = some (.int .u8 ((l.getD j 0).toNat : Int))) :
    (convert 44 9 (.slice (some ⟨g, 0, none⟩) n c)).run Try.prog (w.setCell ⟨g, p, none⟩ (.int .u8 (v.toNat : Int))) = .ok (.string ⟨(l.set p v).toArray⟩) (w.setCell ⟨g, p, none⟩ (.int .u8 (v.toNat : Int))) := by
  have hl : n = (l.set p v).length := by rw [List.length_set]; exact hn
  subst hl
  refine run_convert_bytes_back _ 44 9 5 ⟨g, 0, none⟩ c (l.set p v) Try.underlying44 Try.underlying5 Try.underlying9 fun j hj => ?_
  have hadd : (⟨g, 0, none⟩ : Addr).add j = ⟨g, j, none⟩ := by unfold Addr.add; split <;> simp_all
  have hj2 : j < l.length := by simpa using hj
  rw [hadd]
  by_cases e : j = p
  · subst e
    rw [World.cell?_setCell_same w _ _ (hc j hj2)]
    simp
  · have hne : (⟨g, p, none⟩ : Addr) ≠ ⟨g, j, none⟩ := by
      intro hh
      injection hh with _ h2 _
      exact e h2.symm
    rw [World.cell?_setCell_other (h := hne), hc j hj2]
    rw [List.getElem_set_ne (by omega)]
    simp [List.getD, List.getElem?_eq_getElem hj2]
end Go.Proofs.Ytnheaafepejaoaa
