/-
  The contract of pushkeep.backwards: a text's bytes, turned round.
-/
import Derived.Test.YtdnagboonjcehaaShelf
import Derived.Test.YtdnagboonjcehaaIsAt
import Derived.Deep.DrawnRows
namespace Go.Proofs.Ytdnagboonjcehaa
open Go.RowKit
open Cls Rex
open Go.Sort (putRow mapBlock Holds)

theorem bytes_made (w : World) (s : ByteArray) : ∃ cap W2, (convert 9 57 (.string s)).run Try.prog w = .ok (.slice (some ⟨w.heap.size, 0, none⟩) s.size cap) W2 ∧
    (∀ j, j < s.size → W2.cell? ⟨w.heap.size, j, none⟩ = some (.int .u8 ((s.data.toList.getD j 0).toNat : Int))) ∧
    (∀ j, j < s.size → W2.frozen? ⟨w.heap.size, j, none⟩ = false) ∧ Below w.heap.size w W2 ∧ w.heap.size < W2.heap.size := by
  have hr := run_bytes_of_string (P := Try.prog) w 9 57 5 s Try.underlying9 Try.underlying57 Try.underlying5
  generalize hcap : grownCap w s.size 0 5 = cap at hr
  refine ⟨cap, _, hr, ?_, ?_, ?_, ?_⟩
  · intro j hj
    have e := World.cell?_alloc_mark w.drew (bytesRow s cap) 5 ((bytesRow s cap).size, (bytesRow s cap).size + 1) j
    have e2 : (w.drew.alloc (.cells (bytesRow s cap) 5 ((bytesRow s cap).size, (bytesRow s cap).size + 1))).cell? ⟨w.heap.size, j, none⟩ = (bytesRow s cap)[j]? := e
    rw [e2, bytesRow_at s cap j hj]
    have : s.data.toList.getD j 0 = s.data[j]'hj := by simp [List.getD, Array.getElem?_eq_getElem (show j < s.data.size from hj)]
    rw [this]
  · intro j hj
    have e := World.frozen?_alloc_mark w.drew (bytesRow s cap) 5 (bytesRow s cap).size ((bytesRow s cap).size + 1) j
    have e2 : (w.drew.alloc (.cells (bytesRow s cap) 5 ((bytesRow s cap).size, (bytesRow s cap).size + 1))).frozen? ⟨w.heap.size, j, none⟩ = (decide ((bytesRow s cap).size ≤ j) && decide (j < (bytesRow s cap).size + 1)) := e
    rw [e2]
    have : j < (bytesRow s cap).size := by simp [bytesRow]; have : j < s.data.size := hj; omega
    have : decide ((bytesRow s cap).size ≤ j) = false := by simp; omega
    rw [this]; rfl
  · exact ((Below.refl _ w).drew).alloc (Nat.le_refl _) _
  · show w.heap.size < (w.heap.push _).size
    simp
theorem put_other {α : Type} [Inhabited α] (enc : α → Value) (w : World) (n g off : Nat) (d : Array α) (b : Nat) (h : b ≠ g) : (putRow enc (Sort.ahead w n) g off d).heap[b]? = w.heap[b]? := by
  simp only [putRow, mapBlock, Sort.ahead]
  rw [Array.getElem?_modify, if_neg (Ne.symm h)]
theorem put_size {α : Type} [Inhabited α] (enc : α → Value) (w : World) (n g off : Nat) (d : Array α) : (putRow enc (Sort.ahead w n) g off d).heap.size = w.heap.size := by
  simp [putRow, mapBlock, Sort.ahead]
theorem put_below {α : Type} [Inhabited α] (enc : α → Value) (w : World) (n g off B : Nat) (d : Array α) (h : B ≤ g) : Below B w (putRow enc (Sort.ahead w n) g off d) := by
  exact ⟨rfl, rfl, rfl, by rw [put_size]; exact Nat.le_refl _, fun k hk => put_other enc w n g off d k (by omega)⟩
set_option maxHeartbeats 4000000 in
set_option maxRecDepth 20000 in
theorem backwards_any (s : ByteArray) (hs : s.size ≤ 140737488351232) (w : World) :
    Calls Try.prog 17 #[.string s] w fun e w' => e = .returned (.string ⟨s.data.toList.reverse.toArray⟩) ∧ Below w.heap.size w w' := by
  obtain ⟨cap, W2, hr, hc, hf, hb, hl⟩ := bytes_made w s
  have hH : Holds (fun b : UInt8 => Value.int .u8 (b.toNat : Int)) W2 w.heap.size 0 s.data.toList.toArray := by
    intro j hj
    have hj' : j < s.size := by simpa using hj
    refine ⟨?_, by rw [Nat.zero_add]; exact hf j hj'⟩
    rw [Nat.zero_add, hc j hj']
    rw [getElem!_pos _ j hj]
    simp [List.getD, List.getElem?_eq_getElem (show j < s.data.toList.length by simpa using hj)]
  have hlen : s.data.toList.length = s.size := by rw [Array.length_toList]; rfl
  have hR := AnyE.slices_Reverse Try.revByte (fun b : UInt8 => Value.int .u8 (b.toNat : Int)) (fun _ => rfl) w.heap.size 0 cap s.data.toList W2 hH (by omega)
  rw [hlen] at hR
  have HR : Hid (Calls Try.prog 26 #[.slice (some ⟨w.heap.size, 0, none⟩) s.size cap] W2 fun e w' => e = .returned (.tuple #[]) ∧ ∃ n, w' = putRow (fun b : UInt8 => Value.int .u8 (b.toNat : Int)) (Sort.ahead W2 n) w.heap.size 0 s.data.toList.reverse.toArray) := hR
  have HH : Hid (Holds (fun b : UInt8 => Value.int .u8 (b.toNat : Int)) W2 w.heap.size 0 s.data.toList.toArray) := hH
  have HB : Hid (Below w.heap.size w W2) := hb
  clear hR hH hc hf hb
  go_enter Try.func17, Try.ntmps17
  go_wp2_with fail
  refine HR.out.mono ?_
  rintro _ W3 ⟨rfl, n, hW3⟩
  have HW3 : Hid (W3 = putRow (fun b : UInt8 => Value.int .u8 (b.toNat : Int)) (Sort.ahead W2 n) w.heap.size 0 s.data.toList.reverse.toArray) := hW3
  have hH3 : Holds (fun b : UInt8 => Value.int .u8 (b.toNat : Int)) W3 w.heap.size 0 s.data.toList.reverse.toArray := by
    rw [hW3]; exact Sort.holds_putRow _ _ _ _ _ _ (Sort.holds_ahead _ _ _ _ _ _ HH.out) (by simp)
  have hcv : (convert 57 9 (.slice (some ⟨w.heap.size, 0, none⟩) s.size cap)).run Try.prog W3 = .ok (.string ⟨s.data.toList.reverse.toArray⟩) W3 := by
    have hl2 : s.size = s.data.toList.reverse.length := by rw [List.length_reverse]; exact hlen.symm
    rw [hl2]
    refine run_convert_bytes_back _ 57 9 5 ⟨w.heap.size, 0, none⟩ cap s.data.toList.reverse Try.underlying57 Try.underlying5 Try.underlying9 fun j hj => ?_
    have hadd : (⟨w.heap.size, 0, none⟩ : Addr).add j = ⟨w.heap.size, 0 + j, none⟩ := by rw [Go.WideShapes.add_plain]
    rw [hadd, (hH3 j (by simpa using hj)).1, getElem!_pos _ j (by simpa using hj)]
    simp
  clear hW3 hH3
  go_wp2_with fail
  go_ret
  exact ⟨rfl, HB.out.trans (by rw [HW3.out]; exact put_below _ _ _ _ _ _ _ (Nat.le_refl _))⟩
end Go.Proofs.Ytdnagboonjcehaa
