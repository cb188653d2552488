/-
  The contracts of frame.Write and pushref.FrameText: each answers the bytes that YtnheaafepejaoaaMath says (pushref.FrameText of a frame that can be written); what was there stays.
-/
import Derived.Test.YtnheaafepejaoaaTails
namespace Go.Proofs.Ytnheaafepejaoaa
open Go.RowKit
open Frm Crc

theorem conv_head {w : World} {g c : Nat} {t : TypeId} {fr : Nat × Nat} (k wh : Int) (b : ByteArray) (h : chk ⟨k, wh, b⟩ = 0) (hb : w.heap[g]? = some (.cells #[.int .u8 k, .int .u8 wh, .int .u8 ((b.size : Int) % 256), .int .u8 ((b.size : Int) / 256)] t fr)) :
    (convert 44 9 (.slice (some ⟨g, 0, none⟩) 4 c)).run Try.prog w = .ok (.string ⟨(head ⟨k, wh, b⟩).toArray⟩) w := by
  obtain ⟨h1, h2, h3, h4, h5⟩ := chk_ok ⟨k, wh, b⟩ h
  simp only at h1 h2 h3 h4 h5
  exact conv4 hb _ _ _ _ (by rw [UInt8.toNat_ofNat']; simp only; omega) (by rw [UInt8.toNat_ofNat']; simp only; omega) (by rw [UInt8.toNat_ofNat']; simp only; omega) (by rw [UInt8.toNat_ofNat']; simp only; omega)
theorem cat_front (f : Fr) : ByteArray.mk (head f).toArray ++ f.body = ByteArray.mk (front f).toArray := by
  apply ByteArray.ext
  simp [front]
theorem cat_wire (f : Fr) : ByteArray.mk (front f).toArray ++ ByteArray.mk (tail (front f)).toArray = ByteArray.mk (wire f).toArray := by
  apply ByteArray.ext
  simp [wire]
theorem size_mk (l : List UInt8) : (ByteArray.mk l.toArray).size = l.length := by simp [ByteArray.size]

set_option maxHeartbeats 400000 in
theorem write_bad (k wh : Int) (b : ByteArray) (h : chk ⟨k, wh, b⟩ ≠ 0) (w : World) :
    Calls Try.prog 10 #[.agg #[.int .i64 k, .int .i64 wh, .string b]] w fun e w' => e = .returned (.tuple #[.string ⟨#[]⟩, .int .i64 ((chk ⟨k, wh, b⟩ : Nat) : Int)]) ∧ Below w.heap.size w w' := by
  have hb : (((chk ⟨k, wh, b⟩ : Nat) : Int) == 0) = false := by simp; omega
  go_enter Try.func10, Try.ntmps10
  go_wp2_with fail
  refine (check_parts k wh b _).mono ?_
  rintro e w1 ⟨rfl, hb1⟩
  go_wp2_with fail
  go_ret2
  exact ⟨rfl, ((Below.refl _ _).alloc (Nat.le_refl _) _).trans (hb1.mono (by simp))⟩

set_option maxHeartbeats 400000 in
set_option maxRecDepth 20000 in
theorem write_good (k wh : Int) (b : ByteArray) (h : chk ⟨k, wh, b⟩ = 0) (w : World) :
    Calls Try.prog 10 #[.agg #[.int .i64 k, .int .i64 wh, .string b]] w fun e w' => e = .returned (.tuple #[.string ⟨(wire ⟨k, wh, b⟩).toArray⟩, .int .i64 0]) ∧ Below w.heap.size w w' := by
  obtain ⟨h1, h2, h3, h4, h5⟩ := chk_ok ⟨k, wh, b⟩ h
  simp only at h1 h2 h3 h4 h5
  have hq : (b.size : Int) ≤ 1024 := by omega
  go_enter Try.func10, Try.ntmps10
  go_wp2_with fail
  refine (check_parts k wh b _).mono ?_
  rintro e w1 ⟨rfl, hb1⟩
  rw [h]
  have hsz := hb1.size
  have c0 : w1.cell? ⟨w.heap.size, 0, none⟩ = some (.int .i64 k) := by rw [hb1.cell (by simp)]; simp
  have c1 : w1.cell? ⟨w.heap.size, 1, none⟩ = some (.int .i64 wh) := by rw [hb1.cell (by simp)]; simp
  have c2 : w1.cell? ⟨w.heap.size, 2, none⟩ = some (.string b) := by rw [hb1.cell (by simp)]; simp
  have hlt : w.heap.size < w1.heap.size := by have := hsz; simp at this; omega
  have hconv := conv_head (c := 4) k wh b h (heap_alloc_new w1 (Obj.cells #[.int .u8 k, .int .u8 wh, .int .u8 ((b.size : Int) % 256), .int .u8 ((b.size : Int) / 256)] 5))
  have hl := front_length ⟨k, wh, b⟩
  have hs1 : (ByteArray.mk (head ⟨k, wh, b⟩).toArray).size + b.size ≤ 9223372036854775807 := by rw [size_mk]; simp [head]; omega
  have HF : Hid (ByteArray.mk (head ⟨k, wh, b⟩).toArray ++ b = ByteArray.mk (front ⟨k, wh, b⟩).toArray) := cat_front ⟨k, wh, b⟩
  go_wp2_with fail
  rw [HF.out]
  have hs2 : (ByteArray.mk (front ⟨k, wh, b⟩).toArray).size ≤ 9223372036854775807 := by rw [size_mk]; omega
  refine (tail_any _ hs2 _).mono ?_
  rintro e w2 ⟨rfl, hb2⟩
  have hs3 : (ByteArray.mk (front ⟨k, wh, b⟩).toArray).size + (ByteArray.mk (tail (front ⟨k, wh, b⟩)).toArray).size ≤ 9223372036854775807 := by rw [size_mk, size_mk, tail_length]; omega
  simp only
  go_wp2_with fail
  go_ret2
  have HB : Below w.heap.size w w2 := (((Below.refl _ w).alloc (Nat.le_refl _) _).trans (hb1.mono (by simp))).alloc (by omega) _ |>.trans (hb2.mono (by simp; omega))
  exact ⟨by rw [cat_wire]; rfl, HB⟩

set_option maxHeartbeats 400000 in
set_option maxRecDepth 20000 in
theorem text_good (k wh : Int) (b : ByteArray) (h : chk ⟨k, wh, b⟩ = 0) (w : World) :
    Calls Try.prog 11 #[.agg #[.int .i64 k, .int .i64 wh, .string b]] w fun e w' => e = .returned (.string ⟨(wire ⟨k, wh, b⟩).toArray⟩) ∧ Below w.heap.size w w' := by
  obtain ⟨h1, h2, h3, h4, h5⟩ := chk_ok ⟨k, wh, b⟩ h
  simp only at h1 h2 h3 h4 h5
  have hq : (b.size : Int) ≤ 1024 := by omega
  have hbk : ((w.alloc (Obj.cells #[.int .i64 k, .int .i64 wh, .string b] 23)).alloc (Obj.cells #[.int .u8 k, .int .u8 wh, .int .u8 ((b.size : Int) % 256), .int .u8 ((b.size : Int) / 256)] 5)).heap[w.heap.size + 1]? = some (Obj.cells #[.int .u8 k, .int .u8 wh, .int .u8 ((b.size : Int) % 256), .int .u8 ((b.size : Int) / 256)] 5) := by
    have := heap_alloc_new (w.alloc (Obj.cells #[.int .i64 k, .int .i64 wh, .string b] 23)) (Obj.cells #[.int .u8 k, .int .u8 wh, .int .u8 ((b.size : Int) % 256), .int .u8 ((b.size : Int) / 256)] 5)
    rwa [World.size_alloc] at this
  have hconv := conv_head (c := 4) k wh b h hbk
  have hl := front_length ⟨k, wh, b⟩
  have hs1 : (ByteArray.mk (head ⟨k, wh, b⟩).toArray).size + b.size ≤ 9223372036854775807 := by rw [size_mk]; simp [head]; omega
  have HF : Hid (ByteArray.mk (head ⟨k, wh, b⟩).toArray ++ b = ByteArray.mk (front ⟨k, wh, b⟩).toArray) := cat_front ⟨k, wh, b⟩
  clear hbk
  go_enter Try.func11, Try.ntmps11
  go_wp2_with fail
  rw [HF.out]
  have hs2 : (ByteArray.mk (front ⟨k, wh, b⟩).toArray).size ≤ 9223372036854775807 := by rw [size_mk]; omega
  refine (ref_any 0 _ (by omega) hs2 _).mono ?_
  rintro e w1 ⟨rfl, hw1⟩
  subst hw1
  obtain ⟨n, HN, hn⟩ : ∃ n : Nat, Hid (n = more 0 (front ⟨k, wh, b⟩)) ∧ n < 4294967296 := ⟨_, rfl, more_lt (by omega) _⟩
  simp only
  rw [← HN.out]
  go_wp2_with fail
  refine (four_any n hn _).mono ?_
  rintro e w2 ⟨rfl, hb2⟩
  have hs3 : (ByteArray.mk (front ⟨k, wh, b⟩).toArray).size + (ByteArray.mk (le 4 n).toArray).size ≤ 9223372036854775807 := by rw [size_mk, size_mk]; simp [le]; omega
  go_wp2_with fail
  go_ret
  have HB : Below w.heap.size w w2 := (((Below.refl _ w).alloc (Nat.le_refl _) _).alloc (by simp) _).trans (hb2.mono (by simp; omega))
  exact ⟨by rw [HN.out, ← cat_wire]; rfl, HB⟩
/-- What Write answers. -/
def out (f : Fr) : List UInt8 := if chk f = 0 then wire f else []
theorem out_good (f : Fr) (h : chk f = 0) : out f = wire f := if_pos h
theorem out_bad (f : Fr) (h : chk f ≠ 0) : out f = [] := if_neg h
theorem write_parts (k wh : Int) (b : ByteArray) (w : World) :
    Calls Try.prog 10 #[.agg #[.int .i64 k, .int .i64 wh, .string b]] w fun e w' => e = .returned (.tuple #[.string ⟨(out ⟨k, wh, b⟩).toArray⟩, .int .i64 ((chk ⟨k, wh, b⟩ : Nat) : Int)]) ∧ Below w.heap.size w w' := by
  by_cases h : chk ⟨k, wh, b⟩ = 0
  · have := write_good k wh b h w
    rw [out_good _ h, h]
    exact this
  · have := write_bad k wh b h w
    rw [out_bad _ h]
    exact this
end Go.Proofs.Ytnheaafepejaoaa
