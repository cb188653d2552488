/-
  RexAlgebra returns true whatever trees and text are handed in, and changes nothing that it was handed; no condition.
-/
import Derived.Test.YtdnagboonjcehaaRows
import Derived.WalkKit
import Derived.ProofKit
import Derived.OpenShut
import Derived.ShutString
import Derived.SizedLaws
import Derived.ChangeOld
import Derived.Below
import Derived.Carry
import Derived.WalkLawsBesides
import Derived.WalkSpells
import Derived.Test.YtdnagboonjcehaaOpens
import Derived.Test.YtdnagboonjcehaaKleene
import Derived.Test.YtdnagboonjcehaaLetter
namespace Go.Proofs.Ytdnagboonjcehaa.rexAlgebra
open Go.ChangeShapes Go.WideShapes Go.ChangeAt Go.RowKit
open Go.ChangeMaps (open_string shut_string)
open Cls Rex
set_option linter.unusedVariables false

theorem own : ownKnob Try.prog.godebug = none := by kernel_rfl
theorem laidOut : laidOutB Try.prog = true := by kernel_rfl

theorem data3 : (⟨#[97, 97, 97]⟩ : ByteArray).data.toList = [97] ++ ([97] ++ ([97] ++ [])) := rfl
theorem aaa_right : bad (.mk 6 empty [(.mk 3 (range 97 97) [])]) ⟨#[97, 97, 97]⟩ = false ∧ Mt (.mk 6 empty [(.mk 3 (range 97 97) [])]) ⟨#[97, 97, 97]⟩ := by
  have hi : Is (.mk 6 empty [(.mk 3 (range 97 97) [])]) (.star (.byte (range 97 97))) := .star (.byte (letter_ne 97 (by omega)))
  have hm : M (.byte (range 97 97)) [97] := .byte (by rw [show (97 : UInt8).toNat = 97 from rfl, mem_range _ _ _ (by omega)]; rfl)
  refine ⟨?_, _, hi, ?_⟩
  · have h1 : err (.mk 6 empty [(.mk 3 (range 97 97) [])]) = 0 := (err0_iff _).2 ⟨_, hi, by simp [E.nodes], by simp [E.deep]⟩
    unfold bad
    rw [h1]; rfl
  · rw [data3]; exact .starS hm (.starS hm (.starS hm .star0))
theorem right_of {t : T} {s : ByteArray} (h : bad t s = false) : ∃ x, Is t x := by
  unfold bad at h
  simp only [Bool.or_eq_false_iff, decide_eq_false_iff_not, Decidable.not_not] at h
  obtain ⟨x, hx, _⟩ := (err0_iff t).1 h.1
  exact ⟨x, hx⟩
theorem algebra_says (r q : T) (s : ByteArray) {a b x y c d : Bool} (ha : bad (.mk 5 empty [r, q]) s = false ∧ (a = true ↔ false = false ∧ Mt (.mk 5 empty [r, q]) s)) (hb : bad (.mk 5 empty [q, r]) s = false ∧ (b = true ↔ false = false ∧ Mt (.mk 5 empty [q, r]) s))
    (hx : bad r s = false ∧ (x = true ↔ false = false ∧ Mt r s)) (hy : bad q s = false ∧ (y = true ↔ false = false ∧ Mt q s)) (hc : bad (.mk 4 empty [r, (.mk 2 empty [])]) s = false ∧ (c = true ↔ false = false ∧ Mt (.mk 4 empty [r, (.mk 2 empty [])]) s)) (hd : bad (.mk 4 empty [r, (.mk 1 empty [])]) s = false ∧ (d = true ↔ false = false ∧ Mt (.mk 4 empty [r, (.mk 1 empty [])]) s)) :
    a = (x || y) ∧ b = (x || y) ∧ c = x ∧ d = false := by
  obtain ⟨er, hr⟩ := right_of hx.1
  obtain ⟨eq, hq⟩ := right_of hy.1
  have fa : a = true ↔ ML (.mk 5 empty [r, q]) s.data.toList := ha.2.trans ⟨fun h => h.2, fun h => ⟨rfl, h⟩⟩
  have fb : b = true ↔ ML (.mk 5 empty [q, r]) s.data.toList := hb.2.trans ⟨fun h => h.2, fun h => ⟨rfl, h⟩⟩
  have fx : x = true ↔ ML r s.data.toList := hx.2.trans ⟨fun h => h.2, fun h => ⟨rfl, h⟩⟩
  have fy : y = true ↔ ML q s.data.toList := hy.2.trans ⟨fun h => h.2, fun h => ⟨rfl, h⟩⟩
  have fc : c = true ↔ ML (.mk 4 empty [r, (.mk 2 empty [])]) s.data.toList := hc.2.trans ⟨fun h => h.2, fun h => ⟨rfl, h⟩⟩
  have fd : d = true ↔ ML (.mk 4 empty [r, (.mk 1 empty [])]) s.data.toList := hd.2.trans ⟨fun h => h.2, fun h => ⟨rfl, h⟩⟩
  rw [ml_alt hr hq, ← fx, ← fy] at fa
  rw [ml_alt hq hr, ← fx, ← fy] at fb
  refine ⟨?_, ?_, ?_, ?_⟩
  · rw [Bool.eq_iff_iff, fa]; simp
  · rw [Bool.eq_iff_iff, fb]; simp; exact Or.comm
  · rw [Bool.eq_iff_iff, fc, fx, ml_cat]
    constructor
    · rintro ⟨u, v, h, h1, h2⟩
      rw [ml_emp] at h2
      rw [h, h2, List.append_nil]; exact h1
    · intro h; exact ⟨_, [], (List.append_nil _).symm, h, (ml_emp _).2 rfl⟩
  · cases d
    · rfl
    · obtain ⟨u, v, _, _, h⟩ := (ml_cat _ _ _).1 (fd.1 rfl)
      exact absurd h (ml_none _)

/-! ### The walk: the Go text returns true. -/
set_option maxHeartbeats 8000000 in
set_option maxRecDepth 20000 in
theorem walk (v0 : Value) (a0t : Rex.T) (v1 : Value) (a1t : Rex.T) (a2 : ByteArray) (w : World) (w0s : Rx w w.heap.size v0 a0t) (w1s : Rx w w.heap.size v1 a1t) (w2 : a2.size ≤ 140737488351232) :
    Calls Try.prog 4 #[v0, v1, .string a2] w fun e w' => e = .returned (.bool true) ∧ Below w.heap.size w w' := by
  obtain ⟨k0, c0, ao0, p0, kids0, vals0, rfl, _⟩ := w0s.shape
  obtain ⟨n0, HN0⟩ : ∃ n, Hid (kids0.length = n) := ⟨_, (rfl : kids0.length = kids0.length)⟩
  rw [HN0.out] at w0s ⊢
  have HX0 : Hid (Rx w w.heap.size (.agg #[.int .i64 k0, .int .u64 (c0.1.toNat : Int), .int .u64 (c0.2.1.toNat : Int), .int .u64 (c0.2.2.1.toNat : Int), .int .u64 (c0.2.2.2.toNat : Int), .slice ao0 n0 p0]) a0t) := w0s
  clear w0s
  obtain ⟨k1, c1, ao1, p1, kids1, vals1, rfl, _⟩ := w1s.shape
  obtain ⟨n1, HN1⟩ : ∃ n, Hid (kids1.length = n) := ⟨_, (rfl : kids1.length = kids1.length)⟩
  rw [HN1.out] at w1s ⊢
  have HX1 : Hid (Rx w w.heap.size (.agg #[.int .i64 k1, .int .u64 (c1.1.toNat : Int), .int .u64 (c1.2.1.toNat : Int), .int .u64 (c1.2.2.1.toNat : Int), .int .u64 (c1.2.2.2.toNat : Int), .slice ao1 n1 p1]) a1t) := w1s
  clear w1s
  obtain ⟨w1, HW1⟩ : ∃ w1, Hid (((w.alloc (.cells #[.int .i64 k0, .int .u64 (c0.1.toNat : Int), .int .u64 (c0.2.1.toNat : Int), .int .u64 (c0.2.2.1.toNat : Int), .int .u64 (c0.2.2.2.toNat : Int), .slice ao0 n0 p0] 27)).alloc (.cells #[.int .i64 k1, .int .u64 (c1.1.toNat : Int), .int .u64 (c1.2.1.toNat : Int), .int .u64 (c1.2.2.1.toNat : Int), .int .u64 (c1.2.2.2.toNat : Int), .slice ao1 n1 p1] 27)) = w1) := ⟨_, (rfl : ((w.alloc (.cells #[.int .i64 k0, .int .u64 (c0.1.toNat : Int), .int .u64 (c0.2.1.toNat : Int), .int .u64 (c0.2.2.1.toNat : Int), .int .u64 (c0.2.2.2.toNat : Int), .slice ao0 n0 p0] 27)).alloc (.cells #[.int .i64 k1, .int .u64 (c1.1.toNat : Int), .int .u64 (c1.2.1.toNat : Int), .int .u64 (c1.2.2.1.toNat : Int), .int .u64 (c1.2.2.2.toNat : Int), .slice ao1 n1 p1] 27)) = ((w.alloc (.cells #[.int .i64 k0, .int .u64 (c0.1.toNat : Int), .int .u64 (c0.2.1.toNat : Int), .int .u64 (c0.2.2.1.toNat : Int), .int .u64 (c0.2.2.2.toNat : Int), .slice ao0 n0 p0] 27)).alloc (.cells #[.int .i64 k1, .int .u64 (c1.1.toNat : Int), .int .u64 (c1.2.1.toNat : Int), .int .u64 (c1.2.2.1.toNat : Int), .int .u64 (c1.2.2.2.toNat : Int), .slice ao1 n1 p1] 27)))⟩
  have hz1 : w1.heap[w.heap.size + 1]? = some (.cells #[.int .i64 k1, .int .u64 (c1.1.toNat : Int), .int .u64 (c1.2.1.toNat : Int), .int .u64 (c1.2.2.1.toNat : Int), .int .u64 (c1.2.2.2.toNat : Int), .slice ao1 n1 p1] 27) := by have := block_new (w.alloc (.cells #[.int .i64 k0, .int .u64 (c0.1.toNat : Int), .int .u64 (c0.2.1.toNat : Int), .int .u64 (c0.2.2.1.toNat : Int), .int .u64 (c0.2.2.2.toNat : Int), .slice ao0 n0 p0] 27)) (.cells #[.int .i64 k1, .int .u64 (c1.1.toNat : Int), .int .u64 (c1.2.1.toNat : Int), .int .u64 (c1.2.2.1.toNat : Int), .int .u64 (c1.2.2.2.toNat : Int), .slice ao1 n1 p1] 27); rw [show (w.alloc (.cells #[.int .i64 k0, .int .u64 (c0.1.toNat : Int), .int .u64 (c0.2.1.toNat : Int), .int .u64 (c0.2.2.1.toNat : Int), .int .u64 (c0.2.2.2.toNat : Int), .slice ao0 n0 p0] 27)).heap.size = w.heap.size + 1 by simp] at this; rw [← HW1.out]; exact this
  have hz0 : w1.heap[w.heap.size]? = some (.cells #[.int .i64 k0, .int .u64 (c0.1.toNat : Int), .int .u64 (c0.2.1.toNat : Int), .int .u64 (c0.2.2.1.toNat : Int), .int .u64 (c0.2.2.2.toNat : Int), .slice ao0 n0 p0] 27) := by rw [← HW1.out]; exact blk_next (box_keep _ _) (block_new w (.cells #[.int .i64 k0, .int .u64 (c0.1.toNat : Int), .int .u64 (c0.2.1.toNat : Int), .int .u64 (c0.2.2.1.toNat : Int), .int .u64 (c0.2.2.2.toNat : Int), .slice ao0 n0 p0] 27))
  have hb0 : Below w.heap.size w w1 := by rw [← HW1.out]; exact (box_keep w _).trans ((box_keep _ _).mono (box_keep w _).size)
  have HZ1 : Hid (w1.heap[w.heap.size]? = some (.cells #[.int .i64 k0, .int .u64 (c0.1.toNat : Int), .int .u64 (c0.2.1.toNat : Int), .int .u64 (c0.2.2.1.toNat : Int), .int .u64 (c0.2.2.2.toNat : Int), .slice ao0 n0 p0] 27) ∧ w1.heap[(w.heap.size + 1)]? = some (.cells #[.int .i64 k1, .int .u64 (c1.1.toNat : Int), .int .u64 (c1.2.1.toNat : Int), .int .u64 (c1.2.2.1.toNat : Int), .int .u64 (c1.2.2.2.toNat : Int), .slice ao1 n1 p1] 27)) := ⟨hz0, hz1⟩
  have HB1 : Hid (Below w.heap.size w w1) := hb0
  clear hz0 hb0 hz1
  go_enter Try.func4, Try.ntmps4
  go_wp2_with fail
  rw [HW1.out]
  refine (letter_any 97 (by omega) (by omega) w1).mono ?_
  rintro _ w2 ⟨v2, rfl, hx, hB⟩
  have HV2 : Hid (Rx w2 w2.heap.size v2 (.mk 3 (range 97 97) [])) := hx
  clear hx
  have HZ2 : Hid (w2.heap[w.heap.size]? = some (.cells #[.int .i64 k0, .int .u64 (c0.1.toNat : Int), .int .u64 (c0.2.1.toNat : Int), .int .u64 (c0.2.2.1.toNat : Int), .int .u64 (c0.2.2.2.toNat : Int), .slice ao0 n0 p0] 27) ∧ w2.heap[(w.heap.size + 1)]? = some (.cells #[.int .i64 k1, .int .u64 (c1.1.toNat : Int), .int .u64 (c1.2.1.toNat : Int), .int .u64 (c1.2.2.1.toNat : Int), .int .u64 (c1.2.2.2.toNat : Int), .slice ao1 n1 p1] 27)) := ⟨blk_next hB HZ1.out.1, blk_next hB HZ1.out.2⟩
  have HB2 : Hid (Below w.heap.size w w2) := HB1.out.trans (hB.mono HB1.out.size)
  clear hB HZ1 HB1
  go_wp2_with fail
  refine (star_any _ v2 _ w2 HV2.out (Nat.le_refl _)).mono ?_
  rintro _ w3 ⟨v3, rfl, hx, hB⟩
  have HV3 : Hid (Rx w3 w3.heap.size v3 (.mk 6 empty [(.mk 3 (range 97 97) [])])) := hx
  clear hx HV2
  have HZ3 : Hid (w3.heap[w.heap.size]? = some (.cells #[.int .i64 k0, .int .u64 (c0.1.toNat : Int), .int .u64 (c0.2.1.toNat : Int), .int .u64 (c0.2.2.1.toNat : Int), .int .u64 (c0.2.2.2.toNat : Int), .slice ao0 n0 p0] 27) ∧ w3.heap[(w.heap.size + 1)]? = some (.cells #[.int .i64 k1, .int .u64 (c1.1.toNat : Int), .int .u64 (c1.2.1.toNat : Int), .int .u64 (c1.2.2.1.toNat : Int), .int .u64 (c1.2.2.2.toNat : Int), .slice ao1 n1 p1] 27)) := ⟨blk_next hB HZ2.out.1, blk_next hB HZ2.out.2⟩
  have HB3 : Hid (Below w.heap.size w w3) := HB2.out.trans (hB.mono HB2.out.size)
  clear hB HZ2 HB2
  go_wp2_with fail
  refine (is_any _ v3 _ _ w3 HV3.out (Nat.le_refl _)).mono ?_
  rintro _ w4 ⟨b0, rfl, h, hB⟩
  obtain rfl : b0 = true := h.2 aaa_right
  clear h HV3
  have HZ4 : Hid (w4.heap[w.heap.size]? = some (.cells #[.int .i64 k0, .int .u64 (c0.1.toNat : Int), .int .u64 (c0.2.1.toNat : Int), .int .u64 (c0.2.2.1.toNat : Int), .int .u64 (c0.2.2.2.toNat : Int), .slice ao0 n0 p0] 27) ∧ w4.heap[(w.heap.size + 1)]? = some (.cells #[.int .i64 k1, .int .u64 (c1.1.toNat : Int), .int .u64 (c1.2.1.toNat : Int), .int .u64 (c1.2.2.1.toNat : Int), .int .u64 (c1.2.2.2.toNat : Int), .slice ao1 n1 p1] 27)) := ⟨blk_next hB HZ3.out.1, blk_next hB HZ3.out.2⟩
  have HB4 : Hid (Below w.heap.size w w4) := HB3.out.trans (hB.mono HB3.out.size)
  clear hB HZ3 HB3
  have y00 := cell_of_row w4 w.heap.size 0 _ 27 (0, 0) HZ4.out.1
  have y01 := cell_of_row w4 w.heap.size 1 _ 27 (0, 0) HZ4.out.1
  have y02 := cell_of_row w4 w.heap.size 2 _ 27 (0, 0) HZ4.out.1
  have y03 := cell_of_row w4 w.heap.size 3 _ 27 (0, 0) HZ4.out.1
  have y04 := cell_of_row w4 w.heap.size 4 _ 27 (0, 0) HZ4.out.1
  have y05 := cell_of_row w4 w.heap.size 5 _ 27 (0, 0) HZ4.out.1
  simp only [List.getElem?_toArray, List.getElem?_cons_zero, List.getElem?_cons_succ] at y00 y01 y02 y03 y04 y05
  have y10 := cell_of_row w4 (w.heap.size + 1) 0 _ 27 (0, 0) HZ4.out.2
  have y11 := cell_of_row w4 (w.heap.size + 1) 1 _ 27 (0, 0) HZ4.out.2
  have y12 := cell_of_row w4 (w.heap.size + 1) 2 _ 27 (0, 0) HZ4.out.2
  have y13 := cell_of_row w4 (w.heap.size + 1) 3 _ 27 (0, 0) HZ4.out.2
  have y14 := cell_of_row w4 (w.heap.size + 1) 4 _ 27 (0, 0) HZ4.out.2
  have y15 := cell_of_row w4 (w.heap.size + 1) 5 _ 27 (0, 0) HZ4.out.2
  simp only [List.getElem?_toArray, List.getElem?_cons_zero, List.getElem?_cons_succ] at y10 y11 y12 y13 y14 y15
  go_wp2_with fail
  clear y00 y01 y02 y03 y04 y05 y10 y11 y12 y13 y14 y15
  refine (two_any 5 ⟨by omega, by omega⟩ a0t a1t _ _ w4.heap.size w4 ((HX0.out.next HB4.out).wide HB4.out.size) ((HX1.out.next HB4.out).wide HB4.out.size) (Nat.le_refl _)).mono ?_
  rintro _ w5 ⟨v5, rfl, hx, hB⟩
  have HV5 : Hid (Rx w5 w5.heap.size v5 (.mk 5 empty [a0t, a1t])) := hx
  clear hx
  have HZ5 : Hid (w5.heap[w.heap.size]? = some (.cells #[.int .i64 k0, .int .u64 (c0.1.toNat : Int), .int .u64 (c0.2.1.toNat : Int), .int .u64 (c0.2.2.1.toNat : Int), .int .u64 (c0.2.2.2.toNat : Int), .slice ao0 n0 p0] 27) ∧ w5.heap[(w.heap.size + 1)]? = some (.cells #[.int .i64 k1, .int .u64 (c1.1.toNat : Int), .int .u64 (c1.2.1.toNat : Int), .int .u64 (c1.2.2.1.toNat : Int), .int .u64 (c1.2.2.2.toNat : Int), .slice ao1 n1 p1] 27)) := ⟨blk_next hB HZ4.out.1, blk_next hB HZ4.out.2⟩
  have HB5 : Hid (Below w.heap.size w w5) := HB4.out.trans (hB.mono HB4.out.size)
  clear hB HZ4 HB4
  go_wp2_with fail
  refine (is_any (.mk 5 empty [a0t, a1t]) _ _ _ w5 HV5.out (Nat.le_refl _)).mono ?_
  rintro _ w6 ⟨a, rfl, h, hB⟩
  generalize hβ : bad (.mk 5 empty [a0t, a1t]) _ = βa at h ⊢
  have Ha : Hid (bad (.mk 5 empty [a0t, a1t]) a2 = βa ∧ (a = true ↔ βa = false ∧ Mt (.mk 5 empty [a0t, a1t]) a2)) := ⟨hβ, h⟩
  clear hβ h
  have HZ6 : Hid (w6.heap[w.heap.size]? = some (.cells #[.int .i64 k0, .int .u64 (c0.1.toNat : Int), .int .u64 (c0.2.1.toNat : Int), .int .u64 (c0.2.2.1.toNat : Int), .int .u64 (c0.2.2.2.toNat : Int), .slice ao0 n0 p0] 27) ∧ w6.heap[(w.heap.size + 1)]? = some (.cells #[.int .i64 k1, .int .u64 (c1.1.toNat : Int), .int .u64 (c1.2.1.toNat : Int), .int .u64 (c1.2.2.1.toNat : Int), .int .u64 (c1.2.2.2.toNat : Int), .slice ao1 n1 p1] 27)) := ⟨blk_next hB HZ5.out.1, blk_next hB HZ5.out.2⟩
  have HB6 : Hid (Below w.heap.size w w6) := HB5.out.trans (hB.mono HB5.out.size)
  clear hB HZ5 HB5
  have y10 := cell_of_row w6 (w.heap.size + 1) 0 _ 27 (0, 0) HZ6.out.2
  have y11 := cell_of_row w6 (w.heap.size + 1) 1 _ 27 (0, 0) HZ6.out.2
  have y12 := cell_of_row w6 (w.heap.size + 1) 2 _ 27 (0, 0) HZ6.out.2
  have y13 := cell_of_row w6 (w.heap.size + 1) 3 _ 27 (0, 0) HZ6.out.2
  have y14 := cell_of_row w6 (w.heap.size + 1) 4 _ 27 (0, 0) HZ6.out.2
  have y15 := cell_of_row w6 (w.heap.size + 1) 5 _ 27 (0, 0) HZ6.out.2
  simp only [List.getElem?_toArray, List.getElem?_cons_zero, List.getElem?_cons_succ] at y10 y11 y12 y13 y14 y15
  have y00 := cell_of_row w6 w.heap.size 0 _ 27 (0, 0) HZ6.out.1
  have y01 := cell_of_row w6 w.heap.size 1 _ 27 (0, 0) HZ6.out.1
  have y02 := cell_of_row w6 w.heap.size 2 _ 27 (0, 0) HZ6.out.1
  have y03 := cell_of_row w6 w.heap.size 3 _ 27 (0, 0) HZ6.out.1
  have y04 := cell_of_row w6 w.heap.size 4 _ 27 (0, 0) HZ6.out.1
  have y05 := cell_of_row w6 w.heap.size 5 _ 27 (0, 0) HZ6.out.1
  simp only [List.getElem?_toArray, List.getElem?_cons_zero, List.getElem?_cons_succ] at y00 y01 y02 y03 y04 y05
  go_wp2_with fail
  clear y10 y11 y12 y13 y14 y15 y00 y01 y02 y03 y04 y05
  refine (two_any 5 ⟨by omega, by omega⟩ a1t a0t _ _ w6.heap.size w6 ((HX1.out.next HB6.out).wide HB6.out.size) ((HX0.out.next HB6.out).wide HB6.out.size) (Nat.le_refl _)).mono ?_
  rintro _ w7 ⟨v7, rfl, hx, hB⟩
  have HV7 : Hid (Rx w7 w7.heap.size v7 (.mk 5 empty [a1t, a0t])) := hx
  clear hx
  have HZ7 : Hid (w7.heap[w.heap.size]? = some (.cells #[.int .i64 k0, .int .u64 (c0.1.toNat : Int), .int .u64 (c0.2.1.toNat : Int), .int .u64 (c0.2.2.1.toNat : Int), .int .u64 (c0.2.2.2.toNat : Int), .slice ao0 n0 p0] 27) ∧ w7.heap[(w.heap.size + 1)]? = some (.cells #[.int .i64 k1, .int .u64 (c1.1.toNat : Int), .int .u64 (c1.2.1.toNat : Int), .int .u64 (c1.2.2.1.toNat : Int), .int .u64 (c1.2.2.2.toNat : Int), .slice ao1 n1 p1] 27)) := ⟨blk_next hB HZ6.out.1, blk_next hB HZ6.out.2⟩
  have HB7 : Hid (Below w.heap.size w w7) := HB6.out.trans (hB.mono HB6.out.size)
  clear hB HZ6 HB6
  go_wp2_with fail
  refine (is_any (.mk 5 empty [a1t, a0t]) _ _ _ w7 HV7.out (Nat.le_refl _)).mono ?_
  rintro _ w8 ⟨b, rfl, h, hB⟩
  generalize hβ : bad (.mk 5 empty [a1t, a0t]) _ = βb at h ⊢
  have Hb : Hid (bad (.mk 5 empty [a1t, a0t]) a2 = βb ∧ (b = true ↔ βb = false ∧ Mt (.mk 5 empty [a1t, a0t]) a2)) := ⟨hβ, h⟩
  clear hβ h
  have HZ8 : Hid (w8.heap[w.heap.size]? = some (.cells #[.int .i64 k0, .int .u64 (c0.1.toNat : Int), .int .u64 (c0.2.1.toNat : Int), .int .u64 (c0.2.2.1.toNat : Int), .int .u64 (c0.2.2.2.toNat : Int), .slice ao0 n0 p0] 27) ∧ w8.heap[(w.heap.size + 1)]? = some (.cells #[.int .i64 k1, .int .u64 (c1.1.toNat : Int), .int .u64 (c1.2.1.toNat : Int), .int .u64 (c1.2.2.1.toNat : Int), .int .u64 (c1.2.2.2.toNat : Int), .slice ao1 n1 p1] 27)) := ⟨blk_next hB HZ7.out.1, blk_next hB HZ7.out.2⟩
  have HB8 : Hid (Below w.heap.size w w8) := HB7.out.trans (hB.mono HB7.out.size)
  clear hB HZ7 HB7
  have y00 := cell_of_row w8 w.heap.size 0 _ 27 (0, 0) HZ8.out.1
  have y01 := cell_of_row w8 w.heap.size 1 _ 27 (0, 0) HZ8.out.1
  have y02 := cell_of_row w8 w.heap.size 2 _ 27 (0, 0) HZ8.out.1
  have y03 := cell_of_row w8 w.heap.size 3 _ 27 (0, 0) HZ8.out.1
  have y04 := cell_of_row w8 w.heap.size 4 _ 27 (0, 0) HZ8.out.1
  have y05 := cell_of_row w8 w.heap.size 5 _ 27 (0, 0) HZ8.out.1
  simp only [List.getElem?_toArray, List.getElem?_cons_zero, List.getElem?_cons_succ] at y00 y01 y02 y03 y04 y05
  go_wp2_with fail
  clear y00 y01 y02 y03 y04 y05
  refine (is_any a0t _ _ _ w8 ((HX0.out.next HB8.out).wide HB8.out.size) (Nat.le_refl _)).mono ?_
  rintro _ w9 ⟨x, rfl, h, hB⟩
  generalize hβ : bad a0t _ = βx at h ⊢
  have Hx : Hid (bad a0t a2 = βx ∧ (x = true ↔ βx = false ∧ Mt a0t a2)) := ⟨hβ, h⟩
  clear hβ h
  have HZ9 : Hid (w9.heap[w.heap.size]? = some (.cells #[.int .i64 k0, .int .u64 (c0.1.toNat : Int), .int .u64 (c0.2.1.toNat : Int), .int .u64 (c0.2.2.1.toNat : Int), .int .u64 (c0.2.2.2.toNat : Int), .slice ao0 n0 p0] 27) ∧ w9.heap[(w.heap.size + 1)]? = some (.cells #[.int .i64 k1, .int .u64 (c1.1.toNat : Int), .int .u64 (c1.2.1.toNat : Int), .int .u64 (c1.2.2.1.toNat : Int), .int .u64 (c1.2.2.2.toNat : Int), .slice ao1 n1 p1] 27)) := ⟨blk_next hB HZ8.out.1, blk_next hB HZ8.out.2⟩
  have HB9 : Hid (Below w.heap.size w w9) := HB8.out.trans (hB.mono HB8.out.size)
  clear hB HZ8 HB8
  have y10 := cell_of_row w9 (w.heap.size + 1) 0 _ 27 (0, 0) HZ9.out.2
  have y11 := cell_of_row w9 (w.heap.size + 1) 1 _ 27 (0, 0) HZ9.out.2
  have y12 := cell_of_row w9 (w.heap.size + 1) 2 _ 27 (0, 0) HZ9.out.2
  have y13 := cell_of_row w9 (w.heap.size + 1) 3 _ 27 (0, 0) HZ9.out.2
  have y14 := cell_of_row w9 (w.heap.size + 1) 4 _ 27 (0, 0) HZ9.out.2
  have y15 := cell_of_row w9 (w.heap.size + 1) 5 _ 27 (0, 0) HZ9.out.2
  simp only [List.getElem?_toArray, List.getElem?_cons_zero, List.getElem?_cons_succ] at y10 y11 y12 y13 y14 y15
  go_wp2_with fail
  clear y10 y11 y12 y13 y14 y15
  refine (is_any a1t _ _ _ w9 ((HX1.out.next HB9.out).wide HB9.out.size) (Nat.le_refl _)).mono ?_
  rintro _ w10 ⟨y, rfl, h, hB⟩
  generalize hβ : bad a1t _ = βy at h ⊢
  have Hy : Hid (bad a1t a2 = βy ∧ (y = true ↔ βy = false ∧ Mt a1t a2)) := ⟨hβ, h⟩
  clear hβ h
  have HZ10 : Hid (w10.heap[w.heap.size]? = some (.cells #[.int .i64 k0, .int .u64 (c0.1.toNat : Int), .int .u64 (c0.2.1.toNat : Int), .int .u64 (c0.2.2.1.toNat : Int), .int .u64 (c0.2.2.2.toNat : Int), .slice ao0 n0 p0] 27) ∧ w10.heap[(w.heap.size + 1)]? = some (.cells #[.int .i64 k1, .int .u64 (c1.1.toNat : Int), .int .u64 (c1.2.1.toNat : Int), .int .u64 (c1.2.2.1.toNat : Int), .int .u64 (c1.2.2.2.toNat : Int), .slice ao1 n1 p1] 27)) := ⟨blk_next hB HZ9.out.1, blk_next hB HZ9.out.2⟩
  have HB10 : Hid (Below w.heap.size w w10) := HB9.out.trans (hB.mono HB9.out.size)
  clear hB HZ9 HB9
  have y00 := cell_of_row w10 w.heap.size 0 _ 27 (0, 0) HZ10.out.1
  have y01 := cell_of_row w10 w.heap.size 1 _ 27 (0, 0) HZ10.out.1
  have y02 := cell_of_row w10 w.heap.size 2 _ 27 (0, 0) HZ10.out.1
  have y03 := cell_of_row w10 w.heap.size 3 _ 27 (0, 0) HZ10.out.1
  have y04 := cell_of_row w10 w.heap.size 4 _ 27 (0, 0) HZ10.out.1
  have y05 := cell_of_row w10 w.heap.size 5 _ 27 (0, 0) HZ10.out.1
  simp only [List.getElem?_toArray, List.getElem?_cons_zero, List.getElem?_cons_succ] at y00 y01 y02 y03 y04 y05
  go_wp2_with fail
  clear y00 y01 y02 y03 y04 y05
  refine (two_any 4 ⟨by omega, by omega⟩ a0t (.mk 2 empty []) _ _ w10.heap.size w10 ((HX0.out.next HB10.out).wide HB10.out.size) (Rx.mk 2 empty none 0 [] (fun _ => .slice none 0 0) ⟨by omega, by omega⟩ (by simp) (Or.inl rfl) (fun i hi => absurd hi (Nat.not_lt_zero _))) (Nat.le_refl _)).mono ?_
  rintro _ w11 ⟨v11, rfl, hx, hB⟩
  have HV11 : Hid (Rx w11 w11.heap.size v11 (.mk 4 empty [a0t, (.mk 2 empty [])])) := hx
  clear hx
  have HZ11 : Hid (w11.heap[w.heap.size]? = some (.cells #[.int .i64 k0, .int .u64 (c0.1.toNat : Int), .int .u64 (c0.2.1.toNat : Int), .int .u64 (c0.2.2.1.toNat : Int), .int .u64 (c0.2.2.2.toNat : Int), .slice ao0 n0 p0] 27) ∧ w11.heap[(w.heap.size + 1)]? = some (.cells #[.int .i64 k1, .int .u64 (c1.1.toNat : Int), .int .u64 (c1.2.1.toNat : Int), .int .u64 (c1.2.2.1.toNat : Int), .int .u64 (c1.2.2.2.toNat : Int), .slice ao1 n1 p1] 27)) := ⟨blk_next hB HZ10.out.1, blk_next hB HZ10.out.2⟩
  have HB11 : Hid (Below w.heap.size w w11) := HB10.out.trans (hB.mono HB10.out.size)
  clear hB HZ10 HB10
  go_wp2_with fail
  refine (is_any (.mk 4 empty [a0t, (.mk 2 empty [])]) _ _ _ w11 HV11.out (Nat.le_refl _)).mono ?_
  rintro _ w12 ⟨c, rfl, h, hB⟩
  generalize hβ : bad (.mk 4 empty [a0t, (.mk 2 empty [])]) _ = βc at h ⊢
  have Hc : Hid (bad (.mk 4 empty [a0t, (.mk 2 empty [])]) a2 = βc ∧ (c = true ↔ βc = false ∧ Mt (.mk 4 empty [a0t, (.mk 2 empty [])]) a2)) := ⟨hβ, h⟩
  clear hβ h
  have HZ12 : Hid (w12.heap[w.heap.size]? = some (.cells #[.int .i64 k0, .int .u64 (c0.1.toNat : Int), .int .u64 (c0.2.1.toNat : Int), .int .u64 (c0.2.2.1.toNat : Int), .int .u64 (c0.2.2.2.toNat : Int), .slice ao0 n0 p0] 27) ∧ w12.heap[(w.heap.size + 1)]? = some (.cells #[.int .i64 k1, .int .u64 (c1.1.toNat : Int), .int .u64 (c1.2.1.toNat : Int), .int .u64 (c1.2.2.1.toNat : Int), .int .u64 (c1.2.2.2.toNat : Int), .slice ao1 n1 p1] 27)) := ⟨blk_next hB HZ11.out.1, blk_next hB HZ11.out.2⟩
  have HB12 : Hid (Below w.heap.size w w12) := HB11.out.trans (hB.mono HB11.out.size)
  clear hB HZ11 HB11
  have y00 := cell_of_row w12 w.heap.size 0 _ 27 (0, 0) HZ12.out.1
  have y01 := cell_of_row w12 w.heap.size 1 _ 27 (0, 0) HZ12.out.1
  have y02 := cell_of_row w12 w.heap.size 2 _ 27 (0, 0) HZ12.out.1
  have y03 := cell_of_row w12 w.heap.size 3 _ 27 (0, 0) HZ12.out.1
  have y04 := cell_of_row w12 w.heap.size 4 _ 27 (0, 0) HZ12.out.1
  have y05 := cell_of_row w12 w.heap.size 5 _ 27 (0, 0) HZ12.out.1
  simp only [List.getElem?_toArray, List.getElem?_cons_zero, List.getElem?_cons_succ] at y00 y01 y02 y03 y04 y05
  go_wp2_with fail
  clear y00 y01 y02 y03 y04 y05
  refine (two_any 4 ⟨by omega, by omega⟩ a0t (.mk 1 empty []) _ _ w12.heap.size w12 ((HX0.out.next HB12.out).wide HB12.out.size) (Rx.mk 1 empty none 0 [] (fun _ => .slice none 0 0) ⟨by omega, by omega⟩ (by simp) (Or.inl rfl) (fun i hi => absurd hi (Nat.not_lt_zero _))) (Nat.le_refl _)).mono ?_
  rintro _ w13 ⟨v13, rfl, hx, hB⟩
  have HV13 : Hid (Rx w13 w13.heap.size v13 (.mk 4 empty [a0t, (.mk 1 empty [])])) := hx
  clear hx
  have HZ13 : Hid (w13.heap[w.heap.size]? = some (.cells #[.int .i64 k0, .int .u64 (c0.1.toNat : Int), .int .u64 (c0.2.1.toNat : Int), .int .u64 (c0.2.2.1.toNat : Int), .int .u64 (c0.2.2.2.toNat : Int), .slice ao0 n0 p0] 27) ∧ w13.heap[(w.heap.size + 1)]? = some (.cells #[.int .i64 k1, .int .u64 (c1.1.toNat : Int), .int .u64 (c1.2.1.toNat : Int), .int .u64 (c1.2.2.1.toNat : Int), .int .u64 (c1.2.2.2.toNat : Int), .slice ao1 n1 p1] 27)) := ⟨blk_next hB HZ12.out.1, blk_next hB HZ12.out.2⟩
  have HB13 : Hid (Below w.heap.size w w13) := HB12.out.trans (hB.mono HB12.out.size)
  clear hB HZ12 HB12
  go_wp2_with fail
  refine (is_any (.mk 4 empty [a0t, (.mk 1 empty [])]) _ _ _ w13 HV13.out (Nat.le_refl _)).mono ?_
  rintro _ w14 ⟨d, rfl, h, hB⟩
  generalize hβ : bad (.mk 4 empty [a0t, (.mk 1 empty [])]) _ = βd at h ⊢
  have Hd : Hid (bad (.mk 4 empty [a0t, (.mk 1 empty [])]) a2 = βd ∧ (d = true ↔ βd = false ∧ Mt (.mk 4 empty [a0t, (.mk 1 empty [])]) a2)) := ⟨hβ, h⟩
  clear hβ h
  have HZ14 : Hid (w14.heap[w.heap.size]? = some (.cells #[.int .i64 k0, .int .u64 (c0.1.toNat : Int), .int .u64 (c0.2.1.toNat : Int), .int .u64 (c0.2.2.1.toNat : Int), .int .u64 (c0.2.2.2.toNat : Int), .slice ao0 n0 p0] 27) ∧ w14.heap[(w.heap.size + 1)]? = some (.cells #[.int .i64 k1, .int .u64 (c1.1.toNat : Int), .int .u64 (c1.2.1.toNat : Int), .int .u64 (c1.2.2.1.toNat : Int), .int .u64 (c1.2.2.2.toNat : Int), .slice ao1 n1 p1] 27)) := ⟨blk_next hB HZ13.out.1, blk_next hB HZ13.out.2⟩
  have HB14 : Hid (Below w.heap.size w w14) := HB13.out.trans (hB.mono HB13.out.size)
  clear hB HZ13 HB13
  cases βa
  case true => go_wp2_with fail; go_ret; exact ⟨rfl, HB14.out⟩
  cases βb
  case true => go_wp2_with fail; go_ret; exact ⟨rfl, HB14.out⟩
  cases βx
  case true => go_wp2_with fail; go_ret; exact ⟨rfl, HB14.out⟩
  cases βy
  case true => go_wp2_with fail; go_ret; exact ⟨rfl, HB14.out⟩
  cases βc
  case true => go_wp2_with fail; go_ret; exact ⟨rfl, HB14.out⟩
  cases βd
  case true => go_wp2_with fail; go_ret; exact ⟨rfl, HB14.out⟩
  obtain ⟨h1, h2, h3, h4⟩ := algebra_says a0t a1t a2 Ha.out Hb.out Hx.out Hy.out Hc.out Hd.out
  subst h1 h2 h3 h4
  clear Ha Hb Hx Hy Hc Hd
  cases c <;> cases y <;> (go_wp2_with fail; go_ret; exact ⟨rfl, HB14.out⟩)

/-! ### What the walk gives, for every argument -/
set_option maxRecDepth 100000 in
theorem contract (H : Type) (enc : TypeId × Value → H) (W : World) (base : Nat) (args : Array Value) (ds gs : List (DataW H)) (before : List MemPlace)
    (hval : ∀ (j : Nat) t v, Try.f4.params[j]? = some t → args[j]? = some v → Value.okWide Try.prog W .any base t v)
    (hW : DataW.Whole enc Try.prog Try.f4.params.toList Rows.rexAlgebraSpec.vars false W args.toList ds gs before) (hsz : (DataW.weightsEach Try.prog (Try.f4.params.toList ++ Rows.rexAlgebraSpec.plain.varTypes Try.prog) (ds ++ gs)).all (· ≤ reachBytes) = true) :
    Calls Try.prog 4 args W fun e W' => ∃ v, e = .returned v ∧ Rows.rexAlgebraSpec.post enc Try.prog Try.f4 false true false false W args v W' := by
  have hW' := hW
  obtain ⟨p, q, hA0, hV, rfl, hfz, hnd⟩ := hW
  have hA : DataW.TrodAll enc Try.prog W 0 (fun _ => true) true Try.f4.params.toList args.toList ds p := hA0
  rw [Try.params4] at hA hval hsz
  obtain ⟨v0, vs0, d0, ds0, p0, q0, hargs, rfl, rfl, h0, r0⟩ := trodAll_cons hA
  obtain ⟨v1, vs1, d1, ds1, p1, q1, rfl, rfl, rfl, h1, r1⟩ := trodAll_cons r0
  obtain ⟨v2, vs2, d2, ds2, p2, q2, rfl, rfl, rfl, h2, r2⟩ := trodAll_cons r1
  obtain ⟨rfl, rfl, rfl⟩ := trodAll_nil r2
  obtain rfl : args = #[v0, v1, v2] := by cases args; simp_all
  obtain ⟨rfl, rfl⟩ := trodVars_none hV
  have k0 := h0
  have lt0 : ∀ x ∈ p0, x.block < W.heap.size := by obtain ⟨m, hm⟩ := k0; exact DataW.trod_lt m _ _ _ hm
  obtain ⟨a0t, w0s⟩ := open_rex (hval 0 27 v0 rfl rfl) h0
  have k1 := h1
  have lt1 : ∀ x ∈ p1, x.block < W.heap.size := by obtain ⟨m, hm⟩ := k1; exact DataW.trod_lt m _ _ _ hm
  obtain ⟨a1t, w1s⟩ := open_rex (hval 1 27 v1 rfl rfl) h1
  obtain ⟨a2, rfl, rfl, rfl, w2⟩ := open_string Try.underlying9 (hval 2 9 v2 rfl rfl) h2
  have r2z : a2.size ≤ 140737488351232 := by have := sized_string hsz (j := 2) (t := 9) rfl rfl; simpa [reachBytes] using this
  clear hA0
  refine (walk _ a0t _ a1t a2 W w0s w1s r2z).mono fun e W' ⟨he, bel⟩ => ?_
  subst he
  exact ⟨_, rfl, _, _, _, [], _, [], hW', trodAll_mk1 (shut_bool Try.underlying4 _), (trodAll_cons_mk (Below.trod laidOut (by kernel_rfl) (of_decide_eq_true (by kernel_rfl)) k0 bel lt0) (trodAll_cons_mk (Below.trod laidOut (by kernel_rfl) (of_decide_eq_true (by kernel_rfl)) k1 bel lt1) (trodAll_cons_mk (shut_string Try.underlying9 w2) trodAll_mk0))), rfl, bel.frame _, fun h => by cases h⟩

/-! ### The row's step -/
set_option maxRecDepth 100000 in
theorem lifted (os : Os) (started : os.Started) (H : Type) (enc : TypeId × Value → H) :
    ReturnsInHanded {} Try.checked os 4 .any (Rows.rexAlgebraSpec.pre6 enc Try.prog Try.f4 Rows.rexAlgebraRow.domain false) (Rows.rexAlgebraSpec.post enc Try.prog Try.f4 false true false false) := by
  refine returnsInHanded_of_change_sized (C := Try.checked) own started (by kernel_rfl) Try.func4
    (ChangeSpec.witness6 (enc := enc) (C := Try.checked) false ⟨#[], #[.agg #[.int .i64 0, .int .u64 0, .int .u64 0, .int .u64 0, .int .u64 0, .slice none 0 0], .agg #[.int .i64 0, .int .u64 0, .int .u64 0, .int .u64 0, .int .u64 0, .slice none 0 0], .string .empty], []⟩ 8 (by kernel_rfl) (by kernel_rfl) (by kernel_rfl) (by kernel_rfl)) ?_
  intro W base args ds gs before hval hW hcnd hsz _
  exact contract H enc W base args ds gs before hval hW hsz

theorem over : Rows.rexAlgebraRow.holds Try.pinned (OpenSpec.ofChange Rows.rexAlgebraSpec) :=
  OpenClaim.holds_of_wide 4 Try.f4 rfl rfl rfl rfl rfl rfl rfl ⟨rfl, rfl, rfl, rfl, rfl⟩ rfl rfl rfl rfl rfl (by kernel_rfl) Try.func4 (by kernel_rfl)
    (of_decide_eq_true (by kernel_rfl)) (by unfold Func.isWrapper; first | (rw [if_pos (by decide +kernel)]; kernel_rfl) | (rw [if_neg (by decide +kernel)]; exact ⟨rfl, rfl⟩))
    (fun os started H enc _ => lifted os started H enc)

end Go.Proofs.Ytdnagboonjcehaa.rexAlgebra
namespace Go.Proofs.Ytdnagboonjcehaa
/-- The given statement. -/
theorem rexAlgebra_holds : Rows.RexAlgebraSaid := rexAlgebra.over
#print axioms rexAlgebra_holds
end Go.Proofs.Ytdnagboonjcehaa
