/-
  RexSplits returns true whatever trees and text are handed in, and changes nothing that it was handed; no condition.
-/
import Derived.Test.YtdnagboonjcehaaRows
import Derived.WalkKit
import Derived.ProofKit
import Derived.OpenShut
import Derived.ShutString
import Derived.SizedLaws
import Derived.ChangeOld
import Derived.Below
import Derived.Carry
import Derived.WalkLawsBesides
import Derived.WalkSpells
import Derived.Test.YtdnagboonjcehaaOpens
import Derived.Test.YtdnagboonjcehaaIsAt
namespace Go.Proofs.Ytdnagboonjcehaa.rexSplits
open Go.ChangeShapes Go.WideShapes Go.ChangeAt Go.RowKit
open Go.ChangeMaps (open_string shut_string)
open Cls Rex
set_option linter.unusedVariables false

theorem own : ownKnob Try.prog.godebug = none := by kernel_rfl
theorem laidOut : laidOutB Try.prog = true := by kernel_rfl

theorem splits_says {r q : T} {s : ByteArray} {a : Bool} (ha : bad (.mk 4 empty [r, q]) s = false ∧ (a = true ↔ Mt (.mk 4 empty [r, q]) s)) :
    a = true ↔ ∃ j, j < s.size + 1 ∧ ML r (s.data.toList.take j) ∧ ML q (s.data.toList.drop j) := by
  have fa : a = true ↔ ML (.mk 4 empty [r, q]) s.data.toList := ha.2
  rw [fa, ml_cat]
  constructor
  · rintro ⟨u, v, h, h1, h2⟩
    refine ⟨u.length, ?_, ?_, ?_⟩
    · have : s.data.toList.length = s.size := by rw [Array.length_toList]; rfl
      rw [h, List.length_append] at this; omega
    · rw [h]; simpa using h1
    · rw [h]; simpa using h2
  · rintro ⟨j, _, h1, h2⟩
    exact ⟨_, _, (List.take_append_drop j _).symm, h1, h2⟩
theorem splits_step {r q : T} {s : ByteArray} {i : Nat} {x y : Bool} (ha : bad (.mk 4 empty [r, q]) s = false) (hx : x = true ↔ bad r (s.extract 0 i) = false ∧ Mt r (s.extract 0 i)) (hy : y = true ↔ bad q (s.extract i s.size) = false ∧ Mt q (s.extract i s.size))
    (hI : false = true ↔ ∃ j, j < i ∧ ML r (s.data.toList.take j) ∧ ML q (s.data.toList.drop j)) (hi : i ≤ s.size) (hs : s.size ≤ 60) :
    (x && y) = true ↔ ∃ j, j < i + 1 ∧ ML r (s.data.toList.take j) ∧ ML q (s.data.toList.drop j) := by
  obtain ⟨z, hz, hn, hd⟩ := right_of ha
  cases hz with
  | @cat _ _ a b h1 h2 =>
    simp only [E.nodes, E.deep] at hn hd
    have b1 : bad r (s.extract 0 i) = false := bad_false.2 ⟨(err0_iff _).2 ⟨a, h1, by omega, by omega⟩, by rw [ByteArray.size_extract]; omega⟩
    have b2 : bad q (s.extract i s.size) = false := bad_false.2 ⟨(err0_iff _).2 ⟨b, h2, by omega, by omega⟩, by rw [ByteArray.size_extract]; omega⟩
    have fx : x = true ↔ ML r (s.data.toList.take i) := by rw [hx, ← take_of]; exact ⟨fun h => h.2, fun h => ⟨b1, h⟩⟩
    have fy : y = true ↔ ML q (s.data.toList.drop i) := by rw [hy, ← drop_of]; exact ⟨fun h => h.2, fun h => ⟨b2, h⟩⟩
    rw [Bool.and_eq_true, fx, fy]
    constructor
    · rintro ⟨h3, h4⟩; exact ⟨i, by omega, h3, h4⟩
    · rintro ⟨j, h3, h4⟩
      by_cases hj : j = i
      · subst hj; exact h4
      · exact absurd (hI.2 ⟨j, by omega, h4⟩) (by simp)

/-! ### The walk: the Go text returns true. -/
set_option maxHeartbeats 8000000 in
set_option maxRecDepth 20000 in
theorem walk (v0 : Value) (a0t : Rex.T) (v1 : Value) (a1t : Rex.T) (a2 : ByteArray) (w : World) (w0s : Rx w w.heap.size v0 a0t) (w1s : Rx w w.heap.size v1 a1t) (w2 : a2.size ≤ 140737488351232) :
    Calls Try.prog 5 #[v0, v1, .string a2] w fun e w' => e = .returned (.bool true) ∧ Below w.heap.size w w' := by
  obtain ⟨k0, c0, ao0, p0, kids0, vals0, rfl, _⟩ := w0s.shape
  obtain ⟨n0, HN0⟩ : ∃ n, Hid (kids0.length = n) := ⟨_, (rfl : kids0.length = kids0.length)⟩
  rw [HN0.out] at w0s ⊢
  have HX0 : Hid (Rx w w.heap.size (.agg #[.int .i64 k0, .int .u64 (c0.1.toNat : Int), .int .u64 (c0.2.1.toNat : Int), .int .u64 (c0.2.2.1.toNat : Int), .int .u64 (c0.2.2.2.toNat : Int), .slice ao0 n0 p0]) a0t) := w0s
  clear w0s
  obtain ⟨k1, c1, ao1, p1, kids1, vals1, rfl, _⟩ := w1s.shape
  obtain ⟨n1, HN1⟩ : ∃ n, Hid (kids1.length = n) := ⟨_, (rfl : kids1.length = kids1.length)⟩
  rw [HN1.out] at w1s ⊢
  have HX1 : Hid (Rx w w.heap.size (.agg #[.int .i64 k1, .int .u64 (c1.1.toNat : Int), .int .u64 (c1.2.1.toNat : Int), .int .u64 (c1.2.2.1.toNat : Int), .int .u64 (c1.2.2.2.toNat : Int), .slice ao1 n1 p1]) a1t) := w1s
  clear w1s
  obtain ⟨w1, HW1⟩ : ∃ w1, Hid (((w.alloc (.cells #[.int .i64 k0, .int .u64 (c0.1.toNat : Int), .int .u64 (c0.2.1.toNat : Int), .int .u64 (c0.2.2.1.toNat : Int), .int .u64 (c0.2.2.2.toNat : Int), .slice ao0 n0 p0] 27)).alloc (.cells #[.int .i64 k1, .int .u64 (c1.1.toNat : Int), .int .u64 (c1.2.1.toNat : Int), .int .u64 (c1.2.2.1.toNat : Int), .int .u64 (c1.2.2.2.toNat : Int), .slice ao1 n1 p1] 27)) = w1) := ⟨_, (rfl : ((w.alloc (.cells #[.int .i64 k0, .int .u64 (c0.1.toNat : Int), .int .u64 (c0.2.1.toNat : Int), .int .u64 (c0.2.2.1.toNat : Int), .int .u64 (c0.2.2.2.toNat : Int), .slice ao0 n0 p0] 27)).alloc (.cells #[.int .i64 k1, .int .u64 (c1.1.toNat : Int), .int .u64 (c1.2.1.toNat : Int), .int .u64 (c1.2.2.1.toNat : Int), .int .u64 (c1.2.2.2.toNat : Int), .slice ao1 n1 p1] 27)) = ((w.alloc (.cells #[.int .i64 k0, .int .u64 (c0.1.toNat : Int), .int .u64 (c0.2.1.toNat : Int), .int .u64 (c0.2.2.1.toNat : Int), .int .u64 (c0.2.2.2.toNat : Int), .slice ao0 n0 p0] 27)).alloc (.cells #[.int .i64 k1, .int .u64 (c1.1.toNat : Int), .int .u64 (c1.2.1.toNat : Int), .int .u64 (c1.2.2.1.toNat : Int), .int .u64 (c1.2.2.2.toNat : Int), .slice ao1 n1 p1] 27)))⟩
  have hz1 : w1.heap[w.heap.size + 1]? = some (.cells #[.int .i64 k1, .int .u64 (c1.1.toNat : Int), .int .u64 (c1.2.1.toNat : Int), .int .u64 (c1.2.2.1.toNat : Int), .int .u64 (c1.2.2.2.toNat : Int), .slice ao1 n1 p1] 27) := by have := block_new (w.alloc (.cells #[.int .i64 k0, .int .u64 (c0.1.toNat : Int), .int .u64 (c0.2.1.toNat : Int), .int .u64 (c0.2.2.1.toNat : Int), .int .u64 (c0.2.2.2.toNat : Int), .slice ao0 n0 p0] 27)) (.cells #[.int .i64 k1, .int .u64 (c1.1.toNat : Int), .int .u64 (c1.2.1.toNat : Int), .int .u64 (c1.2.2.1.toNat : Int), .int .u64 (c1.2.2.2.toNat : Int), .slice ao1 n1 p1] 27); rw [show (w.alloc (.cells #[.int .i64 k0, .int .u64 (c0.1.toNat : Int), .int .u64 (c0.2.1.toNat : Int), .int .u64 (c0.2.2.1.toNat : Int), .int .u64 (c0.2.2.2.toNat : Int), .slice ao0 n0 p0] 27)).heap.size = w.heap.size + 1 by simp] at this; rw [← HW1.out]; exact this
  have hz0 : w1.heap[w.heap.size]? = some (.cells #[.int .i64 k0, .int .u64 (c0.1.toNat : Int), .int .u64 (c0.2.1.toNat : Int), .int .u64 (c0.2.2.1.toNat : Int), .int .u64 (c0.2.2.2.toNat : Int), .slice ao0 n0 p0] 27) := by rw [← HW1.out]; exact blk_next (box_keep _ _) (block_new w (.cells #[.int .i64 k0, .int .u64 (c0.1.toNat : Int), .int .u64 (c0.2.1.toNat : Int), .int .u64 (c0.2.2.1.toNat : Int), .int .u64 (c0.2.2.2.toNat : Int), .slice ao0 n0 p0] 27))
  have hb0 : Below w.heap.size w w1 := by rw [← HW1.out]; exact (box_keep w _).trans ((box_keep _ _).mono (box_keep w _).size)
  have HZ1 : Hid (w1.heap[w.heap.size]? = some (.cells #[.int .i64 k0, .int .u64 (c0.1.toNat : Int), .int .u64 (c0.2.1.toNat : Int), .int .u64 (c0.2.2.1.toNat : Int), .int .u64 (c0.2.2.2.toNat : Int), .slice ao0 n0 p0] 27) ∧ w1.heap[(w.heap.size + 1)]? = some (.cells #[.int .i64 k1, .int .u64 (c1.1.toNat : Int), .int .u64 (c1.2.1.toNat : Int), .int .u64 (c1.2.2.1.toNat : Int), .int .u64 (c1.2.2.2.toNat : Int), .slice ao1 n1 p1] 27)) := ⟨hz0, hz1⟩
  have HB1 : Hid (Below w.heap.size w w1) := hb0
  clear hz0 hb0 hz1
  go_enter Try.func5, Try.ntmps5
  go_wp2_with fail
  rw [HW1.out]
  refine (letter_any 97 (by omega) (by omega) w1).mono ?_
  rintro _ w2 ⟨v2, rfl, hx, hB⟩
  have HV2 : Hid (Rx w2 w2.heap.size v2 (.mk 3 (range 97 97) [])) := hx
  clear hx
  have HZ2 : Hid (w2.heap[w.heap.size]? = some (.cells #[.int .i64 k0, .int .u64 (c0.1.toNat : Int), .int .u64 (c0.2.1.toNat : Int), .int .u64 (c0.2.2.1.toNat : Int), .int .u64 (c0.2.2.2.toNat : Int), .slice ao0 n0 p0] 27) ∧ w2.heap[(w.heap.size + 1)]? = some (.cells #[.int .i64 k1, .int .u64 (c1.1.toNat : Int), .int .u64 (c1.2.1.toNat : Int), .int .u64 (c1.2.2.1.toNat : Int), .int .u64 (c1.2.2.2.toNat : Int), .slice ao1 n1 p1] 27)) := ⟨blk_next hB HZ1.out.1, blk_next hB HZ1.out.2⟩
  have HB2 : Hid (Below w.heap.size w w2) := HB1.out.trans (hB.mono HB1.out.size)
  clear hB HZ1 HB1
  go_wp2_with fail
  refine (letter_any 98 (by omega) (by omega) w2).mono ?_
  rintro _ w3 ⟨v3, rfl, hx, hB⟩
  have HV3 : Hid (Rx w3 w3.heap.size v3 (.mk 3 (range 98 98) []) ∧ Rx w3 w3.heap.size v2 (.mk 3 (range 97 97) [])) := ⟨hx, (HV2.out.next hB).wide hB.size⟩
  clear hx HV2
  have HZ3 : Hid (w3.heap[w.heap.size]? = some (.cells #[.int .i64 k0, .int .u64 (c0.1.toNat : Int), .int .u64 (c0.2.1.toNat : Int), .int .u64 (c0.2.2.1.toNat : Int), .int .u64 (c0.2.2.2.toNat : Int), .slice ao0 n0 p0] 27) ∧ w3.heap[(w.heap.size + 1)]? = some (.cells #[.int .i64 k1, .int .u64 (c1.1.toNat : Int), .int .u64 (c1.2.1.toNat : Int), .int .u64 (c1.2.2.1.toNat : Int), .int .u64 (c1.2.2.2.toNat : Int), .slice ao1 n1 p1] 27)) := ⟨blk_next hB HZ2.out.1, blk_next hB HZ2.out.2⟩
  have HB3 : Hid (Below w.heap.size w w3) := HB2.out.trans (hB.mono HB2.out.size)
  clear hB HZ2 HB2
  go_wp2_with fail
  refine (two_any 4 ⟨by omega, by omega⟩ (.mk 3 (range 97 97) []) (.mk 3 (range 98 98) []) _ _ w3.heap.size w3 HV3.out.2 HV3.out.1 (Nat.le_refl _)).mono ?_
  rintro _ w4 ⟨v4, rfl, hx, hB⟩
  have HV4 : Hid (Rx w4 w4.heap.size v4 (.mk 4 empty [(.mk 3 (range 97 97) []), (.mk 3 (range 98 98) [])])) := hx
  clear hx HV3
  have HZ4 : Hid (w4.heap[w.heap.size]? = some (.cells #[.int .i64 k0, .int .u64 (c0.1.toNat : Int), .int .u64 (c0.2.1.toNat : Int), .int .u64 (c0.2.2.1.toNat : Int), .int .u64 (c0.2.2.2.toNat : Int), .slice ao0 n0 p0] 27) ∧ w4.heap[(w.heap.size + 1)]? = some (.cells #[.int .i64 k1, .int .u64 (c1.1.toNat : Int), .int .u64 (c1.2.1.toNat : Int), .int .u64 (c1.2.2.1.toNat : Int), .int .u64 (c1.2.2.2.toNat : Int), .slice ao1 n1 p1] 27)) := ⟨blk_next hB HZ3.out.1, blk_next hB HZ3.out.2⟩
  have HB4 : Hid (Below w.heap.size w w4) := HB3.out.trans (hB.mono HB3.out.size)
  clear hB HZ3 HB3
  go_wp2_with fail
  refine (is_any _ v4 _ _ w4 HV4.out (Nat.le_refl _)).mono ?_
  rintro _ w5 ⟨b0, rfl, h, hB⟩
  obtain rfl : b0 = true := h.2 ab_right
  clear h HV4
  have HZ5 : Hid (w5.heap[w.heap.size]? = some (.cells #[.int .i64 k0, .int .u64 (c0.1.toNat : Int), .int .u64 (c0.2.1.toNat : Int), .int .u64 (c0.2.2.1.toNat : Int), .int .u64 (c0.2.2.2.toNat : Int), .slice ao0 n0 p0] 27) ∧ w5.heap[(w.heap.size + 1)]? = some (.cells #[.int .i64 k1, .int .u64 (c1.1.toNat : Int), .int .u64 (c1.2.1.toNat : Int), .int .u64 (c1.2.2.1.toNat : Int), .int .u64 (c1.2.2.2.toNat : Int), .slice ao1 n1 p1] 27)) := ⟨blk_next hB HZ4.out.1, blk_next hB HZ4.out.2⟩
  have HB5 : Hid (Below w.heap.size w w5) := HB4.out.trans (hB.mono HB4.out.size)
  clear hB HZ4 HB4
  have y00 := cell_of_row w5 w.heap.size 0 _ 27 (0, 0) HZ5.out.1
  have y01 := cell_of_row w5 w.heap.size 1 _ 27 (0, 0) HZ5.out.1
  have y02 := cell_of_row w5 w.heap.size 2 _ 27 (0, 0) HZ5.out.1
  have y03 := cell_of_row w5 w.heap.size 3 _ 27 (0, 0) HZ5.out.1
  have y04 := cell_of_row w5 w.heap.size 4 _ 27 (0, 0) HZ5.out.1
  have y05 := cell_of_row w5 w.heap.size 5 _ 27 (0, 0) HZ5.out.1
  simp only [List.getElem?_toArray, List.getElem?_cons_zero, List.getElem?_cons_succ] at y00 y01 y02 y03 y04 y05
  have y10 := cell_of_row w5 (w.heap.size + 1) 0 _ 27 (0, 0) HZ5.out.2
  have y11 := cell_of_row w5 (w.heap.size + 1) 1 _ 27 (0, 0) HZ5.out.2
  have y12 := cell_of_row w5 (w.heap.size + 1) 2 _ 27 (0, 0) HZ5.out.2
  have y13 := cell_of_row w5 (w.heap.size + 1) 3 _ 27 (0, 0) HZ5.out.2
  have y14 := cell_of_row w5 (w.heap.size + 1) 4 _ 27 (0, 0) HZ5.out.2
  have y15 := cell_of_row w5 (w.heap.size + 1) 5 _ 27 (0, 0) HZ5.out.2
  simp only [List.getElem?_toArray, List.getElem?_cons_zero, List.getElem?_cons_succ] at y10 y11 y12 y13 y14 y15
  by_cases hl : 60 < a2.size
  · have hl' : 60 < (a2.size : Int) := by omega
    go_wp2_with fail
    obtain ⟨σ, HE⟩ : ∃ σ, Hid (a2.extract 0 60 = σ) := ⟨_, (rfl : a2.extract 0 60 = a2.extract 0 60)⟩
    have hS : σ.size ≤ 60 := by rw [← HE.out, ByteArray.size_extract]; omega
    rw [HE.out]
    clear HE hl hl' w2
    clear y00 y01 y02 y03 y04 y05 y10 y11 y12 y13 y14 y15
    refine (two_any 4 ⟨by omega, by omega⟩ a0t a1t _ _ w5.heap.size w5 ((HX0.out.next HB5.out).wide HB5.out.size) ((HX1.out.next HB5.out).wide HB5.out.size) (Nat.le_refl _)).mono ?_
    rintro _ w6 ⟨v6, rfl, hx, hB⟩
    have HV6 : Hid (Rx w6 w6.heap.size v6 (.mk 4 empty [a0t, a1t])) := hx
    clear hx
    have HZ6 : Hid (w6.heap[w.heap.size]? = some (.cells #[.int .i64 k0, .int .u64 (c0.1.toNat : Int), .int .u64 (c0.2.1.toNat : Int), .int .u64 (c0.2.2.1.toNat : Int), .int .u64 (c0.2.2.2.toNat : Int), .slice ao0 n0 p0] 27) ∧ w6.heap[(w.heap.size + 1)]? = some (.cells #[.int .i64 k1, .int .u64 (c1.1.toNat : Int), .int .u64 (c1.2.1.toNat : Int), .int .u64 (c1.2.2.1.toNat : Int), .int .u64 (c1.2.2.2.toNat : Int), .slice ao1 n1 p1] 27)) := ⟨blk_next hB HZ5.out.1, blk_next hB HZ5.out.2⟩
    have HB6 : Hid (Below w.heap.size w w6) := HB5.out.trans (hB.mono HB5.out.size)
    clear hB HZ5 HB5
    go_wp2_with fail
    refine (is_any (.mk 4 empty [a0t, a1t]) _ _ _ w6 HV6.out (Nat.le_refl _)).mono ?_
    rintro _ w7 ⟨a, rfl, h, hB⟩
    generalize hβ : bad (.mk 4 empty [a0t, a1t]) _ = βa at h ⊢
    have HA : Hid (bad (.mk 4 empty [a0t, a1t]) σ = βa ∧ (a = true ↔ βa = false ∧ Mt (.mk 4 empty [a0t, a1t]) σ)) := ⟨hβ, h⟩
    clear hβ h
    have HZ7 : Hid (w7.heap[w.heap.size]? = some (.cells #[.int .i64 k0, .int .u64 (c0.1.toNat : Int), .int .u64 (c0.2.1.toNat : Int), .int .u64 (c0.2.2.1.toNat : Int), .int .u64 (c0.2.2.2.toNat : Int), .slice ao0 n0 p0] 27) ∧ w7.heap[(w.heap.size + 1)]? = some (.cells #[.int .i64 k1, .int .u64 (c1.1.toNat : Int), .int .u64 (c1.2.1.toNat : Int), .int .u64 (c1.2.2.1.toNat : Int), .int .u64 (c1.2.2.2.toNat : Int), .slice ao1 n1 p1] 27)) := ⟨blk_next hB HZ6.out.1, blk_next hB HZ6.out.2⟩
    have HB7 : Hid (Below w.heap.size w w7) := HB6.out.trans (hB.mono HB6.out.size)
    clear hB HZ6 HB6
    cases βa
    case true => go_wp2_with fail; go_ret; exact ⟨rfl, HB7.out⟩
    have HA' : Hid (bad (.mk 4 empty [a0t, a1t]) σ = false ∧ (a = true ↔ Mt (.mk 4 empty [a0t, a1t]) σ)) := ⟨HA.out.1, HA.out.2.trans ⟨fun h => h.2, fun h => ⟨rfl, h⟩⟩⟩
    clear HA
    have y00 := cell_of_row w7 w.heap.size 0 _ 27 (0, 0) HZ7.out.1
    have y01 := cell_of_row w7 w.heap.size 1 _ 27 (0, 0) HZ7.out.1
    have y02 := cell_of_row w7 w.heap.size 2 _ 27 (0, 0) HZ7.out.1
    have y03 := cell_of_row w7 w.heap.size 3 _ 27 (0, 0) HZ7.out.1
    have y04 := cell_of_row w7 w.heap.size 4 _ 27 (0, 0) HZ7.out.1
    have y05 := cell_of_row w7 w.heap.size 5 _ 27 (0, 0) HZ7.out.1
    simp only [List.getElem?_toArray, List.getElem?_cons_zero, List.getElem?_cons_succ] at y00 y01 y02 y03 y04 y05
    have y10 := cell_of_row w7 (w.heap.size + 1) 0 _ 27 (0, 0) HZ7.out.2
    have y11 := cell_of_row w7 (w.heap.size + 1) 1 _ 27 (0, 0) HZ7.out.2
    have y12 := cell_of_row w7 (w.heap.size + 1) 2 _ 27 (0, 0) HZ7.out.2
    have y13 := cell_of_row w7 (w.heap.size + 1) 3 _ 27 (0, 0) HZ7.out.2
    have y14 := cell_of_row w7 (w.heap.size + 1) 4 _ 27 (0, 0) HZ7.out.2
    have y15 := cell_of_row w7 (w.heap.size + 1) 5 _ 27 (0, 0) HZ7.out.2
    simp only [List.getElem?_toArray, List.getElem?_cons_zero, List.getElem?_cons_succ] at y10 y11 y12 y13 y14 y15
    have HW7 : Hid (Sb w7 w7) := Below.refl _ w7
    go_wp2_with fail
    go_loopw [11, 12] (fun x z wr => ∃ (i : Nat) (b : Bool), x = .bool b ∧ z = .int .i64 (i : Int) ∧ i ≤ σ.size + 1 ∧ Hid ((b = true ↔ ∃ j, j < i ∧ ML a0t (σ.data.toList.take j) ∧ ML a1t (σ.data.toList.drop j)) ∧ Sb w7 wr)) (fun x z _ => (if x matches .bool true then 0 else σ.size + 2 - (intOf z).toNat))
    case atStart => exact ⟨0, false, rfl, rfl, by omega, ⟨by simp, HW7.out⟩⟩
    case round =>
      obtain ⟨i, b, rfl, rfl, hi, HI⟩ := hrel
      by_cases hlt : i ≤ σ.size
      · have hlt' : (i : Int) ≤ (σ.size : Int) := by omega
        cases b
        case true =>
          obtain rfl : a = true := (splits_says HA'.out).2 (by obtain ⟨j, h1, h2⟩ := HI.out.1.1 rfl; exact ⟨j, by omega, h2⟩)
          go_wp2_with fail
          go_ret
          exact ⟨rfl, HB7.out.trans (Below.mono HI.out.2 HB7.out.size)⟩
        case false =>
          obtain ⟨x, HNx⟩ : ∃ b : Bool, Hid (b = true ↔ bad a0t (σ.extract 0 i) = false ∧ Mt a0t (σ.extract 0 i)) := named _
          obtain ⟨βx, HLx⟩ : ∃ b : Bool, Hid (bad a0t (σ.extract 0 i) = b) := ⟨_, (rfl : bad a0t (σ.extract 0 i) = bad a0t (σ.extract 0 i))⟩
          have Hx : Hid (∀ p : Kp (Sb w7), Calls Try.prog 11 #[(.agg #[.int .i64 k0, .int .u64 (c0.1.toNat : Int), .int .u64 (c0.2.1.toNat : Int), .int .u64 (c0.2.2.1.toNat : Int), .int .u64 (c0.2.2.2.toNat : Int), .slice ao0 n0 p0]), .string (σ.extract 0 i)] p.W fun e w' => e = .returned (.tuple #[.bool x, .bool βx]) ∧ Below p.W.heap.size p.W w') := fun p => by
            have h := is_at a0t _ _ (σ.extract 0 i) p.W (((HX0.out.next HB7.out).wide HB7.out.size).next p.h) (Below.size p.h) x HNx.out
            rw [HLx.out] at h
            exact h
          obtain ⟨y, HNy⟩ : ∃ b : Bool, Hid (b = true ↔ bad a1t (σ.extract i σ.size) = false ∧ Mt a1t (σ.extract i σ.size)) := named _
          obtain ⟨βy, HLy⟩ : ∃ b : Bool, Hid (bad a1t (σ.extract i σ.size) = b) := ⟨_, (rfl : bad a1t (σ.extract i σ.size) = bad a1t (σ.extract i σ.size))⟩
          have Hy : Hid (∀ p : Kp (Sb w7), Calls Try.prog 11 #[(.agg #[.int .i64 k1, .int .u64 (c1.1.toNat : Int), .int .u64 (c1.2.1.toNat : Int), .int .u64 (c1.2.2.1.toNat : Int), .int .u64 (c1.2.2.2.toNat : Int), .slice ao1 n1 p1]), .string (σ.extract i σ.size)] p.W fun e w' => e = .returned (.tuple #[.bool y, .bool βy]) ∧ Below p.W.heap.size p.W w') := fun p => by
            have h := is_at a1t _ _ (σ.extract i σ.size) p.W (((HX1.out.next HB7.out).wide HB7.out.size).next p.h) (Below.size p.h) y HNy.out
            rw [HLy.out] at h
            exact h
          go_wp2_with fail
          have z00 : ∀ p : Kp (Sb w7), p.W.cell? ⟨w.heap.size, 0, none⟩ = _ := fun p => (Below.cell p.h (p := ⟨w.heap.size, 0, none⟩) (blk_lt HZ7.out.1)).trans y00
          have z01 : ∀ p : Kp (Sb w7), p.W.cell? ⟨w.heap.size, 1, none⟩ = _ := fun p => (Below.cell p.h (p := ⟨w.heap.size, 1, none⟩) (blk_lt HZ7.out.1)).trans y01
          have z02 : ∀ p : Kp (Sb w7), p.W.cell? ⟨w.heap.size, 2, none⟩ = _ := fun p => (Below.cell p.h (p := ⟨w.heap.size, 2, none⟩) (blk_lt HZ7.out.1)).trans y02
          have z03 : ∀ p : Kp (Sb w7), p.W.cell? ⟨w.heap.size, 3, none⟩ = _ := fun p => (Below.cell p.h (p := ⟨w.heap.size, 3, none⟩) (blk_lt HZ7.out.1)).trans y03
          have z04 : ∀ p : Kp (Sb w7), p.W.cell? ⟨w.heap.size, 4, none⟩ = _ := fun p => (Below.cell p.h (p := ⟨w.heap.size, 4, none⟩) (blk_lt HZ7.out.1)).trans y04
          have z05 : ∀ p : Kp (Sb w7), p.W.cell? ⟨w.heap.size, 5, none⟩ = _ := fun p => (Below.cell p.h (p := ⟨w.heap.size, 5, none⟩) (blk_lt HZ7.out.1)).trans y05
          have hne : Nonempty (Kp (Sb w7)) := ⟨⟨_, HW7.out⟩⟩
          refine wp_region_kept mixed (by kernel_rfl) (S := Sb w7) (Below.drew HI.out.2) ?_
          repeat (go_big_quiet_step (first | (go_at_call 11; with_reducible exact Kp.calls _ Sb.next (Hx.out _))))
          refine wpQuiet_nil ?_
          intro Wx hw
          obtain ⟨⟨Wx, HS⟩, rfl⟩ := hw
          have HSx : Hid (Sb w7 Wx) := HS
          clear z00 z01 z02 z03 z04 z05 hne HS
          go_wp2_with fail
          have z10 : ∀ p : Kp (Sb w7), p.W.cell? ⟨(w.heap.size + 1), 0, none⟩ = _ := fun p => (Below.cell p.h (p := ⟨(w.heap.size + 1), 0, none⟩) (blk_lt HZ7.out.2)).trans y10
          have z11 : ∀ p : Kp (Sb w7), p.W.cell? ⟨(w.heap.size + 1), 1, none⟩ = _ := fun p => (Below.cell p.h (p := ⟨(w.heap.size + 1), 1, none⟩) (blk_lt HZ7.out.2)).trans y11
          have z12 : ∀ p : Kp (Sb w7), p.W.cell? ⟨(w.heap.size + 1), 2, none⟩ = _ := fun p => (Below.cell p.h (p := ⟨(w.heap.size + 1), 2, none⟩) (blk_lt HZ7.out.2)).trans y12
          have z13 : ∀ p : Kp (Sb w7), p.W.cell? ⟨(w.heap.size + 1), 3, none⟩ = _ := fun p => (Below.cell p.h (p := ⟨(w.heap.size + 1), 3, none⟩) (blk_lt HZ7.out.2)).trans y13
          have z14 : ∀ p : Kp (Sb w7), p.W.cell? ⟨(w.heap.size + 1), 4, none⟩ = _ := fun p => (Below.cell p.h (p := ⟨(w.heap.size + 1), 4, none⟩) (blk_lt HZ7.out.2)).trans y14
          have z15 : ∀ p : Kp (Sb w7), p.W.cell? ⟨(w.heap.size + 1), 5, none⟩ = _ := fun p => (Below.cell p.h (p := ⟨(w.heap.size + 1), 5, none⟩) (blk_lt HZ7.out.2)).trans y15
          have hne : Nonempty (Kp (Sb w7)) := ⟨⟨_, HW7.out⟩⟩
          refine wp_region_kept mixed (by kernel_rfl) (S := Sb w7) (Below.drew HSx.out) ?_
          repeat (go_big_quiet_step (first | (go_at_call 11; with_reducible exact Kp.calls _ Sb.next (Hy.out _))))
          refine wpQuiet_nil ?_
          intro Wy hw
          obtain ⟨⟨Wy, HS⟩, rfl⟩ := hw
          have HSy : Hid (Sb w7 Wy) := HS
          clear z10 z11 z12 z13 z14 z15 hne HS
          have HT : Hid ((x && y) = true ↔ ∃ j, j < i + 1 ∧ ML a0t (σ.data.toList.take j) ∧ ML a1t (σ.data.toList.drop j)) := splits_step HA'.out.1 HNx.out HNy.out HI.out.1 hlt hS
          cases x
          case false =>
            go_wp2_with fail
            go_roundw
            case rel => exact ⟨i + 1, false, rfl, by go_num, by omega, ⟨HT.out, HSy.out⟩⟩
            case measure => simp [intOf]; omega
          case true =>
            go_wp2_with fail
            go_roundw
            case rel => exact ⟨i + 1, y, rfl, by go_num, by omega, ⟨HT.out, HSy.out⟩⟩
            case measure => cases y <;> simp [intOf] <;> omega
      · have hlt' : ¬ (i : Int) ≤ (σ.size : Int) := by omega
        obtain rfl : i = σ.size + 1 := by omega
        obtain rfl : a = b := by rw [Bool.eq_iff_iff, splits_says HA'.out]; exact HI.out.1.symm
        cases a <;> (go_wp2_with fail; go_ret; exact ⟨rfl, HB7.out.trans (Below.mono HI.out.2 HB7.out.size)⟩)
  · have hl' : ¬ 60 < (a2.size : Int) := by omega
    have hS : a2.size ≤ 60 := by omega
    go_wp2_with fail
    clear hl hl' w2
    clear y00 y01 y02 y03 y04 y05 y10 y11 y12 y13 y14 y15
    refine (two_any 4 ⟨by omega, by omega⟩ a0t a1t _ _ w5.heap.size w5 ((HX0.out.next HB5.out).wide HB5.out.size) ((HX1.out.next HB5.out).wide HB5.out.size) (Nat.le_refl _)).mono ?_
    rintro _ w6 ⟨v6, rfl, hx, hB⟩
    have HV6 : Hid (Rx w6 w6.heap.size v6 (.mk 4 empty [a0t, a1t])) := hx
    clear hx
    have HZ6 : Hid (w6.heap[w.heap.size]? = some (.cells #[.int .i64 k0, .int .u64 (c0.1.toNat : Int), .int .u64 (c0.2.1.toNat : Int), .int .u64 (c0.2.2.1.toNat : Int), .int .u64 (c0.2.2.2.toNat : Int), .slice ao0 n0 p0] 27) ∧ w6.heap[(w.heap.size + 1)]? = some (.cells #[.int .i64 k1, .int .u64 (c1.1.toNat : Int), .int .u64 (c1.2.1.toNat : Int), .int .u64 (c1.2.2.1.toNat : Int), .int .u64 (c1.2.2.2.toNat : Int), .slice ao1 n1 p1] 27)) := ⟨blk_next hB HZ5.out.1, blk_next hB HZ5.out.2⟩
    have HB6 : Hid (Below w.heap.size w w6) := HB5.out.trans (hB.mono HB5.out.size)
    clear hB HZ5 HB5
    go_wp2_with fail
    refine (is_any (.mk 4 empty [a0t, a1t]) _ _ _ w6 HV6.out (Nat.le_refl _)).mono ?_
    rintro _ w7 ⟨a, rfl, h, hB⟩
    generalize hβ : bad (.mk 4 empty [a0t, a1t]) _ = βa at h ⊢
    have HA : Hid (bad (.mk 4 empty [a0t, a1t]) a2 = βa ∧ (a = true ↔ βa = false ∧ Mt (.mk 4 empty [a0t, a1t]) a2)) := ⟨hβ, h⟩
    clear hβ h
    have HZ7 : Hid (w7.heap[w.heap.size]? = some (.cells #[.int .i64 k0, .int .u64 (c0.1.toNat : Int), .int .u64 (c0.2.1.toNat : Int), .int .u64 (c0.2.2.1.toNat : Int), .int .u64 (c0.2.2.2.toNat : Int), .slice ao0 n0 p0] 27) ∧ w7.heap[(w.heap.size + 1)]? = some (.cells #[.int .i64 k1, .int .u64 (c1.1.toNat : Int), .int .u64 (c1.2.1.toNat : Int), .int .u64 (c1.2.2.1.toNat : Int), .int .u64 (c1.2.2.2.toNat : Int), .slice ao1 n1 p1] 27)) := ⟨blk_next hB HZ6.out.1, blk_next hB HZ6.out.2⟩
    have HB7 : Hid (Below w.heap.size w w7) := HB6.out.trans (hB.mono HB6.out.size)
    clear hB HZ6 HB6
    cases βa
    case true => go_wp2_with fail; go_ret; exact ⟨rfl, HB7.out⟩
    have HA' : Hid (bad (.mk 4 empty [a0t, a1t]) a2 = false ∧ (a = true ↔ Mt (.mk 4 empty [a0t, a1t]) a2)) := ⟨HA.out.1, HA.out.2.trans ⟨fun h => h.2, fun h => ⟨rfl, h⟩⟩⟩
    clear HA
    have y00 := cell_of_row w7 w.heap.size 0 _ 27 (0, 0) HZ7.out.1
    have y01 := cell_of_row w7 w.heap.size 1 _ 27 (0, 0) HZ7.out.1
    have y02 := cell_of_row w7 w.heap.size 2 _ 27 (0, 0) HZ7.out.1
    have y03 := cell_of_row w7 w.heap.size 3 _ 27 (0, 0) HZ7.out.1
    have y04 := cell_of_row w7 w.heap.size 4 _ 27 (0, 0) HZ7.out.1
    have y05 := cell_of_row w7 w.heap.size 5 _ 27 (0, 0) HZ7.out.1
    simp only [List.getElem?_toArray, List.getElem?_cons_zero, List.getElem?_cons_succ] at y00 y01 y02 y03 y04 y05
    have y10 := cell_of_row w7 (w.heap.size + 1) 0 _ 27 (0, 0) HZ7.out.2
    have y11 := cell_of_row w7 (w.heap.size + 1) 1 _ 27 (0, 0) HZ7.out.2
    have y12 := cell_of_row w7 (w.heap.size + 1) 2 _ 27 (0, 0) HZ7.out.2
    have y13 := cell_of_row w7 (w.heap.size + 1) 3 _ 27 (0, 0) HZ7.out.2
    have y14 := cell_of_row w7 (w.heap.size + 1) 4 _ 27 (0, 0) HZ7.out.2
    have y15 := cell_of_row w7 (w.heap.size + 1) 5 _ 27 (0, 0) HZ7.out.2
    simp only [List.getElem?_toArray, List.getElem?_cons_zero, List.getElem?_cons_succ] at y10 y11 y12 y13 y14 y15
    have HW7 : Hid (Sb w7 w7) := Below.refl _ w7
    go_wp2_with fail
    go_loopw [11, 12] (fun x z wr => ∃ (i : Nat) (b : Bool), x = .bool b ∧ z = .int .i64 (i : Int) ∧ i ≤ a2.size + 1 ∧ Hid ((b = true ↔ ∃ j, j < i ∧ ML a0t (a2.data.toList.take j) ∧ ML a1t (a2.data.toList.drop j)) ∧ Sb w7 wr)) (fun x z _ => (if x matches .bool true then 0 else a2.size + 2 - (intOf z).toNat))
    case atStart => exact ⟨0, false, rfl, rfl, by omega, ⟨by simp, HW7.out⟩⟩
    case round =>
      obtain ⟨i, b, rfl, rfl, hi, HI⟩ := hrel
      by_cases hlt : i ≤ a2.size
      · have hlt' : (i : Int) ≤ (a2.size : Int) := by omega
        cases b
        case true =>
          obtain rfl : a = true := (splits_says HA'.out).2 (by obtain ⟨j, h1, h2⟩ := HI.out.1.1 rfl; exact ⟨j, by omega, h2⟩)
          go_wp2_with fail
          go_ret
          exact ⟨rfl, HB7.out.trans (Below.mono HI.out.2 HB7.out.size)⟩
        case false =>
          obtain ⟨x, HNx⟩ : ∃ b : Bool, Hid (b = true ↔ bad a0t (a2.extract 0 i) = false ∧ Mt a0t (a2.extract 0 i)) := named _
          obtain ⟨βx, HLx⟩ : ∃ b : Bool, Hid (bad a0t (a2.extract 0 i) = b) := ⟨_, (rfl : bad a0t (a2.extract 0 i) = bad a0t (a2.extract 0 i))⟩
          have Hx : Hid (∀ p : Kp (Sb w7), Calls Try.prog 11 #[(.agg #[.int .i64 k0, .int .u64 (c0.1.toNat : Int), .int .u64 (c0.2.1.toNat : Int), .int .u64 (c0.2.2.1.toNat : Int), .int .u64 (c0.2.2.2.toNat : Int), .slice ao0 n0 p0]), .string (a2.extract 0 i)] p.W fun e w' => e = .returned (.tuple #[.bool x, .bool βx]) ∧ Below p.W.heap.size p.W w') := fun p => by
            have h := is_at a0t _ _ (a2.extract 0 i) p.W (((HX0.out.next HB7.out).wide HB7.out.size).next p.h) (Below.size p.h) x HNx.out
            rw [HLx.out] at h
            exact h
          obtain ⟨y, HNy⟩ : ∃ b : Bool, Hid (b = true ↔ bad a1t (a2.extract i a2.size) = false ∧ Mt a1t (a2.extract i a2.size)) := named _
          obtain ⟨βy, HLy⟩ : ∃ b : Bool, Hid (bad a1t (a2.extract i a2.size) = b) := ⟨_, (rfl : bad a1t (a2.extract i a2.size) = bad a1t (a2.extract i a2.size))⟩
          have Hy : Hid (∀ p : Kp (Sb w7), Calls Try.prog 11 #[(.agg #[.int .i64 k1, .int .u64 (c1.1.toNat : Int), .int .u64 (c1.2.1.toNat : Int), .int .u64 (c1.2.2.1.toNat : Int), .int .u64 (c1.2.2.2.toNat : Int), .slice ao1 n1 p1]), .string (a2.extract i a2.size)] p.W fun e w' => e = .returned (.tuple #[.bool y, .bool βy]) ∧ Below p.W.heap.size p.W w') := fun p => by
            have h := is_at a1t _ _ (a2.extract i a2.size) p.W (((HX1.out.next HB7.out).wide HB7.out.size).next p.h) (Below.size p.h) y HNy.out
            rw [HLy.out] at h
            exact h
          go_wp2_with fail
          have z00 : ∀ p : Kp (Sb w7), p.W.cell? ⟨w.heap.size, 0, none⟩ = _ := fun p => (Below.cell p.h (p := ⟨w.heap.size, 0, none⟩) (blk_lt HZ7.out.1)).trans y00
          have z01 : ∀ p : Kp (Sb w7), p.W.cell? ⟨w.heap.size, 1, none⟩ = _ := fun p => (Below.cell p.h (p := ⟨w.heap.size, 1, none⟩) (blk_lt HZ7.out.1)).trans y01
          have z02 : ∀ p : Kp (Sb w7), p.W.cell? ⟨w.heap.size, 2, none⟩ = _ := fun p => (Below.cell p.h (p := ⟨w.heap.size, 2, none⟩) (blk_lt HZ7.out.1)).trans y02
          have z03 : ∀ p : Kp (Sb w7), p.W.cell? ⟨w.heap.size, 3, none⟩ = _ := fun p => (Below.cell p.h (p := ⟨w.heap.size, 3, none⟩) (blk_lt HZ7.out.1)).trans y03
          have z04 : ∀ p : Kp (Sb w7), p.W.cell? ⟨w.heap.size, 4, none⟩ = _ := fun p => (Below.cell p.h (p := ⟨w.heap.size, 4, none⟩) (blk_lt HZ7.out.1)).trans y04
          have z05 : ∀ p : Kp (Sb w7), p.W.cell? ⟨w.heap.size, 5, none⟩ = _ := fun p => (Below.cell p.h (p := ⟨w.heap.size, 5, none⟩) (blk_lt HZ7.out.1)).trans y05
          have hne : Nonempty (Kp (Sb w7)) := ⟨⟨_, HW7.out⟩⟩
          refine wp_region_kept mixed (by kernel_rfl) (S := Sb w7) (Below.drew HI.out.2) ?_
          repeat (go_big_quiet_step (first | (go_at_call 11; with_reducible exact Kp.calls _ Sb.next (Hx.out _))))
          refine wpQuiet_nil ?_
          intro Wx hw
          obtain ⟨⟨Wx, HS⟩, rfl⟩ := hw
          have HSx : Hid (Sb w7 Wx) := HS
          clear z00 z01 z02 z03 z04 z05 hne HS
          go_wp2_with fail
          have z10 : ∀ p : Kp (Sb w7), p.W.cell? ⟨(w.heap.size + 1), 0, none⟩ = _ := fun p => (Below.cell p.h (p := ⟨(w.heap.size + 1), 0, none⟩) (blk_lt HZ7.out.2)).trans y10
          have z11 : ∀ p : Kp (Sb w7), p.W.cell? ⟨(w.heap.size + 1), 1, none⟩ = _ := fun p => (Below.cell p.h (p := ⟨(w.heap.size + 1), 1, none⟩) (blk_lt HZ7.out.2)).trans y11
          have z12 : ∀ p : Kp (Sb w7), p.W.cell? ⟨(w.heap.size + 1), 2, none⟩ = _ := fun p => (Below.cell p.h (p := ⟨(w.heap.size + 1), 2, none⟩) (blk_lt HZ7.out.2)).trans y12
          have z13 : ∀ p : Kp (Sb w7), p.W.cell? ⟨(w.heap.size + 1), 3, none⟩ = _ := fun p => (Below.cell p.h (p := ⟨(w.heap.size + 1), 3, none⟩) (blk_lt HZ7.out.2)).trans y13
          have z14 : ∀ p : Kp (Sb w7), p.W.cell? ⟨(w.heap.size + 1), 4, none⟩ = _ := fun p => (Below.cell p.h (p := ⟨(w.heap.size + 1), 4, none⟩) (blk_lt HZ7.out.2)).trans y14
          have z15 : ∀ p : Kp (Sb w7), p.W.cell? ⟨(w.heap.size + 1), 5, none⟩ = _ := fun p => (Below.cell p.h (p := ⟨(w.heap.size + 1), 5, none⟩) (blk_lt HZ7.out.2)).trans y15
          have hne : Nonempty (Kp (Sb w7)) := ⟨⟨_, HW7.out⟩⟩
          refine wp_region_kept mixed (by kernel_rfl) (S := Sb w7) (Below.drew HSx.out) ?_
          repeat (go_big_quiet_step (first | (go_at_call 11; with_reducible exact Kp.calls _ Sb.next (Hy.out _))))
          refine wpQuiet_nil ?_
          intro Wy hw
          obtain ⟨⟨Wy, HS⟩, rfl⟩ := hw
          have HSy : Hid (Sb w7 Wy) := HS
          clear z10 z11 z12 z13 z14 z15 hne HS
          have HT : Hid ((x && y) = true ↔ ∃ j, j < i + 1 ∧ ML a0t (a2.data.toList.take j) ∧ ML a1t (a2.data.toList.drop j)) := splits_step HA'.out.1 HNx.out HNy.out HI.out.1 hlt hS
          cases x
          case false =>
            go_wp2_with fail
            go_roundw
            case rel => exact ⟨i + 1, false, rfl, by go_num, by omega, ⟨HT.out, HSy.out⟩⟩
            case measure => simp [intOf]; omega
          case true =>
            go_wp2_with fail
            go_roundw
            case rel => exact ⟨i + 1, y, rfl, by go_num, by omega, ⟨HT.out, HSy.out⟩⟩
            case measure => cases y <;> simp [intOf] <;> omega
      · have hlt' : ¬ (i : Int) ≤ (a2.size : Int) := by omega
        obtain rfl : i = a2.size + 1 := by omega
        obtain rfl : a = b := by rw [Bool.eq_iff_iff, splits_says HA'.out]; exact HI.out.1.symm
        cases a <;> (go_wp2_with fail; go_ret; exact ⟨rfl, HB7.out.trans (Below.mono HI.out.2 HB7.out.size)⟩)

/-! ### What the walk gives, for every argument -/
set_option maxRecDepth 100000 in
theorem contract (H : Type) (enc : TypeId × Value → H) (W : World) (base : Nat) (args : Array Value) (ds gs : List (DataW H)) (before : List MemPlace)
    (hval : ∀ (j : Nat) t v, Try.f5.params[j]? = some t → args[j]? = some v → Value.okWide Try.prog W .any base t v)
    (hW : DataW.Whole enc Try.prog Try.f5.params.toList Rows.rexSplitsSpec.vars false W args.toList ds gs before) (hsz : (DataW.weightsEach Try.prog (Try.f5.params.toList ++ Rows.rexSplitsSpec.plain.varTypes Try.prog) (ds ++ gs)).all (· ≤ reachBytes) = true) :
    Calls Try.prog 5 args W fun e W' => ∃ v, e = .returned v ∧ Rows.rexSplitsSpec.post enc Try.prog Try.f5 false true false false W args v W' := by
  have hW' := hW
  obtain ⟨p, q, hA0, hV, rfl, hfz, hnd⟩ := hW
  have hA : DataW.TrodAll enc Try.prog W 0 (fun _ => true) true Try.f5.params.toList args.toList ds p := hA0
  rw [Try.params5] at hA hval hsz
  obtain ⟨v0, vs0, d0, ds0, p0, q0, hargs, rfl, rfl, h0, r0⟩ := trodAll_cons hA
  obtain ⟨v1, vs1, d1, ds1, p1, q1, rfl, rfl, rfl, h1, r1⟩ := trodAll_cons r0
  obtain ⟨v2, vs2, d2, ds2, p2, q2, rfl, rfl, rfl, h2, r2⟩ := trodAll_cons r1
  obtain ⟨rfl, rfl, rfl⟩ := trodAll_nil r2
  obtain rfl : args = #[v0, v1, v2] := by cases args; simp_all
  obtain ⟨rfl, rfl⟩ := trodVars_none hV
  have k0 := h0
  have lt0 : ∀ x ∈ p0, x.block < W.heap.size := by obtain ⟨m, hm⟩ := k0; exact DataW.trod_lt m _ _ _ hm
  obtain ⟨a0t, w0s⟩ := open_rex (hval 0 27 v0 rfl rfl) h0
  have k1 := h1
  have lt1 : ∀ x ∈ p1, x.block < W.heap.size := by obtain ⟨m, hm⟩ := k1; exact DataW.trod_lt m _ _ _ hm
  obtain ⟨a1t, w1s⟩ := open_rex (hval 1 27 v1 rfl rfl) h1
  obtain ⟨a2, rfl, rfl, rfl, w2⟩ := open_string Try.underlying9 (hval 2 9 v2 rfl rfl) h2
  have r2z : a2.size ≤ 140737488351232 := by have := sized_string hsz (j := 2) (t := 9) rfl rfl; simpa [reachBytes] using this
  clear hA0
  refine (walk _ a0t _ a1t a2 W w0s w1s r2z).mono fun e W' ⟨he, bel⟩ => ?_
  subst he
  exact ⟨_, rfl, _, _, _, [], _, [], hW', trodAll_mk1 (shut_bool Try.underlying4 _), (trodAll_cons_mk (Below.trod laidOut (by kernel_rfl) (of_decide_eq_true (by kernel_rfl)) k0 bel lt0) (trodAll_cons_mk (Below.trod laidOut (by kernel_rfl) (of_decide_eq_true (by kernel_rfl)) k1 bel lt1) (trodAll_cons_mk (shut_string Try.underlying9 w2) trodAll_mk0))), rfl, bel.frame _, fun h => by cases h⟩

/-! ### The row's step -/
set_option maxRecDepth 100000 in
theorem lifted (os : Os) (started : os.Started) (H : Type) (enc : TypeId × Value → H) :
    ReturnsInHanded {} Try.checked os 5 .any (Rows.rexSplitsSpec.pre6 enc Try.prog Try.f5 Rows.rexSplitsRow.domain false) (Rows.rexSplitsSpec.post enc Try.prog Try.f5 false true false false) := by
  refine returnsInHanded_of_change_sized (C := Try.checked) own started (by kernel_rfl) Try.func5
    (ChangeSpec.witness6 (enc := enc) (C := Try.checked) false ⟨#[], #[.agg #[.int .i64 0, .int .u64 0, .int .u64 0, .int .u64 0, .int .u64 0, .slice none 0 0], .agg #[.int .i64 0, .int .u64 0, .int .u64 0, .int .u64 0, .int .u64 0, .slice none 0 0], .string .empty], []⟩ 8 (by kernel_rfl) (by kernel_rfl) (by kernel_rfl) (by kernel_rfl)) ?_
  intro W base args ds gs before hval hW hcnd hsz _
  exact contract H enc W base args ds gs before hval hW hsz

theorem over : Rows.rexSplitsRow.holds Try.pinned (OpenSpec.ofChange Rows.rexSplitsSpec) :=
  OpenClaim.holds_of_wide 5 Try.f5 rfl rfl rfl rfl rfl rfl rfl ⟨rfl, rfl, rfl, rfl, rfl⟩ rfl rfl rfl rfl rfl (by kernel_rfl) Try.func5 (by kernel_rfl)
    (of_decide_eq_true (by kernel_rfl)) (by unfold Func.isWrapper; first | (rw [if_pos (by decide +kernel)]; kernel_rfl) | (rw [if_neg (by decide +kernel)]; exact ⟨rfl, rfl⟩))
    (fun os started H enc _ => lifted os started H enc)

end Go.Proofs.Ytdnagboonjcehaa.rexSplits
namespace Go.Proofs.Ytdnagboonjcehaa
/-- The given statement. -/
theorem rexSplits_holds : Rows.RexSplitsSaid := rexSplits.over
#print axioms rexSplits_holds
end Go.Proofs.Ytdnagboonjcehaa
