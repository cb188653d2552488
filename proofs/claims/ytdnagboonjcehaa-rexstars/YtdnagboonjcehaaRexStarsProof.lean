/-
  RexStars returns true whatever tree and text are handed in, and changes nothing that it was handed; no condition.
-/
import Derived.Test.YtdnagboonjcehaaRows
import Derived.WalkKit
import Derived.ProofKit
import Derived.OpenShut
import Derived.ShutString
import Derived.SizedLaws
import Derived.ChangeOld
import Derived.Below
import Derived.Carry
import Derived.WalkLawsBesides
import Derived.WalkSpells
import Derived.Test.YtdnagboonjcehaaOpens
import Derived.Test.YtdnagboonjcehaaIsAt
import Derived.Test.YtdnagboonjcehaaFree
namespace Go.Proofs.Ytdnagboonjcehaa.rexStars
open Go.ChangeShapes Go.WideShapes Go.ChangeAt Go.RowKit
open Go.ChangeMaps (open_string shut_string)
open Cls Rex
set_option linter.unusedVariables false

theorem own : ownKnob Try.prog.godebug = none := by kernel_rfl
theorem laidOut : laidOutB Try.prog = true := by kernel_rfl
structure SR (w7 : World) (t : T) (k0 : Int) (c0 : Cl) (ao0 : Option Addr) (n0 p0 : Nat) (σ : ByteArray) (i : Nat) (y βy : Bool) (vs : Value) (d : Nat → Bool) (x15 x16 x69 x70 x71 x72 x73 x74 x75 x76 x77 : Value) (W : World) : Prop where
  f0 : d 0 = true → x70 = (.agg #[.int .i64 k0, .int .u64 (c0.1.toNat : Int), .int .u64 (c0.2.1.toNat : Int), .int .u64 (c0.2.2.1.toNat : Int), .int .u64 (c0.2.2.2.toNat : Int), .slice ao0 n0 p0])
  f1 : d 1 = true → vs = x71
  f2 : d 2 = true → x72 = (.string σ)
  f3 : d 3 = true → x73 = (.int .i64 (i : Int))
  f4 : d 4 = true → x74 = (.string (σ.extract i σ.size))
  f5 : d 5 = true → x75 = (.tuple #[.bool y, .bool βy])
  f6 : d 6 = true → x69 = (.tuple #[.bool y, .bool βy])
  f7 : d 7 = true → x76 = (.bool y)
  f8 : d 8 = true → x77 = (.bool βy)
  f9 : d 9 = true → x15 = (.bool y)
  f10 : d 10 = true → x16 = (.bool βy)
  below : Sb w7 W
  rx : d 1 = true → Rx W W.heap.size vs (.mk 6 empty [t])

theorem start_says {t u : T} (s : ByteArray) : s.toList.isEmpty = true ↔ s.data.toList = [] ∨ ∃ j, 1 ≤ j ∧ j < 1 ∧ ML t (s.data.toList.take j) ∧ ML u (s.data.toList.drop j) := by
  constructor
  · intro h; rw [list_data] at h; exact Or.inl (by simpa using h)
  · rintro (h | ⟨j, h1, h2, _⟩)
    · rw [list_data, h]; rfl
    · omega
theorem stars_says {r : T} {s : ByteArray} {a : Bool} (ha : bad (.mk 6 empty [r]) s = false ∧ (a = true ↔ Mt (.mk 6 empty [r]) s)) :
    a = true ↔ s.data.toList = [] ∨ ∃ j, 1 ≤ j ∧ j < s.size + 1 ∧ ML r (s.data.toList.take j) ∧ ML (.mk 6 empty [r]) (s.data.toList.drop j) := by
  have fa : a = true ↔ ML (.mk 6 empty [r]) s.data.toList := ha.2
  obtain ⟨z, hz, _⟩ := right_of ha.1
  cases hz with
  | @star _ x hx =>
    rw [fa, ml_star hx]
    constructor
    · rintro (h | ⟨u, v, h, hu, h1, h2⟩)
      · exact Or.inl h
      · refine Or.inr ⟨u.length, ?_, ?_, ?_, ?_⟩
        · have := List.length_pos_iff.2 hu; omega
        · have : s.data.toList.length = s.size := by rw [Array.length_toList]; rfl
          rw [h, List.length_append] at this; omega
        · rw [h]; simpa using h1
        · rw [h]; simpa using h2
    · rintro (h | ⟨j, h0, h3, h1, h2⟩)
      · exact Or.inl h
      · refine Or.inr ⟨_, _, (List.take_append_drop j _).symm, ?_, h1, h2⟩
        have : s.data.toList.length = s.size := by rw [Array.length_toList]; rfl
        intro h
        have h5 := congrArg List.length h
        rw [List.length_take, List.length_nil] at h5
        omega
theorem stars_step {r : T} {s : ByteArray} {i : Nat} {x y : Bool} (ha : bad (.mk 6 empty [r]) s = false) (hx : x = true ↔ bad r (s.extract 0 i) = false ∧ Mt r (s.extract 0 i)) (hy : y = true ↔ bad (.mk 6 empty [r]) (s.extract i s.size) = false ∧ Mt (.mk 6 empty [r]) (s.extract i s.size))
    (hI : false = true ↔ s.data.toList = [] ∨ ∃ j, 1 ≤ j ∧ j < i ∧ ML r (s.data.toList.take j) ∧ ML (.mk 6 empty [r]) (s.data.toList.drop j)) (hi1 : 1 ≤ i) (hi : i ≤ s.size) (hs : s.size ≤ 60) :
    (x && y) = true ↔ s.data.toList = [] ∨ ∃ j, 1 ≤ j ∧ j < i + 1 ∧ ML r (s.data.toList.take j) ∧ ML (.mk 6 empty [r]) (s.data.toList.drop j) := by
  obtain ⟨z, hz, hn, hd⟩ := right_of ha
  have b2 : bad (.mk 6 empty [r]) (s.extract i s.size) = false := bad_false.2 ⟨(bad_false.1 ha).1, by rw [ByteArray.size_extract]; omega⟩
  cases hz with
  | @star _ a h1 =>
    simp only [E.nodes, E.deep] at hn hd
    have b1 : bad r (s.extract 0 i) = false := bad_false.2 ⟨(err0_iff _).2 ⟨a, h1, by omega, by omega⟩, by rw [ByteArray.size_extract]; omega⟩
    have fx : x = true ↔ ML r (s.data.toList.take i) := by rw [hx, ← take_of]; exact ⟨fun h => h.2, fun h => ⟨b1, h⟩⟩
    have fy : y = true ↔ ML (.mk 6 empty [r]) (s.data.toList.drop i) := by rw [hy, ← drop_of]; exact ⟨fun h => h.2, fun h => ⟨b2, h⟩⟩
    rw [Bool.and_eq_true, fx, fy]
    constructor
    · rintro ⟨h3, h4⟩; exact Or.inr ⟨i, hi1, by omega, h3, h4⟩
    · rintro (h | ⟨j, h0, h3, h4⟩)
      · exact absurd (hI.2 (Or.inl h)) (by simp)
      · by_cases hj : j = i
        · subst hj; exact h4
        · exact absurd (hI.2 (Or.inr ⟨j, h0, by omega, h4⟩)) (by simp)

/-! ### The walk: the Go text returns true. -/
set_option maxHeartbeats 8000000 in
set_option maxRecDepth 20000 in
theorem walk (v0 : Value) (a0t : Rex.T) (a1 : ByteArray) (w : World) (w0s : Rx w w.heap.size v0 a0t) (w1 : a1.size ≤ 140737488351232) :
    Calls Try.prog 6 #[v0, .string a1] w fun e w' => e = .returned (.bool true) ∧ Below w.heap.size w w' := by
  obtain ⟨k0, c0, ao0, p0, kids0, vals0, rfl, _⟩ := w0s.shape
  obtain ⟨n0, HN0⟩ : ∃ n, Hid (kids0.length = n) := ⟨_, (rfl : kids0.length = kids0.length)⟩
  rw [HN0.out] at w0s ⊢
  have HX0 : Hid (Rx w w.heap.size (.agg #[.int .i64 k0, .int .u64 (c0.1.toNat : Int), .int .u64 (c0.2.1.toNat : Int), .int .u64 (c0.2.2.1.toNat : Int), .int .u64 (c0.2.2.2.toNat : Int), .slice ao0 n0 p0]) a0t) := w0s
  clear w0s
  obtain ⟨w1, HW1⟩ : ∃ w1, Hid ((w.alloc (.cells #[.int .i64 k0, .int .u64 (c0.1.toNat : Int), .int .u64 (c0.2.1.toNat : Int), .int .u64 (c0.2.2.1.toNat : Int), .int .u64 (c0.2.2.2.toNat : Int), .slice ao0 n0 p0] 27)) = w1) := ⟨_, (rfl : (w.alloc (.cells #[.int .i64 k0, .int .u64 (c0.1.toNat : Int), .int .u64 (c0.2.1.toNat : Int), .int .u64 (c0.2.2.1.toNat : Int), .int .u64 (c0.2.2.2.toNat : Int), .slice ao0 n0 p0] 27)) = (w.alloc (.cells #[.int .i64 k0, .int .u64 (c0.1.toNat : Int), .int .u64 (c0.2.1.toNat : Int), .int .u64 (c0.2.2.1.toNat : Int), .int .u64 (c0.2.2.2.toNat : Int), .slice ao0 n0 p0] 27)))⟩
  have hz0 : w1.heap[w.heap.size]? = some (.cells #[.int .i64 k0, .int .u64 (c0.1.toNat : Int), .int .u64 (c0.2.1.toNat : Int), .int .u64 (c0.2.2.1.toNat : Int), .int .u64 (c0.2.2.2.toNat : Int), .slice ao0 n0 p0] 27) := by rw [← HW1.out]; exact block_new w (.cells #[.int .i64 k0, .int .u64 (c0.1.toNat : Int), .int .u64 (c0.2.1.toNat : Int), .int .u64 (c0.2.2.1.toNat : Int), .int .u64 (c0.2.2.2.toNat : Int), .slice ao0 n0 p0] 27)
  have hb0 : Below w.heap.size w w1 := by rw [← HW1.out]; exact box_keep w _
  have HZ1 : Hid (w1.heap[w.heap.size]? = some (.cells #[.int .i64 k0, .int .u64 (c0.1.toNat : Int), .int .u64 (c0.2.1.toNat : Int), .int .u64 (c0.2.2.1.toNat : Int), .int .u64 (c0.2.2.2.toNat : Int), .slice ao0 n0 p0] 27)) := hz0
  have HB1 : Hid (Below w.heap.size w w1) := hb0
  clear hz0 hb0
  go_enter Try.func6, Try.ntmps6
  go_wp2_with fail
  rw [HW1.out]
  refine (letter_any 97 (by omega) (by omega) w1).mono ?_
  rintro _ w2 ⟨v2, rfl, hx, hB⟩
  have HV2 : Hid (Rx w2 w2.heap.size v2 (.mk 3 (range 97 97) [])) := hx
  clear hx
  have HZ2 : Hid (w2.heap[w.heap.size]? = some (.cells #[.int .i64 k0, .int .u64 (c0.1.toNat : Int), .int .u64 (c0.2.1.toNat : Int), .int .u64 (c0.2.2.1.toNat : Int), .int .u64 (c0.2.2.2.toNat : Int), .slice ao0 n0 p0] 27)) := blk_next hB HZ1.out
  have HB2 : Hid (Below w.heap.size w w2) := HB1.out.trans (hB.mono HB1.out.size)
  clear hB HZ1 HB1
  go_wp2_with fail
  refine (star_any _ v2 _ w2 HV2.out (Nat.le_refl _)).mono ?_
  rintro _ w3 ⟨v3, rfl, hx, hB⟩
  have HV3 : Hid (Rx w3 w3.heap.size v3 (.mk 6 empty [(.mk 3 (range 97 97) [])])) := hx
  clear hx HV2
  have HZ3 : Hid (w3.heap[w.heap.size]? = some (.cells #[.int .i64 k0, .int .u64 (c0.1.toNat : Int), .int .u64 (c0.2.1.toNat : Int), .int .u64 (c0.2.2.1.toNat : Int), .int .u64 (c0.2.2.2.toNat : Int), .slice ao0 n0 p0] 27)) := blk_next hB HZ2.out
  have HB3 : Hid (Below w.heap.size w w3) := HB2.out.trans (hB.mono HB2.out.size)
  clear hB HZ2 HB2
  go_wp2_with fail
  refine (is_any _ v3 _ _ w3 HV3.out (Nat.le_refl _)).mono ?_
  rintro _ w5 ⟨b0, rfl, h, hB⟩
  obtain rfl : b0 = true := h.2 astar_right
  clear h HV3
  have HZ5 : Hid (w5.heap[w.heap.size]? = some (.cells #[.int .i64 k0, .int .u64 (c0.1.toNat : Int), .int .u64 (c0.2.1.toNat : Int), .int .u64 (c0.2.2.1.toNat : Int), .int .u64 (c0.2.2.2.toNat : Int), .slice ao0 n0 p0] 27)) := blk_next hB HZ3.out
  have HB5 : Hid (Below w.heap.size w w5) := HB3.out.trans (hB.mono HB3.out.size)
  clear hB HZ3 HB3
  have y00 := cell_of_row w5 w.heap.size 0 _ 27 (0, 0) HZ5.out
  have y01 := cell_of_row w5 w.heap.size 1 _ 27 (0, 0) HZ5.out
  have y02 := cell_of_row w5 w.heap.size 2 _ 27 (0, 0) HZ5.out
  have y03 := cell_of_row w5 w.heap.size 3 _ 27 (0, 0) HZ5.out
  have y04 := cell_of_row w5 w.heap.size 4 _ 27 (0, 0) HZ5.out
  have y05 := cell_of_row w5 w.heap.size 5 _ 27 (0, 0) HZ5.out
  simp only [List.getElem?_toArray, List.getElem?_cons_zero, List.getElem?_cons_succ] at y00 y01 y02 y03 y04 y05
  by_cases hl : 60 < a1.size
  · have hl' : 60 < (a1.size : Int) := by omega
    go_wp2_with fail
    obtain ⟨σ, HE⟩ : ∃ σ, Hid (a1.extract 0 60 = σ) := ⟨_, (rfl : a1.extract 0 60 = a1.extract 0 60)⟩
    have hS : σ.size ≤ 60 := by rw [← HE.out, ByteArray.size_extract]; omega
    rw [HE.out]
    clear HE hl hl'
    clear y00 y01 y02 y03 y04 y05
    refine (star_any a0t _ w5.heap.size w5 ((HX0.out.next HB5.out).wide HB5.out.size) (Nat.le_refl _)).mono ?_
    rintro _ w6 ⟨v6, rfl, hx, hB⟩
    have HV6 : Hid (Rx w6 w6.heap.size v6 (.mk 6 empty [a0t])) := hx
    clear hx
    have HZ6 : Hid (w6.heap[w.heap.size]? = some (.cells #[.int .i64 k0, .int .u64 (c0.1.toNat : Int), .int .u64 (c0.2.1.toNat : Int), .int .u64 (c0.2.2.1.toNat : Int), .int .u64 (c0.2.2.2.toNat : Int), .slice ao0 n0 p0] 27)) := blk_next hB HZ5.out
    have HB6 : Hid (Below w.heap.size w w6) := HB5.out.trans (hB.mono HB5.out.size)
    clear hB HZ5 HB5
    go_wp2_with fail
    refine (is_any (.mk 6 empty [a0t]) _ _ _ w6 HV6.out (Nat.le_refl _)).mono ?_
    rintro _ w8 ⟨a, rfl, h, hB⟩
    generalize hβ : bad (.mk 6 empty [a0t]) _ = βa at h ⊢
    have HA : Hid (bad (.mk 6 empty [a0t]) σ = βa ∧ (a = true ↔ βa = false ∧ Mt (.mk 6 empty [a0t]) σ)) := ⟨hβ, h⟩
    clear hβ h HV6
    have HZ8 : Hid (w8.heap[w.heap.size]? = some (.cells #[.int .i64 k0, .int .u64 (c0.1.toNat : Int), .int .u64 (c0.2.1.toNat : Int), .int .u64 (c0.2.2.1.toNat : Int), .int .u64 (c0.2.2.2.toNat : Int), .slice ao0 n0 p0] 27)) := blk_next hB HZ6.out
    have HB8 : Hid (Below w.heap.size w w8) := HB6.out.trans (hB.mono HB6.out.size)
    clear hB HZ6 HB6
    have y00 := cell_of_row w8 w.heap.size 0 _ 27 (0, 0) HZ8.out
    have y01 := cell_of_row w8 w.heap.size 1 _ 27 (0, 0) HZ8.out
    have y02 := cell_of_row w8 w.heap.size 2 _ 27 (0, 0) HZ8.out
    have y03 := cell_of_row w8 w.heap.size 3 _ 27 (0, 0) HZ8.out
    have y04 := cell_of_row w8 w.heap.size 4 _ 27 (0, 0) HZ8.out
    have y05 := cell_of_row w8 w.heap.size 5 _ 27 (0, 0) HZ8.out
    simp only [List.getElem?_toArray, List.getElem?_cons_zero, List.getElem?_cons_succ] at y00 y01 y02 y03 y04 y05
    go_wp2_with fail
    clear y00 y01 y02 y03 y04 y05
    refine (star_any a0t _ w8.heap.size w8 ((HX0.out.next HB8.out).wide HB8.out.size) (Nat.le_refl _)).mono ?_
    rintro _ w9 ⟨v9, rfl, hx, hB⟩
    have HV9 : Hid (Rx w9 w9.heap.size v9 (.mk 6 empty [a0t])) := hx
    clear hx
    have HZ9 : Hid (w9.heap[w.heap.size]? = some (.cells #[.int .i64 k0, .int .u64 (c0.1.toNat : Int), .int .u64 (c0.2.1.toNat : Int), .int .u64 (c0.2.2.1.toNat : Int), .int .u64 (c0.2.2.2.toNat : Int), .slice ao0 n0 p0] 27)) := blk_next hB HZ8.out
    have HB9 : Hid (Below w.heap.size w w9) := HB8.out.trans (hB.mono HB8.out.size)
    clear hB HZ8 HB8
    go_wp2_with fail
    refine (star_any _ v9 _ w9 HV9.out (Nat.le_refl _)).mono ?_
    rintro _ w10 ⟨v10, rfl, hx, hB⟩
    have HV10 : Hid (Rx w10 w10.heap.size v10 (.mk 6 empty [.mk 6 empty [a0t]])) := hx
    clear hx HV9
    have HZ10 : Hid (w10.heap[w.heap.size]? = some (.cells #[.int .i64 k0, .int .u64 (c0.1.toNat : Int), .int .u64 (c0.2.1.toNat : Int), .int .u64 (c0.2.2.1.toNat : Int), .int .u64 (c0.2.2.2.toNat : Int), .slice ao0 n0 p0] 27)) := blk_next hB HZ9.out
    have HB10 : Hid (Below w.heap.size w w10) := HB9.out.trans (hB.mono HB9.out.size)
    clear hB HZ9 HB9
    go_wp2_with fail
    refine (is_any (.mk 6 empty [.mk 6 empty [a0t]]) _ _ _ w10 HV10.out (Nat.le_refl _)).mono ?_
    rintro _ w7 ⟨a', rfl, h, hB⟩
    generalize hβ : bad (.mk 6 empty [.mk 6 empty [a0t]]) _ = βb at h ⊢
    have HA2 : Hid (bad (.mk 6 empty [.mk 6 empty [a0t]]) σ = βb ∧ (a' = true ↔ βb = false ∧ Mt (.mk 6 empty [.mk 6 empty [a0t]]) σ)) := ⟨hβ, h⟩
    clear hβ h HV10
    have HZ7 : Hid (w7.heap[w.heap.size]? = some (.cells #[.int .i64 k0, .int .u64 (c0.1.toNat : Int), .int .u64 (c0.2.1.toNat : Int), .int .u64 (c0.2.2.1.toNat : Int), .int .u64 (c0.2.2.2.toNat : Int), .slice ao0 n0 p0] 27)) := blk_next hB HZ10.out
    have HB7 : Hid (Below w.heap.size w w7) := HB10.out.trans (hB.mono HB10.out.size)
    clear hB HZ10 HB10
    cases βa
    case true => go_wp2_with fail; go_ret; exact ⟨rfl, HB7.out⟩
    cases βb
    case true => go_wp2_with fail; go_ret; exact ⟨rfl, HB7.out⟩
    have HA' : Hid (bad (.mk 6 empty [a0t]) σ = false ∧ (a = true ↔ Mt (.mk 6 empty [a0t]) σ)) := ⟨HA.out.1, HA.out.2.trans ⟨fun h => h.2, fun h => ⟨rfl, h⟩⟩⟩
    obtain rfl : a' = a := by rw [Bool.eq_iff_iff, HA'.out.2]; exact (HA2.out.2.trans ⟨fun h => h.2, fun h => ⟨rfl, h⟩⟩).trans (ml_star_star _ _)
    clear HA HA2
    have y00 := cell_of_row w7 w.heap.size 0 _ 27 (0, 0) HZ7.out
    have y01 := cell_of_row w7 w.heap.size 1 _ 27 (0, 0) HZ7.out
    have y02 := cell_of_row w7 w.heap.size 2 _ 27 (0, 0) HZ7.out
    have y03 := cell_of_row w7 w.heap.size 3 _ 27 (0, 0) HZ7.out
    have y04 := cell_of_row w7 w.heap.size 4 _ 27 (0, 0) HZ7.out
    have y05 := cell_of_row w7 w.heap.size 5 _ 27 (0, 0) HZ7.out
    simp only [List.getElem?_toArray, List.getElem?_cons_zero, List.getElem?_cons_succ] at y00 y01 y02 y03 y04 y05
    have HW7 : Hid (Sb w7 w7) := Below.refl _ w7
    go_wp2_with fail
    go_loopw [11, 12] (fun x z wr => ∃ (i : Nat) (b : Bool), x = .bool b ∧ z = .int .i64 (i : Int) ∧ 1 ≤ i ∧ i ≤ σ.size + 1 ∧ Hid ((b = true ↔ σ.data.toList = [] ∨ ∃ j, 1 ≤ j ∧ j < i ∧ ML a0t (σ.data.toList.take j) ∧ ML (.mk 6 empty [a0t]) (σ.data.toList.drop j)) ∧ Sb w7 wr)) (fun x z _ => (if x matches .bool true then 0 else σ.size + 2 - (intOf z).toNat))
    case atStart => exact ⟨1, _, rfl, rfl, by omega, by omega, ⟨start_says σ, HW7.out⟩⟩
    case round =>
      obtain ⟨i, b, rfl, rfl, hi1, hi, HI⟩ := hrel
      by_cases hlt : i ≤ σ.size
      · have hlt' : (i : Int) ≤ (σ.size : Int) := by omega
        cases b
        case true =>
          obtain rfl : a' = true := (stars_says HA'.out).2 (by rcases HI.out.1.1 rfl with h | ⟨j, h0, h1, h2⟩; exact Or.inl h; exact Or.inr ⟨j, h0, by omega, h2⟩)
          go_wp2_with fail
          go_ret
          exact ⟨rfl, HB7.out.trans (Below.mono HI.out.2 HB7.out.size)⟩
        case false =>
          obtain ⟨x, HNx⟩ : ∃ b : Bool, Hid (b = true ↔ bad a0t (σ.extract 0 i) = false ∧ Mt a0t (σ.extract 0 i)) := named _
          obtain ⟨βx, HLx⟩ : ∃ b : Bool, Hid (bad a0t (σ.extract 0 i) = b) := ⟨_, (rfl : bad a0t (σ.extract 0 i) = bad a0t (σ.extract 0 i))⟩
          have Hx : Hid (∀ p : Kp (Sb w7), Calls Try.prog 11 #[(.agg #[.int .i64 k0, .int .u64 (c0.1.toNat : Int), .int .u64 (c0.2.1.toNat : Int), .int .u64 (c0.2.2.1.toNat : Int), .int .u64 (c0.2.2.2.toNat : Int), .slice ao0 n0 p0]), .string (σ.extract 0 i)] p.W fun e w' => e = .returned (.tuple #[.bool x, .bool βx]) ∧ Below p.W.heap.size p.W w') := fun p => by
            have h := is_at a0t _ _ (σ.extract 0 i) p.W (((HX0.out.next HB7.out).wide HB7.out.size).next p.h) (Below.size p.h) x HNx.out
            rw [HLx.out] at h
            exact h
          obtain ⟨y, HNy⟩ : ∃ b : Bool, Hid (b = true ↔ bad (.mk 6 empty [a0t]) (σ.extract i σ.size) = false ∧ Mt (.mk 6 empty [a0t]) (σ.extract i σ.size)) := named _
          obtain ⟨βy, HLy⟩ : ∃ b : Bool, Hid (bad (.mk 6 empty [a0t]) (σ.extract i σ.size) = b) := ⟨_, (rfl : bad (.mk 6 empty [a0t]) (σ.extract i σ.size) = bad (.mk 6 empty [a0t]) (σ.extract i σ.size))⟩
          go_wp2_with fail
          have z00 : ∀ p : Kp (Sb w7), p.W.cell? ⟨w.heap.size, 0, none⟩ = _ := fun p => (Below.cell p.h (p := ⟨w.heap.size, 0, none⟩) (blk_lt HZ7.out)).trans y00
          have z01 : ∀ p : Kp (Sb w7), p.W.cell? ⟨w.heap.size, 1, none⟩ = _ := fun p => (Below.cell p.h (p := ⟨w.heap.size, 1, none⟩) (blk_lt HZ7.out)).trans y01
          have z02 : ∀ p : Kp (Sb w7), p.W.cell? ⟨w.heap.size, 2, none⟩ = _ := fun p => (Below.cell p.h (p := ⟨w.heap.size, 2, none⟩) (blk_lt HZ7.out)).trans y02
          have z03 : ∀ p : Kp (Sb w7), p.W.cell? ⟨w.heap.size, 3, none⟩ = _ := fun p => (Below.cell p.h (p := ⟨w.heap.size, 3, none⟩) (blk_lt HZ7.out)).trans y03
          have z04 : ∀ p : Kp (Sb w7), p.W.cell? ⟨w.heap.size, 4, none⟩ = _ := fun p => (Below.cell p.h (p := ⟨w.heap.size, 4, none⟩) (blk_lt HZ7.out)).trans y04
          have z05 : ∀ p : Kp (Sb w7), p.W.cell? ⟨w.heap.size, 5, none⟩ = _ := fun p => (Below.cell p.h (p := ⟨w.heap.size, 5, none⟩) (blk_lt HZ7.out)).trans y05
          have hne : Nonempty (Kp (Sb w7)) := ⟨⟨_, HW7.out⟩⟩
          refine wp_region_kept mixed (by kernel_rfl) (S := Sb w7) (Below.drew HI.out.2) ?_
          repeat (go_big_quiet_step (first | (go_at_call 11; with_reducible exact Kp.calls _ Sb.next (Hx.out _))))
          refine wpQuiet_nil ?_
          intro Wx hw
          obtain ⟨⟨Wx, HS⟩, rfl⟩ := hw
          have HSx : Hid (Sb w7 Wx) := HS
          clear z00 z01 z02 z03 z04 z05 hne HS
          have HT : Hid ((x && y) = true ↔ σ.data.toList = [] ∨ ∃ j, 1 ≤ j ∧ j < i + 1 ∧ ML a0t (σ.data.toList.take j) ∧ ML (.mk 6 empty [a0t]) (σ.data.toList.drop j)) := stars_step HA'.out.1 HNx.out HNy.out HI.out.1 hi1 hlt hS
          go_wp2_with fail
          refine wp_region_free mixed (fun a0 d a W => ∃ (vs : Value) (x15 x16 x69 x70 x71 x72 x73 x74 x75 x76 x77 : Value), a = (((((((((((a0.put (some 15) x15).put (some 16) x16).put (some 69) x69).put (some 70) x70).put (some 71) x71).put (some 72) x72).put (some 73) x73).put (some 74) x74).put (some 75) x75).put (some 76) x76).put (some 77) x77) ∧ Hid (SR w7 a0t k0 c0 ao0 n0 p0 σ i y βy vs d x15 x16 x69 x70 x71 x72 x73 x74 x75 x76 x77 W)) (by kernel_rfl) ⟨undef, u15, u16, u69, u70, u71, u72, u73, u74, u75, u76, u77, by simp only [Act.put, List.setIfInBounds_toArray, List.set_cons_zero, List.set_cons_succ], ?_⟩ ?_ ?_
          · exact ⟨fun h => no_way h, fun h => no_way h, fun h => no_way h, fun h => no_way h, fun h => no_way h, fun h => no_way h, fun h => no_way h, fun h => no_way h, fun h => no_way h, fun h => no_way h, fun h => no_way h, Below.drew HSx.out, fun h => no_way h⟩
          · simp only [StepAll, and_true]
            refine ⟨?_, ?_, ?_, ?_, ?_, ?_, ?_, ?_, ?_, ?_, ?_⟩
            · intro d a W hI hd hdep
              obtain ⟨vs, x15, x16, x69, x70, x71, x72, x73, x74, x75, x76, x77, rfl, hF⟩ := hI
              have s0 := (Below.cell hF.out.below (p := ⟨w.heap.size, 0, none⟩) (blk_lt HZ7.out)).trans y00
              have s1 := (Below.cell hF.out.below (p := ⟨w.heap.size, 1, none⟩) (blk_lt HZ7.out)).trans y01
              have s2 := (Below.cell hF.out.below (p := ⟨w.heap.size, 2, none⟩) (blk_lt HZ7.out)).trans y02
              have s3 := (Below.cell hF.out.below (p := ⟨w.heap.size, 3, none⟩) (blk_lt HZ7.out)).trans y03
              have s4 := (Below.cell hF.out.below (p := ⟨w.heap.size, 4, none⟩) (blk_lt HZ7.out)).trans y04
              have s5 := (Below.cell hF.out.below (p := ⟨w.heap.size, 5, none⟩) (blk_lt HZ7.out)).trans y05
              clear hdep hd
              intro K hK
              simp only [Act.put, List.setIfInBounds_toArray, List.set_cons_zero, List.set_cons_succ]
              go_simp
              refine hK.out _ _ ⟨vs, x15, x16, x69, (.agg #[.int .i64 k0, .int .u64 (c0.1.toNat : Int), .int .u64 (c0.2.1.toNat : Int), .int .u64 (c0.2.2.1.toNat : Int), .int .u64 (c0.2.2.2.toNat : Int), .slice ao0 n0 p0]), x71, x72, x73, x74, x75, x76, x77, by simp only [Act.put, List.setIfInBounds_toArray, List.set_cons_zero, List.set_cons_succ], ?_⟩
              exact ⟨fun _ => rfl, fun h => hF.out.f1 (by simpa using h), fun h => hF.out.f2 (by simpa using h), fun h => hF.out.f3 (by simpa using h), fun h => hF.out.f4 (by simpa using h), fun h => hF.out.f5 (by simpa using h), fun h => hF.out.f6 (by simpa using h), fun h => hF.out.f7 (by simpa using h), fun h => hF.out.f8 (by simpa using h), fun h => hF.out.f9 (by simpa using h), fun h => hF.out.f10 (by simpa using h), hF.out.below, fun h => hF.out.rx (by simpa using h)⟩
            · intro d a W hI hd hdep
              obtain ⟨vs, x15, x16, x69, x70, x71, x72, x73, x74, x75, x76, x77, rfl, hF⟩ := hI
              have hd0 : d 0 = true := dep_of hdep 0 (by kernel_rfl)
              obtain rfl := hF.out.f0 hd0
              have hcl := star_any a0t _ _ W (((HX0.out.next HB7.out).wide HB7.out.size).next hF.out.below) (Below.size hF.out.below)
              clear hdep hd hd0
              intro K hK
              simp only [Act.put, List.setIfInBounds_toArray, List.set_cons_zero, List.set_cons_succ]
              go_simp
              refine hcl.mono ?_
              rintro _ W1 ⟨v1, rfl, hr1, hb1⟩
              go_simp
              refine hK.out _ _ ⟨v1, x15, x16, x69, (.agg #[.int .i64 k0, .int .u64 (c0.1.toNat : Int), .int .u64 (c0.2.1.toNat : Int), .int .u64 (c0.2.2.1.toNat : Int), .int .u64 (c0.2.2.2.toNat : Int), .slice ao0 n0 p0]), v1, x72, x73, x74, x75, x76, x77, by simp only [Act.put, List.setIfInBounds_toArray, List.set_cons_zero, List.set_cons_succ], ?_⟩
              exact ⟨fun h => hF.out.f0 (by simpa using h), fun _ => rfl, fun h => hF.out.f2 (by simpa using h), fun h => hF.out.f3 (by simpa using h), fun h => hF.out.f4 (by simpa using h), fun h => hF.out.f5 (by simpa using h), fun h => hF.out.f6 (by simpa using h), fun h => hF.out.f7 (by simpa using h), fun h => hF.out.f8 (by simpa using h), fun h => hF.out.f9 (by simpa using h), fun h => hF.out.f10 (by simpa using h), Sb.next _ _ hF.out.below hb1, fun _ => hr1⟩
            · intro d a W hI hd hdep
              obtain ⟨vs, x15, x16, x69, x70, x71, x72, x73, x74, x75, x76, x77, rfl, hF⟩ := hI
              clear hdep hd
              intro K hK
              simp only [Act.put, List.setIfInBounds_toArray, List.set_cons_zero, List.set_cons_succ]
              go_simp
              refine hK.out _ _ ⟨vs, x15, x16, x69, x70, x71, (.string σ), x73, x74, x75, x76, x77, by simp only [Act.put, List.setIfInBounds_toArray, List.set_cons_zero, List.set_cons_succ], ?_⟩
              exact ⟨fun h => hF.out.f0 (by simpa using h), fun h => hF.out.f1 (by simpa using h), fun _ => rfl, fun h => hF.out.f3 (by simpa using h), fun h => hF.out.f4 (by simpa using h), fun h => hF.out.f5 (by simpa using h), fun h => hF.out.f6 (by simpa using h), fun h => hF.out.f7 (by simpa using h), fun h => hF.out.f8 (by simpa using h), fun h => hF.out.f9 (by simpa using h), fun h => hF.out.f10 (by simpa using h), hF.out.below, fun h => hF.out.rx (by simpa using h)⟩
            · intro d a W hI hd hdep
              obtain ⟨vs, x15, x16, x69, x70, x71, x72, x73, x74, x75, x76, x77, rfl, hF⟩ := hI
              clear hdep hd
              intro K hK
              simp only [Act.put, List.setIfInBounds_toArray, List.set_cons_zero, List.set_cons_succ]
              go_simp
              refine hK.out _ _ ⟨vs, x15, x16, x69, x70, x71, x72, (.int .i64 (i : Int)), x74, x75, x76, x77, by simp only [Act.put, List.setIfInBounds_toArray, List.set_cons_zero, List.set_cons_succ], ?_⟩
              exact ⟨fun h => hF.out.f0 (by simpa using h), fun h => hF.out.f1 (by simpa using h), fun h => hF.out.f2 (by simpa using h), fun _ => rfl, fun h => hF.out.f4 (by simpa using h), fun h => hF.out.f5 (by simpa using h), fun h => hF.out.f6 (by simpa using h), fun h => hF.out.f7 (by simpa using h), fun h => hF.out.f8 (by simpa using h), fun h => hF.out.f9 (by simpa using h), fun h => hF.out.f10 (by simpa using h), hF.out.below, fun h => hF.out.rx (by simpa using h)⟩
            · intro d a W hI hd hdep
              obtain ⟨vs, x15, x16, x69, x70, x71, x72, x73, x74, x75, x76, x77, rfl, hF⟩ := hI
              have hd2 : d 2 = true := dep_of hdep 2 (by kernel_rfl)
              have hd3 : d 3 = true := dep_of hdep 3 (by kernel_rfl)
              obtain rfl := hF.out.f2 hd2
              obtain rfl := hF.out.f3 hd3
              clear hdep hd hd2 hd3
              intro K hK
              simp only [Act.put, List.setIfInBounds_toArray, List.set_cons_zero, List.set_cons_succ]
              go_simp
              refine hK.out _ _ ⟨vs, x15, x16, x69, x70, x71, (.string σ), (.int .i64 (i : Int)), (.string (σ.extract i σ.size)), x75, x76, x77, by simp only [Act.put, List.setIfInBounds_toArray, List.set_cons_zero, List.set_cons_succ], ?_⟩
              exact ⟨fun h => hF.out.f0 (by simpa using h), fun h => hF.out.f1 (by simpa using h), fun h => hF.out.f2 (by simpa using h), fun h => hF.out.f3 (by simpa using h), fun _ => rfl, fun h => hF.out.f5 (by simpa using h), fun h => hF.out.f6 (by simpa using h), fun h => hF.out.f7 (by simpa using h), fun h => hF.out.f8 (by simpa using h), fun h => hF.out.f9 (by simpa using h), fun h => hF.out.f10 (by simpa using h), hF.out.below, fun h => hF.out.rx (by simpa using h)⟩
            · intro d a W hI hd hdep
              obtain ⟨vs, x15, x16, x69, x70, x71, x72, x73, x74, x75, x76, x77, rfl, hF⟩ := hI
              have hd1 : d 1 = true := dep_of hdep 1 (by kernel_rfl)
              have hd4 : d 4 = true := dep_of hdep 4 (by kernel_rfl)
              obtain rfl := hF.out.f1 hd1
              obtain rfl := hF.out.f4 hd4
              have hcl := is_at (.mk 6 empty [a0t]) vs _ (σ.extract i σ.size) W (hF.out.rx hd1) (Nat.le_refl _) y HNy.out
              rw [HLy.out] at hcl
              clear hdep hd hd1 hd4
              intro K hK
              simp only [Act.put, List.setIfInBounds_toArray, List.set_cons_zero, List.set_cons_succ]
              go_simp
              refine hcl.mono ?_
              rintro _ W1 ⟨rfl, hb1⟩
              go_simp
              refine hK.out _ _ ⟨vs, x15, x16, x69, x70, vs, x72, x73, (.string (σ.extract i σ.size)), (.tuple #[.bool y, .bool βy]), x76, x77, by simp only [Act.put, List.setIfInBounds_toArray, List.set_cons_zero, List.set_cons_succ], ?_⟩
              exact ⟨fun h => hF.out.f0 (by simpa using h), fun h => hF.out.f1 (by simpa using h), fun h => hF.out.f2 (by simpa using h), fun h => hF.out.f3 (by simpa using h), fun h => hF.out.f4 (by simpa using h), fun _ => rfl, fun h => hF.out.f6 (by simpa using h), fun h => hF.out.f7 (by simpa using h), fun h => hF.out.f8 (by simpa using h), fun h => hF.out.f9 (by simpa using h), fun h => hF.out.f10 (by simpa using h), Sb.next _ _ hF.out.below hb1, fun h => ((hF.out.rx (by simpa using h)).next hb1).wide hb1.size⟩
            · intro d a W hI hd hdep
              obtain ⟨vs, x15, x16, x69, x70, x71, x72, x73, x74, x75, x76, x77, rfl, hF⟩ := hI
              have hd5 : d 5 = true := dep_of hdep 5 (by kernel_rfl)
              obtain rfl := hF.out.f5 hd5
              clear hdep hd hd5
              intro K hK
              simp only [Act.put, List.setIfInBounds_toArray, List.set_cons_zero, List.set_cons_succ]
              go_simp
              refine hK.out _ _ ⟨vs, x15, x16, (.tuple #[.bool y, .bool βy]), x70, x71, x72, x73, x74, (.tuple #[.bool y, .bool βy]), x76, x77, by simp only [Act.put, List.setIfInBounds_toArray, List.set_cons_zero, List.set_cons_succ], ?_⟩
              exact ⟨fun h => hF.out.f0 (by simpa using h), fun h => hF.out.f1 (by simpa using h), fun h => hF.out.f2 (by simpa using h), fun h => hF.out.f3 (by simpa using h), fun h => hF.out.f4 (by simpa using h), fun h => hF.out.f5 (by simpa using h), fun _ => rfl, fun h => hF.out.f7 (by simpa using h), fun h => hF.out.f8 (by simpa using h), fun h => hF.out.f9 (by simpa using h), fun h => hF.out.f10 (by simpa using h), hF.out.below, fun h => hF.out.rx (by simpa using h)⟩
            · intro d a W hI hd hdep
              obtain ⟨vs, x15, x16, x69, x70, x71, x72, x73, x74, x75, x76, x77, rfl, hF⟩ := hI
              have hd6 : d 6 = true := dep_of hdep 6 (by kernel_rfl)
              obtain rfl := hF.out.f6 hd6
              clear hdep hd hd6
              intro K hK
              simp only [Act.put, List.setIfInBounds_toArray, List.set_cons_zero, List.set_cons_succ]
              go_simp
              refine hK.out _ _ ⟨vs, x15, x16, (.tuple #[.bool y, .bool βy]), x70, x71, x72, x73, x74, x75, (.bool y), x77, by simp only [Act.put, List.setIfInBounds_toArray, List.set_cons_zero, List.set_cons_succ], ?_⟩
              exact ⟨fun h => hF.out.f0 (by simpa using h), fun h => hF.out.f1 (by simpa using h), fun h => hF.out.f2 (by simpa using h), fun h => hF.out.f3 (by simpa using h), fun h => hF.out.f4 (by simpa using h), fun h => hF.out.f5 (by simpa using h), fun h => hF.out.f6 (by simpa using h), fun _ => rfl, fun h => hF.out.f8 (by simpa using h), fun h => hF.out.f9 (by simpa using h), fun h => hF.out.f10 (by simpa using h), hF.out.below, fun h => hF.out.rx (by simpa using h)⟩
            · intro d a W hI hd hdep
              obtain ⟨vs, x15, x16, x69, x70, x71, x72, x73, x74, x75, x76, x77, rfl, hF⟩ := hI
              have hd6 : d 6 = true := dep_of hdep 6 (by kernel_rfl)
              obtain rfl := hF.out.f6 hd6
              clear hdep hd hd6
              intro K hK
              simp only [Act.put, List.setIfInBounds_toArray, List.set_cons_zero, List.set_cons_succ]
              go_simp
              refine hK.out _ _ ⟨vs, x15, x16, (.tuple #[.bool y, .bool βy]), x70, x71, x72, x73, x74, x75, x76, (.bool βy), by simp only [Act.put, List.setIfInBounds_toArray, List.set_cons_zero, List.set_cons_succ], ?_⟩
              exact ⟨fun h => hF.out.f0 (by simpa using h), fun h => hF.out.f1 (by simpa using h), fun h => hF.out.f2 (by simpa using h), fun h => hF.out.f3 (by simpa using h), fun h => hF.out.f4 (by simpa using h), fun h => hF.out.f5 (by simpa using h), fun h => hF.out.f6 (by simpa using h), fun h => hF.out.f7 (by simpa using h), fun _ => rfl, fun h => hF.out.f9 (by simpa using h), fun h => hF.out.f10 (by simpa using h), hF.out.below, fun h => hF.out.rx (by simpa using h)⟩
            · intro d a W hI hd hdep
              obtain ⟨vs, x15, x16, x69, x70, x71, x72, x73, x74, x75, x76, x77, rfl, hF⟩ := hI
              have hd7 : d 7 = true := dep_of hdep 7 (by kernel_rfl)
              obtain rfl := hF.out.f7 hd7
              clear hdep hd hd7
              intro K hK
              simp only [Act.put, List.setIfInBounds_toArray, List.set_cons_zero, List.set_cons_succ]
              go_simp
              refine hK.out _ _ ⟨vs, (.bool y), x16, x69, x70, x71, x72, x73, x74, x75, (.bool y), x77, by simp only [Act.put, List.setIfInBounds_toArray, List.set_cons_zero, List.set_cons_succ], ?_⟩
              exact ⟨fun h => hF.out.f0 (by simpa using h), fun h => hF.out.f1 (by simpa using h), fun h => hF.out.f2 (by simpa using h), fun h => hF.out.f3 (by simpa using h), fun h => hF.out.f4 (by simpa using h), fun h => hF.out.f5 (by simpa using h), fun h => hF.out.f6 (by simpa using h), fun h => hF.out.f7 (by simpa using h), fun h => hF.out.f8 (by simpa using h), fun _ => rfl, fun h => hF.out.f10 (by simpa using h), hF.out.below, fun h => hF.out.rx (by simpa using h)⟩
            · intro d a W hI hd hdep
              obtain ⟨vs, x15, x16, x69, x70, x71, x72, x73, x74, x75, x76, x77, rfl, hF⟩ := hI
              have hd8 : d 8 = true := dep_of hdep 8 (by kernel_rfl)
              obtain rfl := hF.out.f8 hd8
              clear hdep hd hd8
              intro K hK
              simp only [Act.put, List.setIfInBounds_toArray, List.set_cons_zero, List.set_cons_succ]
              go_simp
              refine hK.out _ _ ⟨vs, x15, (.bool βy), x69, x70, x71, x72, x73, x74, x75, x76, (.bool βy), by simp only [Act.put, List.setIfInBounds_toArray, List.set_cons_zero, List.set_cons_succ], ?_⟩
              exact ⟨fun h => hF.out.f0 (by simpa using h), fun h => hF.out.f1 (by simpa using h), fun h => hF.out.f2 (by simpa using h), fun h => hF.out.f3 (by simpa using h), fun h => hF.out.f4 (by simpa using h), fun h => hF.out.f5 (by simpa using h), fun h => hF.out.f6 (by simpa using h), fun h => hF.out.f7 (by simpa using h), fun h => hF.out.f8 (by simpa using h), fun h => hF.out.f9 (by simpa using h), fun _ => rfl, hF.out.below, fun h => hF.out.rx (by simpa using h)⟩
          · intro d a W hI hall
            obtain ⟨vs, x15, x16, x69, x70, x71, x72, x73, x74, x75, x76, x77, rfl, hF⟩ := hI
            simp only [List.length_cons, List.length_nil] at hall
            obtain rfl := hF.out.f0 (hall 0 (by omega))
            obtain rfl := hF.out.f1 (hall 1 (by omega))
            obtain rfl := hF.out.f2 (hall 2 (by omega))
            obtain rfl := hF.out.f3 (hall 3 (by omega))
            obtain rfl := hF.out.f4 (hall 4 (by omega))
            obtain rfl := hF.out.f5 (hall 5 (by omega))
            obtain rfl := hF.out.f6 (hall 6 (by omega))
            obtain rfl := hF.out.f7 (hall 7 (by omega))
            obtain rfl := hF.out.f8 (hall 8 (by omega))
            obtain rfl := hF.out.f9 (hall 9 (by omega))
            obtain rfl := hF.out.f10 (hall 10 (by omega))
            have HSy : Hid (Sb w7 W) := hF.out.below
            clear hF hall
            simp only [Act.put, List.setIfInBounds_toArray, List.set_cons_zero, List.set_cons_succ]
            cases x
            case false =>
              go_wp2_with fail
              go_roundw
              case rel => exact ⟨i + 1, false, rfl, by go_num, by omega, by omega, ⟨HT.out, HSy.out⟩⟩
              case measure => simp [intOf]; omega
            case true =>
              go_wp2_with fail
              go_roundw
              case rel => exact ⟨i + 1, y, rfl, by go_num, by omega, by omega, ⟨HT.out, HSy.out⟩⟩
              case measure => cases y <;> simp [intOf] <;> omega
      · have hlt' : ¬ (i : Int) ≤ (σ.size : Int) := by omega
        obtain rfl : i = σ.size + 1 := by omega
        obtain rfl : a' = b := by rw [Bool.eq_iff_iff, stars_says HA'.out]; exact HI.out.1.symm
        cases a' <;> (go_wp2_with fail; go_ret; exact ⟨rfl, HB7.out.trans (Below.mono HI.out.2 HB7.out.size)⟩)
  · have hl' : ¬ 60 < (a1.size : Int) := by omega
    have hS : a1.size ≤ 60 := by omega
    go_wp2_with fail
    clear hl hl'
    clear y00 y01 y02 y03 y04 y05
    refine (star_any a0t _ w5.heap.size w5 ((HX0.out.next HB5.out).wide HB5.out.size) (Nat.le_refl _)).mono ?_
    rintro _ w6 ⟨v6, rfl, hx, hB⟩
    have HV6 : Hid (Rx w6 w6.heap.size v6 (.mk 6 empty [a0t])) := hx
    clear hx
    have HZ6 : Hid (w6.heap[w.heap.size]? = some (.cells #[.int .i64 k0, .int .u64 (c0.1.toNat : Int), .int .u64 (c0.2.1.toNat : Int), .int .u64 (c0.2.2.1.toNat : Int), .int .u64 (c0.2.2.2.toNat : Int), .slice ao0 n0 p0] 27)) := blk_next hB HZ5.out
    have HB6 : Hid (Below w.heap.size w w6) := HB5.out.trans (hB.mono HB5.out.size)
    clear hB HZ5 HB5
    go_wp2_with fail
    refine (is_any (.mk 6 empty [a0t]) _ _ _ w6 HV6.out (Nat.le_refl _)).mono ?_
    rintro _ w8 ⟨a, rfl, h, hB⟩
    generalize hβ : bad (.mk 6 empty [a0t]) _ = βa at h ⊢
    have HA : Hid (bad (.mk 6 empty [a0t]) a1 = βa ∧ (a = true ↔ βa = false ∧ Mt (.mk 6 empty [a0t]) a1)) := ⟨hβ, h⟩
    clear hβ h HV6
    have HZ8 : Hid (w8.heap[w.heap.size]? = some (.cells #[.int .i64 k0, .int .u64 (c0.1.toNat : Int), .int .u64 (c0.2.1.toNat : Int), .int .u64 (c0.2.2.1.toNat : Int), .int .u64 (c0.2.2.2.toNat : Int), .slice ao0 n0 p0] 27)) := blk_next hB HZ6.out
    have HB8 : Hid (Below w.heap.size w w8) := HB6.out.trans (hB.mono HB6.out.size)
    clear hB HZ6 HB6
    have y00 := cell_of_row w8 w.heap.size 0 _ 27 (0, 0) HZ8.out
    have y01 := cell_of_row w8 w.heap.size 1 _ 27 (0, 0) HZ8.out
    have y02 := cell_of_row w8 w.heap.size 2 _ 27 (0, 0) HZ8.out
    have y03 := cell_of_row w8 w.heap.size 3 _ 27 (0, 0) HZ8.out
    have y04 := cell_of_row w8 w.heap.size 4 _ 27 (0, 0) HZ8.out
    have y05 := cell_of_row w8 w.heap.size 5 _ 27 (0, 0) HZ8.out
    simp only [List.getElem?_toArray, List.getElem?_cons_zero, List.getElem?_cons_succ] at y00 y01 y02 y03 y04 y05
    go_wp2_with fail
    clear y00 y01 y02 y03 y04 y05
    refine (star_any a0t _ w8.heap.size w8 ((HX0.out.next HB8.out).wide HB8.out.size) (Nat.le_refl _)).mono ?_
    rintro _ w9 ⟨v9, rfl, hx, hB⟩
    have HV9 : Hid (Rx w9 w9.heap.size v9 (.mk 6 empty [a0t])) := hx
    clear hx
    have HZ9 : Hid (w9.heap[w.heap.size]? = some (.cells #[.int .i64 k0, .int .u64 (c0.1.toNat : Int), .int .u64 (c0.2.1.toNat : Int), .int .u64 (c0.2.2.1.toNat : Int), .int .u64 (c0.2.2.2.toNat : Int), .slice ao0 n0 p0] 27)) := blk_next hB HZ8.out
    have HB9 : Hid (Below w.heap.size w w9) := HB8.out.trans (hB.mono HB8.out.size)
    clear hB HZ8 HB8
    go_wp2_with fail
    refine (star_any _ v9 _ w9 HV9.out (Nat.le_refl _)).mono ?_
    rintro _ w10 ⟨v10, rfl, hx, hB⟩
    have HV10 : Hid (Rx w10 w10.heap.size v10 (.mk 6 empty [.mk 6 empty [a0t]])) := hx
    clear hx HV9
    have HZ10 : Hid (w10.heap[w.heap.size]? = some (.cells #[.int .i64 k0, .int .u64 (c0.1.toNat : Int), .int .u64 (c0.2.1.toNat : Int), .int .u64 (c0.2.2.1.toNat : Int), .int .u64 (c0.2.2.2.toNat : Int), .slice ao0 n0 p0] 27)) := blk_next hB HZ9.out
    have HB10 : Hid (Below w.heap.size w w10) := HB9.out.trans (hB.mono HB9.out.size)
    clear hB HZ9 HB9
    go_wp2_with fail
    refine (is_any (.mk 6 empty [.mk 6 empty [a0t]]) _ _ _ w10 HV10.out (Nat.le_refl _)).mono ?_
    rintro _ w7 ⟨a', rfl, h, hB⟩
    generalize hβ : bad (.mk 6 empty [.mk 6 empty [a0t]]) _ = βb at h ⊢
    have HA2 : Hid (bad (.mk 6 empty [.mk 6 empty [a0t]]) a1 = βb ∧ (a' = true ↔ βb = false ∧ Mt (.mk 6 empty [.mk 6 empty [a0t]]) a1)) := ⟨hβ, h⟩
    clear hβ h HV10
    have HZ7 : Hid (w7.heap[w.heap.size]? = some (.cells #[.int .i64 k0, .int .u64 (c0.1.toNat : Int), .int .u64 (c0.2.1.toNat : Int), .int .u64 (c0.2.2.1.toNat : Int), .int .u64 (c0.2.2.2.toNat : Int), .slice ao0 n0 p0] 27)) := blk_next hB HZ10.out
    have HB7 : Hid (Below w.heap.size w w7) := HB10.out.trans (hB.mono HB10.out.size)
    clear hB HZ10 HB10
    cases βa
    case true => go_wp2_with fail; go_ret; exact ⟨rfl, HB7.out⟩
    cases βb
    case true => go_wp2_with fail; go_ret; exact ⟨rfl, HB7.out⟩
    have HA' : Hid (bad (.mk 6 empty [a0t]) a1 = false ∧ (a = true ↔ Mt (.mk 6 empty [a0t]) a1)) := ⟨HA.out.1, HA.out.2.trans ⟨fun h => h.2, fun h => ⟨rfl, h⟩⟩⟩
    obtain rfl : a' = a := by rw [Bool.eq_iff_iff, HA'.out.2]; exact (HA2.out.2.trans ⟨fun h => h.2, fun h => ⟨rfl, h⟩⟩).trans (ml_star_star _ _)
    clear HA HA2
    have y00 := cell_of_row w7 w.heap.size 0 _ 27 (0, 0) HZ7.out
    have y01 := cell_of_row w7 w.heap.size 1 _ 27 (0, 0) HZ7.out
    have y02 := cell_of_row w7 w.heap.size 2 _ 27 (0, 0) HZ7.out
    have y03 := cell_of_row w7 w.heap.size 3 _ 27 (0, 0) HZ7.out
    have y04 := cell_of_row w7 w.heap.size 4 _ 27 (0, 0) HZ7.out
    have y05 := cell_of_row w7 w.heap.size 5 _ 27 (0, 0) HZ7.out
    simp only [List.getElem?_toArray, List.getElem?_cons_zero, List.getElem?_cons_succ] at y00 y01 y02 y03 y04 y05
    have HW7 : Hid (Sb w7 w7) := Below.refl _ w7
    go_wp2_with fail
    go_loopw [11, 12] (fun x z wr => ∃ (i : Nat) (b : Bool), x = .bool b ∧ z = .int .i64 (i : Int) ∧ 1 ≤ i ∧ i ≤ a1.size + 1 ∧ Hid ((b = true ↔ a1.data.toList = [] ∨ ∃ j, 1 ≤ j ∧ j < i ∧ ML a0t (a1.data.toList.take j) ∧ ML (.mk 6 empty [a0t]) (a1.data.toList.drop j)) ∧ Sb w7 wr)) (fun x z _ => (if x matches .bool true then 0 else a1.size + 2 - (intOf z).toNat))
    case atStart => exact ⟨1, _, rfl, rfl, by omega, by omega, ⟨start_says a1, HW7.out⟩⟩
    case round =>
      obtain ⟨i, b, rfl, rfl, hi1, hi, HI⟩ := hrel
      by_cases hlt : i ≤ a1.size
      · have hlt' : (i : Int) ≤ (a1.size : Int) := by omega
        cases b
        case true =>
          obtain rfl : a' = true := (stars_says HA'.out).2 (by rcases HI.out.1.1 rfl with h | ⟨j, h0, h1, h2⟩; exact Or.inl h; exact Or.inr ⟨j, h0, by omega, h2⟩)
          go_wp2_with fail
          go_ret
          exact ⟨rfl, HB7.out.trans (Below.mono HI.out.2 HB7.out.size)⟩
        case false =>
          obtain ⟨x, HNx⟩ : ∃ b : Bool, Hid (b = true ↔ bad a0t (a1.extract 0 i) = false ∧ Mt a0t (a1.extract 0 i)) := named _
          obtain ⟨βx, HLx⟩ : ∃ b : Bool, Hid (bad a0t (a1.extract 0 i) = b) := ⟨_, (rfl : bad a0t (a1.extract 0 i) = bad a0t (a1.extract 0 i))⟩
          have Hx : Hid (∀ p : Kp (Sb w7), Calls Try.prog 11 #[(.agg #[.int .i64 k0, .int .u64 (c0.1.toNat : Int), .int .u64 (c0.2.1.toNat : Int), .int .u64 (c0.2.2.1.toNat : Int), .int .u64 (c0.2.2.2.toNat : Int), .slice ao0 n0 p0]), .string (a1.extract 0 i)] p.W fun e w' => e = .returned (.tuple #[.bool x, .bool βx]) ∧ Below p.W.heap.size p.W w') := fun p => by
            have h := is_at a0t _ _ (a1.extract 0 i) p.W (((HX0.out.next HB7.out).wide HB7.out.size).next p.h) (Below.size p.h) x HNx.out
            rw [HLx.out] at h
            exact h
          obtain ⟨y, HNy⟩ : ∃ b : Bool, Hid (b = true ↔ bad (.mk 6 empty [a0t]) (a1.extract i a1.size) = false ∧ Mt (.mk 6 empty [a0t]) (a1.extract i a1.size)) := named _
          obtain ⟨βy, HLy⟩ : ∃ b : Bool, Hid (bad (.mk 6 empty [a0t]) (a1.extract i a1.size) = b) := ⟨_, (rfl : bad (.mk 6 empty [a0t]) (a1.extract i a1.size) = bad (.mk 6 empty [a0t]) (a1.extract i a1.size))⟩
          go_wp2_with fail
          have z00 : ∀ p : Kp (Sb w7), p.W.cell? ⟨w.heap.size, 0, none⟩ = _ := fun p => (Below.cell p.h (p := ⟨w.heap.size, 0, none⟩) (blk_lt HZ7.out)).trans y00
          have z01 : ∀ p : Kp (Sb w7), p.W.cell? ⟨w.heap.size, 1, none⟩ = _ := fun p => (Below.cell p.h (p := ⟨w.heap.size, 1, none⟩) (blk_lt HZ7.out)).trans y01
          have z02 : ∀ p : Kp (Sb w7), p.W.cell? ⟨w.heap.size, 2, none⟩ = _ := fun p => (Below.cell p.h (p := ⟨w.heap.size, 2, none⟩) (blk_lt HZ7.out)).trans y02
          have z03 : ∀ p : Kp (Sb w7), p.W.cell? ⟨w.heap.size, 3, none⟩ = _ := fun p => (Below.cell p.h (p := ⟨w.heap.size, 3, none⟩) (blk_lt HZ7.out)).trans y03
          have z04 : ∀ p : Kp (Sb w7), p.W.cell? ⟨w.heap.size, 4, none⟩ = _ := fun p => (Below.cell p.h (p := ⟨w.heap.size, 4, none⟩) (blk_lt HZ7.out)).trans y04
          have z05 : ∀ p : Kp (Sb w7), p.W.cell? ⟨w.heap.size, 5, none⟩ = _ := fun p => (Below.cell p.h (p := ⟨w.heap.size, 5, none⟩) (blk_lt HZ7.out)).trans y05
          have hne : Nonempty (Kp (Sb w7)) := ⟨⟨_, HW7.out⟩⟩
          refine wp_region_kept mixed (by kernel_rfl) (S := Sb w7) (Below.drew HI.out.2) ?_
          repeat (go_big_quiet_step (first | (go_at_call 11; with_reducible exact Kp.calls _ Sb.next (Hx.out _))))
          refine wpQuiet_nil ?_
          intro Wx hw
          obtain ⟨⟨Wx, HS⟩, rfl⟩ := hw
          have HSx : Hid (Sb w7 Wx) := HS
          clear z00 z01 z02 z03 z04 z05 hne HS
          have HT : Hid ((x && y) = true ↔ a1.data.toList = [] ∨ ∃ j, 1 ≤ j ∧ j < i + 1 ∧ ML a0t (a1.data.toList.take j) ∧ ML (.mk 6 empty [a0t]) (a1.data.toList.drop j)) := stars_step HA'.out.1 HNx.out HNy.out HI.out.1 hi1 hlt hS
          go_wp2_with fail
          refine wp_region_free mixed (fun a0 d a W => ∃ (vs : Value) (x15 x16 x69 x70 x71 x72 x73 x74 x75 x76 x77 : Value), a = (((((((((((a0.put (some 15) x15).put (some 16) x16).put (some 69) x69).put (some 70) x70).put (some 71) x71).put (some 72) x72).put (some 73) x73).put (some 74) x74).put (some 75) x75).put (some 76) x76).put (some 77) x77) ∧ Hid (SR w7 a0t k0 c0 ao0 n0 p0 a1 i y βy vs d x15 x16 x69 x70 x71 x72 x73 x74 x75 x76 x77 W)) (by kernel_rfl) ⟨undef, u15, u16, u69, u70, u71, u72, u73, u74, u75, u76, u77, by simp only [Act.put, List.setIfInBounds_toArray, List.set_cons_zero, List.set_cons_succ], ?_⟩ ?_ ?_
          · exact ⟨fun h => no_way h, fun h => no_way h, fun h => no_way h, fun h => no_way h, fun h => no_way h, fun h => no_way h, fun h => no_way h, fun h => no_way h, fun h => no_way h, fun h => no_way h, fun h => no_way h, Below.drew HSx.out, fun h => no_way h⟩
          · simp only [StepAll, and_true]
            refine ⟨?_, ?_, ?_, ?_, ?_, ?_, ?_, ?_, ?_, ?_, ?_⟩
            · intro d a W hI hd hdep
              obtain ⟨vs, x15, x16, x69, x70, x71, x72, x73, x74, x75, x76, x77, rfl, hF⟩ := hI
              have s0 := (Below.cell hF.out.below (p := ⟨w.heap.size, 0, none⟩) (blk_lt HZ7.out)).trans y00
              have s1 := (Below.cell hF.out.below (p := ⟨w.heap.size, 1, none⟩) (blk_lt HZ7.out)).trans y01
              have s2 := (Below.cell hF.out.below (p := ⟨w.heap.size, 2, none⟩) (blk_lt HZ7.out)).trans y02
              have s3 := (Below.cell hF.out.below (p := ⟨w.heap.size, 3, none⟩) (blk_lt HZ7.out)).trans y03
              have s4 := (Below.cell hF.out.below (p := ⟨w.heap.size, 4, none⟩) (blk_lt HZ7.out)).trans y04
              have s5 := (Below.cell hF.out.below (p := ⟨w.heap.size, 5, none⟩) (blk_lt HZ7.out)).trans y05
              clear hdep hd
              intro K hK
              simp only [Act.put, List.setIfInBounds_toArray, List.set_cons_zero, List.set_cons_succ]
              go_simp
              refine hK.out _ _ ⟨vs, x15, x16, x69, (.agg #[.int .i64 k0, .int .u64 (c0.1.toNat : Int), .int .u64 (c0.2.1.toNat : Int), .int .u64 (c0.2.2.1.toNat : Int), .int .u64 (c0.2.2.2.toNat : Int), .slice ao0 n0 p0]), x71, x72, x73, x74, x75, x76, x77, by simp only [Act.put, List.setIfInBounds_toArray, List.set_cons_zero, List.set_cons_succ], ?_⟩
              exact ⟨fun _ => rfl, fun h => hF.out.f1 (by simpa using h), fun h => hF.out.f2 (by simpa using h), fun h => hF.out.f3 (by simpa using h), fun h => hF.out.f4 (by simpa using h), fun h => hF.out.f5 (by simpa using h), fun h => hF.out.f6 (by simpa using h), fun h => hF.out.f7 (by simpa using h), fun h => hF.out.f8 (by simpa using h), fun h => hF.out.f9 (by simpa using h), fun h => hF.out.f10 (by simpa using h), hF.out.below, fun h => hF.out.rx (by simpa using h)⟩
            · intro d a W hI hd hdep
              obtain ⟨vs, x15, x16, x69, x70, x71, x72, x73, x74, x75, x76, x77, rfl, hF⟩ := hI
              have hd0 : d 0 = true := dep_of hdep 0 (by kernel_rfl)
              obtain rfl := hF.out.f0 hd0
              have hcl := star_any a0t _ _ W (((HX0.out.next HB7.out).wide HB7.out.size).next hF.out.below) (Below.size hF.out.below)
              clear hdep hd hd0
              intro K hK
              simp only [Act.put, List.setIfInBounds_toArray, List.set_cons_zero, List.set_cons_succ]
              go_simp
              refine hcl.mono ?_
              rintro _ W1 ⟨v1, rfl, hr1, hb1⟩
              go_simp
              refine hK.out _ _ ⟨v1, x15, x16, x69, (.agg #[.int .i64 k0, .int .u64 (c0.1.toNat : Int), .int .u64 (c0.2.1.toNat : Int), .int .u64 (c0.2.2.1.toNat : Int), .int .u64 (c0.2.2.2.toNat : Int), .slice ao0 n0 p0]), v1, x72, x73, x74, x75, x76, x77, by simp only [Act.put, List.setIfInBounds_toArray, List.set_cons_zero, List.set_cons_succ], ?_⟩
              exact ⟨fun h => hF.out.f0 (by simpa using h), fun _ => rfl, fun h => hF.out.f2 (by simpa using h), fun h => hF.out.f3 (by simpa using h), fun h => hF.out.f4 (by simpa using h), fun h => hF.out.f5 (by simpa using h), fun h => hF.out.f6 (by simpa using h), fun h => hF.out.f7 (by simpa using h), fun h => hF.out.f8 (by simpa using h), fun h => hF.out.f9 (by simpa using h), fun h => hF.out.f10 (by simpa using h), Sb.next _ _ hF.out.below hb1, fun _ => hr1⟩
            · intro d a W hI hd hdep
              obtain ⟨vs, x15, x16, x69, x70, x71, x72, x73, x74, x75, x76, x77, rfl, hF⟩ := hI
              clear hdep hd
              intro K hK
              simp only [Act.put, List.setIfInBounds_toArray, List.set_cons_zero, List.set_cons_succ]
              go_simp
              refine hK.out _ _ ⟨vs, x15, x16, x69, x70, x71, (.string a1), x73, x74, x75, x76, x77, by simp only [Act.put, List.setIfInBounds_toArray, List.set_cons_zero, List.set_cons_succ], ?_⟩
              exact ⟨fun h => hF.out.f0 (by simpa using h), fun h => hF.out.f1 (by simpa using h), fun _ => rfl, fun h => hF.out.f3 (by simpa using h), fun h => hF.out.f4 (by simpa using h), fun h => hF.out.f5 (by simpa using h), fun h => hF.out.f6 (by simpa using h), fun h => hF.out.f7 (by simpa using h), fun h => hF.out.f8 (by simpa using h), fun h => hF.out.f9 (by simpa using h), fun h => hF.out.f10 (by simpa using h), hF.out.below, fun h => hF.out.rx (by simpa using h)⟩
            · intro d a W hI hd hdep
              obtain ⟨vs, x15, x16, x69, x70, x71, x72, x73, x74, x75, x76, x77, rfl, hF⟩ := hI
              clear hdep hd
              intro K hK
              simp only [Act.put, List.setIfInBounds_toArray, List.set_cons_zero, List.set_cons_succ]
              go_simp
              refine hK.out _ _ ⟨vs, x15, x16, x69, x70, x71, x72, (.int .i64 (i : Int)), x74, x75, x76, x77, by simp only [Act.put, List.setIfInBounds_toArray, List.set_cons_zero, List.set_cons_succ], ?_⟩
              exact ⟨fun h => hF.out.f0 (by simpa using h), fun h => hF.out.f1 (by simpa using h), fun h => hF.out.f2 (by simpa using h), fun _ => rfl, fun h => hF.out.f4 (by simpa using h), fun h => hF.out.f5 (by simpa using h), fun h => hF.out.f6 (by simpa using h), fun h => hF.out.f7 (by simpa using h), fun h => hF.out.f8 (by simpa using h), fun h => hF.out.f9 (by simpa using h), fun h => hF.out.f10 (by simpa using h), hF.out.below, fun h => hF.out.rx (by simpa using h)⟩
            · intro d a W hI hd hdep
              obtain ⟨vs, x15, x16, x69, x70, x71, x72, x73, x74, x75, x76, x77, rfl, hF⟩ := hI
              have hd2 : d 2 = true := dep_of hdep 2 (by kernel_rfl)
              have hd3 : d 3 = true := dep_of hdep 3 (by kernel_rfl)
              obtain rfl := hF.out.f2 hd2
              obtain rfl := hF.out.f3 hd3
              clear hdep hd hd2 hd3
              intro K hK
              simp only [Act.put, List.setIfInBounds_toArray, List.set_cons_zero, List.set_cons_succ]
              go_simp
              refine hK.out _ _ ⟨vs, x15, x16, x69, x70, x71, (.string a1), (.int .i64 (i : Int)), (.string (a1.extract i a1.size)), x75, x76, x77, by simp only [Act.put, List.setIfInBounds_toArray, List.set_cons_zero, List.set_cons_succ], ?_⟩
              exact ⟨fun h => hF.out.f0 (by simpa using h), fun h => hF.out.f1 (by simpa using h), fun h => hF.out.f2 (by simpa using h), fun h => hF.out.f3 (by simpa using h), fun _ => rfl, fun h => hF.out.f5 (by simpa using h), fun h => hF.out.f6 (by simpa using h), fun h => hF.out.f7 (by simpa using h), fun h => hF.out.f8 (by simpa using h), fun h => hF.out.f9 (by simpa using h), fun h => hF.out.f10 (by simpa using h), hF.out.below, fun h => hF.out.rx (by simpa using h)⟩
            · intro d a W hI hd hdep
              obtain ⟨vs, x15, x16, x69, x70, x71, x72, x73, x74, x75, x76, x77, rfl, hF⟩ := hI
              have hd1 : d 1 = true := dep_of hdep 1 (by kernel_rfl)
              have hd4 : d 4 = true := dep_of hdep 4 (by kernel_rfl)
              obtain rfl := hF.out.f1 hd1
              obtain rfl := hF.out.f4 hd4
              have hcl := is_at (.mk 6 empty [a0t]) vs _ (a1.extract i a1.size) W (hF.out.rx hd1) (Nat.le_refl _) y HNy.out
              rw [HLy.out] at hcl
              clear hdep hd hd1 hd4
              intro K hK
              simp only [Act.put, List.setIfInBounds_toArray, List.set_cons_zero, List.set_cons_succ]
              go_simp
              refine hcl.mono ?_
              rintro _ W1 ⟨rfl, hb1⟩
              go_simp
              refine hK.out _ _ ⟨vs, x15, x16, x69, x70, vs, x72, x73, (.string (a1.extract i a1.size)), (.tuple #[.bool y, .bool βy]), x76, x77, by simp only [Act.put, List.setIfInBounds_toArray, List.set_cons_zero, List.set_cons_succ], ?_⟩
              exact ⟨fun h => hF.out.f0 (by simpa using h), fun h => hF.out.f1 (by simpa using h), fun h => hF.out.f2 (by simpa using h), fun h => hF.out.f3 (by simpa using h), fun h => hF.out.f4 (by simpa using h), fun _ => rfl, fun h => hF.out.f6 (by simpa using h), fun h => hF.out.f7 (by simpa using h), fun h => hF.out.f8 (by simpa using h), fun h => hF.out.f9 (by simpa using h), fun h => hF.out.f10 (by simpa using h), Sb.next _ _ hF.out.below hb1, fun h => ((hF.out.rx (by simpa using h)).next hb1).wide hb1.size⟩
            · intro d a W hI hd hdep
              obtain ⟨vs, x15, x16, x69, x70, x71, x72, x73, x74, x75, x76, x77, rfl, hF⟩ := hI
              have hd5 : d 5 = true := dep_of hdep 5 (by kernel_rfl)
              obtain rfl := hF.out.f5 hd5
              clear hdep hd hd5
              intro K hK
              simp only [Act.put, List.setIfInBounds_toArray, List.set_cons_zero, List.set_cons_succ]
              go_simp
              refine hK.out _ _ ⟨vs, x15, x16, (.tuple #[.bool y, .bool βy]), x70, x71, x72, x73, x74, (.tuple #[.bool y, .bool βy]), x76, x77, by simp only [Act.put, List.setIfInBounds_toArray, List.set_cons_zero, List.set_cons_succ], ?_⟩
              exact ⟨fun h => hF.out.f0 (by simpa using h), fun h => hF.out.f1 (by simpa using h), fun h => hF.out.f2 (by simpa using h), fun h => hF.out.f3 (by simpa using h), fun h => hF.out.f4 (by simpa using h), fun h => hF.out.f5 (by simpa using h), fun _ => rfl, fun h => hF.out.f7 (by simpa using h), fun h => hF.out.f8 (by simpa using h), fun h => hF.out.f9 (by simpa using h), fun h => hF.out.f10 (by simpa using h), hF.out.below, fun h => hF.out.rx (by simpa using h)⟩
            · intro d a W hI hd hdep
              obtain ⟨vs, x15, x16, x69, x70, x71, x72, x73, x74, x75, x76, x77, rfl, hF⟩ := hI
              have hd6 : d 6 = true := dep_of hdep 6 (by kernel_rfl)
              obtain rfl := hF.out.f6 hd6
              clear hdep hd hd6
              intro K hK
              simp only [Act.put, List.setIfInBounds_toArray, List.set_cons_zero, List.set_cons_succ]
              go_simp
              refine hK.out _ _ ⟨vs, x15, x16, (.tuple #[.bool y, .bool βy]), x70, x71, x72, x73, x74, x75, (.bool y), x77, by simp only [Act.put, List.setIfInBounds_toArray, List.set_cons_zero, List.set_cons_succ], ?_⟩
              exact ⟨fun h => hF.out.f0 (by simpa using h), fun h => hF.out.f1 (by simpa using h), fun h => hF.out.f2 (by simpa using h), fun h => hF.out.f3 (by simpa using h), fun h => hF.out.f4 (by simpa using h), fun h => hF.out.f5 (by simpa using h), fun h => hF.out.f6 (by simpa using h), fun _ => rfl, fun h => hF.out.f8 (by simpa using h), fun h => hF.out.f9 (by simpa using h), fun h => hF.out.f10 (by simpa using h), hF.out.below, fun h => hF.out.rx (by simpa using h)⟩
            · intro d a W hI hd hdep
              obtain ⟨vs, x15, x16, x69, x70, x71, x72, x73, x74, x75, x76, x77, rfl, hF⟩ := hI
              have hd6 : d 6 = true := dep_of hdep 6 (by kernel_rfl)
              obtain rfl := hF.out.f6 hd6
              clear hdep hd hd6
              intro K hK
              simp only [Act.put, List.setIfInBounds_toArray, List.set_cons_zero, List.set_cons_succ]
              go_simp
              refine hK.out _ _ ⟨vs, x15, x16, (.tuple #[.bool y, .bool βy]), x70, x71, x72, x73, x74, x75, x76, (.bool βy), by simp only [Act.put, List.setIfInBounds_toArray, List.set_cons_zero, List.set_cons_succ], ?_⟩
              exact ⟨fun h => hF.out.f0 (by simpa using h), fun h => hF.out.f1 (by simpa using h), fun h => hF.out.f2 (by simpa using h), fun h => hF.out.f3 (by simpa using h), fun h => hF.out.f4 (by simpa using h), fun h => hF.out.f5 (by simpa using h), fun h => hF.out.f6 (by simpa using h), fun h => hF.out.f7 (by simpa using h), fun _ => rfl, fun h => hF.out.f9 (by simpa using h), fun h => hF.out.f10 (by simpa using h), hF.out.below, fun h => hF.out.rx (by simpa using h)⟩
            · intro d a W hI hd hdep
              obtain ⟨vs, x15, x16, x69, x70, x71, x72, x73, x74, x75, x76, x77, rfl, hF⟩ := hI
              have hd7 : d 7 = true := dep_of hdep 7 (by kernel_rfl)
              obtain rfl := hF.out.f7 hd7
              clear hdep hd hd7
              intro K hK
              simp only [Act.put, List.setIfInBounds_toArray, List.set_cons_zero, List.set_cons_succ]
              go_simp
              refine hK.out _ _ ⟨vs, (.bool y), x16, x69, x70, x71, x72, x73, x74, x75, (.bool y), x77, by simp only [Act.put, List.setIfInBounds_toArray, List.set_cons_zero, List.set_cons_succ], ?_⟩
              exact ⟨fun h => hF.out.f0 (by simpa using h), fun h => hF.out.f1 (by simpa using h), fun h => hF.out.f2 (by simpa using h), fun h => hF.out.f3 (by simpa using h), fun h => hF.out.f4 (by simpa using h), fun h => hF.out.f5 (by simpa using h), fun h => hF.out.f6 (by simpa using h), fun h => hF.out.f7 (by simpa using h), fun h => hF.out.f8 (by simpa using h), fun _ => rfl, fun h => hF.out.f10 (by simpa using h), hF.out.below, fun h => hF.out.rx (by simpa using h)⟩
            · intro d a W hI hd hdep
              obtain ⟨vs, x15, x16, x69, x70, x71, x72, x73, x74, x75, x76, x77, rfl, hF⟩ := hI
              have hd8 : d 8 = true := dep_of hdep 8 (by kernel_rfl)
              obtain rfl := hF.out.f8 hd8
              clear hdep hd hd8
              intro K hK
              simp only [Act.put, List.setIfInBounds_toArray, List.set_cons_zero, List.set_cons_succ]
              go_simp
              refine hK.out _ _ ⟨vs, x15, (.bool βy), x69, x70, x71, x72, x73, x74, x75, x76, (.bool βy), by simp only [Act.put, List.setIfInBounds_toArray, List.set_cons_zero, List.set_cons_succ], ?_⟩
              exact ⟨fun h => hF.out.f0 (by simpa using h), fun h => hF.out.f1 (by simpa using h), fun h => hF.out.f2 (by simpa using h), fun h => hF.out.f3 (by simpa using h), fun h => hF.out.f4 (by simpa using h), fun h => hF.out.f5 (by simpa using h), fun h => hF.out.f6 (by simpa using h), fun h => hF.out.f7 (by simpa using h), fun h => hF.out.f8 (by simpa using h), fun h => hF.out.f9 (by simpa using h), fun _ => rfl, hF.out.below, fun h => hF.out.rx (by simpa using h)⟩
          · intro d a W hI hall
            obtain ⟨vs, x15, x16, x69, x70, x71, x72, x73, x74, x75, x76, x77, rfl, hF⟩ := hI
            simp only [List.length_cons, List.length_nil] at hall
            obtain rfl := hF.out.f0 (hall 0 (by omega))
            obtain rfl := hF.out.f1 (hall 1 (by omega))
            obtain rfl := hF.out.f2 (hall 2 (by omega))
            obtain rfl := hF.out.f3 (hall 3 (by omega))
            obtain rfl := hF.out.f4 (hall 4 (by omega))
            obtain rfl := hF.out.f5 (hall 5 (by omega))
            obtain rfl := hF.out.f6 (hall 6 (by omega))
            obtain rfl := hF.out.f7 (hall 7 (by omega))
            obtain rfl := hF.out.f8 (hall 8 (by omega))
            obtain rfl := hF.out.f9 (hall 9 (by omega))
            obtain rfl := hF.out.f10 (hall 10 (by omega))
            have HSy : Hid (Sb w7 W) := hF.out.below
            clear hF hall
            simp only [Act.put, List.setIfInBounds_toArray, List.set_cons_zero, List.set_cons_succ]
            cases x
            case false =>
              go_wp2_with fail
              go_roundw
              case rel => exact ⟨i + 1, false, rfl, by go_num, by omega, by omega, ⟨HT.out, HSy.out⟩⟩
              case measure => simp [intOf]; omega
            case true =>
              go_wp2_with fail
              go_roundw
              case rel => exact ⟨i + 1, y, rfl, by go_num, by omega, by omega, ⟨HT.out, HSy.out⟩⟩
              case measure => cases y <;> simp [intOf] <;> omega
      · have hlt' : ¬ (i : Int) ≤ (a1.size : Int) := by omega
        obtain rfl : i = a1.size + 1 := by omega
        obtain rfl : a' = b := by rw [Bool.eq_iff_iff, stars_says HA'.out]; exact HI.out.1.symm
        cases a' <;> (go_wp2_with fail; go_ret; exact ⟨rfl, HB7.out.trans (Below.mono HI.out.2 HB7.out.size)⟩)

/-! ### What the walk gives, for every argument -/
set_option maxRecDepth 100000 in
theorem contract (H : Type) (enc : TypeId × Value → H) (W : World) (base : Nat) (args : Array Value) (ds gs : List (DataW H)) (before : List MemPlace)
    (hval : ∀ (j : Nat) t v, Try.f6.params[j]? = some t → args[j]? = some v → Value.okWide Try.prog W .any base t v)
    (hW : DataW.Whole enc Try.prog Try.f6.params.toList Rows.rexStarsSpec.vars false W args.toList ds gs before) (hsz : (DataW.weightsEach Try.prog (Try.f6.params.toList ++ Rows.rexStarsSpec.plain.varTypes Try.prog) (ds ++ gs)).all (· ≤ reachBytes) = true) :
    Calls Try.prog 6 args W fun e W' => ∃ v, e = .returned v ∧ Rows.rexStarsSpec.post enc Try.prog Try.f6 false true false false W args v W' := by
  have hW' := hW
  obtain ⟨p, q, hA0, hV, rfl, hfz, hnd⟩ := hW
  have hA : DataW.TrodAll enc Try.prog W 0 (fun _ => true) true Try.f6.params.toList args.toList ds p := hA0
  rw [Try.params6] at hA hval hsz
  obtain ⟨v0, vs0, d0, ds0, p0, q0, hargs, rfl, rfl, h0, r0⟩ := trodAll_cons hA
  obtain ⟨v1, vs1, d1, ds1, p1, q1, rfl, rfl, rfl, h1, r1⟩ := trodAll_cons r0
  obtain ⟨rfl, rfl, rfl⟩ := trodAll_nil r1
  obtain rfl : args = #[v0, v1] := by cases args; simp_all
  obtain ⟨rfl, rfl⟩ := trodVars_none hV
  have k0 := h0
  have lt0 : ∀ x ∈ p0, x.block < W.heap.size := by obtain ⟨m, hm⟩ := k0; exact DataW.trod_lt m _ _ _ hm
  obtain ⟨a0t, w0s⟩ := open_rex (hval 0 27 v0 rfl rfl) h0
  obtain ⟨a1, rfl, rfl, rfl, w1⟩ := open_string Try.underlying9 (hval 1 9 v1 rfl rfl) h1
  have r1z : a1.size ≤ 140737488351232 := by have := sized_string hsz (j := 1) (t := 9) rfl rfl; simpa [reachBytes] using this
  clear hA0
  refine (walk _ a0t a1 W w0s r1z).mono fun e W' ⟨he, bel⟩ => ?_
  subst he
  exact ⟨_, rfl, _, _, _, [], _, [], hW', trodAll_mk1 (shut_bool Try.underlying4 _), (trodAll_cons_mk (Below.trod laidOut (by kernel_rfl) (of_decide_eq_true (by kernel_rfl)) k0 bel lt0) (trodAll_cons_mk (shut_string Try.underlying9 w1) trodAll_mk0)), rfl, bel.frame _, fun h => by cases h⟩

/-! ### The row's step -/
set_option maxRecDepth 100000 in
theorem lifted (os : Os) (started : os.Started) (H : Type) (enc : TypeId × Value → H) :
    ReturnsInHanded {} Try.checked os 6 .any (Rows.rexStarsSpec.pre6 enc Try.prog Try.f6 Rows.rexStarsRow.domain false) (Rows.rexStarsSpec.post enc Try.prog Try.f6 false true false false) := by
  refine returnsInHanded_of_change_sized (C := Try.checked) own started (by kernel_rfl) Try.func6
    (ChangeSpec.witness6 (enc := enc) (C := Try.checked) false ⟨#[], #[.agg #[.int .i64 0, .int .u64 0, .int .u64 0, .int .u64 0, .int .u64 0, .slice none 0 0], .string .empty], []⟩ 8 (by kernel_rfl) (by kernel_rfl) (by kernel_rfl) (by kernel_rfl)) ?_
  intro W base args ds gs before hval hW hcnd hsz _
  exact contract H enc W base args ds gs before hval hW hsz

theorem over : Rows.rexStarsRow.holds Try.pinned (OpenSpec.ofChange Rows.rexStarsSpec) :=
  OpenClaim.holds_of_wide 6 Try.f6 rfl rfl rfl rfl rfl rfl rfl ⟨rfl, rfl, rfl, rfl, rfl⟩ rfl rfl rfl rfl rfl (by kernel_rfl) Try.func6 (by kernel_rfl)
    (of_decide_eq_true (by kernel_rfl)) (by unfold Func.isWrapper; first | (rw [if_pos (by decide +kernel)]; kernel_rfl) | (rw [if_neg (by decide +kernel)]; exact ⟨rfl, rfl⟩))
    (fun os started H enc _ => lifted os started H enc)

end Go.Proofs.Ytdnagboonjcehaa.rexStars
namespace Go.Proofs.Ytdnagboonjcehaa
/-- The given statement. -/
theorem rexStars_holds : Rows.RexStarsSaid := rexStars.over
#print axioms rexStars_holds
end Go.Proofs.Ytdnagboonjcehaa
