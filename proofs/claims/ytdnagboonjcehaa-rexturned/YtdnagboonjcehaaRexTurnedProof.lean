/-
  RexTurned returns true whatever tree and text are handed in, and changes nothing that it was handed; no condition.
-/
import Derived.Test.YtdnagboonjcehaaRows
import Derived.WalkKit
import Derived.ProofKit
import Derived.OpenShut
import Derived.ShutString
import Derived.SizedLaws
import Derived.ChangeOld
import Derived.Below
import Derived.Carry
import Derived.WalkLawsBesides
import Derived.WalkSpells
import Derived.Test.YtdnagboonjcehaaOpens
import Derived.Test.YtdnagboonjcehaaTurned
namespace Go.Proofs.Ytdnagboonjcehaa.rexTurned
open Go.ChangeShapes Go.WideShapes Go.ChangeAt Go.RowKit
open Go.ChangeMaps (open_string shut_string)
open Cls Rex
set_option linter.unusedVariables false

theorem own : ownKnob Try.prog.godebug = none := by kernel_rfl
theorem laidOut : laidOutB Try.prog = true := by kernel_rfl

theorem turned_says {t : T} {x : E} (hx : Is t x) (he : err t = 0) (s : ByteArray) : (bad (turn t) ⟨s.data.toList.reverse.toArray⟩ = false ∧ Mt (turn t) ⟨s.data.toList.reverse.toArray⟩) ↔ (bad t s = false ∧ Mt t s) := by
  have e1 : err (turn t) = 0 := err_turn t he
  have e2 : (⟨s.data.toList.reverse.toArray⟩ : ByteArray).size = s.size := by show s.data.toList.reverse.toArray.size = s.data.size; rw [List.size_toArray, List.length_reverse, Array.length_toList]
  have e3 : bad (turn t) ⟨s.data.toList.reverse.toArray⟩ = bad t s := by unfold bad; rw [e1, he, e2]
  have e4 : Mt (turn t) ⟨s.data.toList.reverse.toArray⟩ ↔ Mt t s := ml_turn hx s.data.toList
  rw [e3, e4]

/-! ### The walk: the Go text returns true. -/
set_option maxHeartbeats 8000000 in
set_option maxRecDepth 20000 in
theorem walk (v0 : Value) (a0t : Rex.T) (a1 : ByteArray) (w : World) (w0s : Rx w w.heap.size v0 a0t) (w1 : a1.size ≤ 140737488351232) :
    Calls Try.prog 7 #[v0, .string a1] w fun e w' => e = .returned (.bool true) ∧ Below w.heap.size w w' := by
  have hsz : a1.size ≤ 140737488351232 := w1
  clear w1
  obtain ⟨k0, c0, ao0, p0, kids0, vals0, rfl, -⟩ := w0s.shape
  obtain ⟨n0, HN0⟩ : ∃ n, Hid (kids0.length = n) := ⟨_, (rfl : kids0.length = kids0.length)⟩
  rw [HN0.out] at w0s ⊢
  have HX0 : Hid (Rx w w.heap.size (.agg #[.int .i64 k0, .int .u64 (c0.1.toNat : Int), .int .u64 (c0.2.1.toNat : Int), .int .u64 (c0.2.2.1.toNat : Int), .int .u64 (c0.2.2.2.toNat : Int), .slice ao0 n0 p0]) a0t) := w0s
  clear w0s
  obtain ⟨w1, HW1⟩ : ∃ w1, Hid ((w.alloc (.cells #[.int .i64 k0, .int .u64 (c0.1.toNat : Int), .int .u64 (c0.2.1.toNat : Int), .int .u64 (c0.2.2.1.toNat : Int), .int .u64 (c0.2.2.2.toNat : Int), .slice ao0 n0 p0] 27)) = w1) := ⟨_, (rfl : (w.alloc (.cells #[.int .i64 k0, .int .u64 (c0.1.toNat : Int), .int .u64 (c0.2.1.toNat : Int), .int .u64 (c0.2.2.1.toNat : Int), .int .u64 (c0.2.2.2.toNat : Int), .slice ao0 n0 p0] 27)) = (w.alloc (.cells #[.int .i64 k0, .int .u64 (c0.1.toNat : Int), .int .u64 (c0.2.1.toNat : Int), .int .u64 (c0.2.2.1.toNat : Int), .int .u64 (c0.2.2.2.toNat : Int), .slice ao0 n0 p0] 27)))⟩
  have hz0 : w1.heap[w.heap.size]? = some (.cells #[.int .i64 k0, .int .u64 (c0.1.toNat : Int), .int .u64 (c0.2.1.toNat : Int), .int .u64 (c0.2.2.1.toNat : Int), .int .u64 (c0.2.2.2.toNat : Int), .slice ao0 n0 p0] 27) := by rw [← HW1.out]; exact block_new w (.cells #[.int .i64 k0, .int .u64 (c0.1.toNat : Int), .int .u64 (c0.2.1.toNat : Int), .int .u64 (c0.2.2.1.toNat : Int), .int .u64 (c0.2.2.2.toNat : Int), .slice ao0 n0 p0] 27)
  have hb0 : Below w.heap.size w w1 := by rw [← HW1.out]; exact box_keep w _
  have HZ1 : Hid (w1.heap[w.heap.size]? = some (.cells #[.int .i64 k0, .int .u64 (c0.1.toNat : Int), .int .u64 (c0.2.1.toNat : Int), .int .u64 (c0.2.2.1.toNat : Int), .int .u64 (c0.2.2.2.toNat : Int), .slice ao0 n0 p0] 27)) := hz0
  have HB1 : Hid (Below w.heap.size w w1) := hb0
  clear hz0 hb0
  go_enter Try.func7, Try.ntmps7
  go_wp2_with fail
  rw [HW1.out]
  refine (letter_any 97 (by omega) (by omega) w1).mono ?_
  rintro _ w2 ⟨v2, rfl, hx, hB⟩
  have HV2 : Hid (Rx w2 w2.heap.size v2 (.mk 3 (range 97 97) [])) := hx
  clear hx
  have HZ2 : Hid (w2.heap[w.heap.size]? = some (.cells #[.int .i64 k0, .int .u64 (c0.1.toNat : Int), .int .u64 (c0.2.1.toNat : Int), .int .u64 (c0.2.2.1.toNat : Int), .int .u64 (c0.2.2.2.toNat : Int), .slice ao0 n0 p0] 27)) := blk_next hB HZ1.out
  have HB2 : Hid (Below w.heap.size w w2) := HB1.out.trans (hB.mono HB1.out.size)
  clear hB HZ1 HB1
  go_wp2_with fail
  refine (letter_any 98 (by omega) (by omega) w2).mono ?_
  rintro _ w3 ⟨v3, rfl, hx, hB⟩
  have HV3 : Hid (Rx w3 w3.heap.size v3 (.mk 3 (range 98 98) []) ∧ Rx w3 w3.heap.size v2 (.mk 3 (range 97 97) [])) := ⟨hx, (HV2.out.next hB).wide hB.size⟩
  clear hx HV2
  have HZ3 : Hid (w3.heap[w.heap.size]? = some (.cells #[.int .i64 k0, .int .u64 (c0.1.toNat : Int), .int .u64 (c0.2.1.toNat : Int), .int .u64 (c0.2.2.1.toNat : Int), .int .u64 (c0.2.2.2.toNat : Int), .slice ao0 n0 p0] 27)) := blk_next hB HZ2.out
  have HB3 : Hid (Below w.heap.size w w3) := HB2.out.trans (hB.mono HB2.out.size)
  clear hB HZ2 HB2
  go_wp2_with fail
  refine (two_any 4 ⟨by omega, by omega⟩ (.mk 3 (range 97 97) []) (.mk 3 (range 98 98) []) _ _ w3.heap.size w3 HV3.out.2 HV3.out.1 (Nat.le_refl _)).mono ?_
  rintro _ w4 ⟨v4, rfl, hx, hB⟩
  have HV4 : Hid (Rx w4 w4.heap.size v4 (.mk 4 empty [(.mk 3 (range 97 97) []), (.mk 3 (range 98 98) [])])) := hx
  clear hx HV3
  have HZ4 : Hid (w4.heap[w.heap.size]? = some (.cells #[.int .i64 k0, .int .u64 (c0.1.toNat : Int), .int .u64 (c0.2.1.toNat : Int), .int .u64 (c0.2.2.1.toNat : Int), .int .u64 (c0.2.2.2.toNat : Int), .slice ao0 n0 p0] 27)) := blk_next hB HZ3.out
  have HB4 : Hid (Below w.heap.size w w4) := HB3.out.trans (hB.mono HB3.out.size)
  clear hB HZ3 HB3
  go_wp2_with fail
  refine (is_any _ v4 _ _ w4 HV4.out (Nat.le_refl _)).mono ?_
  rintro _ w5 ⟨b0, rfl, h, hB⟩
  obtain rfl : b0 = true := h.2 ab_right
  clear h HV4
  have HZ5 : Hid (w5.heap[w.heap.size]? = some (.cells #[.int .i64 k0, .int .u64 (c0.1.toNat : Int), .int .u64 (c0.2.1.toNat : Int), .int .u64 (c0.2.2.1.toNat : Int), .int .u64 (c0.2.2.2.toNat : Int), .slice ao0 n0 p0] 27)) := blk_next hB HZ4.out
  have HB5 : Hid (Below w.heap.size w w5) := HB4.out.trans (hB.mono HB4.out.size)
  clear hB HZ4 HB4
  have y00 := cell_of_row w5 w.heap.size 0 _ 27 (0, 0) HZ5.out
  have y01 := cell_of_row w5 w.heap.size 1 _ 27 (0, 0) HZ5.out
  have y02 := cell_of_row w5 w.heap.size 2 _ 27 (0, 0) HZ5.out
  have y03 := cell_of_row w5 w.heap.size 3 _ 27 (0, 0) HZ5.out
  have y04 := cell_of_row w5 w.heap.size 4 _ 27 (0, 0) HZ5.out
  have y05 := cell_of_row w5 w.heap.size 5 _ 27 (0, 0) HZ5.out
  simp only [List.getElem?_toArray, List.getElem?_cons_zero, List.getElem?_cons_succ] at y00 y01 y02 y03 y04 y05
  go_wp2_with fail
  clear y00 y01 y02 y03 y04 y05
  refine (Check_any a0t _ _ w5 ((HX0.out.next HB5.out).wide HB5.out.size) (Nat.le_refl _)).mono ?_
  rintro _ w6 ⟨rfl, hB⟩
  have HZ6 : Hid (w6.heap[w.heap.size]? = some (.cells #[.int .i64 k0, .int .u64 (c0.1.toNat : Int), .int .u64 (c0.2.1.toNat : Int), .int .u64 (c0.2.2.1.toNat : Int), .int .u64 (c0.2.2.2.toNat : Int), .slice ao0 n0 p0] 27)) := blk_next hB HZ5.out
  have HB6 : Hid (Below w.heap.size w w6) := HB5.out.trans (hB.mono HB5.out.size)
  clear hB HZ5 HB5
  have y00 := cell_of_row w6 w.heap.size 0 _ 27 (0, 0) HZ6.out
  have y01 := cell_of_row w6 w.heap.size 1 _ 27 (0, 0) HZ6.out
  have y02 := cell_of_row w6 w.heap.size 2 _ 27 (0, 0) HZ6.out
  have y03 := cell_of_row w6 w.heap.size 3 _ 27 (0, 0) HZ6.out
  have y04 := cell_of_row w6 w.heap.size 4 _ 27 (0, 0) HZ6.out
  have y05 := cell_of_row w6 w.heap.size 5 _ 27 (0, 0) HZ6.out
  simp only [List.getElem?_toArray, List.getElem?_cons_zero, List.getElem?_cons_succ] at y00 y01 y02 y03 y04 y05
  by_cases he : err a0t = 0
  · obtain ⟨x, HI⟩ : ∃ x, Hid (Is a0t x) := by obtain ⟨x, hx, _⟩ := (err0_iff a0t).1 he; exact ⟨x, hx⟩
    have HE : Hid (err a0t = 0) := he
    rw [he]
    clear he
    go_wp2_with fail
    clear y00 y01 y02 y03 y04 y05
    refine (is_any a0t _ _ _ w6 ((HX0.out.next HB6.out).wide HB6.out.size) (Nat.le_refl _)).mono ?_
    rintro _ w7 ⟨a, rfl, h, hB⟩
    have HA : Hid (a = true ↔ bad a0t a1 = false ∧ Mt a0t a1) := h
    clear h
    have HZ7 : Hid (w7.heap[w.heap.size]? = some (.cells #[.int .i64 k0, .int .u64 (c0.1.toNat : Int), .int .u64 (c0.2.1.toNat : Int), .int .u64 (c0.2.2.1.toNat : Int), .int .u64 (c0.2.2.2.toNat : Int), .slice ao0 n0 p0] 27)) := blk_next hB HZ6.out
    have HB7 : Hid (Below w.heap.size w w7) := HB6.out.trans (hB.mono HB6.out.size)
    clear hB HZ6 HB6
    have y00 := cell_of_row w7 w.heap.size 0 _ 27 (0, 0) HZ7.out
    have y01 := cell_of_row w7 w.heap.size 1 _ 27 (0, 0) HZ7.out
    have y02 := cell_of_row w7 w.heap.size 2 _ 27 (0, 0) HZ7.out
    have y03 := cell_of_row w7 w.heap.size 3 _ 27 (0, 0) HZ7.out
    have y04 := cell_of_row w7 w.heap.size 4 _ 27 (0, 0) HZ7.out
    have y05 := cell_of_row w7 w.heap.size 5 _ 27 (0, 0) HZ7.out
    simp only [List.getElem?_toArray, List.getElem?_cons_zero, List.getElem?_cons_succ] at y00 y01 y02 y03 y04 y05
    go_wp2_with fail
    clear y00 y01 y02 y03 y04 y05
    have hT := turned_any HI.out _ w7.heap.size w7 ((HX0.out.next HB7.out).wide HB7.out.size) (Nat.le_refl _)
    unfold TC at hT
    refine hT.mono ?_
    rintro _ w8 ⟨q, rfl, hr, hB⟩
    have HR8 : Hid (Rx w8 w8.heap.size (.agg (re q).toArray) (turn a0t)) := hr.rx (fun b h => h.2)
    clear hr hT
    have HZ8 : Hid (w8.heap[w.heap.size]? = some (.cells #[.int .i64 k0, .int .u64 (c0.1.toNat : Int), .int .u64 (c0.2.1.toNat : Int), .int .u64 (c0.2.2.1.toNat : Int), .int .u64 (c0.2.2.2.toNat : Int), .slice ao0 n0 p0] 27)) := blk_next hB HZ7.out
    have HB8 : Hid (Below w.heap.size w w8) := HB7.out.trans (hB.mono HB7.out.size)
    clear hB HZ7 HB7
    go_wp2_with fail
    refine (backwards_any a1 hsz w8).mono ?_
    rintro _ w9 ⟨rfl, hB⟩
    have HR9 : Hid (Rx w9 w9.heap.size (.agg (re q).toArray) (turn a0t)) := (HR8.out.next hB).wide hB.size
    clear HR8
    have HZ9 : Hid (w9.heap[w.heap.size]? = some (.cells #[.int .i64 k0, .int .u64 (c0.1.toNat : Int), .int .u64 (c0.2.1.toNat : Int), .int .u64 (c0.2.2.1.toNat : Int), .int .u64 (c0.2.2.2.toNat : Int), .slice ao0 n0 p0] 27)) := blk_next hB HZ8.out
    have HB9 : Hid (Below w.heap.size w w9) := HB8.out.trans (hB.mono HB8.out.size)
    clear hB HZ8 HB8
    go_wp2_with fail
    refine (is_any (turn a0t) _ _ _ w9 HR9.out (Nat.le_refl _)).mono ?_
    rintro _ w10 ⟨b, rfl, h, hB⟩
    obtain rfl : b = a := by
      rw [Bool.eq_iff_iff, h, HA.out]
      exact turned_says HI.out HE.out a1
    clear h HA HR9
    have HZ10 : Hid (w10.heap[w.heap.size]? = some (.cells #[.int .i64 k0, .int .u64 (c0.1.toNat : Int), .int .u64 (c0.2.1.toNat : Int), .int .u64 (c0.2.2.1.toNat : Int), .int .u64 (c0.2.2.2.toNat : Int), .slice ao0 n0 p0] 27)) := blk_next hB HZ9.out
    have HB10 : Hid (Below w.heap.size w w10) := HB9.out.trans (hB.mono HB9.out.size)
    clear hB HZ9 HB9
    have hbb : (b == b) = true := by simp
    go_wp2_with fail
    refine (letter_any 97 (by omega) (by omega) w10).mono ?_
    rintro _ w11 ⟨v11, rfl, hx, hB⟩
    have HV11 : Hid (Rx w11 w11.heap.size v11 (.mk 3 (range 97 97) [])) := hx
    clear hx
    have HZ11 : Hid (w11.heap[w.heap.size]? = some (.cells #[.int .i64 k0, .int .u64 (c0.1.toNat : Int), .int .u64 (c0.2.1.toNat : Int), .int .u64 (c0.2.2.1.toNat : Int), .int .u64 (c0.2.2.2.toNat : Int), .slice ao0 n0 p0] 27)) := blk_next hB HZ10.out
    have HB11 : Hid (Below w.heap.size w w11) := HB10.out.trans (hB.mono HB10.out.size)
    clear hB HZ10 HB10
    go_wp2_with fail
    refine (Check_any _ _ _ w11 HV11.out (Nat.le_refl _)).mono ?_
    rintro _ w12 ⟨rfl, hB⟩
    rw [show err (.mk 3 (range 97 97) []) = 0 from a_right]
    have HZ12 : Hid (w12.heap[w.heap.size]? = some (.cells #[.int .i64 k0, .int .u64 (c0.1.toNat : Int), .int .u64 (c0.2.1.toNat : Int), .int .u64 (c0.2.2.1.toNat : Int), .int .u64 (c0.2.2.2.toNat : Int), .slice ao0 n0 p0] 27)) := blk_next hB HZ11.out
    have HB12 : Hid (Below w.heap.size w w12) := HB11.out.trans (hB.mono HB11.out.size)
    clear hB HZ11 HB11
    go_wp2_with fail
    go_ret
    exact ⟨rfl, HB12.out⟩
  · have he' : ((err a0t : Int) == 0) = false := by simp [he]
    have he2 : ((err a0t : Int) != 0) = true := by simp [he]
    have HE : Hid (¬ err a0t = 0) := he
    clear he
    go_wp2_with fail
    clear y00 y01 y02 y03 y04 y05
    refine (is_any a0t _ _ _ w6 ((HX0.out.next HB6.out).wide HB6.out.size) (Nat.le_refl _)).mono ?_
    rintro _ w7 ⟨a, rfl, h, hB⟩
    have hbad : bad a0t a1 = true := by have := HE.out; simp [bad, this]
    rw [hbad] at h ⊢
    obtain rfl : a = false := by cases a; rfl; exact absurd (h.1 rfl).1 (by simp)
    clear h hbad
    have HZ7 : Hid (w7.heap[w.heap.size]? = some (.cells #[.int .i64 k0, .int .u64 (c0.1.toNat : Int), .int .u64 (c0.2.1.toNat : Int), .int .u64 (c0.2.2.1.toNat : Int), .int .u64 (c0.2.2.2.toNat : Int), .slice ao0 n0 p0] 27)) := blk_next hB HZ6.out
    have HB7 : Hid (Below w.heap.size w w7) := HB6.out.trans (hB.mono HB6.out.size)
    clear hB HZ6 HB6
    go_wp2_with fail
    go_ret
    exact ⟨rfl, HB7.out⟩

/-! ### What the walk gives, for every argument -/
set_option maxRecDepth 100000 in
theorem contract (H : Type) (enc : TypeId × Value → H) (W : World) (base : Nat) (args : Array Value) (ds gs : List (DataW H)) (before : List MemPlace)
    (hval : ∀ (j : Nat) t v, Try.f7.params[j]? = some t → args[j]? = some v → Value.okWide Try.prog W .any base t v)
    (hW : DataW.Whole enc Try.prog Try.f7.params.toList Rows.rexTurnedSpec.vars false W args.toList ds gs before) (hsz : (DataW.weightsEach Try.prog (Try.f7.params.toList ++ Rows.rexTurnedSpec.plain.varTypes Try.prog) (ds ++ gs)).all (· ≤ reachBytes) = true) :
    Calls Try.prog 7 args W fun e W' => ∃ v, e = .returned v ∧ Rows.rexTurnedSpec.post enc Try.prog Try.f7 false true false false W args v W' := by
  have hW' := hW
  obtain ⟨p, q, hA0, hV, rfl, hfz, hnd⟩ := hW
  have hA : DataW.TrodAll enc Try.prog W 0 (fun _ => true) true Try.f7.params.toList args.toList ds p := hA0
  rw [Try.params7] at hA hval hsz
  obtain ⟨v0, vs0, d0, ds0, p0, q0, hargs, rfl, rfl, h0, r0⟩ := trodAll_cons hA
  obtain ⟨v1, vs1, d1, ds1, p1, q1, rfl, rfl, rfl, h1, r1⟩ := trodAll_cons r0
  obtain ⟨rfl, rfl, rfl⟩ := trodAll_nil r1
  obtain rfl : args = #[v0, v1] := by cases args; simp_all
  obtain ⟨rfl, rfl⟩ := trodVars_none hV
  have k0 := h0
  have lt0 : ∀ x ∈ p0, x.block < W.heap.size := by obtain ⟨m, hm⟩ := k0; exact DataW.trod_lt m _ _ _ hm
  obtain ⟨a0t, w0s⟩ := open_rex (hval 0 27 v0 rfl rfl) h0
  obtain ⟨a1, rfl, rfl, rfl, w1⟩ := open_string Try.underlying9 (hval 1 9 v1 rfl rfl) h1
  have r1z : a1.size ≤ 140737488351232 := by have := sized_string hsz (j := 1) (t := 9) rfl rfl; simpa [reachBytes] using this
  clear hA0
  refine (walk _ a0t a1 W w0s r1z).mono fun e W' ⟨he, bel⟩ => ?_
  subst he
  exact ⟨_, rfl, _, _, _, [], _, [], hW', trodAll_mk1 (shut_bool Try.underlying4 _), (trodAll_cons_mk (Below.trod laidOut (by kernel_rfl) (of_decide_eq_true (by kernel_rfl)) k0 bel lt0) (trodAll_cons_mk (shut_string Try.underlying9 w1) trodAll_mk0)), rfl, bel.frame _, fun h => by cases h⟩

/-! ### The row's step -/
set_option maxRecDepth 100000 in
theorem lifted (os : Os) (started : os.Started) (H : Type) (enc : TypeId × Value → H) :
    ReturnsInHanded {} Try.checked os 7 .any (Rows.rexTurnedSpec.pre6 enc Try.prog Try.f7 Rows.rexTurnedRow.domain false) (Rows.rexTurnedSpec.post enc Try.prog Try.f7 false true false false) := by
  refine returnsInHanded_of_change_sized (C := Try.checked) own started (by kernel_rfl) Try.func7
    (ChangeSpec.witness6 (enc := enc) (C := Try.checked) false ⟨#[], #[.agg #[.int .i64 0, .int .u64 0, .int .u64 0, .int .u64 0, .int .u64 0, .slice none 0 0], .string .empty], []⟩ 8 (by kernel_rfl) (by kernel_rfl) (by kernel_rfl) (by kernel_rfl)) ?_
  intro W base args ds gs before hval hW hcnd hsz _
  exact contract H enc W base args ds gs before hval hW hsz

theorem over : Rows.rexTurnedRow.holds Try.pinned (OpenSpec.ofChange Rows.rexTurnedSpec) :=
  OpenClaim.holds_of_wide 7 Try.f7 rfl rfl rfl rfl rfl rfl rfl ⟨rfl, rfl, rfl, rfl, rfl⟩ rfl rfl rfl rfl rfl (by kernel_rfl) Try.func7 (by kernel_rfl)
    (of_decide_eq_true (by kernel_rfl)) (by unfold Func.isWrapper; first | (rw [if_pos (by decide +kernel)]; kernel_rfl) | (rw [if_neg (by decide +kernel)]; exact ⟨rfl, rfl⟩))
    (fun os started H enc _ => lifted os started H enc)

end Go.Proofs.Ytdnagboonjcehaa.rexTurned
namespace Go.Proofs.Ytdnagboonjcehaa
/-- The given statement. -/
theorem rexTurned_holds : Rows.RexTurnedSaid := rexTurned.over
#print axioms rexTurned_holds
end Go.Proofs.Ytdnagboonjcehaa
