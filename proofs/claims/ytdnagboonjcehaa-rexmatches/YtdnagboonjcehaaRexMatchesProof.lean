/-
  RexMatches returns true whatever tree and text are handed in, and changes nothing that it was handed; no condition.
-/
import Derived.Test.YtdnagboonjcehaaRows
import Derived.WalkKit
import Derived.ProofKit
import Derived.OpenShut
import Derived.ShutString
import Derived.SizedLaws
import Derived.ChangeOld
import Derived.Below
import Derived.Carry
import Derived.WalkLawsBesides
import Derived.WalkSpells
import Derived.Test.YtdnagboonjcehaaOpens
import Derived.Test.YtdnagboonjcehaaSpans
namespace Go.Proofs.Ytdnagboonjcehaa.rexMatches
open Go.ChangeShapes Go.WideShapes Go.ChangeAt Go.RowKit
open Go.ChangeMaps (open_string shut_string)
open Cls Rex
set_option linter.unusedVariables false

theorem own : ownKnob Try.prog.godebug = none := by kernel_rfl
theorem laidOut : laidOutB Try.prog = true := by kernel_rfl

/-! ### The walk: the Go text returns true. -/
set_option maxHeartbeats 8000000 in
set_option maxRecDepth 20000 in
theorem walk (v0 : Value) (a0t : Rex.T) (a1 : ByteArray) (w : World) (w0s : Rx w w.heap.size v0 a0t) (w1 : a1.size ≤ 140737488351232) :
    Calls Try.prog 3 #[v0, .string a1] w fun e w' => e = .returned (.bool true) ∧ Below w.heap.size w w' := by
  have hsz : a1.size ≤ 140737488351232 := w1
  clear w1
  obtain ⟨k0, c0, ao0, p0, kids0, vals0, rfl, -⟩ := w0s.shape
  obtain ⟨n0, HN0⟩ : ∃ n, Hid (kids0.length = n) := ⟨_, (rfl : kids0.length = kids0.length)⟩
  rw [HN0.out] at w0s ⊢
  have HX0 : Hid (Rx w w.heap.size (.agg #[.int .i64 k0, .int .u64 (c0.1.toNat : Int), .int .u64 (c0.2.1.toNat : Int), .int .u64 (c0.2.2.1.toNat : Int), .int .u64 (c0.2.2.2.toNat : Int), .slice ao0 n0 p0]) a0t) := w0s
  clear w0s
  obtain ⟨w1, HW1⟩ : ∃ w1, Hid ((w.alloc (.cells #[.int .i64 k0, .int .u64 (c0.1.toNat : Int), .int .u64 (c0.2.1.toNat : Int), .int .u64 (c0.2.2.1.toNat : Int), .int .u64 (c0.2.2.2.toNat : Int), .slice ao0 n0 p0] 27)) = w1) := ⟨_, (rfl : (w.alloc (.cells #[.int .i64 k0, .int .u64 (c0.1.toNat : Int), .int .u64 (c0.2.1.toNat : Int), .int .u64 (c0.2.2.1.toNat : Int), .int .u64 (c0.2.2.2.toNat : Int), .slice ao0 n0 p0] 27)) = (w.alloc (.cells #[.int .i64 k0, .int .u64 (c0.1.toNat : Int), .int .u64 (c0.2.1.toNat : Int), .int .u64 (c0.2.2.1.toNat : Int), .int .u64 (c0.2.2.2.toNat : Int), .slice ao0 n0 p0] 27)))⟩
  have hz0 : w1.heap[w.heap.size]? = some (.cells #[.int .i64 k0, .int .u64 (c0.1.toNat : Int), .int .u64 (c0.2.1.toNat : Int), .int .u64 (c0.2.2.1.toNat : Int), .int .u64 (c0.2.2.2.toNat : Int), .slice ao0 n0 p0] 27) := by rw [← HW1.out]; exact block_new w (.cells #[.int .i64 k0, .int .u64 (c0.1.toNat : Int), .int .u64 (c0.2.1.toNat : Int), .int .u64 (c0.2.2.1.toNat : Int), .int .u64 (c0.2.2.2.toNat : Int), .slice ao0 n0 p0] 27)
  have hb0 : Below w.heap.size w w1 := by rw [← HW1.out]; exact box_keep w _
  have HZ1 : Hid (w1.heap[w.heap.size]? = some (.cells #[.int .i64 k0, .int .u64 (c0.1.toNat : Int), .int .u64 (c0.2.1.toNat : Int), .int .u64 (c0.2.2.1.toNat : Int), .int .u64 (c0.2.2.2.toNat : Int), .slice ao0 n0 p0] 27)) := hz0
  have HB1 : Hid (Below w.heap.size w w1) := hb0
  clear hz0 hb0
  go_enter Try.func3, Try.ntmps3
  by_cases he : err a0t = 0
  · obtain ⟨x, HI⟩ : ∃ x, Hid (Is a0t x ∧ x.nodes ≤ 100) := by obtain ⟨x, hx, hn, _⟩ := (err0_iff a0t).1 he; exact ⟨x, hx, hn⟩
    have HE : Hid (err a0t = 0) := he
    clear he
    by_cases hl : 200 < a1.size
    · have hl' : 200 < (a1.size : Int) := by omega
      have y00 := cell_of_row w1 w.heap.size 0 _ 27 (0, 0) HZ1.out
      have y01 := cell_of_row w1 w.heap.size 1 _ 27 (0, 0) HZ1.out
      have y02 := cell_of_row w1 w.heap.size 2 _ 27 (0, 0) HZ1.out
      have y03 := cell_of_row w1 w.heap.size 3 _ 27 (0, 0) HZ1.out
      have y04 := cell_of_row w1 w.heap.size 4 _ 27 (0, 0) HZ1.out
      have y05 := cell_of_row w1 w.heap.size 5 _ 27 (0, 0) HZ1.out
      simp only [List.getElem?_toArray, List.getElem?_cons_zero, List.getElem?_cons_succ] at y00 y01 y02 y03 y04 y05
      go_upto_region 1 with fail
      rw [HW1.out]
      go_wp2_with fail
      clear y00 y01 y02 y03 y04 y05
      refine (Matches_long a0t _ _ a1 w1 ((HX0.out.next HB1.out).wide HB1.out.size) (Nat.le_refl _) HE.out hl).mono ?_
      rintro _ w2 ⟨rfl, hB⟩
      have HZ2 : Hid (w2.heap[w.heap.size]? = some (.cells #[.int .i64 k0, .int .u64 (c0.1.toNat : Int), .int .u64 (c0.2.1.toNat : Int), .int .u64 (c0.2.2.1.toNat : Int), .int .u64 (c0.2.2.2.toNat : Int), .slice ao0 n0 p0] 27)) := blk_next hB HZ1.out
      have HB2 : Hid (Below w.heap.size w w2) := HB1.out.trans (hB.mono HB1.out.size)
      clear hB HZ1 HB1
      have y00 := cell_of_row w2 w.heap.size 0 _ 27 (0, 0) HZ2.out
      have y01 := cell_of_row w2 w.heap.size 1 _ 27 (0, 0) HZ2.out
      have y02 := cell_of_row w2 w.heap.size 2 _ 27 (0, 0) HZ2.out
      have y03 := cell_of_row w2 w.heap.size 3 _ 27 (0, 0) HZ2.out
      have y04 := cell_of_row w2 w.heap.size 4 _ 27 (0, 0) HZ2.out
      have y05 := cell_of_row w2 w.heap.size 5 _ 27 (0, 0) HZ2.out
      simp only [List.getElem?_toArray, List.getElem?_cons_zero, List.getElem?_cons_succ] at y00 y01 y02 y03 y04 y05
      go_wp2_with fail
      clear y00 y01 y02 y03 y04 y05
      refine (Ref_any a0t _ _ w2 ((HX0.out.next HB2.out).wide HB2.out.size) (Nat.le_refl _)).mono ?_
      rintro _ w3 ⟨rfl, hB⟩
      rw [HE.out]
      have HZ3 : Hid (w3.heap[w.heap.size]? = some (.cells #[.int .i64 k0, .int .u64 (c0.1.toNat : Int), .int .u64 (c0.2.1.toNat : Int), .int .u64 (c0.2.2.1.toNat : Int), .int .u64 (c0.2.2.2.toNat : Int), .slice ao0 n0 p0] 27)) := blk_next hB HZ2.out
      have HB3 : Hid (Below w.heap.size w w3) := HB2.out.trans (hB.mono HB2.out.size)
      clear hB HZ2 HB2
      go_wp2_with fail
      go_ret
      exact ⟨rfl, HB3.out⟩
    · have hl' : ¬ 200 < (a1.size : Int) := by omega
      have y00 := cell_of_row w1 w.heap.size 0 _ 27 (0, 0) HZ1.out
      have y01 := cell_of_row w1 w.heap.size 1 _ 27 (0, 0) HZ1.out
      have y02 := cell_of_row w1 w.heap.size 2 _ 27 (0, 0) HZ1.out
      have y03 := cell_of_row w1 w.heap.size 3 _ 27 (0, 0) HZ1.out
      have y04 := cell_of_row w1 w.heap.size 4 _ 27 (0, 0) HZ1.out
      have y05 := cell_of_row w1 w.heap.size 5 _ 27 (0, 0) HZ1.out
      simp only [List.getElem?_toArray, List.getElem?_cons_zero, List.getElem?_cons_succ] at y00 y01 y02 y03 y04 y05
      go_upto_region 1 with fail
      rw [HW1.out]
      go_wp2_with fail
      clear y00 y01 y02 y03 y04 y05
      refine (Matches_right a0t x _ _ a1 w1 ((HX0.out.next HB1.out).wide HB1.out.size) (Nat.le_refl _) HE.out HI.out.1 HI.out.2 (by omega)).mono ?_
      rintro _ w2 ⟨bv, rfl, hbv, hB⟩
      have HBV : Hid (bv = true ↔ M x a1.data.toList) := hbv
      clear hbv
      have HZ2 : Hid (w2.heap[w.heap.size]? = some (.cells #[.int .i64 k0, .int .u64 (c0.1.toNat : Int), .int .u64 (c0.2.1.toNat : Int), .int .u64 (c0.2.2.1.toNat : Int), .int .u64 (c0.2.2.2.toNat : Int), .slice ao0 n0 p0] 27)) := blk_next hB HZ1.out
      have HB2 : Hid (Below w.heap.size w w2) := HB1.out.trans (hB.mono HB1.out.size)
      clear hB HZ1 HB1
      have y00 := cell_of_row w2 w.heap.size 0 _ 27 (0, 0) HZ2.out
      have y01 := cell_of_row w2 w.heap.size 1 _ 27 (0, 0) HZ2.out
      have y02 := cell_of_row w2 w.heap.size 2 _ 27 (0, 0) HZ2.out
      have y03 := cell_of_row w2 w.heap.size 3 _ 27 (0, 0) HZ2.out
      have y04 := cell_of_row w2 w.heap.size 4 _ 27 (0, 0) HZ2.out
      have y05 := cell_of_row w2 w.heap.size 5 _ 27 (0, 0) HZ2.out
      simp only [List.getElem?_toArray, List.getElem?_cons_zero, List.getElem?_cons_succ] at y00 y01 y02 y03 y04 y05
      go_wp2_with fail
      clear y00 y01 y02 y03 y04 y05
      refine (Ref_any a0t _ _ w2 ((HX0.out.next HB2.out).wide HB2.out.size) (Nat.le_refl _)).mono ?_
      rintro _ w3 ⟨rfl, hB⟩
      rw [HE.out]
      have HZ3 : Hid (w3.heap[w.heap.size]? = some (.cells #[.int .i64 k0, .int .u64 (c0.1.toNat : Int), .int .u64 (c0.2.1.toNat : Int), .int .u64 (c0.2.2.1.toNat : Int), .int .u64 (c0.2.2.2.toNat : Int), .slice ao0 n0 p0] 27)) := blk_next hB HZ2.out
      have HB3 : Hid (Below w.heap.size w w3) := HB2.out.trans (hB.mono HB2.out.size)
      clear hB HZ2 HB2
      have y00 := cell_of_row w3 w.heap.size 0 _ 27 (0, 0) HZ3.out
      have y01 := cell_of_row w3 w.heap.size 1 _ 27 (0, 0) HZ3.out
      have y02 := cell_of_row w3 w.heap.size 2 _ 27 (0, 0) HZ3.out
      have y03 := cell_of_row w3 w.heap.size 3 _ 27 (0, 0) HZ3.out
      have y04 := cell_of_row w3 w.heap.size 4 _ 27 (0, 0) HZ3.out
      have y05 := cell_of_row w3 w.heap.size 5 _ 27 (0, 0) HZ3.out
      simp only [List.getElem?_toArray, List.getElem?_cons_zero, List.getElem?_cons_succ] at y00 y01 y02 y03 y04 y05
      by_cases h60 : 60 < a1.size
      · have h60' : 60 < (a1.size : Int) := by omega
        go_wp2_with fail
        go_ret
        exact ⟨rfl, HB3.out⟩
      · have h60' : ¬ 60 < (a1.size : Int) := by omega
        go_wp2_with fail
        clear y00 y01 y02 y03 y04 y05
        refine (refMatches_any a0t x HI.out.1 _ _ a1 w3 (by omega) ((HX0.out.next HB3.out).wide HB3.out.size) (Nat.le_refl _)).mono ?_
        rintro _ w4 ⟨b2, rfl, hb2, hB⟩
        obtain rfl : b2 = bv := by rw [Bool.eq_iff_iff, hb2, HBV.out]
        clear hb2 HBV
        have HZ4 : Hid (w4.heap[w.heap.size]? = some (.cells #[.int .i64 k0, .int .u64 (c0.1.toNat : Int), .int .u64 (c0.2.1.toNat : Int), .int .u64 (c0.2.2.1.toNat : Int), .int .u64 (c0.2.2.2.toNat : Int), .slice ao0 n0 p0] 27)) := blk_next hB HZ3.out
        have HB4 : Hid (Below w.heap.size w w4) := HB3.out.trans (hB.mono HB3.out.size)
        clear hB HZ3 HB3
        cases b2 <;> (go_wp2_with fail; go_ret; exact ⟨rfl, HB4.out⟩)
  · have he1 : ((err a0t : Int) == 0) = false := by simp [he]
    have he2 : ((err a0t : Int) != 0) = true := by simp [he]
    have HE : Hid (¬ err a0t = 0) := he
    clear he
    have y00 := cell_of_row w1 w.heap.size 0 _ 27 (0, 0) HZ1.out
    have y01 := cell_of_row w1 w.heap.size 1 _ 27 (0, 0) HZ1.out
    have y02 := cell_of_row w1 w.heap.size 2 _ 27 (0, 0) HZ1.out
    have y03 := cell_of_row w1 w.heap.size 3 _ 27 (0, 0) HZ1.out
    have y04 := cell_of_row w1 w.heap.size 4 _ 27 (0, 0) HZ1.out
    have y05 := cell_of_row w1 w.heap.size 5 _ 27 (0, 0) HZ1.out
    simp only [List.getElem?_toArray, List.getElem?_cons_zero, List.getElem?_cons_succ] at y00 y01 y02 y03 y04 y05
    go_upto_region 1 with fail
    rw [HW1.out]
    go_wp2_with fail
    clear y00 y01 y02 y03 y04 y05
    refine (Matches_wrong a0t _ _ a1 w1 ((HX0.out.next HB1.out).wide HB1.out.size) (Nat.le_refl _) (err a0t) rfl HE.out).mono ?_
    rintro _ w2 ⟨rfl, hB⟩
    have HZ2 : Hid (w2.heap[w.heap.size]? = some (.cells #[.int .i64 k0, .int .u64 (c0.1.toNat : Int), .int .u64 (c0.2.1.toNat : Int), .int .u64 (c0.2.2.1.toNat : Int), .int .u64 (c0.2.2.2.toNat : Int), .slice ao0 n0 p0] 27)) := blk_next hB HZ1.out
    have HB2 : Hid (Below w.heap.size w w2) := HB1.out.trans (hB.mono HB1.out.size)
    clear hB HZ1 HB1
    have y00 := cell_of_row w2 w.heap.size 0 _ 27 (0, 0) HZ2.out
    have y01 := cell_of_row w2 w.heap.size 1 _ 27 (0, 0) HZ2.out
    have y02 := cell_of_row w2 w.heap.size 2 _ 27 (0, 0) HZ2.out
    have y03 := cell_of_row w2 w.heap.size 3 _ 27 (0, 0) HZ2.out
    have y04 := cell_of_row w2 w.heap.size 4 _ 27 (0, 0) HZ2.out
    have y05 := cell_of_row w2 w.heap.size 5 _ 27 (0, 0) HZ2.out
    simp only [List.getElem?_toArray, List.getElem?_cons_zero, List.getElem?_cons_succ] at y00 y01 y02 y03 y04 y05
    go_wp2_with fail
    clear y00 y01 y02 y03 y04 y05
    refine (Ref_any a0t _ _ w2 ((HX0.out.next HB2.out).wide HB2.out.size) (Nat.le_refl _)).mono ?_
    rintro _ w3 ⟨rfl, hB⟩
    have HZ3 : Hid (w3.heap[w.heap.size]? = some (.cells #[.int .i64 k0, .int .u64 (c0.1.toNat : Int), .int .u64 (c0.2.1.toNat : Int), .int .u64 (c0.2.2.1.toNat : Int), .int .u64 (c0.2.2.2.toNat : Int), .slice ao0 n0 p0] 27)) := blk_next hB HZ2.out
    have HB3 : Hid (Below w.heap.size w w3) := HB2.out.trans (hB.mono HB2.out.size)
    clear hB HZ2 HB2
    go_wp2_with fail
    go_ret
    exact ⟨rfl, HB3.out⟩

/-! ### What the walk gives, for every argument -/
set_option maxRecDepth 100000 in
theorem contract (H : Type) (enc : TypeId × Value → H) (W : World) (base : Nat) (args : Array Value) (ds gs : List (DataW H)) (before : List MemPlace)
    (hval : ∀ (j : Nat) t v, Try.f3.params[j]? = some t → args[j]? = some v → Value.okWide Try.prog W .any base t v)
    (hW : DataW.Whole enc Try.prog Try.f3.params.toList Rows.rexMatchesSpec.vars false W args.toList ds gs before) (hsz : (DataW.weightsEach Try.prog (Try.f3.params.toList ++ Rows.rexMatchesSpec.plain.varTypes Try.prog) (ds ++ gs)).all (· ≤ reachBytes) = true) :
    Calls Try.prog 3 args W fun e W' => ∃ v, e = .returned v ∧ Rows.rexMatchesSpec.post enc Try.prog Try.f3 false true false false W args v W' := by
  have hW' := hW
  obtain ⟨p, q, hA0, hV, rfl, hfz, hnd⟩ := hW
  have hA : DataW.TrodAll enc Try.prog W 0 (fun _ => true) true Try.f3.params.toList args.toList ds p := hA0
  rw [Try.params3] at hA hval hsz
  obtain ⟨v0, vs0, d0, ds0, p0, q0, hargs, rfl, rfl, h0, r0⟩ := trodAll_cons hA
  obtain ⟨v1, vs1, d1, ds1, p1, q1, rfl, rfl, rfl, h1, r1⟩ := trodAll_cons r0
  obtain ⟨rfl, rfl, rfl⟩ := trodAll_nil r1
  obtain rfl : args = #[v0, v1] := by cases args; simp_all
  obtain ⟨rfl, rfl⟩ := trodVars_none hV
  have k0 := h0
  have lt0 : ∀ x ∈ p0, x.block < W.heap.size := by obtain ⟨m, hm⟩ := k0; exact DataW.trod_lt m _ _ _ hm
  obtain ⟨a0t, w0s⟩ := open_rex (hval 0 27 v0 rfl rfl) h0
  obtain ⟨a1, rfl, rfl, rfl, w1⟩ := open_string Try.underlying9 (hval 1 9 v1 rfl rfl) h1
  have r1z : a1.size ≤ 140737488351232 := by have := sized_string hsz (j := 1) (t := 9) rfl rfl; simpa [reachBytes] using this
  clear hA0
  refine (walk _ a0t a1 W w0s r1z).mono fun e W' ⟨he, bel⟩ => ?_
  subst he
  exact ⟨_, rfl, _, _, _, [], _, [], hW', trodAll_mk1 (shut_bool Try.underlying4 _), (trodAll_cons_mk (Below.trod laidOut (by kernel_rfl) (of_decide_eq_true (by kernel_rfl)) k0 bel lt0) (trodAll_cons_mk (shut_string Try.underlying9 w1) trodAll_mk0)), rfl, bel.frame _, fun h => by cases h⟩

/-! ### The row's step -/
set_option maxRecDepth 100000 in
theorem lifted (os : Os) (started : os.Started) (H : Type) (enc : TypeId × Value → H) :
    ReturnsInHanded {} Try.checked os 3 .any (Rows.rexMatchesSpec.pre6 enc Try.prog Try.f3 Rows.rexMatchesRow.domain false) (Rows.rexMatchesSpec.post enc Try.prog Try.f3 false true false false) := by
  refine returnsInHanded_of_change_sized (C := Try.checked) own started (by kernel_rfl) Try.func3
    (ChangeSpec.witness6 (enc := enc) (C := Try.checked) false ⟨#[], #[.agg #[.int .i64 0, .int .u64 0, .int .u64 0, .int .u64 0, .int .u64 0, .slice none 0 0], .string .empty], []⟩ 8 (by kernel_rfl) (by kernel_rfl) (by kernel_rfl) (by kernel_rfl)) ?_
  intro W base args ds gs before hval hW hcnd hsz _
  exact contract H enc W base args ds gs before hval hW hsz

theorem over : Rows.rexMatchesRow.holds Try.pinned (OpenSpec.ofChange Rows.rexMatchesSpec) :=
  OpenClaim.holds_of_wide 3 Try.f3 rfl rfl rfl rfl rfl rfl rfl ⟨rfl, rfl, rfl, rfl, rfl⟩ rfl rfl rfl rfl rfl (by kernel_rfl) Try.func3 (by kernel_rfl)
    (of_decide_eq_true (by kernel_rfl)) (by unfold Func.isWrapper; first | (rw [if_pos (by decide +kernel)]; kernel_rfl) | (rw [if_neg (by decide +kernel)]; exact ⟨rfl, rfl⟩))
    (fun os started H enc _ => lifted os started H enc)

end Go.Proofs.Ytdnagboonjcehaa.rexMatches
namespace Go.Proofs.Ytdnagboonjcehaa
/-- The given statement. -/
theorem rexMatches_holds : Rows.RexMatchesSaid := rexMatches.over
#print axioms rexMatches_holds
end Go.Proofs.Ytdnagboonjcehaa
