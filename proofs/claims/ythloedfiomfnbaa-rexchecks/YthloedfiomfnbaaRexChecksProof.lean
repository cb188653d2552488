/-
  RexChecks returns true whatever tree is handed in, and changes nothing that it was handed; no condition.
-/
import Derived.Test.YthloedfiomfnbaaRows
import Derived.WalkKit
import Derived.ProofKit
import Derived.OpenShut
import Derived.ShutString
import Derived.SizedLaws
import Derived.ChangeOld
import Derived.Below
import Derived.Carry
import Derived.WalkLawsBesides
import Derived.WalkSpells
import Derived.Test.YthloedfiomfnbaaOpens
import Derived.Test.YthloedfiomfnbaaPrint
namespace Go.Proofs.Ythloedfiomfnbaa.rexChecks
open Go.ChangeShapes Go.WideShapes Go.ChangeAt Go.RowKit
open Go.ChangeMaps (open_string shut_string)
open Cls Rex Txt
set_option linter.unusedVariables false

theorem own : ownKnob Try.prog.godebug = none := by kernel_rfl
theorem laidOut : laidOutB Try.prog = true := by kernel_rfl
theorem is_same {t : T} {x y : E} (h1 : Is t x) (h2 : Is t y) : x = y := by
  induction h1 generalizing y with
  | none => cases h2; rfl
  | emp => cases h2; rfl
  | byte h => cases h2; rfl
  | cat _ _ ih1 ih2 => cases h2 with | cat a b => rw [ih1 a, ih2 b]
  | alt _ _ ih1 ih2 => cases h2 with | alt a b => rw [ih1 a, ih2 b]
  | star _ ih => cases h2 with | star a => rw [ih a]

/-! ### The walk: the Go text returns true. -/
set_option maxHeartbeats 8000000 in
set_option maxRecDepth 20000 in
theorem walk (v0 : Value) (a0t : Rex.T) (w : World) (w0s : Rx w w.heap.size v0 a0t) :
    Calls Try.prog 3 #[v0] w fun e w' => e = .returned (.bool true) ∧ Below w.heap.size w w' := by
  have HX0 : Hid (Rx w w.heap.size v0 a0t) := w0s
  clear w0s
  obtain ⟨k0, c0, ao0, p0, kids0, vals0, rfl, -⟩ := HX0.out.shape
  obtain ⟨n0, HN0⟩ : ∃ n, Hid (kids0.length = n) := ⟨_, (rfl : kids0.length = kids0.length)⟩
  rw [HN0.out] at HX0 ⊢
  have HZ1 : Hid ((w.alloc (.cells #[.int .i64 k0, .int .u64 (c0.1.toNat : Int), .int .u64 (c0.2.1.toNat : Int), .int .u64 (c0.2.2.1.toNat : Int), .int .u64 (c0.2.2.2.toNat : Int), .slice ao0 n0 p0] 27)).heap[w.heap.size]? = some (.cells #[.int .i64 k0, .int .u64 (c0.1.toNat : Int), .int .u64 (c0.2.1.toNat : Int), .int .u64 (c0.2.2.1.toNat : Int), .int .u64 (c0.2.2.2.toNat : Int), .slice ao0 n0 p0] 27)) := block_new w _
  have HB1 : Hid (Below w.heap.size w (w.alloc (.cells #[.int .i64 k0, .int .u64 (c0.1.toNat : Int), .int .u64 (c0.2.1.toNat : Int), .int .u64 (c0.2.2.1.toNat : Int), .int .u64 (c0.2.2.2.toNat : Int), .slice ao0 n0 p0] 27))) := (Below.refl _ _).alloc (Nat.le_refl _) _
  obtain ⟨w1, HW1⟩ : ∃ w1, Hid (w.alloc (.cells #[.int .i64 k0, .int .u64 (c0.1.toNat : Int), .int .u64 (c0.2.1.toNat : Int), .int .u64 (c0.2.2.1.toNat : Int), .int .u64 (c0.2.2.2.toNat : Int), .slice ao0 n0 p0] 27) = w1) := ⟨_, (rfl : w.alloc (.cells #[.int .i64 k0, .int .u64 (c0.1.toNat : Int), .int .u64 (c0.2.1.toNat : Int), .int .u64 (c0.2.2.1.toNat : Int), .int .u64 (c0.2.2.2.toNat : Int), .slice ao0 n0 p0] 27) = w.alloc (.cells #[.int .i64 k0, .int .u64 (c0.1.toNat : Int), .int .u64 (c0.2.1.toNat : Int), .int .u64 (c0.2.2.1.toNat : Int), .int .u64 (c0.2.2.2.toNat : Int), .slice ao0 n0 p0] 27))⟩
  rw [HW1.out] at HZ1 HB1
  obtain ⟨m, HM⟩ : ∃ m, Hid (err a0t = m) := ⟨_, (rfl : err a0t = err a0t)⟩
  obtain ⟨L, HL⟩ : ∃ L : List UInt8, Hid ((err a0t = 0 → ∀ x, Is a0t x → text x = L) ∧ (err a0t ≠ 0 → L = [])) := by
    by_cases h : err a0t = 0
    · obtain ⟨x, hi, -⟩ := err_right h
      exact ⟨text x, fun _ y hy => by rw [is_same hy hi], fun hh => absurd h hh⟩
    · exact ⟨[], fun hh => absurd hh h, fun _ => rfl⟩
  go_enter Try.func3, Try.ntmps3
  go_wp2_with fail
  rw [HW1.out]
  have hc := Ref_any a0t _ w1.heap.size w1 ((HX0.out.next HB1.out).wide HB1.out.size) (Nat.le_refl _)
  rw [HM.out] at hc
  refine hc.mono ?_
  rintro _ w2 ⟨rfl, hb2⟩
  clear hc
  have HZ2 : Hid (w2.heap[w.heap.size]? = some (.cells #[.int .i64 k0, .int .u64 (c0.1.toNat : Int), .int .u64 (c0.2.1.toNat : Int), .int .u64 (c0.2.2.1.toNat : Int), .int .u64 (c0.2.2.2.toNat : Int), .slice ao0 n0 p0] 27)) := (hb2.block _ (by rcases Nat.lt_or_ge w.heap.size w1.heap.size with h' | h'; exact h'; have := HZ1.out; simp [Array.getElem?_eq_none h'] at this)).trans HZ1.out
  have HB2 : Hid (Below w.heap.size w w2) := HB1.out.trans (hb2.mono HB1.out.size)
  clear hb2 HZ1 HB1
  have hmm : ((m : Int) == (m : Int)) = true := by simp
  have hLL : (L == L) = true := by simp
  by_cases h0 : m = 0
  · subst h0
    obtain ⟨x, hi, hn⟩ := err_right HM.out
    have HT : Hid (text x = L) := HL.out.1 HM.out x hi
    have hcall := rtext_all x hn a0t _ w2.heap.size w2 hi ((HX0.out.next HB2.out).wide HB2.out.size) (Nat.le_refl _)
    rw [HT.out] at hcall
    clear hi hn
    have y0 : w2.cell? ⟨w.heap.size, 0, none⟩ = some (.int .i64 k0) := by simp [World.cell?, HZ2.out]
    have y1 : w2.cell? ⟨w.heap.size, 1, none⟩ = some (.int .u64 (c0.1.toNat : Int)) := by simp [World.cell?, HZ2.out]
    have y2 : w2.cell? ⟨w.heap.size, 2, none⟩ = some (.int .u64 (c0.2.1.toNat : Int)) := by simp [World.cell?, HZ2.out]
    have y3 : w2.cell? ⟨w.heap.size, 3, none⟩ = some (.int .u64 (c0.2.2.1.toNat : Int)) := by simp [World.cell?, HZ2.out]
    have y4 : w2.cell? ⟨w.heap.size, 4, none⟩ = some (.int .u64 (c0.2.2.2.toNat : Int)) := by simp [World.cell?, HZ2.out]
    have y5 : w2.cell? ⟨w.heap.size, 5, none⟩ = some (.slice ao0 n0 p0) := by simp [World.cell?, HZ2.out]
    go_wp2_with fail
    clear y0 y1 y2 y3 y4 y5
    refine hcall.mono ?_
    rintro _ w3 ⟨rfl, hb3⟩
    clear hcall
    have HZ3 : Hid (w3.heap[w.heap.size]? = some (.cells #[.int .i64 k0, .int .u64 (c0.1.toNat : Int), .int .u64 (c0.2.1.toNat : Int), .int .u64 (c0.2.2.1.toNat : Int), .int .u64 (c0.2.2.2.toNat : Int), .slice ao0 n0 p0] 27)) := (hb3.block _ (by rcases Nat.lt_or_ge w.heap.size w2.heap.size with h' | h'; exact h'; have := HZ2.out; simp [Array.getElem?_eq_none h'] at this)).trans HZ2.out
    have HB3 : Hid (Below w.heap.size w w3) := HB2.out.trans (hb3.mono HB2.out.size)
    clear hb3 HZ2 HB2
    have y0 : w3.cell? ⟨w.heap.size, 0, none⟩ = some (.int .i64 k0) := by simp [World.cell?, HZ3.out]
    have y1 : w3.cell? ⟨w.heap.size, 1, none⟩ = some (.int .u64 (c0.1.toNat : Int)) := by simp [World.cell?, HZ3.out]
    have y2 : w3.cell? ⟨w.heap.size, 2, none⟩ = some (.int .u64 (c0.2.1.toNat : Int)) := by simp [World.cell?, HZ3.out]
    have y3 : w3.cell? ⟨w.heap.size, 3, none⟩ = some (.int .u64 (c0.2.2.1.toNat : Int)) := by simp [World.cell?, HZ3.out]
    have y4 : w3.cell? ⟨w.heap.size, 4, none⟩ = some (.int .u64 (c0.2.2.2.toNat : Int)) := by simp [World.cell?, HZ3.out]
    have y5 : w3.cell? ⟨w.heap.size, 5, none⟩ = some (.slice ao0 n0 p0) := by simp [World.cell?, HZ3.out]
    go_wp2_with fail
    clear y0 y1 y2 y3 y4 y5
    have hc := print_any a0t _ w3.heap.size w3 ((HX0.out.next HB3.out).wide HB3.out.size) (Nat.le_refl _) L HL.out.1 HL.out.2
    rw [HM.out] at hc
    refine hc.mono ?_
    rintro _ w4 ⟨rfl, hb4⟩
    clear hc
    have HZ4 : Hid (w4.heap[w.heap.size]? = some (.cells #[.int .i64 k0, .int .u64 (c0.1.toNat : Int), .int .u64 (c0.2.1.toNat : Int), .int .u64 (c0.2.2.1.toNat : Int), .int .u64 (c0.2.2.2.toNat : Int), .slice ao0 n0 p0] 27)) := (hb4.block _ (by rcases Nat.lt_or_ge w.heap.size w3.heap.size with h' | h'; exact h'; have := HZ3.out; simp [Array.getElem?_eq_none h'] at this)).trans HZ3.out
    have HB4 : Hid (Below w.heap.size w w4) := HB3.out.trans (hb4.mono HB3.out.size)
    clear hb4 HZ3 HB3
    have y0 : w4.cell? ⟨w.heap.size, 0, none⟩ = some (.int .i64 k0) := by simp [World.cell?, HZ4.out]
    have y1 : w4.cell? ⟨w.heap.size, 1, none⟩ = some (.int .u64 (c0.1.toNat : Int)) := by simp [World.cell?, HZ4.out]
    have y2 : w4.cell? ⟨w.heap.size, 2, none⟩ = some (.int .u64 (c0.2.1.toNat : Int)) := by simp [World.cell?, HZ4.out]
    have y3 : w4.cell? ⟨w.heap.size, 3, none⟩ = some (.int .u64 (c0.2.2.1.toNat : Int)) := by simp [World.cell?, HZ4.out]
    have y4 : w4.cell? ⟨w.heap.size, 4, none⟩ = some (.int .u64 (c0.2.2.2.toNat : Int)) := by simp [World.cell?, HZ4.out]
    have y5 : w4.cell? ⟨w.heap.size, 5, none⟩ = some (.slice ao0 n0 p0) := by simp [World.cell?, HZ4.out]
    go_wp2_with fail
    clear y0 y1 y2 y3 y4 y5
    have hc := Check_any a0t _ w4.heap.size w4 ((HX0.out.next HB4.out).wide HB4.out.size) (Nat.le_refl _)
    rw [HM.out] at hc
    refine hc.mono ?_
    rintro _ w5 ⟨rfl, hb5⟩
    clear hc
    have HZ5 : Hid (w5.heap[w.heap.size]? = some (.cells #[.int .i64 k0, .int .u64 (c0.1.toNat : Int), .int .u64 (c0.2.1.toNat : Int), .int .u64 (c0.2.2.1.toNat : Int), .int .u64 (c0.2.2.2.toNat : Int), .slice ao0 n0 p0] 27)) := (hb5.block _ (by rcases Nat.lt_or_ge w.heap.size w4.heap.size with h' | h'; exact h'; have := HZ4.out; simp [Array.getElem?_eq_none h'] at this)).trans HZ4.out
    have HB5 : Hid (Below w.heap.size w w5) := HB4.out.trans (hb5.mono HB4.out.size)
    clear hb5 HZ4 HB4
    go_wp2_with fail
    go_ret
    exact ⟨by simp, HB5.out⟩
  · have hb0 : ((m : Int) == 0) = false := by simp; omega
    have HLE : Hid (L = []) := HL.out.2 (by rw [HM.out]; exact h0)
    have y0 : w2.cell? ⟨w.heap.size, 0, none⟩ = some (.int .i64 k0) := by simp [World.cell?, HZ2.out]
    have y1 : w2.cell? ⟨w.heap.size, 1, none⟩ = some (.int .u64 (c0.1.toNat : Int)) := by simp [World.cell?, HZ2.out]
    have y2 : w2.cell? ⟨w.heap.size, 2, none⟩ = some (.int .u64 (c0.2.1.toNat : Int)) := by simp [World.cell?, HZ2.out]
    have y3 : w2.cell? ⟨w.heap.size, 3, none⟩ = some (.int .u64 (c0.2.2.1.toNat : Int)) := by simp [World.cell?, HZ2.out]
    have y4 : w2.cell? ⟨w.heap.size, 4, none⟩ = some (.int .u64 (c0.2.2.2.toNat : Int)) := by simp [World.cell?, HZ2.out]
    have y5 : w2.cell? ⟨w.heap.size, 5, none⟩ = some (.slice ao0 n0 p0) := by simp [World.cell?, HZ2.out]
    go_wp2_with fail
    clear y0 y1 y2 y3 y4 y5
    have hc := print_any a0t _ w2.heap.size w2 ((HX0.out.next HB2.out).wide HB2.out.size) (Nat.le_refl _) L HL.out.1 HL.out.2
    rw [HM.out] at hc
    refine hc.mono ?_
    rintro _ w3 ⟨rfl, hb3⟩
    clear hc
    have HZ3 : Hid (w3.heap[w.heap.size]? = some (.cells #[.int .i64 k0, .int .u64 (c0.1.toNat : Int), .int .u64 (c0.2.1.toNat : Int), .int .u64 (c0.2.2.1.toNat : Int), .int .u64 (c0.2.2.2.toNat : Int), .slice ao0 n0 p0] 27)) := (hb3.block _ (by rcases Nat.lt_or_ge w.heap.size w2.heap.size with h' | h'; exact h'; have := HZ2.out; simp [Array.getElem?_eq_none h'] at this)).trans HZ2.out
    have HB3 : Hid (Below w.heap.size w w3) := HB2.out.trans (hb3.mono HB2.out.size)
    clear hb3 HZ2 HB2
    have y0 : w3.cell? ⟨w.heap.size, 0, none⟩ = some (.int .i64 k0) := by simp [World.cell?, HZ3.out]
    have y1 : w3.cell? ⟨w.heap.size, 1, none⟩ = some (.int .u64 (c0.1.toNat : Int)) := by simp [World.cell?, HZ3.out]
    have y2 : w3.cell? ⟨w.heap.size, 2, none⟩ = some (.int .u64 (c0.2.1.toNat : Int)) := by simp [World.cell?, HZ3.out]
    have y3 : w3.cell? ⟨w.heap.size, 3, none⟩ = some (.int .u64 (c0.2.2.1.toNat : Int)) := by simp [World.cell?, HZ3.out]
    have y4 : w3.cell? ⟨w.heap.size, 4, none⟩ = some (.int .u64 (c0.2.2.2.toNat : Int)) := by simp [World.cell?, HZ3.out]
    have y5 : w3.cell? ⟨w.heap.size, 5, none⟩ = some (.slice ao0 n0 p0) := by simp [World.cell?, HZ3.out]
    rw [HLE.out]
    go_wp2_with fail
    clear y0 y1 y2 y3 y4 y5
    have hc := Check_any a0t _ w3.heap.size w3 ((HX0.out.next HB3.out).wide HB3.out.size) (Nat.le_refl _)
    rw [HM.out] at hc
    refine hc.mono ?_
    rintro _ w4 ⟨rfl, hb4⟩
    clear hc
    have HZ4 : Hid (w4.heap[w.heap.size]? = some (.cells #[.int .i64 k0, .int .u64 (c0.1.toNat : Int), .int .u64 (c0.2.1.toNat : Int), .int .u64 (c0.2.2.1.toNat : Int), .int .u64 (c0.2.2.2.toNat : Int), .slice ao0 n0 p0] 27)) := (hb4.block _ (by rcases Nat.lt_or_ge w.heap.size w3.heap.size with h' | h'; exact h'; have := HZ3.out; simp [Array.getElem?_eq_none h'] at this)).trans HZ3.out
    have HB4 : Hid (Below w.heap.size w w4) := HB3.out.trans (hb4.mono HB3.out.size)
    clear hb4 HZ3 HB3
    go_wp2_with fail
    go_ret
    exact ⟨by simp, HB4.out⟩

/-! ### What the walk gives, for every argument -/
set_option maxRecDepth 100000 in
theorem contract (H : Type) (enc : TypeId × Value → H) (W : World) (base : Nat) (args : Array Value) (ds gs : List (DataW H)) (before : List MemPlace)
    (hval : ∀ (j : Nat) t v, Try.f3.params[j]? = some t → args[j]? = some v → Value.okWide Try.prog W .any base t v)
    (hW : DataW.Whole enc Try.prog Try.f3.params.toList Rows.rexChecksSpec.vars false W args.toList ds gs before) (hsz : (DataW.weightsEach Try.prog (Try.f3.params.toList ++ Rows.rexChecksSpec.plain.varTypes Try.prog) (ds ++ gs)).all (· ≤ reachBytes) = true) :
    Calls Try.prog 3 args W fun e W' => ∃ v, e = .returned v ∧ Rows.rexChecksSpec.post enc Try.prog Try.f3 false true false false W args v W' := by
  have hW' := hW
  obtain ⟨p, q, hA0, hV, rfl, hfz, hnd⟩ := hW
  have hA : DataW.TrodAll enc Try.prog W 0 (fun _ => true) true Try.f3.params.toList args.toList ds p := hA0
  rw [Try.params3] at hA hval hsz
  obtain ⟨v0, vs0, d0, ds0, p0, q0, hargs, rfl, rfl, h0, r0⟩ := trodAll_cons hA
  obtain ⟨rfl, rfl, rfl⟩ := trodAll_nil r0
  obtain rfl : args = #[v0] := by cases args; simp_all
  obtain ⟨rfl, rfl⟩ := trodVars_none hV
  have k0 := h0
  have lt0 : ∀ x ∈ p0, x.block < W.heap.size := by obtain ⟨m, hm⟩ := k0; exact DataW.trod_lt m _ _ _ hm
  obtain ⟨a0t, w0s⟩ := open_rex (hval 0 27 v0 rfl rfl) h0
  clear hA0
  refine (walk _ a0t W w0s).mono fun e W' ⟨he, bel⟩ => ?_
  subst he
  exact ⟨_, rfl, _, _, _, [], _, [], hW', trodAll_mk1 (shut_bool Try.underlying4 _), (trodAll_cons_mk (Below.trod laidOut (by kernel_rfl) (of_decide_eq_true (by kernel_rfl)) k0 bel lt0) trodAll_mk0), rfl, bel.frame _, fun h => by cases h⟩

/-! ### The row's step -/
set_option maxRecDepth 100000 in
theorem lifted (os : Os) (started : os.Started) (H : Type) (enc : TypeId × Value → H) :
    ReturnsInHanded {} Try.checked os 3 .any (Rows.rexChecksSpec.pre6 enc Try.prog Try.f3 Rows.rexChecksRow.domain false) (Rows.rexChecksSpec.post enc Try.prog Try.f3 false true false false) := by
  refine returnsInHanded_of_change_sized (C := Try.checked) own started (by kernel_rfl) Try.func3
    (ChangeSpec.witness6 (enc := enc) (C := Try.checked) false ⟨#[], #[.agg #[.int .i64 0, .int .u64 0, .int .u64 0, .int .u64 0, .int .u64 0, .slice none 0 0]], []⟩ 8 (by kernel_rfl) (by kernel_rfl) (by kernel_rfl) (by kernel_rfl)) ?_
  intro W base args ds gs before hval hW hcnd hsz _
  exact contract H enc W base args ds gs before hval hW hsz

theorem over : Rows.rexChecksRow.holds Try.pinned (OpenSpec.ofChange Rows.rexChecksSpec) :=
  OpenClaim.holds_of_wide 3 Try.f3 rfl rfl rfl rfl rfl rfl rfl ⟨rfl, rfl, rfl, rfl, rfl⟩ rfl rfl rfl rfl rfl (by kernel_rfl) Try.func3 (by kernel_rfl)
    (of_decide_eq_true (by kernel_rfl)) (by unfold Func.isWrapper; first | (rw [if_pos (by decide +kernel)]; kernel_rfl) | (rw [if_neg (by decide +kernel)]; exact ⟨rfl, rfl⟩))
    (fun os started H enc _ => lifted os started H enc)

end Go.Proofs.Ythloedfiomfnbaa.rexChecks
namespace Go.Proofs.Ythloedfiomfnbaa
/-- The given statement. -/
theorem rexChecks_holds : Rows.RexChecksSaid := rexChecks.over
#print axioms rexChecks_holds
end Go.Proofs.Ythloedfiomfnbaa
