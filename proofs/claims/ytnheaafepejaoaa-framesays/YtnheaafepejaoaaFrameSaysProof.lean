/-
  Whatever frame is handed in, the call of pushlaw.FrameSays returns true: Check and Write answer what the document says. Conditions: none.
-/
import Derived.Test.YtnheaafepejaoaaRows
import Derived.WalkKit
import Derived.ProofKit
import Derived.OpenShut
import Derived.ShutString
import Derived.SizedLaws
import Derived.ChangeOld
import Derived.Below
import Derived.Carry
import Derived.WalkLawsBesides
import Derived.WalkSpells
import Derived.Test.YtnheaafepejaoaaOpens
import Derived.Test.YtnheaafepejaoaaWrites
namespace Go.Proofs.Ytnheaafepejaoaa.frameSays
open Go.ChangeShapes Go.WideShapes Go.ChangeAt Go.RowKit
open Go.ChangeMaps (open_string shut_string)
open Frm
set_option linter.unusedVariables false

theorem own : ownKnob Try.prog.godebug = none := by kernel_rfl
theorem laidOut : laidOutB Try.prog = true := by kernel_rfl

/-! ### The walk: the Go text returns true. -/
set_option maxHeartbeats 800000 in
set_option maxRecDepth 20000 in
theorem walk (a0k : Int) (a0h : Int) (a0b : ByteArray) (w : World)  :
    Calls Try.prog 3 #[.agg #[.int .i64 a0k, .int .i64 a0h, .string a0b]] w fun e w' => e = .returned (.bool true) ∧ Below w.heap.size w w' := by
  by_cases h : chk ⟨a0k, a0h, a0b⟩ = 0
  · have e1 := out_good ⟨a0k, a0h, a0b⟩ h
    go_enter Try.func3, Try.ntmps3
    go_wp2_with fail
    refine (refcheck_parts a0k a0h a0b _).mono ?_
    rintro e w1 ⟨rfl, hb1⟩
    rw [h]
    have s1 := hb1.size
    have B1 : Below w.heap.size w w1 := ((Below.refl _ w).alloc (Nat.le_refl _) _).trans (hb1.mono (by simp))
    have c0 : w1.cell? ⟨w.heap.size, 0, none⟩ = some (.int .i64 a0k) := by rw [hb1.cell (by simp)]; simp
    have c1 : w1.cell? ⟨w.heap.size, 1, none⟩ = some (.int .i64 a0h) := by rw [hb1.cell (by simp)]; simp
    have c2 : w1.cell? ⟨w.heap.size, 2, none⟩ = some (.string a0b) := by rw [hb1.cell (by simp)]; simp
    rw [World.size_alloc] at s1
    clear hb1
    go_wp2_with fail
    refine (write_parts a0k a0h a0b _).mono ?_
    rintro e w2 ⟨rfl, hb2⟩
    rw [h, e1]
    have s2 := hb2.size
    have B2 := B1.trans (hb2.mono (by omega))
    have d0 : w2.cell? ⟨w.heap.size, 0, none⟩ = some (.int .i64 a0k) := by rw [hb2.cell (by show w.heap.size < _; omega)]; exact c0
    have d1 : w2.cell? ⟨w.heap.size, 1, none⟩ = some (.int .i64 a0h) := by rw [hb2.cell (by show w.heap.size < _; omega)]; exact c1
    have d2 : w2.cell? ⟨w.heap.size, 2, none⟩ = some (.string a0b) := by rw [hb2.cell (by show w.heap.size < _; omega)]; exact c2
    clear hb2 c0 c1 c2
    go_wp2_with fail
    refine (text_good a0k a0h a0b h _).mono ?_
    rintro e w3 ⟨rfl, hb3⟩
    have s3 := hb3.size
    have B3 := B2.trans (hb3.mono (by omega))
    have f0 : w3.cell? ⟨w.heap.size, 0, none⟩ = some (.int .i64 a0k) := by rw [hb3.cell (by show w.heap.size < _; omega)]; exact d0
    have f1 : w3.cell? ⟨w.heap.size, 1, none⟩ = some (.int .i64 a0h) := by rw [hb3.cell (by show w.heap.size < _; omega)]; exact d1
    have f2 : w3.cell? ⟨w.heap.size, 2, none⟩ = some (.string a0b) := by rw [hb3.cell (by show w.heap.size < _; omega)]; exact d2
    clear hb3 d0 d1 d2
    go_wp2_with fail
    refine (check_parts a0k a0h a0b _).mono ?_
    rintro e w4 ⟨rfl, hb4⟩
    rw [h]
    have B4 := B3.trans (hb4.mono (by omega))
    go_wp2_with fail
    go_ret
    exact ⟨rfl, B4⟩
  · have e1 := out_bad ⟨a0k, a0h, a0b⟩ h
    have hb : (((chk ⟨a0k, a0h, a0b⟩ : Nat) : Int) == 0) = false := by simp; omega
    go_enter Try.func3, Try.ntmps3
    go_wp2_with fail
    refine (refcheck_parts a0k a0h a0b _).mono ?_
    rintro e w1 ⟨rfl, hb1⟩
    have s1 := hb1.size
    have B1 : Below w.heap.size w w1 := ((Below.refl _ w).alloc (Nat.le_refl _) _).trans (hb1.mono (by simp))
    have c0 : w1.cell? ⟨w.heap.size, 0, none⟩ = some (.int .i64 a0k) := by rw [hb1.cell (by simp)]; simp
    have c1 : w1.cell? ⟨w.heap.size, 1, none⟩ = some (.int .i64 a0h) := by rw [hb1.cell (by simp)]; simp
    have c2 : w1.cell? ⟨w.heap.size, 2, none⟩ = some (.string a0b) := by rw [hb1.cell (by simp)]; simp
    rw [World.size_alloc] at s1
    clear hb1
    go_wp2_with fail
    refine (write_parts a0k a0h a0b _).mono ?_
    rintro e w2 ⟨rfl, hb2⟩
    rw [e1]
    have s2 := hb2.size
    have B2 := B1.trans (hb2.mono (by omega))
    have d0 : w2.cell? ⟨w.heap.size, 0, none⟩ = some (.int .i64 a0k) := by rw [hb2.cell (by show w.heap.size < _; omega)]; exact c0
    have d1 : w2.cell? ⟨w.heap.size, 1, none⟩ = some (.int .i64 a0h) := by rw [hb2.cell (by show w.heap.size < _; omega)]; exact c1
    have d2 : w2.cell? ⟨w.heap.size, 2, none⟩ = some (.string a0b) := by rw [hb2.cell (by show w.heap.size < _; omega)]; exact c2
    clear hb2 c0 c1 c2
    go_wp2_with fail
    refine (check_parts a0k a0h a0b _).mono ?_
    rintro e w4 ⟨rfl, hb4⟩
    have B4 := B2.trans (hb4.mono (by omega))
    go_wp2_with fail
    go_ret
    exact ⟨rfl, B4⟩

/-! ### What the walk gives, for every argument -/
set_option maxRecDepth 100000 in
theorem contract (H : Type) (enc : TypeId × Value → H) (W : World) (base : Nat) (args : Array Value) (ds gs : List (DataW H)) (before : List MemPlace)
    (hval : ∀ (j : Nat) t v, Try.f3.params[j]? = some t → args[j]? = some v → Value.okWide Try.prog W .any base t v)
    (hW : DataW.Whole enc Try.prog Try.f3.params.toList Rows.frameSaysSpec.vars false W args.toList ds gs before) (hsz : (DataW.weightsEach Try.prog (Try.f3.params.toList ++ Rows.frameSaysSpec.plain.varTypes Try.prog) (ds ++ gs)).all (· ≤ reachBytes) = true) :
    Calls Try.prog 3 args W fun e W' => ∃ v, e = .returned v ∧ Rows.frameSaysSpec.post enc Try.prog Try.f3 false true false false W args v W' := by
  have hW' := hW
  obtain ⟨p, q, hA0, hV, rfl, hfz, hnd⟩ := hW
  have hA : DataW.TrodAll enc Try.prog W 0 (fun _ => true) true Try.f3.params.toList args.toList ds p := hA0
  rw [Try.params3] at hA hval hsz
  obtain ⟨v0, vs0, d0, ds0, p0, q0, hargs, rfl, rfl, h0, r0⟩ := trodAll_cons hA
  obtain ⟨rfl, rfl, rfl⟩ := trodAll_nil r0
  obtain rfl : args = #[v0] := by cases args; simp_all
  obtain ⟨rfl, rfl⟩ := trodVars_none hV
  have k0 := h0
  have lt0 : ∀ x ∈ p0, x.block < W.heap.size := by obtain ⟨m, hm⟩ := k0; exact DataW.trod_lt m _ _ _ hm
  obtain ⟨a0k, a0h, a0b, rfl⟩ := open_frame (hval 0 23 v0 rfl rfl) h0
  clear hA0
  refine (walk a0k a0h a0b W ).mono fun e W' ⟨he, bel⟩ => ?_
  subst he
  exact ⟨_, rfl, _, _, _, [], _, [], hW', trodAll_mk1 (shut_bool Try.underlying4 _), (trodAll_cons_mk (Below.trod laidOut (by kernel_rfl) (of_decide_eq_true (by kernel_rfl)) k0 bel lt0) trodAll_mk0), rfl, bel.frame _, fun h => by cases h⟩

/-! ### The row's step -/
set_option maxRecDepth 100000 in
theorem lifted (os : Os) (started : os.Started) (H : Type) (enc : TypeId × Value → H) :
    ReturnsInHanded {} Try.checked os 3 .any (Rows.frameSaysSpec.pre6 enc Try.prog Try.f3 Rows.frameSaysRow.domain false) (Rows.frameSaysSpec.post enc Try.prog Try.f3 false true false false) := by
  refine returnsInHanded_of_change_sized (C := Try.checked) own started (by kernel_rfl) Try.func3
    (ChangeSpec.witness6 (enc := enc) (C := Try.checked) false ⟨#[], #[.agg #[.int .i64 0, .int .i64 0, .string .empty]], []⟩ 8 (by kernel_rfl) (by kernel_rfl) (by kernel_rfl) (by kernel_rfl)) ?_
  intro W base args ds gs before hval hW hcnd hsz _
  exact contract H enc W base args ds gs before hval hW hsz

theorem over : Rows.frameSaysRow.holds Try.pinned (OpenSpec.ofChange Rows.frameSaysSpec) :=
  OpenClaim.holds_of_wide 3 Try.f3 rfl rfl rfl rfl rfl rfl rfl ⟨rfl, rfl, rfl, rfl, rfl⟩ rfl rfl rfl rfl rfl (by kernel_rfl) Try.func3 (by kernel_rfl)
    (of_decide_eq_true (by kernel_rfl)) (by unfold Func.isWrapper; first | (rw [if_pos (by decide +kernel)]; kernel_rfl) | (rw [if_neg (by decide +kernel)]; exact ⟨rfl, rfl⟩))
    (fun os started H enc _ => lifted os started H enc)

end Go.Proofs.Ytnheaafepejaoaa.frameSays
namespace Go.Proofs.Ytnheaafepejaoaa
/-- The given statement. -/
theorem frameSays_holds : Rows.FrameSaysSaid := frameSays.over
#print axioms frameSays_holds
end Go.Proofs.Ytnheaafepejaoaa
