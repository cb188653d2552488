/-
  LrChecks returns true whatever grammar and table are handed in, and changes nothing that it was handed; no condition.
-/
import Derived.Test.YtdfjhhdojmlmlaaRows
import Derived.WalkKit
import Derived.ProofKit
import Derived.OpenShut
import Derived.ShutString
import Derived.SizedLaws
import Derived.ChangeOld
import Derived.Below
import Derived.Carry
import Derived.WalkLawsBesides
import Derived.WalkSpells
import Derived.Test.YtdfjhhdojmlmlaaOpens
import Derived.Test.YtdfjhhdojmlmlaaLrCheck
import Derived.Test.YtdfjhhdojmlmlaaLrRight
namespace Go.Proofs.Ytdfjhhdojmlmlaa.lrChecks
open Go.ChangeShapes Go.WideShapes Go.ChangeAt Go.RowKit
open Go.ChangeMaps (open_string shut_string)
open Cg
set_option linter.unusedVariables false

theorem own : ownKnob Try.prog.godebug = none := by kernel_rfl
theorem laidOut : laidOutB Try.prog = true := by kernel_rfl

/-! ### The walk: the Go text returns true. -/
set_option maxHeartbeats 16000000 in
set_option maxRecDepth 20000 in
theorem walk (t : Int) (n : Int) (a0s : Value) (ps : List Pd) (av gv : Value) (al : List (List Sy)) (gs : List (List Int)) (w : World) (w0s : Pds w a0s ps) (w1a : Ars w av al) (w1g : Rws w gv gs) :
    Calls Try.prog 3 #[.agg #[.int .i64 t, .int .i64 n, a0s], .agg #[av, gv]] w fun e w' => e = .returned (.bool true) ∧ Below w.heap.size w w' := by
  have HTB := Tb.box w0s t n av gv
  obtain ⟨ao, c, rfl, hm, -⟩ := w0s
  have HAV : Hid (Ars w av al) := w1a
  have HGV : Hid (Rws w gv gs) := w1g
  obtain ⟨ro, rc, rfl, hrm, -⟩ := w1a
  obtain ⟨so, sc, rfl, hsm, -⟩ := w1g
  obtain ⟨wb, HWB⟩ : ∃ wb, Hid (((w.alloc (Obj.cells #[.int .i64 t, .int .i64 n, .slice ao ps.length c] 24)).alloc (Obj.cells #[.slice ro al.length rc, .slice so gs.length sc] 28)) = wb) := ⟨_, (rfl : ((w.alloc (Obj.cells #[.int .i64 t, .int .i64 n, .slice ao ps.length c] 24)).alloc (Obj.cells #[.slice ro al.length rc, .slice so gs.length sc] 28)) = _)⟩
  rw [HWB.out] at HTB
  have HT : Hid (Tb w w.heap.size (w.heap.size + 1) t n (.slice ao ps.length c) ps (.slice ro al.length rc) (.slice so gs.length sc) wb) := HTB
  clear HTB
  have hne : Nonempty (Kp (Sb wb)) := ⟨⟨_, Sb.drew wb⟩⟩
  have k0 : ∀ p : Kp (Sb wb), p.W.cell? ⟨w.heap.size, 0, none⟩ = some (.int .i64 t) := fun p => (HT.out.next p.h).gb.c0
  have k1 : ∀ p : Kp (Sb wb), p.W.cell? ⟨w.heap.size, 1, none⟩ = some (.int .i64 n) := fun p => (HT.out.next p.h).gb.c1
  have k2 : ∀ p : Kp (Sb wb), p.W.cell? ⟨w.heap.size, 2, none⟩ = some (.slice ao ps.length c) := fun p => (HT.out.next p.h).gb.c2
  have k3 : ∀ p : Kp (Sb wb), p.W.cell? ⟨w.heap.size + 1, 0, none⟩ = some (.slice ro al.length rc) := fun p => (HT.out.next p.h).d0
  have k4 : ∀ p : Kp (Sb wb), p.W.cell? ⟨w.heap.size + 1, 1, none⟩ = some (.slice so gs.length sc) := fun p => (HT.out.next p.h).d1
  obtain ⟨er, HER⟩ : ∃ er, Hid (chkT t n ps al gs = er) := ⟨_, (rfl : chkT t n ps al gs = _)⟩
  have HC1 : Hid (∀ p : Kp (Sb wb), Calls Try.prog 4 #[.agg #[.int .i64 t, .int .i64 n, .slice ao ps.length c], .agg #[.slice ro al.length rc, .slice so gs.length sc]] p.W fun e w'' => e = .returned (.int .i64 er) ∧ ∃ q : Kp (Sb wb), w'' = q.W) := fun p => by
    have hg := (HT.out.next p.h).gb
    have := LCheck_any t n _ ps _ _ al gs p.W hg.pds (HAV.out.below hg.below) (HGV.out.below hg.below)
    rw [HER.out] at this
    exact Kp.calls p Sb.next this
  have HC2 : Hid (∀ p : Kp (Sb wb), Calls Try.prog 5 #[.agg #[.int .i64 t, .int .i64 n, .slice ao ps.length c], .agg #[.slice ro al.length rc, .slice so gs.length sc]] p.W fun e w'' => e = .returned (.int .i64 er) ∧ ∃ q : Kp (Sb wb), w'' = q.W) := fun p => by
    have hg := (HT.out.next p.h).gb
    have := RightTable_any t n _ ps _ _ al gs p.W hg.pds (HAV.out.below hg.below) (HGV.out.below hg.below)
    rw [HER.out] at this
    exact Kp.calls p Sb.next this
  have hee : (er == er) = true := by simp
  go_enter Try.func3, Try.ntmps3
  go_wp2_with fail
  rw [HWB.out]
  refine wp_region_kept mixed (by kernel_rfl) (Sb.drew wb) ?_
  repeat (go_big_quiet_step (first | (go_at_call 4; with_reducible exact HC1.out _) | (go_at_call 5; with_reducible exact HC2.out _)))
  refine wpQuiet_nil ?_
  intro W2 hw2
  obtain ⟨p2, rfl⟩ := hw2
  have HB5 : Hid (Below w.heap.size w p2.W) := (HT.out.next p2.h).gb.below
  generalize p2.W = w3 at HB5 ⊢
  clear k0 k1 k2 k3 k4 HC1 HC2 hne p2 hee
  go_wp2_with fail
  go_ret
  exact ⟨by simp, HB5.out⟩

/-! ### What the walk gives, for every argument -/
set_option maxRecDepth 100000 in
theorem contract (H : Type) (enc : TypeId × Value → H) (W : World) (base : Nat) (args : Array Value) (ds gs : List (DataW H)) (before : List MemPlace)
    (hval : ∀ (j : Nat) t v, Try.f3.params[j]? = some t → args[j]? = some v → Value.okWide Try.prog W .any base t v)
    (hW : DataW.Whole enc Try.prog Try.f3.params.toList Rows.lrChecksSpec.vars false W args.toList ds gs before) (hsz : (DataW.weightsEach Try.prog (Try.f3.params.toList ++ Rows.lrChecksSpec.plain.varTypes Try.prog) (ds ++ gs)).all (· ≤ reachBytes) = true) :
    Calls Try.prog 3 args W fun e W' => ∃ v, e = .returned v ∧ Rows.lrChecksSpec.post enc Try.prog Try.f3 false true false false W args v W' := by
  have hW' := hW
  obtain ⟨p, q, hA0, hV, rfl, hfz, hnd⟩ := hW
  have hA : DataW.TrodAll enc Try.prog W 0 (fun _ => true) true Try.f3.params.toList args.toList ds p := hA0
  rw [Try.params3] at hA hval hsz
  obtain ⟨v0, vs0, d0, ds0, p0, q0, hargs, rfl, rfl, h0, r0⟩ := trodAll_cons hA
  obtain ⟨v1, vs1, d1, ds1, p1, q1, rfl, rfl, rfl, h1, r1⟩ := trodAll_cons r0
  obtain ⟨rfl, rfl, rfl⟩ := trodAll_nil r1
  obtain rfl : args = #[v0, v1] := by cases args; simp_all
  obtain ⟨rfl, rfl⟩ := trodVars_none hV
  have k0 := h0
  have lt0 : ∀ x ∈ p0, x.block < W.heap.size := by obtain ⟨m, hm⟩ := k0; exact DataW.trod_lt m _ _ _ hm
  obtain ⟨a0t, a0n, a0s, a0p, rfl, w0s⟩ := open_gram (hval 0 24 v0 rfl rfl) h0
  have k1 := h1
  have lt1 : ∀ x ∈ p1, x.block < W.heap.size := by obtain ⟨m, hm⟩ := k1; exact DataW.trod_lt m _ _ _ hm
  obtain ⟨a1v, a1g, a1l, a1m, rfl, w1a, w1g⟩ := open_table (hval 1 28 v1 rfl rfl) h1
  clear hA0
  refine (walk a0t a0n a0s a0p _ _ a1l a1m W w0s w1a w1g).mono fun e W' ⟨he, bel⟩ => ?_
  subst he
  exact ⟨_, rfl, _, _, _, [], _, [], hW', trodAll_mk1 (shut_bool Try.underlying4 _), (trodAll_cons_mk (Below.trod laidOut (by kernel_rfl) (of_decide_eq_true (by kernel_rfl)) k0 bel lt0) (trodAll_cons_mk (Below.trod laidOut (by kernel_rfl) (of_decide_eq_true (by kernel_rfl)) k1 bel lt1) trodAll_mk0)), rfl, bel.frame _, fun h => by cases h⟩

/-! ### The row's step -/
set_option maxRecDepth 100000 in
theorem lifted (os : Os) (started : os.Started) (H : Type) (enc : TypeId × Value → H) :
    ReturnsInHanded {} Try.checked os 3 .any (Rows.lrChecksSpec.pre6 enc Try.prog Try.f3 Rows.lrChecksRow.domain false) (Rows.lrChecksSpec.post enc Try.prog Try.f3 false true false false) := by
  refine returnsInHanded_of_change_sized (C := Try.checked) own started (by kernel_rfl) Try.func3
    (ChangeSpec.witness6 (enc := enc) (C := Try.checked) false ⟨#[], #[.agg #[.int .i64 0, .int .i64 0, .slice none 0 0], .agg #[.slice none 0 0, .slice none 0 0]], []⟩ 8 (by kernel_rfl) (by kernel_rfl) (by kernel_rfl) (by kernel_rfl)) ?_
  intro W base args ds gs before hval hW hcnd hsz _
  exact contract H enc W base args ds gs before hval hW hsz

theorem over : Rows.lrChecksRow.holds Try.pinned (OpenSpec.ofChange Rows.lrChecksSpec) :=
  OpenClaim.holds_of_wide 3 Try.f3 rfl rfl rfl rfl rfl rfl rfl ⟨rfl, rfl, rfl, rfl, rfl⟩ rfl rfl rfl rfl rfl (by kernel_rfl) Try.func3 (by kernel_rfl)
    (of_decide_eq_true (by kernel_rfl)) (by unfold Func.isWrapper; first | (rw [if_pos (by decide +kernel)]; kernel_rfl) | (rw [if_neg (by decide +kernel)]; exact ⟨rfl, rfl⟩))
    (fun os started H enc _ => lifted os started H enc)

end Go.Proofs.Ytdfjhhdojmlmlaa.lrChecks
namespace Go.Proofs.Ytdfjhhdojmlmlaa
/-- The given statement. -/
theorem lrChecks_holds : Rows.LrChecksSaid := lrChecks.over
#print axioms lrChecks_holds
end Go.Proofs.Ytdfjhhdojmlmlaa
