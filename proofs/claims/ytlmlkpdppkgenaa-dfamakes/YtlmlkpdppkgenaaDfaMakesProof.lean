/-
  DfaMakes returns true whatever Posn is handed in, and changes nothing that it was handed; no condition.
-/
import Derived.Test.YtlmlkpdppkgenaaRows
import Derived.WalkKit
import Derived.ProofKit
import Derived.OpenShut
import Derived.ShutString
import Derived.SizedLaws
import Derived.ChangeOld
import Derived.Below
import Derived.Carry
import Derived.WalkLawsBesides
import Derived.WalkSpells
import Derived.Test.YtlmlkpdppkgenaaOpens
import Derived.Test.YtlmlkpdppkgenaaPoOpens
import Derived.Test.YtlmlkpdppkgenaaPoRight
import Derived.Test.YtlmlkpdppkgenaaDmBoth
namespace Go.Proofs.Ytlmlkpdppkgenaa.dfaMakes
open Go.ChangeShapes Go.WideShapes Go.ChangeAt Go.RowKit
open Go.ChangeMaps (open_string shut_string)
open Cls Po Dm
set_option linter.unusedVariables false

theorem own : ownKnob Try.prog.godebug = none := by kernel_rfl
theorem laidOut : laidOutB Try.prog = true := by kernel_rfl

/-! ### The walk: the Go text returns true. -/
set_option maxHeartbeats 8000000 in
set_option maxRecDepth 20000 in
theorem walk (a0a a0b a0c a0d a0e a0f : Value) (a0p : Po.P) (w : World) (w0s : Pn w a0a a0b a0c a0d a0e a0f a0p) :
    Calls Try.prog 3 #[.agg #[a0a, a0b, a0c, a0d, a0e, a0f]] w fun e w' => e = .returned (.bool true) ∧ Below w.heap.size w w' := by
  have H0 : Hid (Px w w.heap.size a0a a0b a0c a0d a0e a0f a0p (w.alloc (Obj.cells #[a0a, a0b, a0c, a0d, a0e, a0f] 27))) := Px.box w0s
  clear w0s
  obtain ⟨w0, HW0⟩ : ∃ z, Hid (w.alloc (Obj.cells #[a0a, a0b, a0c, a0d, a0e, a0f] 27) = z) := ⟨_, (rfl : _ = _)⟩
  rw [HW0.out] at H0
  by_cases hck : chk a0p = 0
  · have HCK : Hid (chk a0p = 0) := hck
    obtain ⟨z, n, R, T, HONE⟩ := mkp_one a0p
    have HMK : Hid (∀ w e w', MkP a0p w e w' → ∃ xo xc yo yc, e = .returned (.tuple #[.agg #[.slice xo n xc, .slice yo n yc], .int .i64 z]) ∧ Df.Rw w' (.slice xo n xc) n R ∧ Df.Ts w' (.slice yo n yc) n T ∧ Below w.heap.size w w') := HONE
    clear HONE
    have hmk := (DMake_ok a0a a0b a0c a0d a0e a0f a0p w0 H0.out.pn hck).mono fun e w' h => HMK.out _ e w' h
    have y0 := H0.out.c0
    have y1 := H0.out.c1
    have y2 := H0.out.c2
    have y3 := H0.out.c3
    have y4 := H0.out.c4
    have y5 := H0.out.c5
    go_enter Try.func3, Try.ntmps3
    go_upto_region 1 with fail
    rw [HW0.out]
    clear HW0 hck
    go_wp2_with fail
    clear y0 y1 y2 y3 y4 y5
    refine hmk.mono ?_
    rintro _ w1 ⟨xo, xc, yo, yc, rfl, hr1, ht1, hb1⟩
    have hbz := balloc1 w1 (Obj.cells #[.slice xo n xc, .slice yo n yc] 30)
    obtain ⟨wa, HWA⟩ : ∃ q, Hid (w1.alloc (Obj.cells #[.slice xo n xc, .slice yo n yc] 30) = q) := ⟨_, (rfl : _ = _)⟩
    obtain ⟨gb, HGB⟩ : ∃ q, Hid (w1.heap.size = q) := ⟨_, (rfl : _ = _)⟩
    have hz0 : wa.cell? ⟨gb, 0, none⟩ = some (.slice xo n xc) := by rw [← HWA.out, ← HGB.out]; simp
    have hz1 : wa.cell? ⟨gb, 1, none⟩ = some (.slice yo n yc) := by rw [← HWA.out, ← HGB.out]; simp
    have hz2 : gb < wa.heap.size := by rw [← HWA.out, ← HGB.out]; simp
    rw [HWA.out] at hbz
    have HA : Hid (wa.cell? ⟨gb, 0, none⟩ = some (.slice xo n xc) ∧ wa.cell? ⟨gb, 1, none⟩ = some (.slice yo n yc) ∧ gb < wa.heap.size) := ⟨hz0, hz1, hz2⟩
    have HXA : Hid (Px w w.heap.size a0a a0b a0c a0d a0e a0f a0p wa) := (H0.out.next _ _ hb1).next _ _ hbz
    have HRA : Hid (Df.Rw wa (.slice xo n xc) n R) := hr1.below hbz (Nat.le_refl _)
    have HTA : Hid (Df.Ts wa (.slice yo n yc) n T) := ht1.below hbz (Nat.le_refl _)
    clear hmk hr1 ht1 hb1 hbz hz0 hz1 hz2 H0
    go_upto_region 2 with fail
    rw [HWA.out, HGB.out]
    clear HWA HGB
    have hri := right_any a0a a0b a0c a0d a0e a0f a0p wa HXA.out.pn
    rw [HCK.out] at hri
    have y0 := HXA.out.c0
    have y1 := HXA.out.c1
    have y2 := HXA.out.c2
    have y3 := HXA.out.c3
    have y4 := HXA.out.c4
    have y5 := HXA.out.c5
    go_wp2_with fail
    clear y0 y1 y2 y3 y4 y5
    refine hri.mono ?_
    rintro _ w2 ⟨rfl, hb2⟩
    have HX2 : Hid (Px w w.heap.size a0a a0b a0c a0d a0e a0f a0p w2) := HXA.out.next _ _ hb2
    have HA2 : Hid (w2.cell? ⟨gb, 0, none⟩ = some (.slice xo n xc) ∧ w2.cell? ⟨gb, 1, none⟩ = some (.slice yo n yc) ∧ gb < w2.heap.size) := ⟨(hb2.cell HA.out.2.2).trans HA.out.1, (hb2.cell HA.out.2.2).trans HA.out.2.1, Nat.lt_of_lt_of_le HA.out.2.2 hb2.size⟩
    have HR2 : Hid (Df.Rw w2 (.slice xo n xc) n R) := HRA.out.below hb2 (Nat.le_refl _)
    have HT2 : Hid (Df.Ts w2 (.slice yo n yc) n T) := HTA.out.below hb2 (Nat.le_refl _)
    clear hri hb2 HXA HA HRA HTA
    have hrd := (RDfa_ok a0a a0b a0c a0d a0e a0f a0p w2 HX2.out.pn HCK.out).mono fun e w' h => HMK.out _ e w' h
    have y0 := HX2.out.c0
    have y1 := HX2.out.c1
    have y2 := HX2.out.c2
    have y3 := HX2.out.c3
    have y4 := HX2.out.c4
    have y5 := HX2.out.c5
    go_wp2_with fail
    clear y0 y1 y2 y3 y4 y5
    refine hrd.mono ?_
    rintro _ w3 ⟨po, pc, qo, qc, rfl, hr3, ht3, hb3⟩
    have hbz := balloc1 w3 (Obj.cells #[.slice po n pc, .slice qo n qc] 30)
    obtain ⟨w4, HW4⟩ : ∃ q, Hid (w3.alloc (Obj.cells #[.slice po n pc, .slice qo n qc] 30) = q) := ⟨_, (rfl : _ = _)⟩
    obtain ⟨gc, HGC⟩ : ∃ q, Hid (w3.heap.size = q) := ⟨_, (rfl : _ = _)⟩
    have y0 : w4.cell? ⟨gc, 0, none⟩ = some (.slice po n pc) := by rw [← HW4.out, ← HGC.out]; simp
    have y1 : w4.cell? ⟨gc, 1, none⟩ = some (.slice qo n qc) := by rw [← HW4.out, ← HGC.out]; simp
    rw [HW4.out] at hbz
    have hb4 := hb3.trans (hbz.mono hb3.size)
    have y2 := (hb4.cell (p := ⟨gb, 0, none⟩) HA2.out.2.2).trans HA2.out.1
    have y3 := (hb4.cell (p := ⟨gb, 1, none⟩) HA2.out.2.2).trans HA2.out.2.1
    have hsm := Df.sameDfa_any _ _ _ _ n n n n R R T T w4 (HR2.out.below hb4 (Nat.le_refl _)) (HT2.out.below hb4 (Nat.le_refl _)) (hr3.below hbz (Nat.le_refl _)) (ht3.below hbz (Nat.le_refl _))
    rw [Df.eqR_refl n R R (fun _ _ _ _ => rfl), Df.eqT_refl n T T (fun _ _ => rfl)] at hsm
    have HB4 : Hid (Below w.heap.size w w4) := (HX2.out.next _ _ hb4).below
    have bz : (z == z) = true := by simp
    clear hrd hr3 ht3 hb3 hbz hb4 HR2 HT2 HA2 HX2
    go_upto_region 6 with fail
    rw [HW4.out, HGC.out]
    clear HW4 HGC
    go_wp2_with fail
    clear y0 y1 y2 y3
    refine hsm.mono ?_
    rintro _ w5 ⟨rfl, hb5⟩
    have HB5 : Hid (Below w.heap.size w w5) := HB4.out.trans (hb5.mono HB4.out.size)
    clear hsm hb5
    go_wp2_with fail
    go_ret
    exact ⟨by simp, HB5.out⟩
  · obtain ⟨z, HCK⟩ : ∃ z, Hid (chk a0p = z) := ⟨_, (rfl : _ = _)⟩
    have bz : (z != 0) = true := by rw [← HCK.out]; simpa using hck
    have bz2 : (z == z) = true := by simp
    have hmk := DMake_bad a0a a0b a0c a0d a0e a0f a0p w0 H0.out.pn hck
    rw [HCK.out] at hmk
    have y0 := H0.out.c0
    have y1 := H0.out.c1
    have y2 := H0.out.c2
    have y3 := H0.out.c3
    have y4 := H0.out.c4
    have y5 := H0.out.c5
    go_enter Try.func3, Try.ntmps3
    go_upto_region 1 with fail
    rw [HW0.out]
    clear HW0 hck
    go_wp2_with fail
    clear y0 y1 y2 y3 y4 y5
    refine hmk.mono ?_
    rintro _ w1 ⟨rfl, hb1⟩
    obtain ⟨R, HRR⟩ : ∃ R : Nat → Nat → Int, Hid (R = fun _ _ => 0) := ⟨_, (rfl : _ = _)⟩
    obtain ⟨T, HTT⟩ : ∃ T : Nat → Int, Hid (T = fun _ => 0) := ⟨_, (rfl : _ = _)⟩
    have hr1 : Df.Rw w1 (.slice none 0 0) 0 R := by rw [HRR.out]; exact rw_none _
    have ht1 : Df.Ts w1 (.slice none 0 0) 0 T := by rw [HTT.out]; exact ts_none _
    have hbz := balloc1 w1 (Obj.cells #[.slice none 0 0, .slice none 0 0] 30)
    obtain ⟨wa, HWA⟩ : ∃ q, Hid (w1.alloc (Obj.cells #[.slice none 0 0, .slice none 0 0] 30) = q) := ⟨_, (rfl : _ = _)⟩
    obtain ⟨gb, HGB⟩ : ∃ q, Hid (w1.heap.size = q) := ⟨_, (rfl : _ = _)⟩
    have hz0 : wa.cell? ⟨gb, 0, none⟩ = some (.slice none 0 0) := by rw [← HWA.out, ← HGB.out]; simp
    have hz1 : wa.cell? ⟨gb, 1, none⟩ = some (.slice none 0 0) := by rw [← HWA.out, ← HGB.out]; simp
    have hz2 : gb < wa.heap.size := by rw [← HWA.out, ← HGB.out]; simp
    rw [HWA.out] at hbz
    have HA : Hid (wa.cell? ⟨gb, 0, none⟩ = some (.slice none 0 0) ∧ wa.cell? ⟨gb, 1, none⟩ = some (.slice none 0 0) ∧ gb < wa.heap.size) := ⟨hz0, hz1, hz2⟩
    have HXA : Hid (Px w w.heap.size a0a a0b a0c a0d a0e a0f a0p wa) := (H0.out.next _ _ hb1).next _ _ hbz
    have HRA : Hid (Df.Rw wa (.slice none 0 0) 0 R) := hr1.below hbz (Nat.le_refl _)
    have HTA : Hid (Df.Ts wa (.slice none 0 0) 0 T) := ht1.below hbz (Nat.le_refl _)
    clear hmk hr1 ht1 hb1 hbz hz0 hz1 hz2 H0
    go_upto_region 2 with fail
    rw [HWA.out, HGB.out]
    clear HWA HGB
    have hri := right_any a0a a0b a0c a0d a0e a0f a0p wa HXA.out.pn
    rw [HCK.out] at hri
    have y0 := HXA.out.c0
    have y1 := HXA.out.c1
    have y2 := HXA.out.c2
    have y3 := HXA.out.c3
    have y4 := HXA.out.c4
    have y5 := HXA.out.c5
    go_wp2_with fail
    clear y0 y1 y2 y3 y4 y5
    refine hri.mono ?_
    rintro _ w2 ⟨rfl, hb2⟩
    have HX2 : Hid (Px w w.heap.size a0a a0b a0c a0d a0e a0f a0p w2) := HXA.out.next _ _ hb2
    have HA2 : Hid (w2.cell? ⟨gb, 0, none⟩ = some (.slice none 0 0) ∧ w2.cell? ⟨gb, 1, none⟩ = some (.slice none 0 0) ∧ gb < w2.heap.size) := ⟨(hb2.cell HA.out.2.2).trans HA.out.1, (hb2.cell HA.out.2.2).trans HA.out.2.1, Nat.lt_of_lt_of_le HA.out.2.2 hb2.size⟩
    have HR2 : Hid (Df.Rw w2 (.slice none 0 0) 0 R) := HRA.out.below hb2 (Nat.le_refl _)
    have HT2 : Hid (Df.Ts w2 (.slice none 0 0) 0 T) := HTA.out.below hb2 (Nat.le_refl _)
    clear hri hb2 HXA HA HRA HTA
    have y2 := HA2.out.1
    have y3 := HA2.out.2.1
    have hsm := Df.sameDfa_any (.slice none 0 0) (.slice none 0 0) (.slice none 0 0) (.slice none 0 0) 0 0 0 0 R R T T w2 HR2.out HT2.out HR2.out HT2.out
    rw [Df.eqR_refl 0 R R (fun _ _ _ _ => rfl), Df.eqT_refl 0 T T (fun _ _ => rfl)] at hsm
    have HB4 : Hid (Below w.heap.size w w2) := HX2.out.below
    clear HR2 HT2 HA2 HX2
    go_wp2_with fail
    clear y2 y3
    refine hsm.mono ?_
    rintro _ w5 ⟨rfl, hb5⟩
    have HB5 : Hid (Below w.heap.size w w5) := HB4.out.trans (hb5.mono HB4.out.size)
    clear hsm hb5
    go_wp2_with fail
    go_ret
    exact ⟨by simp, HB5.out⟩

/-! ### What the walk gives, for every argument -/
set_option maxRecDepth 100000 in
theorem contract (H : Type) (enc : TypeId × Value → H) (W : World) (base : Nat) (args : Array Value) (ds gs : List (DataW H)) (before : List MemPlace)
    (hval : ∀ (j : Nat) t v, Try.f3.params[j]? = some t → args[j]? = some v → Value.okWide Try.prog W .any base t v)
    (hW : DataW.Whole enc Try.prog Try.f3.params.toList Rows.dfaMakesSpec.vars false W args.toList ds gs before) (hsz : (DataW.weightsEach Try.prog (Try.f3.params.toList ++ Rows.dfaMakesSpec.plain.varTypes Try.prog) (ds ++ gs)).all (· ≤ reachBytes) = true) :
    Calls Try.prog 3 args W fun e W' => ∃ v, e = .returned v ∧ Rows.dfaMakesSpec.post enc Try.prog Try.f3 false true false false W args v W' := by
  have hW' := hW
  obtain ⟨p, q, hA0, hV, rfl, hfz, hnd⟩ := hW
  have hA : DataW.TrodAll enc Try.prog W 0 (fun _ => true) true Try.f3.params.toList args.toList ds p := hA0
  rw [Try.params3] at hA hval hsz
  obtain ⟨v0, vs0, d0, ds0, p0, q0, hargs, rfl, rfl, h0, r0⟩ := trodAll_cons hA
  obtain ⟨rfl, rfl, rfl⟩ := trodAll_nil r0
  obtain rfl : args = #[v0] := by cases args; simp_all
  obtain ⟨rfl, rfl⟩ := trodVars_none hV
  have k0 := h0
  have lt0 : ∀ x ∈ p0, x.block < W.heap.size := by obtain ⟨m, hm⟩ := k0; exact DataW.trod_lt m _ _ _ hm
  obtain ⟨a0a, a0b, a0c, a0d, a0e, a0f, a0p, rfl, w0s⟩ := open_posn (hval 0 27 v0 rfl rfl) h0
  clear hA0
  refine (walk a0a a0b a0c a0d a0e a0f a0p W w0s).mono fun e W' ⟨he, bel⟩ => ?_
  subst he
  exact ⟨_, rfl, _, _, _, [], _, [], hW', trodAll_mk1 (shut_bool Try.underlying4 _), (trodAll_cons_mk (Below.trod laidOut (by kernel_rfl) (of_decide_eq_true (by kernel_rfl)) k0 bel lt0) trodAll_mk0), rfl, bel.frame _, fun h => by cases h⟩

/-! ### The row's step -/
set_option maxRecDepth 100000 in
theorem lifted (os : Os) (started : os.Started) (H : Type) (enc : TypeId × Value → H) :
    ReturnsInHanded {} Try.checked os 3 .any (Rows.dfaMakesSpec.pre6 enc Try.prog Try.f3 Rows.dfaMakesRow.domain false) (Rows.dfaMakesSpec.post enc Try.prog Try.f3 false true false false) := by
  refine returnsInHanded_of_change_sized (C := Try.checked) own started (by kernel_rfl) Try.func3
    (ChangeSpec.witness6 (enc := enc) (C := Try.checked) false ⟨#[], #[.agg #[.slice none 0 0, .slice none 0 0, .slice none 0 0, .slice none 0 0, .slice none 0 0, .slice none 0 0]], []⟩ 8 (by kernel_rfl) (by kernel_rfl) (by kernel_rfl) (by kernel_rfl)) ?_
  intro W base args ds gs before hval hW hcnd hsz _
  exact contract H enc W base args ds gs before hval hW hsz

theorem over : Rows.dfaMakesRow.holds Try.pinned (OpenSpec.ofChange Rows.dfaMakesSpec) :=
  OpenClaim.holds_of_wide 3 Try.f3 rfl rfl rfl rfl rfl rfl rfl ⟨rfl, rfl, rfl, rfl, rfl⟩ rfl rfl rfl rfl rfl (by kernel_rfl) Try.func3 (by kernel_rfl)
    (of_decide_eq_true (by kernel_rfl)) (by unfold Func.isWrapper; first | (rw [if_pos (by decide +kernel)]; kernel_rfl) | (rw [if_neg (by decide +kernel)]; exact ⟨rfl, rfl⟩))
    (fun os started H enc _ => lifted os started H enc)

end Go.Proofs.Ytlmlkpdppkgenaa.dfaMakes
namespace Go.Proofs.Ytlmlkpdppkgenaa
/-- The given statement. -/
theorem dfaMakes_holds : Rows.DfaMakesSaid := dfaMakes.over
#print axioms dfaMakes_holds
end Go.Proofs.Ytlmlkpdppkgenaa
