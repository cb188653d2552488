/-
  SmallApart returns true whatever two automata are handed in, and changes nothing that it was handed; no condition.
-/
import Derived.Test.YtcddomihkamhcaaRows
import Derived.WalkKit
import Derived.ProofKit
import Derived.OpenShut
import Derived.ShutString
import Derived.SizedLaws
import Derived.ChangeOld
import Derived.Below
import Derived.Carry
import Derived.WalkLawsBesides
import Derived.WalkSpells
import Derived.Test.YtcddomihkamhcaaOpens
import Derived.BigQuiet
import Derived.Test.YtcddomihkamhcaaApBox
import Derived.Test.YtcddomihkamhcaaRaApart
namespace Go.Proofs.Ytcddomihkamhcaa.smallApart
open Go.ChangeShapes Go.WideShapes Go.ChangeAt Go.RowKit
open Go.ChangeMaps (open_string shut_string)
open Dfa
set_option linter.unusedVariables false

theorem own : ownKnob Try.prog.godebug = none := by kernel_rfl
theorem laidOut : laidOutB Try.prog = true := by kernel_rfl
theorem told_uniq {RA RB : Nat → Nat → Int} {TA TB : Nat → Int} {l l2 : List UInt8} {is is2 : Bool} (h : Told RA RB TA TB l is) (h2 : Told RA RB TA TB l2 is2) : is = is2 ∧ l = l2 := by
  rcases h with ⟨rfl, h1, h3⟩ | ⟨rfl, rfl, h3⟩
  · rcases h2 with ⟨rfl, k1, k3⟩ | ⟨rfl, rfl, k3⟩
    · have e1 := h3 l2 k1
      have e2 := k3 l h1
      exact ⟨rfl, key_inj _ l l2 (Nat.le_refl _) (by omega)⟩
    · exact absurd h1 (k3 l)
  · rcases h2 with ⟨rfl, k1, k3⟩ | ⟨rfl, rfl, k3⟩
    · exact absurd k1 (h3 l2)
    · exact ⟨rfl, rfl⟩

/-! ### The walk: the Go text returns true. -/
set_option maxHeartbeats 4000000 in
set_option maxRecDepth 20000 in
theorem walk (a0r : Value) (a0t : Value) (a0n : Nat) (a0m : Nat) (a0R : Nat → Nat → Int) (a0T : Nat → Int) (a1r : Value) (a1t : Value) (a1n : Nat) (a1m : Nat) (a1R : Nat → Nat → Int) (a1T : Nat → Int) (w : World) (w0s : Rw w a0r a0n a0R) (w0u : Ts w a0t a0m a0T) (w1s : Rw w a1r a1n a1R) (w1u : Ts w a1t a1m a1T) :
    Calls Try.prog 3 #[.agg #[a0r, a0t], .agg #[a1r, a1t]] w fun e w' => e = .returned (.bool true) ∧ Below w.heap.size w w' := by
  have B0 : Below w.heap.size w ((w.alloc (Obj.cells #[a0r, a0t] 25)).alloc (Obj.cells #[a1r, a1t] 25)) := ((Below.refl _ _).alloc (Nat.le_refl _) _).alloc (by simp) _
  have H0 : Hid (Bx w a0r a0t a1r a1t ((w.alloc (Obj.cells #[a0r, a0t] 25)).alloc (Obj.cells #[a1r, a1t] 25))) := ⟨B0, by simp, by simp, by simp, by simp, by simp⟩
  have HRW : Hid (Rw w a0r a0n a0R ∧ Ts w a0t a0m a0T ∧ Rw w a1r a1n a1R ∧ Ts w a1t a1m a1T) := ⟨w0s, w0u, w1s, w1u⟩
  obtain ⟨ca, HCA⟩ : ∃ c, Hid (chk a0n a0m a0R a0T = c) := ⟨_, (rfl : _ = _)⟩
  obtain ⟨cb, HCB⟩ : ∃ c, Hid (chk a1n a1m a1R a1T = c) := ⟨_, (rfl : _ = _)⟩
  obtain ⟨ra, rc, rfl, -⟩ := w0s
  obtain ⟨sa, sc2, rfl, -⟩ := w1s
  clear w0u w1u
  go_enter Try.func3, Try.ntmps3
  go_wp2_with fail
  have hc := apart_any _ a0t _ a1t a0n a0m a1n a1m a0R a1R a0T a1T _ (HRW.out.1.below B0 (Nat.le_refl _)) (HRW.out.2.1.below B0 (Nat.le_refl _)) (HRW.out.2.2.1.below B0 (Nat.le_refl _)) (HRW.out.2.2.2.below B0 (Nat.le_refl _))
  rw [HCA.out, HCB.out] at hc
  obtain ⟨e1, HE1⟩ : ∃ q, Hid (both ca cb = q) := ⟨_, (rfl : _ = _)⟩
  rw [HE1.out] at hc
  refine hc.mono ?_
  rintro _ w1 ⟨s, is, rfl, ht, hn, -, hb⟩
  have HT1 : Hid ((ca = 0 → cb = 0 → Told a0R a1R a0T a1T s.data.toList is) ∧ (¬ (ca = 0 ∧ cb = 0) → s = ⟨#[]⟩ ∧ is = false)) := ⟨ht, hn⟩
  have H1 : Hid (Bx w (.slice ra a0n rc) a0t (.slice sa a1n sc2) a1t w1) := H0.out.next hb
  clear hb ht hn hc H0 B0
  have c0 := H1.out.c0
  have c1 := H1.out.c1
  have c2 := H1.out.c2
  have c3 := H1.out.c3
  go_wp2_with fail
  have hc := right_any _ a0t a0n a0m a0R a0T w1 (HRW.out.1.below H1.out.below (Nat.le_refl _)) (HRW.out.2.1.below H1.out.below (Nat.le_refl _))
  rw [HCA.out] at hc
  refine hc.mono ?_
  rintro _ w2 ⟨rfl, hb⟩
  have H2 : Hid (Bx w (.slice ra a0n rc) a0t (.slice sa a1n sc2) a1t w2) := H1.out.next hb
  clear hb hc c0 c1 c2 c3 H1
  have c0 := H2.out.c0
  have c1 := H2.out.c1
  have c2 := H2.out.c2
  have c3 := H2.out.c3
  by_cases h0 : ca = 0
  · subst h0
    go_wp2_with fail
    have hc := right_any _ a1t a1n a1m a1R a1T w2 (HRW.out.2.2.1.below H2.out.below (Nat.le_refl _)) (HRW.out.2.2.2.below H2.out.below (Nat.le_refl _))
    rw [HCB.out] at hc
    refine hc.mono ?_
    rintro _ w3 ⟨rfl, hb⟩
    have H3 : Hid (Bx w (.slice ra a0n rc) a0t (.slice sa a1n sc2) a1t w3) := H2.out.next hb
    clear hb hc c0 c1 c2 c3 H2
    have c0 := H3.out.c0
    have c1 := H3.out.c1
    have c2 := H3.out.c2
    have c3 := H3.out.c3
    by_cases h1 : cb = 0
    · subst h1
      obtain rfl : e1 = 0 := by rw [← HE1.out]; rfl
      obtain ⟨-, hn1, hmn, -⟩ := chk_zero HCA.out
      obtain ⟨-, hn2, hmn2, -⟩ := chk_zero HCB.out
      have hmn' := hmn.symm
      have hmn2' := hmn2.symm
      subst hmn'
      subst hmn2'
      obtain ⟨pp, HPP⟩ : ∃ q, Hid (a0n * a1n = q) := ⟨_, (rfl : _ = _)⟩
      have hpp : (a0n : Int) * (a1n : Int) = (pp : Int) := by rw [← HPP.out]; simp
      have hpl : pp ≤ 40000 := by rw [← HPP.out]; exact Nat.mul_le_mul hn1 hn2
      have HTO : Hid (Told a0R a1R a0T a1T s.data.toList is) := HT1.out.1 (by simp) (by simp)
      have HB3 : Hid (Below w.heap.size w w3) := H3.out.below
      clear hmn hmn2 HT1 HE1
      by_cases hbig : 2500 < pp
      · have hbig' : (2500 : Int) < (pp : Int) := by omega
        go_wp2_with fail
        go_ret
        exact ⟨rfl, HB3.out⟩
      · have hbig' : ¬ ((2500 : Int) < (pp : Int)) := by omega
        go_wp2_with fail
        refine (refApart_ok _ a0t _ a1t a0n a1n a0R a1R a0T a1T w3 (HRW.out.1.below H3.out.below (Nat.le_refl _)) (HRW.out.2.1.below H3.out.below (Nat.le_refl _)) (HRW.out.2.2.1.below H3.out.below (Nat.le_refl _)) (HRW.out.2.2.2.below H3.out.below (Nat.le_refl _)) HCA.out HCB.out).mono ?_
        rintro _ w4 ⟨s2, is2, rfl, ht2, hb⟩
        obtain ⟨rfl, hss⟩ := told_uniq HTO.out ht2
        obtain rfl := bytes_ext hss
        have HB4 : Hid (Below w.heap.size w w4) := HB3.out.trans (hb.mono HB3.out.size)
        have hsb : (s.toList == s.toList) = true := by simp
        clear hb hss ht2
        go_wp2_with fail
        go_ret
        exact ⟨by simp, HB4.out⟩
    · have hh := HT1.out.2 (fun h => h1 h.2)
      obtain ⟨rfl, rfl⟩ := hh
      obtain rfl : e1 = cb := by rw [← HE1.out]; rfl
      have hb1 : (e1 != 0) = true := by simp; exact h1
      have hb2 : (e1 == e1) = true := by simp
      have HB3 : Hid (Below w.heap.size w w3) := H3.out.below
      clear h1
      go_wp2_with fail
      go_ret
      exact ⟨rfl, HB3.out⟩
  · have hh := HT1.out.2 (fun h => h0 h.1)
    obtain ⟨rfl, rfl⟩ := hh
    obtain rfl : e1 = ca := by rw [← HE1.out]; unfold both; rw [if_neg h0]
    have hb1 : (e1 != 0) = true := by simp; exact h0
    have hb3 : (e1 == 0) = false := by simp; exact h0
    have hb2 : (e1 == e1) = true := by simp
    have HB2 : Hid (Below w.heap.size w w2) := H2.out.below
    clear h0
    go_wp2_with fail
    go_ret
    exact ⟨rfl, HB2.out⟩

/-! ### What the walk gives, for every argument -/
set_option maxRecDepth 100000 in
theorem contract (H : Type) (enc : TypeId × Value → H) (W : World) (base : Nat) (args : Array Value) (ds gs : List (DataW H)) (before : List MemPlace)
    (hval : ∀ (j : Nat) t v, Try.f3.params[j]? = some t → args[j]? = some v → Value.okWide Try.prog W .any base t v)
    (hW : DataW.Whole enc Try.prog Try.f3.params.toList Rows.smallApartSpec.vars false W args.toList ds gs before) (hsz : (DataW.weightsEach Try.prog (Try.f3.params.toList ++ Rows.smallApartSpec.plain.varTypes Try.prog) (ds ++ gs)).all (· ≤ reachBytes) = true) :
    Calls Try.prog 3 args W fun e W' => ∃ v, e = .returned v ∧ Rows.smallApartSpec.post enc Try.prog Try.f3 false true false false W args v W' := by
  have hW' := hW
  obtain ⟨p, q, hA0, hV, rfl, hfz, hnd⟩ := hW
  have hA : DataW.TrodAll enc Try.prog W 0 (fun _ => true) true Try.f3.params.toList args.toList ds p := hA0
  rw [Try.params3] at hA hval hsz
  obtain ⟨v0, vs0, d0, ds0, p0, q0, hargs, rfl, rfl, h0, r0⟩ := trodAll_cons hA
  obtain ⟨v1, vs1, d1, ds1, p1, q1, rfl, rfl, rfl, h1, r1⟩ := trodAll_cons r0
  obtain ⟨rfl, rfl, rfl⟩ := trodAll_nil r1
  obtain rfl : args = #[v0, v1] := by cases args; simp_all
  obtain ⟨rfl, rfl⟩ := trodVars_none hV
  have k0 := h0
  have lt0 : ∀ x ∈ p0, x.block < W.heap.size := by obtain ⟨m, hm⟩ := k0; exact DataW.trod_lt m _ _ _ hm
  obtain ⟨a0r, a0t, a0n, a0m, a0R, a0T, rfl, w0s, w0u⟩ := open_dfa (hval 0 25 v0 rfl rfl) h0
  have k1 := h1
  have lt1 : ∀ x ∈ p1, x.block < W.heap.size := by obtain ⟨m, hm⟩ := k1; exact DataW.trod_lt m _ _ _ hm
  obtain ⟨a1r, a1t, a1n, a1m, a1R, a1T, rfl, w1s, w1u⟩ := open_dfa (hval 1 25 v1 rfl rfl) h1
  clear hA0
  refine (walk a0r a0t a0n a0m a0R a0T a1r a1t a1n a1m a1R a1T W w0s w0u w1s w1u).mono fun e W' ⟨he, bel⟩ => ?_
  subst he
  exact ⟨_, rfl, _, _, _, [], _, [], hW', trodAll_mk1 (shut_bool Try.underlying4 _), (trodAll_cons_mk (Below.trod laidOut (by kernel_rfl) (of_decide_eq_true (by kernel_rfl)) k0 bel lt0) (trodAll_cons_mk (Below.trod laidOut (by kernel_rfl) (of_decide_eq_true (by kernel_rfl)) k1 bel lt1) trodAll_mk0)), rfl, bel.frame _, fun h => by cases h⟩

/-! ### The row's step -/
set_option maxRecDepth 100000 in
theorem lifted (os : Os) (started : os.Started) (H : Type) (enc : TypeId × Value → H) :
    ReturnsInHanded {} Try.checked os 3 .any (Rows.smallApartSpec.pre6 enc Try.prog Try.f3 Rows.smallApartRow.domain false) (Rows.smallApartSpec.post enc Try.prog Try.f3 false true false false) := by
  refine returnsInHanded_of_change_sized (C := Try.checked) own started (by kernel_rfl) Try.func3
    (ChangeSpec.witness6 (enc := enc) (C := Try.checked) false ⟨#[], #[.agg #[.slice none 0 0, .slice none 0 0], .agg #[.slice none 0 0, .slice none 0 0]], []⟩ 8 (by kernel_rfl) (by kernel_rfl) (by kernel_rfl) (by kernel_rfl)) ?_
  intro W base args ds gs before hval hW hcnd hsz _
  exact contract H enc W base args ds gs before hval hW hsz

theorem over : Rows.smallApartRow.holds Try.pinned (OpenSpec.ofChange Rows.smallApartSpec) :=
  OpenClaim.holds_of_wide 3 Try.f3 rfl rfl rfl rfl rfl rfl rfl ⟨rfl, rfl, rfl, rfl, rfl⟩ rfl rfl rfl rfl rfl (by kernel_rfl) Try.func3 (by kernel_rfl)
    (of_decide_eq_true (by kernel_rfl)) (by unfold Func.isWrapper; first | (rw [if_pos (by decide +kernel)]; kernel_rfl) | (rw [if_neg (by decide +kernel)]; exact ⟨rfl, rfl⟩))
    (fun os started H enc _ => lifted os started H enc)

end Go.Proofs.Ytcddomihkamhcaa.smallApart
namespace Go.Proofs.Ytcddomihkamhcaa
/-- The given statement. -/
theorem smallApart_holds : Rows.SmallApartSaid := smallApart.over
#print axioms smallApart_holds
end Go.Proofs.Ytcddomihkamhcaa
