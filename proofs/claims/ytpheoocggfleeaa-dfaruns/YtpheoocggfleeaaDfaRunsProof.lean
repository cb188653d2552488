/-
  DfaRuns returns true whatever automaton and text are handed in, and changes nothing that it was handed; no condition.
-/
import Derived.Test.YtpheoocggfleeaaRows
import Derived.WalkKit
import Derived.ProofKit
import Derived.OpenShut
import Derived.ShutString
import Derived.SizedLaws
import Derived.ChangeOld
import Derived.Below
import Derived.Carry
import Derived.WalkLawsBesides
import Derived.WalkSpells
import Derived.Test.YtpheoocggfleeaaOpens
import Derived.Test.YtpheoocggfleeaaKeeps
namespace Go.Proofs.Ytpheoocggfleeaa.dfaRuns
open Go.ChangeShapes Go.WideShapes Go.ChangeAt Go.RowKit
open Go.ChangeMaps (open_string shut_string)
open Dfa
set_option linter.unusedVariables false

theorem own : ownKnob Try.prog.godebug = none := by kernel_rfl
theorem laidOut : laidOutB Try.prog = true := by kernel_rfl

/-! ### The walk: the Go text returns true. -/
set_option maxHeartbeats 4000000 in
set_option maxRecDepth 20000 in
theorem walk (a0r : Value) (a0t : Value) (a0n : Nat) (a0m : Nat) (a0R : Nat → Nat → Int) (a0T : Nat → Int) (a1 : ByteArray) (w : World) (w0s : Rw w a0r a0n a0R) (w0u : Ts w a0t a0m a0T) (w1 : a1.size ≤ 140737488351232) :
    Calls Try.prog 3 #[.agg #[a0r, a0t], .string a1] w fun e w' => e = .returned (.bool true) ∧ Below w.heap.size w w' := by
  have H0 : Hid (Sx w w.heap.size a0r a0t a0n a0m a0R a0T (w.alloc (Obj.cells #[a0r, a0t] 25))) := Sx.box w0s w0u
  obtain ⟨ao, cap, rfl, hn, hwf, -⟩ := w0s
  obtain ⟨ao', cap', rfl, hm, hwf', -⟩ := w0u
  clear hwf hwf'
  have hs1 : a1.size ≤ 9223372036854775807 := by omega
  obtain ⟨c, HC⟩ : ∃ c, Hid (chk a0n a0m a0R a0T = c) := ⟨_, (rfl : chk a0n a0m a0R a0T = chk a0n a0m a0R a0T)⟩
  go_enter Try.func3, Try.ntmps3
  go_wp2_with fail
  have hc := right_any _ _ a0n a0m a0R a0T _ H0.out.rows H0.out.tags
  rw [HC.out] at hc
  refine hc.mono ?_
  rintro _ w1 ⟨rfl, hb⟩
  have H1 : Hid (Sx w w.heap.size (.slice ao a0n cap) (.slice ao' a0m cap') a0n a0m a0R a0T w1) := H0.out.next _ _ hb
  have y0 := H1.out.c0
  have y1 := H1.out.c1
  clear hb hc H0
  go_wp2_with fail
  try clear y0 y1
  have hc := Run_any _ _ a0n a0m a0R a0T a1 _ H1.out.rows H1.out.tags hs1
  rw [HC.out] at hc
  refine hc.mono ?_
  rintro _ w2 ⟨rfl, hb⟩
  have H2 : Hid (Sx w w.heap.size (.slice ao a0n cap) (.slice ao' a0m cap') a0n a0m a0R a0T w2) := H1.out.next _ _ hb
  have y0 := H2.out.c0
  have y1 := H2.out.c1
  clear hb hc H1
  go_wp2_with fail
  try clear y0 y1
  have hc := Tag_any _ _ a0n a0m a0R a0T a1 _ H2.out.rows H2.out.tags hs1
  rw [HC.out] at hc
  refine hc.mono ?_
  rintro _ w3 ⟨rfl, hb⟩
  have H3 : Hid (Sx w w.heap.size (.slice ao a0n cap) (.slice ao' a0m cap') a0n a0m a0R a0T w3) := H2.out.next _ _ hb
  have y0 := H3.out.c0
  have y1 := H3.out.c1
  clear hb hc H2
  go_wp2_with fail
  try clear y0 y1
  have hc := check_any _ _ a0n a0m a0R a0T _ H3.out.rows H3.out.tags
  rw [HC.out] at hc
  refine hc.mono ?_
  rintro _ w4 ⟨rfl, hb⟩
  have H4 : Hid (Sx w w.heap.size (.slice ao a0n cap) (.slice ao' a0m cap') a0n a0m a0R a0T w4) := H3.out.next _ _ hb
  clear hb hc H3
  have hcc : (c != c) = false := by simp
  by_cases h0 : c = 0
  · subst h0
    rw [runAns_ok HC.out, tagAns_ok HC.out]
    obtain ⟨g0, -, g2, g1, -⟩ := chk_zero HC.out
    have G2 : Hid (a0m = a0n) := g2
    have G1 : Hid (rowsOk a0n a0R = true) := g1
    clear g2
    obtain ⟨hq1, hq2⟩ : At a0n (goes a0R 0 a1.data.toList) := at_goes g1 _ ⟨by omega, by omega⟩
    obtain ⟨q, HQ⟩ : ∃ q, Hid (goes a0R 0 a1.data.toList = q) := ⟨_, (rfl : goes a0R 0 a1.data.toList = goes a0R 0 a1.data.toList)⟩
    rw [HQ.out] at hq1 hq2 ⊢
    have hq3 : q < (a0m : Int) := by have := G2.out; omega
    obtain ⟨t, HT⟩ : ∃ t, Hid (tagOf a0T q = t) := ⟨_, (rfl : tagOf a0T q = tagOf a0T q)⟩
    rw [HT.out]
    have HG : Hid (∀ p : Kp (Sx w w.heap.size (.slice ao a0n cap) (.slice ao' a0m cap') a0n a0m a0R a0T), Calls Try.prog 9 #[.agg #[.slice ao a0n cap, .slice ao' a0m cap'], .string a1] p.W fun e w'' => e = .returned (.int .i64 q) ∧ ∃ q : Kp (Sx w w.heap.size (.slice ao a0n cap) (.slice ao' a0m cap') a0n a0m a0R a0T), w'' = q.W) := fun p => by
      have := goes_any (.slice ao a0n cap) (.slice ao' a0m cap') a0n a0R a1 p.W p.h.rows g0 G1.out hs1
      rw [HQ.out] at this
      exact Kp.calls p Sx.next this
    have HH : Hid (∀ p : Kp (Sx w w.heap.size (.slice ao a0n cap) (.slice ao' a0m cap') a0n a0m a0R a0T), Calls Try.prog 10 #[.agg #[.slice ao a0n cap, .slice ao' a0m cap'], .int .i64 q] p.W fun e w'' => e = .returned (.int .i64 t) ∧ ∃ q : Kp (Sx w w.heap.size (.slice ao a0n cap) (.slice ao' a0m cap') a0n a0m a0R a0T), w'' = q.W) := fun p => by
      have := tagOf_any (.slice ao a0n cap) (.slice ao' a0m cap') a0m a0T q p.W p.h.tags hq3
      rw [HT.out] at this
      exact Kp.calls p Sx.next this
    have p0 : ∀ p : Kp (Sx w w.heap.size (.slice ao a0n cap) (.slice ao' a0m cap') a0n a0m a0R a0T), p.W.cell? ⟨w.heap.size, 0, none⟩ = some (.slice ao a0n cap) := fun p => p.h.c0
    have p1 : ∀ p : Kp (Sx w w.heap.size (.slice ao a0n cap) (.slice ao' a0m cap') a0n a0m a0R a0T), p.W.cell? ⟨w.heap.size, 1, none⟩ = some (.slice ao' a0m cap') := fun p => p.h.c1
    have hne : Nonempty (Kp (Sx w w.heap.size (.slice ao a0n cap) (.slice ao' a0m cap') a0n a0m a0R a0T)) := ⟨⟨_, H4.out⟩⟩
    have hqq : (q == q) = true := by simp
    have htt : (t == t) = true := by simp
    clear g1
    go_wp2_with fail
    refine wp_region_kept mixed (by kernel_rfl) H4.out.drew ?_
    repeat (go_big_quiet_step (first
      | (go_at_call 9; with_reducible exact HG.out _)
      | (go_at_call 10; with_reducible exact HH.out _)))
    refine wpQuiet_nil ?_
    intro W2 hw2
    obtain ⟨⟨W2, HS2⟩, rfl⟩ := hw2
    have HBx : Hid (Below w.heap.size w W2) := HS2.below
    clear HS2 hne
    go_wp2_with fail
    go_ret
    exact ⟨rfl, HBx.out⟩
  · have hb0 : (c != 0) = true := by simp; exact h0
    rw [runAns_bad (by rw [HC.out]; exact h0), tagAns_bad (by rw [HC.out]; exact h0)]
    go_wp2_with fail
    go_ret
    exact ⟨rfl, H4.out.below⟩

/-! ### What the walk gives, for every argument -/
set_option maxRecDepth 100000 in
theorem contract (H : Type) (enc : TypeId × Value → H) (W : World) (base : Nat) (args : Array Value) (ds gs : List (DataW H)) (before : List MemPlace)
    (hval : ∀ (j : Nat) t v, Try.f3.params[j]? = some t → args[j]? = some v → Value.okWide Try.prog W .any base t v)
    (hW : DataW.Whole enc Try.prog Try.f3.params.toList Rows.dfaRunsSpec.vars false W args.toList ds gs before) (hsz : (DataW.weightsEach Try.prog (Try.f3.params.toList ++ Rows.dfaRunsSpec.plain.varTypes Try.prog) (ds ++ gs)).all (· ≤ reachBytes) = true) :
    Calls Try.prog 3 args W fun e W' => ∃ v, e = .returned v ∧ Rows.dfaRunsSpec.post enc Try.prog Try.f3 false true false false W args v W' := by
  have hW' := hW
  obtain ⟨p, q, hA0, hV, rfl, hfz, hnd⟩ := hW
  have hA : DataW.TrodAll enc Try.prog W 0 (fun _ => true) true Try.f3.params.toList args.toList ds p := hA0
  rw [Try.params3] at hA hval hsz
  obtain ⟨v0, vs0, d0, ds0, p0, q0, hargs, rfl, rfl, h0, r0⟩ := trodAll_cons hA
  obtain ⟨v1, vs1, d1, ds1, p1, q1, rfl, rfl, rfl, h1, r1⟩ := trodAll_cons r0
  obtain ⟨rfl, rfl, rfl⟩ := trodAll_nil r1
  obtain rfl : args = #[v0, v1] := by cases args; simp_all
  obtain ⟨rfl, rfl⟩ := trodVars_none hV
  have k0 := h0
  have lt0 : ∀ x ∈ p0, x.block < W.heap.size := by obtain ⟨m, hm⟩ := k0; exact DataW.trod_lt m _ _ _ hm
  obtain ⟨a0r, a0t, a0n, a0m, a0R, a0T, rfl, w0s, w0u⟩ := open_dfa (hval 0 25 v0 rfl rfl) h0
  obtain ⟨a1, rfl, rfl, rfl, w1⟩ := open_string Try.underlying9 (hval 1 9 v1 rfl rfl) h1
  have r1z : a1.size ≤ 140737488351232 := by have := sized_string hsz (j := 1) (t := 9) rfl rfl; simpa [reachBytes] using this
  clear hA0
  refine (walk a0r a0t a0n a0m a0R a0T a1 W w0s w0u r1z).mono fun e W' ⟨he, bel⟩ => ?_
  subst he
  exact ⟨_, rfl, _, _, _, [], _, [], hW', trodAll_mk1 (shut_bool Try.underlying4 _), (trodAll_cons_mk (Below.trod laidOut (by kernel_rfl) (of_decide_eq_true (by kernel_rfl)) k0 bel lt0) (trodAll_cons_mk (shut_string Try.underlying9 w1) trodAll_mk0)), rfl, bel.frame _, fun h => by cases h⟩

/-! ### The row's step -/
set_option maxRecDepth 100000 in
theorem lifted (os : Os) (started : os.Started) (H : Type) (enc : TypeId × Value → H) :
    ReturnsInHanded {} Try.checked os 3 .any (Rows.dfaRunsSpec.pre6 enc Try.prog Try.f3 Rows.dfaRunsRow.domain false) (Rows.dfaRunsSpec.post enc Try.prog Try.f3 false true false false) := by
  refine returnsInHanded_of_change_sized (C := Try.checked) own started (by kernel_rfl) Try.func3
    (ChangeSpec.witness6 (enc := enc) (C := Try.checked) false ⟨#[], #[.agg #[.slice none 0 0, .slice none 0 0], .string .empty], []⟩ 8 (by kernel_rfl) (by kernel_rfl) (by kernel_rfl) (by kernel_rfl)) ?_
  intro W base args ds gs before hval hW hcnd hsz _
  exact contract H enc W base args ds gs before hval hW hsz

theorem over : Rows.dfaRunsRow.holds Try.pinned (OpenSpec.ofChange Rows.dfaRunsSpec) :=
  OpenClaim.holds_of_wide 3 Try.f3 rfl rfl rfl rfl rfl rfl rfl ⟨rfl, rfl, rfl, rfl, rfl⟩ rfl rfl rfl rfl rfl (by kernel_rfl) Try.func3 (by kernel_rfl)
    (of_decide_eq_true (by kernel_rfl)) (by unfold Func.isWrapper; first | (rw [if_pos (by decide +kernel)]; kernel_rfl) | (rw [if_neg (by decide +kernel)]; exact ⟨rfl, rfl⟩))
    (fun os started H enc _ => lifted os started H enc)

end Go.Proofs.Ytpheoocggfleeaa.dfaRuns
namespace Go.Proofs.Ytpheoocggfleeaa
/-- The given statement. -/
theorem dfaRuns_holds : Rows.DfaRunsSaid := dfaRuns.over
#print axioms dfaRuns_holds
end Go.Proofs.Ytpheoocggfleeaa
