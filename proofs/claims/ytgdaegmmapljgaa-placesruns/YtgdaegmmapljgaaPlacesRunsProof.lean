/-
  PlacesRuns returns true whatever Posn and text are handed in, and changes nothing that it was handed; no condition.
-/
import Derived.Test.YtgdaegmmapljgaaRows
import Derived.WalkKit
import Derived.ProofKit
import Derived.OpenShut
import Derived.ShutString
import Derived.SizedLaws
import Derived.ChangeOld
import Derived.Below
import Derived.Carry
import Derived.WalkLawsBesides
import Derived.WalkSpells
import Derived.Test.YtgdaegmmapljgaaOpens
import Derived.Test.YtgdaegmmapljgaaPoOpens
import Derived.Test.YtgdaegmmapljgaaPoRight
namespace Go.Proofs.Ytgdaegmmapljgaa.placesRuns
open Go.ChangeShapes Go.WideShapes Go.ChangeAt Go.RowKit
open Go.ChangeMaps (open_string shut_string)
open Cls Po
set_option linter.unusedVariables false

theorem own : ownKnob Try.prog.godebug = none := by kernel_rfl
theorem laidOut : laidOutB Try.prog = true := by kernel_rfl

/-! ### The walk: the Go text returns true. -/
set_option maxHeartbeats 8000000 in
set_option maxRecDepth 20000 in
theorem walk (a0a : Value) (a0b : Value) (a0c : Value) (a0d : Value) (a0e : Value) (a0f : Value) (a0p : Po.P) (a1 : ByteArray) (w : World) (w0s : Pn w a0a a0b a0c a0d a0e a0f a0p) (w1 : a1.size ≤ 140737488351232) :
    Calls Try.prog 4 #[.agg #[a0a, a0b, a0c, a0d, a0e, a0f], .string a1] w fun e w' => e = .returned (.bool true) ∧ Below w.heap.size w w' := by
  have H0 : Hid (Px w w.heap.size a0a a0b a0c a0d a0e a0f a0p (w.alloc (Obj.cells #[a0a, a0b, a0c, a0d, a0e, a0f] 28))) := Px.box w0s
  clear w0s
  obtain ⟨c, HC⟩ : ∃ c, Hid (chk a0p = c) := ⟨_, (rfl : chk a0p = chk a0p)⟩
  have HDS : Hid (a1.data.toList.length = a1.size) := data_size a1
  go_enter Try.func4, Try.ntmps4
  go_wp2_with fail
  have hc := right_any a0a a0b a0c a0d a0e a0f a0p _ H0.out.pn
  rw [HC.out] at hc
  refine hc.mono ?_
  rintro _ w1 ⟨rfl, hb⟩
  have H1 : Hid (Px w w.heap.size a0a a0b a0c a0d a0e a0f a0p w1) := H0.out.next _ _ hb
  clear hb hc H0
  have y0 := H1.out.c0
  have y1 := H1.out.c1
  have y2 := H1.out.c2
  have y3 := H1.out.c3
  have y4 := H1.out.c4
  have y5 := H1.out.c5
  go_wp2_with fail
  clear y0 y1 y2 y3 y4 y5
  have hc := Check_any a0a a0b a0c a0d a0e a0f a0p _ H1.out.pn
  rw [HC.out] at hc
  refine hc.mono ?_
  rintro _ w2 ⟨rfl, hb⟩
  have H2 : Hid (Px w w.heap.size a0a a0b a0c a0d a0e a0f a0p w2) := H1.out.next _ _ hb
  clear hb hc H1
  have hcc : (c != c) = false := by simp
  have y0 := H2.out.c0
  have y1 := H2.out.c1
  have y2 := H2.out.c2
  have y3 := H2.out.c3
  have y4 := H2.out.c4
  have y5 := H2.out.c5
  obtain ⟨d, HD⟩ : ∃ d, Hid (chkBoth a0p a1.data.toList = d) := ⟨_, (rfl : chkBoth a0p a1.data.toList = chkBoth a0p a1.data.toList)⟩
  by_cases h0 : c = 0
  · subst h0
    by_cases hl : 200 < a1.size
    · have hl1 : (200 : Int) < (a1.size : Int) := by omega
      have hl2 : decide ((200 : Int) < (a1.size : Int)) = true := by simp; omega
      obtain rfl : d = 2 := by rw [← HD.out]; unfold chkBoth; rw [if_pos HC.out, HDS.out, if_pos hl]
      have HDN : Hid (¬ (2 : Int) = 0) := by show ¬ _; omega
      go_wp2_with fail
      clear y0 y1 y2 y3 y4 y5
      have hc := Run_any a0a a0b a0c a0d a0e a0f a0p a1 _ H2.out.pn
      rw [HD.out] at hc
      refine hc.mono ?_
      rintro _ w3 ⟨x, rfl, hx, -, hb⟩
      have H3 : Hid (Px w w.heap.size a0a a0b a0c a0d a0e a0f a0p w3) := H2.out.next _ _ hb
      have HX3 : Hid (Ints w3 x (runL a0p a1.data.toList)) := hx
      clear hb hc H2 hx
      have y0 := H3.out.c0
      have y1 := H3.out.c1
      have y2 := H3.out.c2
      have y3 := H3.out.c3
      have y4 := H3.out.c4
      have y5 := H3.out.c5
      go_wp2_with fail
      clear y0 y1 y2 y3 y4 y5
      have hc := Rules_any a0a a0b a0c a0d a0e a0f a0p a1 _ H3.out.pn
      rw [HD.out] at hc
      refine hc.mono ?_
      rintro _ w4 ⟨y, rfl, hy, -, hb⟩
      have H4 : Hid (Px w w.heap.size a0a a0b a0c a0d a0e a0f a0p w4) := H3.out.next _ _ hb
      have HY4 : Hid (Ints w4 y (rulesL a0p a1.data.toList) ∧ Ints w4 x (runL a0p a1.data.toList)) := ⟨hy, HX3.out.below hb⟩
      clear hb hc H3 hy HX3
      rw [runL_bad (by rw [HD.out]; exact HDN.out), rulesL_bad (by rw [HD.out]; exact HDN.out)] at HY4
      obtain ⟨ax, kx, rfl, -, -⟩ := HY4.out.2
      obtain ⟨ay, ky, rfl, -, -⟩ := HY4.out.1
      go_wp2_with fail
      go_ret
      exact ⟨by simp, H4.out.below⟩
    · have hl1 : ¬ (200 : Int) < (a1.size : Int) := by omega
      have hl2 : decide ((200 : Int) < (a1.size : Int)) = false := by simp; omega
      obtain rfl : d = 0 := by rw [← HD.out]; unfold chkBoth; rw [if_pos HC.out, HDS.out, if_neg hl]
      go_wp2_with fail
      clear y0 y1 y2 y3 y4 y5
      have hc := Run_any a0a a0b a0c a0d a0e a0f a0p a1 _ H2.out.pn
      rw [HD.out] at hc
      refine hc.mono ?_
      rintro _ w3 ⟨x, rfl, hx, -, hb⟩
      have H3 : Hid (Px w w.heap.size a0a a0b a0c a0d a0e a0f a0p w3) := H2.out.next _ _ hb
      have HX3 : Hid (Ints w3 x (runL a0p a1.data.toList)) := hx
      clear hb hc H2 hx
      have y0 := H3.out.c0
      have y1 := H3.out.c1
      have y2 := H3.out.c2
      have y3 := H3.out.c3
      have y4 := H3.out.c4
      have y5 := H3.out.c5
      go_wp2_with fail
      clear y0 y1 y2 y3 y4 y5
      have hc := Rules_any a0a a0b a0c a0d a0e a0f a0p a1 _ H3.out.pn
      rw [HD.out] at hc
      refine hc.mono ?_
      rintro _ w4 ⟨y, rfl, hy, -, hb⟩
      have H4 : Hid (Px w w.heap.size a0a a0b a0c a0d a0e a0f a0p w4) := H3.out.next _ _ hb
      have HY4 : Hid (Ints w4 y (rulesL a0p a1.data.toList) ∧ Ints w4 x (runL a0p a1.data.toList)) := ⟨hy, HX3.out.below hb⟩
      clear hb hc H3 hy HX3
      rw [runL_ok HD.out, rulesL_ok HD.out] at HY4
      obtain ⟨g1, g2⟩ := chk_zero HC.out
      have G : Hid (ok a0p = true) := g1
      clear g1
      have y0 := H4.out.c0
      have y1 := H4.out.c1
      have y2 := H4.out.c2
      have y3 := H4.out.c3
      have y4 := H4.out.c4
      have y5 := H4.out.c5
      have H40 : Hid (Below w.heap.size w w4) := H4.out.below
      by_cases hf : 40 < a1.size
      · have hf1 : decide ((40 : Int) < (a1.size : Int)) = true := by simp; omega
        go_wp2_with fail
        go_ret
        exact ⟨by simp, H40.out⟩
      · have hf1 : decide ((40 : Int) < (a1.size : Int)) = false := by simp; omega
        go_wp2_with fail
        refine (at_any a0a a0b a0c a0d a0e a0f a0p a1 w4 H4.out.pn G.out g2 (by omega)).mono ?_
        rintro _ w5 ⟨u, rfl, hu, hb⟩
        have H5 : Hid (Px w w.heap.size a0a a0b a0c a0d a0e a0f a0p w5) := H4.out.next _ _ hb
        have HY5 : Hid (Ints w5 y (doneL a0p a1.data.toList) ∧ Ints w5 x (atL a0p a1.data.toList) ∧ Ints w5 u (atL a0p a1.data.toList)) := ⟨HY4.out.1.below hb, HY4.out.2.below hb, hu⟩
        clear hb hu HY4 H4 H40
        clear y0 y1 y2 y3 y4 y5
        go_wp2_with fail
        have hc := equal_any x u _ _ w5 HY5.out.2.1 HY5.out.2.2
        rw [decide_eq_true rfl] at hc
        refine hc.mono ?_
        rintro _ w6 ⟨rfl, hb⟩
        have H6 : Hid (Px w w.heap.size a0a a0b a0c a0d a0e a0f a0p w6) := H5.out.next _ _ hb
        have HY6 : Hid (Ints w6 y (doneL a0p a1.data.toList)) := HY5.out.1.below hb
        clear hb hc HY5 H5
        have y0 := H6.out.c0
        have y1 := H6.out.c1
        have y2 := H6.out.c2
        have y3 := H6.out.c3
        have y4 := H6.out.c4
        have y5 := H6.out.c5
        go_wp2_with fail
        clear y0 y1 y2 y3 y4 y5
        refine (done_any a0a a0b a0c a0d a0e a0f a0p a1 w6 H6.out.pn G.out g2 (by omega)).mono ?_
        rintro _ w7 ⟨u2, rfl, hu, hb⟩
        have H7 : Hid (Px w w.heap.size a0a a0b a0c a0d a0e a0f a0p w7) := H6.out.next _ _ hb
        have HY7 : Hid (Ints w7 y (doneL a0p a1.data.toList) ∧ Ints w7 u2 (doneL a0p a1.data.toList)) := ⟨HY6.out.below hb, hu⟩
        clear hb hu HY6 H6
        go_wp2_with fail
        have hc := equal_any y u2 _ _ w7 HY7.out.1 HY7.out.2
        rw [decide_eq_true rfl] at hc
        refine hc.mono ?_
        rintro _ w8 ⟨rfl, hb⟩
        have H8 : Hid (Below w.heap.size w w8) := (H7.out.next _ _ hb).below
        clear hb hc HY7 H7
        go_wp2_with fail
        go_ret
        exact ⟨by simp, H8.out⟩
  · have hb0 : (c == 0) = false := by simp; exact h0
    obtain rfl : d = c := by rw [← HD.out]; unfold chkBoth; rw [if_neg (by rw [HC.out]; exact h0), HC.out]
    have HDN : Hid (¬ d = 0) := h0
    clear h0
    go_wp2_with fail
    clear y0 y1 y2 y3 y4 y5
    have hc := Run_any a0a a0b a0c a0d a0e a0f a0p a1 _ H2.out.pn
    rw [HD.out] at hc
    refine hc.mono ?_
    rintro _ w3 ⟨x, rfl, hx, -, hb⟩
    have H3 : Hid (Px w w.heap.size a0a a0b a0c a0d a0e a0f a0p w3) := H2.out.next _ _ hb
    have HX3 : Hid (Ints w3 x (runL a0p a1.data.toList)) := hx
    clear hb hc H2 hx
    have y0 := H3.out.c0
    have y1 := H3.out.c1
    have y2 := H3.out.c2
    have y3 := H3.out.c3
    have y4 := H3.out.c4
    have y5 := H3.out.c5
    go_wp2_with fail
    clear y0 y1 y2 y3 y4 y5
    have hc := Rules_any a0a a0b a0c a0d a0e a0f a0p a1 _ H3.out.pn
    rw [HD.out] at hc
    refine hc.mono ?_
    rintro _ w4 ⟨y, rfl, hy, -, hb⟩
    have H4 : Hid (Px w w.heap.size a0a a0b a0c a0d a0e a0f a0p w4) := H3.out.next _ _ hb
    have HY4 : Hid (Ints w4 y (rulesL a0p a1.data.toList) ∧ Ints w4 x (runL a0p a1.data.toList)) := ⟨hy, HX3.out.below hb⟩
    clear hb hc H3 hy HX3
    rw [runL_bad (by rw [HD.out]; exact HDN.out), rulesL_bad (by rw [HD.out]; exact HDN.out)] at HY4
    obtain ⟨ax, kx, rfl, -, -⟩ := HY4.out.2
    obtain ⟨ay, ky, rfl, -, -⟩ := HY4.out.1
    have hdn : (d != 0) = true := by simp; exact HDN.out
    have hdd : (d == d) = true := by simp
    go_wp2_with fail
    go_ret
    exact ⟨by simp, H4.out.below⟩

/-! ### What the walk gives, for every argument -/
set_option maxRecDepth 100000 in
theorem contract (H : Type) (enc : TypeId × Value → H) (W : World) (base : Nat) (args : Array Value) (ds gs : List (DataW H)) (before : List MemPlace)
    (hval : ∀ (j : Nat) t v, Try.f4.params[j]? = some t → args[j]? = some v → Value.okWide Try.prog W .any base t v)
    (hW : DataW.Whole enc Try.prog Try.f4.params.toList Rows.placesRunsSpec.vars false W args.toList ds gs before) (hsz : (DataW.weightsEach Try.prog (Try.f4.params.toList ++ Rows.placesRunsSpec.plain.varTypes Try.prog) (ds ++ gs)).all (· ≤ reachBytes) = true) :
    Calls Try.prog 4 args W fun e W' => ∃ v, e = .returned v ∧ Rows.placesRunsSpec.post enc Try.prog Try.f4 false true false false W args v W' := by
  have hW' := hW
  obtain ⟨p, q, hA0, hV, rfl, hfz, hnd⟩ := hW
  have hA : DataW.TrodAll enc Try.prog W 0 (fun _ => true) true Try.f4.params.toList args.toList ds p := hA0
  rw [Try.params4] at hA hval hsz
  obtain ⟨v0, vs0, d0, ds0, p0, q0, hargs, rfl, rfl, h0, r0⟩ := trodAll_cons hA
  obtain ⟨v1, vs1, d1, ds1, p1, q1, rfl, rfl, rfl, h1, r1⟩ := trodAll_cons r0
  obtain ⟨rfl, rfl, rfl⟩ := trodAll_nil r1
  obtain rfl : args = #[v0, v1] := by cases args; simp_all
  obtain ⟨rfl, rfl⟩ := trodVars_none hV
  have k0 := h0
  have lt0 : ∀ x ∈ p0, x.block < W.heap.size := by obtain ⟨m, hm⟩ := k0; exact DataW.trod_lt m _ _ _ hm
  obtain ⟨a0a, a0b, a0c, a0d, a0e, a0f, a0p, rfl, w0s⟩ := open_posn (hval 0 28 v0 rfl rfl) h0
  obtain ⟨a1, rfl, rfl, rfl, w1⟩ := open_string Try.underlying9 (hval 1 9 v1 rfl rfl) h1
  have r1z : a1.size ≤ 140737488351232 := by have := sized_string hsz (j := 1) (t := 9) rfl rfl; simpa [reachBytes] using this
  clear hA0
  refine (walk a0a a0b a0c a0d a0e a0f a0p a1 W w0s r1z).mono fun e W' ⟨he, bel⟩ => ?_
  subst he
  exact ⟨_, rfl, _, _, _, [], _, [], hW', trodAll_mk1 (shut_bool Try.underlying4 _), (trodAll_cons_mk (Below.trod laidOut (by kernel_rfl) (of_decide_eq_true (by kernel_rfl)) k0 bel lt0) (trodAll_cons_mk (shut_string Try.underlying9 w1) trodAll_mk0)), rfl, bel.frame _, fun h => by cases h⟩

/-! ### The row's step -/
set_option maxRecDepth 100000 in
theorem lifted (os : Os) (started : os.Started) (H : Type) (enc : TypeId × Value → H) :
    ReturnsInHanded {} Try.checked os 4 .any (Rows.placesRunsSpec.pre6 enc Try.prog Try.f4 Rows.placesRunsRow.domain false) (Rows.placesRunsSpec.post enc Try.prog Try.f4 false true false false) := by
  refine returnsInHanded_of_change_sized (C := Try.checked) own started (by kernel_rfl) Try.func4
    (ChangeSpec.witness6 (enc := enc) (C := Try.checked) false ⟨#[], #[.agg #[.slice none 0 0, .slice none 0 0, .slice none 0 0, .slice none 0 0, .slice none 0 0, .slice none 0 0], .string .empty], []⟩ 8 (by kernel_rfl) (by kernel_rfl) (by kernel_rfl) (by kernel_rfl)) ?_
  intro W base args ds gs before hval hW hcnd hsz _
  exact contract H enc W base args ds gs before hval hW hsz

theorem over : Rows.placesRunsRow.holds Try.pinned (OpenSpec.ofChange Rows.placesRunsSpec) :=
  OpenClaim.holds_of_wide 4 Try.f4 rfl rfl rfl rfl rfl rfl rfl ⟨rfl, rfl, rfl, rfl, rfl⟩ rfl rfl rfl rfl rfl (by kernel_rfl) Try.func4 (by kernel_rfl)
    (of_decide_eq_true (by kernel_rfl)) (by unfold Func.isWrapper; first | (rw [if_pos (by decide +kernel)]; kernel_rfl) | (rw [if_neg (by decide +kernel)]; exact ⟨rfl, rfl⟩))
    (fun os started H enc _ => lifted os started H enc)

end Go.Proofs.Ytgdaegmmapljgaa.placesRuns
namespace Go.Proofs.Ytgdaegmmapljgaa
/-- The given statement. -/
theorem placesRuns_holds : Rows.PlacesRunsSaid := placesRuns.over
#print axioms placesRuns_holds
end Go.Proofs.Ytgdaegmmapljgaa
