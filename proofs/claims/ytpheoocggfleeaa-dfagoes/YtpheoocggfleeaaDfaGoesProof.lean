/-
  DfaGoes returns true whatever automaton and texts are handed in, and changes nothing that it was handed; no condition.
-/
import Derived.Test.YtpheoocggfleeaaRows
import Derived.WalkKit
import Derived.ProofKit
import Derived.OpenShut
import Derived.ShutString
import Derived.SizedLaws
import Derived.ChangeOld
import Derived.Below
import Derived.Carry
import Derived.WalkLawsBesides
import Derived.WalkSpells
import Derived.Test.YtpheoocggfleeaaOpens
import Derived.Test.YtpheoocggfleeaaKeeps
namespace Go.Proofs.Ytpheoocggfleeaa.dfaGoes
open Go.ChangeShapes Go.WideShapes Go.ChangeAt Go.RowKit
open Go.ChangeMaps (open_string shut_string)
open Dfa
set_option linter.unusedVariables false

theorem own : ownKnob Try.prog.godebug = none := by kernel_rfl
theorem laidOut : laidOutB Try.prog = true := by kernel_rfl

/-! ### The walk: the Go text returns true. -/
set_option maxHeartbeats 4000000 in
set_option maxRecDepth 20000 in
theorem walk (a0r : Value) (a0t : Value) (a0n : Nat) (a0m : Nat) (a0R : Nat → Nat → Int) (a0T : Nat → Int) (a1 : ByteArray) (a2 : ByteArray) (w : World) (w0s : Rw w a0r a0n a0R) (w0u : Ts w a0t a0m a0T) (w1 : a1.size ≤ 140737488351232) (w2 : a2.size ≤ 140737488351232) :
    Calls Try.prog 4 #[.agg #[a0r, a0t], .string a1, .string a2] w fun e w' => e = .returned (.bool true) ∧ Below w.heap.size w w' := by
  have H0 : Hid (Sx w w.heap.size a0r a0t a0n a0m a0R a0T (w.alloc (Obj.cells #[a0r, a0t] 25))) := Sx.box w0s w0u
  obtain ⟨ao, cap, rfl, hn, hwf, -⟩ := w0s
  obtain ⟨ao', cap', rfl, hm, hwf', -⟩ := w0u
  have HW : Hid (∀ i j, -32768 ≤ a0R i j ∧ a0R i j ≤ 32767) := hwf
  clear hwf hwf'
  have hs1 : a1.size ≤ 9223372036854775807 := by omega
  obtain ⟨c, HC⟩ : ∃ c, Hid (chk a0n a0m a0R a0T = c) := ⟨_, (rfl : chk a0n a0m a0R a0T = chk a0n a0m a0R a0T)⟩
  have hs2 : a2.size ≤ 9223372036854775807 := by omega
  have hs3 : (a1 ++ a2).size ≤ 9223372036854775807 := by rw [ByteArray.size_append]; omega
  have hs4 : (a1.size : Int) + (a2.size : Int) ≤ 9223372036854775807 := by omega
  go_enter Try.func4, Try.ntmps4
  go_wp2_with fail
  have hc := Run_any _ _ a0n a0m a0R a0T a1 _ H0.out.rows H0.out.tags hs1
  rw [HC.out] at hc
  refine hc.mono ?_
  rintro _ w1 ⟨rfl, hb⟩
  have H1 : Hid (Sx w w.heap.size (.slice ao a0n cap) (.slice ao' a0m cap') a0n a0m a0R a0T w1) := H0.out.next _ _ hb
  have y0 := H1.out.c0
  have y1 := H1.out.c1
  clear hb hc H0
  go_wp2_with fail
  try clear y0 y1
  have hc := Run_any _ _ a0n a0m a0R a0T (a1 ++ a2) _ H1.out.rows H1.out.tags hs3
  rw [HC.out] at hc
  refine hc.mono ?_
  rintro _ w2 ⟨rfl, hb⟩
  have H2 : Hid (Sx w w.heap.size (.slice ao a0n cap) (.slice ao' a0m cap') a0n a0m a0R a0T w2) := H1.out.next _ _ hb
  clear hb hc H1
  have hcc : (c == c) = true := by simp
  have y0 := H2.out.c0
  have y1 := H2.out.c1
  by_cases h0 : c = 0
  · subst h0
    rw [runAns_ok HC.out, runAns_ok HC.out]
    obtain ⟨g0, -, -, g1, -⟩ := chk_zero HC.out
    have G1 : Hid (rowsOk a0n a0R = true) := g1
    have HA : Hid (goes a0R 0 (a1 ++ a2).data.toList = goes a0R (goes a0R 0 a1.data.toList) a2.data.toList) := by
      show _ = _
      rw [← goes_append]; congr 1
    rw [HA.out]
    have hat : At a0n (goes a0R 0 a1.data.toList) := at_goes g1 _ ⟨by omega, by omega⟩
    obtain ⟨q0, HQ⟩ : ∃ q, Hid (goes a0R 0 a1.data.toList = q) := ⟨_, (rfl : goes a0R 0 a1.data.toList = goes a0R 0 a1.data.toList)⟩
    rw [HQ.out] at hat ⊢
    obtain ⟨m0, HM⟩ : ∃ m, Hid (goes a0R q0 a2.data.toList = m) := ⟨_, (rfl : goes a0R q0 a2.data.toList = goes a0R q0 a2.data.toList)⟩
    rw [HM.out]
    have HAT : Hid (At a0n q0) := hat
    obtain ⟨ao1, cap1, hv, -, -, hcs⟩ := H2.out.rows
    simp only [Value.slice.injEq] at hv
    obtain ⟨rfl, -, rfl⟩ := hv
    obtain ⟨b, o, rfl, hb, hcl⟩ := hcs.resolve_left (by omega)
    have HCL : Hid (∀ i, i < a0n → ∀ j, j < 256 → w2.cell? ⟨b, o + i * 256 + j, none⟩ = some (.int .i16 (a0R i j))) := hcl
    clear g1 hat hcs hcl
    go_wp2_with fail
    go_loopw [11, 7] (fun i z wr => ∃ (k : Nat) (q : Int), k ≤ a2.size ∧ i = .int .i64 (k : Int) ∧ z = .int .i64 q ∧ At a0n q ∧ Hid (goes a0R q0 (a2.data.toList.take k) = q) ∧ wr.cell? ⟨w.heap.size, 0, none⟩ = some (.slice (some ⟨b, o, none⟩) a0n cap) ∧ Below w2.heap.size w2 wr) (fun i _ _ => a2.size - (intOf i).toNat)
    case atStart => exact ⟨0, q0, by omega, rfl, rfl, HAT.out, rfl, y0, Below.refl _ _⟩
    case round =>
      obtain ⟨k, q, hk, rfl, rfl, ⟨hq1, hq2⟩, HG, hcell, hbel⟩ := hrel
      clear y0 y1
      by_cases hlt : k < a2.size
      · have hk1 : (k : Int) < (a2.size : Int) := by omega
        by_cases hq : q = -1
        · have e : goes a0R q0 a2.data.toList = -1 := by
            rw [← List.take_append_drop k a2.data.toList, goes_append, HG.out, hq, goes_neg _ _ (by omega)]
          obtain rfl : m0 = -1 := by rw [← HM.out, e]
          subst hq
          clear e
          go_wp2_with fail
          go_ret
          exact ⟨rfl, H2.out.below.trans (hbel.mono H2.out.below.size)⟩
        · obtain ⟨p, rfl⟩ : ∃ p : Nat, q = (p : Int) := ⟨q.toNat, by omega⟩
          have hp : p < a0n := by omega
          have hp1 : (p : Int) < (a0n : Int) := by omega
          have hbr := byte_run a2 k hlt
          obtain ⟨x, HX⟩ : ∃ x, Hid (a2[k] = x) := ⟨_, (rfl : a2[k] = a2[k])⟩
          rw [HX.out] at hbr
          have hx : x.toNat < 256 := x.toNat_lt
          have hx1 : (x.toNat : Int) < 256 := by omega
          have c0 : wr.cell? ⟨b, o + p * 256 + x.toNat, none⟩ = some (.int .i16 (a0R p x.toNat)) := (hbel.cell (p := ⟨b, o + p * 256 + x.toNat, none⟩) hb).trans (HCL.out p hp x.toNat hx)
          have hz := HW.out p x.toNat
          have HS : Hid (goes a0R q0 (a2.data.toList.take (k + 1)) = a0R p x.toNat) := by
            show _ = _
            rw [take_snoc a2 k hlt, goes_snoc, HG.out, HX.out]
            unfold Dfa.step
            rw [if_neg (by omega)]
            rfl
          have hat : At a0n (a0R p x.toNat) := by rw [← HS.out]; exact at_goes G1.out _ HAT.out
          obtain ⟨z, HZ⟩ : ∃ z, Hid (a0R p x.toNat = z) := ⟨_, (rfl : a0R p x.toNat = a0R p x.toNat)⟩
          rw [HZ.out] at c0 hz hat
          have hwr := wrap_small hz
          go_wp2_with (go_quiet (fail))
          go_roundw
          case rel => exact ⟨k + 1, z, by omega, by go_num, rfl, hat, by show _ = _; rw [HS.out, HZ.out], by simpa using hcell, below_drewN hbel nq⟩
          case measure => simp [intOf]; omega
      · obtain rfl : m0 = q := by rw [← HM.out, ← HG.out, take_all a2 k (by omega)]
        go_wp2_with fail
        go_ret
        exact ⟨by simp, H2.out.below.trans (hbel.mono H2.out.below.size)⟩
  · have hb0 : (c != 0) = true := by simp; exact h0
    rw [runAns_bad (by rw [HC.out]; exact h0), runAns_bad (by rw [HC.out]; exact h0)]
    go_wp2_with fail
    have hc := check_any _ _ a0n a0m a0R a0T _ H2.out.rows H2.out.tags
    rw [HC.out] at hc
    refine hc.mono ?_
    rintro _ w3 ⟨rfl, hb⟩
    go_wp2_with fail
    go_ret
    exact ⟨by simp, H2.out.below.trans (hb.mono H2.out.below.size)⟩

/-! ### What the walk gives, for every argument -/
set_option maxRecDepth 100000 in
theorem contract (H : Type) (enc : TypeId × Value → H) (W : World) (base : Nat) (args : Array Value) (ds gs : List (DataW H)) (before : List MemPlace)
    (hval : ∀ (j : Nat) t v, Try.f4.params[j]? = some t → args[j]? = some v → Value.okWide Try.prog W .any base t v)
    (hW : DataW.Whole enc Try.prog Try.f4.params.toList Rows.dfaGoesSpec.vars false W args.toList ds gs before) (hsz : (DataW.weightsEach Try.prog (Try.f4.params.toList ++ Rows.dfaGoesSpec.plain.varTypes Try.prog) (ds ++ gs)).all (· ≤ reachBytes) = true) :
    Calls Try.prog 4 args W fun e W' => ∃ v, e = .returned v ∧ Rows.dfaGoesSpec.post enc Try.prog Try.f4 false true false false W args v W' := by
  have hW' := hW
  obtain ⟨p, q, hA0, hV, rfl, hfz, hnd⟩ := hW
  have hA : DataW.TrodAll enc Try.prog W 0 (fun _ => true) true Try.f4.params.toList args.toList ds p := hA0
  rw [Try.params4] at hA hval hsz
  obtain ⟨v0, vs0, d0, ds0, p0, q0, hargs, rfl, rfl, h0, r0⟩ := trodAll_cons hA
  obtain ⟨v1, vs1, d1, ds1, p1, q1, rfl, rfl, rfl, h1, r1⟩ := trodAll_cons r0
  obtain ⟨v2, vs2, d2, ds2, p2, q2, rfl, rfl, rfl, h2, r2⟩ := trodAll_cons r1
  obtain ⟨rfl, rfl, rfl⟩ := trodAll_nil r2
  obtain rfl : args = #[v0, v1, v2] := by cases args; simp_all
  obtain ⟨rfl, rfl⟩ := trodVars_none hV
  have k0 := h0
  have lt0 : ∀ x ∈ p0, x.block < W.heap.size := by obtain ⟨m, hm⟩ := k0; exact DataW.trod_lt m _ _ _ hm
  obtain ⟨a0r, a0t, a0n, a0m, a0R, a0T, rfl, w0s, w0u⟩ := open_dfa (hval 0 25 v0 rfl rfl) h0
  obtain ⟨a1, rfl, rfl, rfl, w1⟩ := open_string Try.underlying9 (hval 1 9 v1 rfl rfl) h1
  obtain ⟨a2, rfl, rfl, rfl, w2⟩ := open_string Try.underlying9 (hval 2 9 v2 rfl rfl) h2
  have r1z : a1.size ≤ 140737488351232 := by have := sized_string hsz (j := 1) (t := 9) rfl rfl; simpa [reachBytes] using this
  have r2z : a2.size ≤ 140737488351232 := by have := sized_string hsz (j := 2) (t := 9) rfl rfl; simpa [reachBytes] using this
  clear hA0
  refine (walk a0r a0t a0n a0m a0R a0T a1 a2 W w0s w0u r1z r2z).mono fun e W' ⟨he, bel⟩ => ?_
  subst he
  exact ⟨_, rfl, _, _, _, [], _, [], hW', trodAll_mk1 (shut_bool Try.underlying4 _), (trodAll_cons_mk (Below.trod laidOut (by kernel_rfl) (of_decide_eq_true (by kernel_rfl)) k0 bel lt0) (trodAll_cons_mk (shut_string Try.underlying9 w1) (trodAll_cons_mk (shut_string Try.underlying9 w2) trodAll_mk0))), rfl, bel.frame _, fun h => by cases h⟩

/-! ### The row's step -/
set_option maxRecDepth 100000 in
theorem lifted (os : Os) (started : os.Started) (H : Type) (enc : TypeId × Value → H) :
    ReturnsInHanded {} Try.checked os 4 .any (Rows.dfaGoesSpec.pre6 enc Try.prog Try.f4 Rows.dfaGoesRow.domain false) (Rows.dfaGoesSpec.post enc Try.prog Try.f4 false true false false) := by
  refine returnsInHanded_of_change_sized (C := Try.checked) own started (by kernel_rfl) Try.func4
    (ChangeSpec.witness6 (enc := enc) (C := Try.checked) false ⟨#[], #[.agg #[.slice none 0 0, .slice none 0 0], .string .empty, .string .empty], []⟩ 8 (by kernel_rfl) (by kernel_rfl) (by kernel_rfl) (by kernel_rfl)) ?_
  intro W base args ds gs before hval hW hcnd hsz _
  exact contract H enc W base args ds gs before hval hW hsz

theorem over : Rows.dfaGoesRow.holds Try.pinned (OpenSpec.ofChange Rows.dfaGoesSpec) :=
  OpenClaim.holds_of_wide 4 Try.f4 rfl rfl rfl rfl rfl rfl rfl ⟨rfl, rfl, rfl, rfl, rfl⟩ rfl rfl rfl rfl rfl (by kernel_rfl) Try.func4 (by kernel_rfl)
    (of_decide_eq_true (by kernel_rfl)) (by unfold Func.isWrapper; first | (rw [if_pos (by decide +kernel)]; kernel_rfl) | (rw [if_neg (by decide +kernel)]; exact ⟨rfl, rfl⟩))
    (fun os started H enc _ => lifted os started H enc)

end Go.Proofs.Ytpheoocggfleeaa.dfaGoes
namespace Go.Proofs.Ytpheoocggfleeaa
/-- The given statement. -/
theorem dfaGoes_holds : Rows.DfaGoesSaid := dfaGoes.over
#print axioms dfaGoes_holds
end Go.Proofs.Ytpheoocggfleeaa
