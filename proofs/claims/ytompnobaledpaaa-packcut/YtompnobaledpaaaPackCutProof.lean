/-
  Whatever number, text and place are handed in, the call of pushkeep.PackCut returns true: a beginning of a number, and of a text, ends too early. Conditions: none.
-/
import Derived.Test.YtompnobaledpaaaRows
import Derived.WalkKit
import Derived.ProofKit
import Derived.OpenShut
import Derived.ShutString
import Derived.Test.YtompnobaledpaaaTextWalks
import Derived.WalkLawsBesides
import Derived.WalkSpells
import Derived.SizedLaws
import Derived.ChangeOld
import Derived.Below
namespace Go.Proofs.Ytompnobaledpaaa.packCut
open Go.ChangeShapes Go.WideShapes Go.ChangeAt Go.RowKit
open Go.ChangeMaps (open_string shut_string)
open Pack
set_option linter.unusedVariables false      -- a walk need not use every 'w<i>' (that an integer argument fits its kind)

theorem own : ownKnob Try.prog.godebug = none := by kernel_rfl

/-! ### The walk: the Go text returns true. -/
theorem front_bytes (l : List UInt8) (k : Nat) : (ByteArray.mk l.toArray).extract 0 k = ByteArray.mk (l.take k).toArray := by
  apply ByteArray.ext
  apply Array.ext'
  simp
theorem tmod_neg_bounds (a b : Int) (ha : a < 0) (hb : 0 < b) : -b < a.tmod b ∧ a.tmod b ≤ 0 := by
  have h1 : a.tmod b = -((-a) % b) := by
    rw [← Int.neg_neg a, Int.neg_tmod, Int.neg_neg, Int.tmod_eq_emod_of_nonneg (by omega)]
  have h2 : (-a) % b < b := Int.emod_lt_of_pos _ hb
  have h3 : 0 ≤ (-a) % b := Int.emod_nonneg _ (by omega)
  omega
/-- pushref.Rest: what is left of a number at a positive one, never below 0. -/
theorem rest_any (a : Int) (b : Int) (ha : -9223372036854775808 ≤ a ∧ a ≤ 9223372036854775807) (hb : 0 < b) (hb2 : b ≤ 1125899906842624) (w : World) :
    Calls Try.prog 21 #[.int .i64 a, .int .i64 b] w fun e w' => (∃ K : Nat, e = .returned (.int .i64 (K : Int)) ∧ (K : Int) < b) ∧ w' = w := by
  have hbz : (b == 0) = false := by simp; omega
  by_cases h0 : 0 ≤ a
  · have h1 : 0 ≤ a % b := Int.emod_nonneg _ (by omega)
    have h2 : a % b < b := Int.emod_lt_of_pos _ hb
    go_enter Try.func21, Try.ntmps21
    go_wp2
    go_ret
    exact ⟨⟨(a % b).toNat, ret_int (by omega), by omega⟩, rfl⟩
  · have h1 := tmod_neg_bounds a b (by omega) hb
    obtain ⟨h2, h3⟩ := h1
    go_enter Try.func21, Try.ntmps21
    go_wp2
    · go_ret
      exact ⟨⟨(a.tmod b + b).toNat, ret_int (by omega), by omega⟩, rfl⟩
    · go_ret
      exact ⟨⟨(a.tmod b).toNat, ret_int (by omega), by omega⟩, rfl⟩
set_option maxHeartbeats 800000 in
theorem walk (a0 : Int) (a1 : ByteArray) (a2 : Int) (w0 : (Lit.int .u64 a0).wf = true) (w1 : a1.size ≤ 140737488351232) (w2 : (Lit.int .i64 a2).wf = true) (w : World) :
    Calls Try.prog 8 #[.int .u64 a0, .string a1, .int .i64 a2] w fun e w' => e = .returned (.bool true) ∧ Below w.heap.size w w' := by
  obtain ⟨n, rfl, hn⟩ : ∃ n : Nat, a0 = (n : Int) ∧ n < 18446744073709551616 := by have := bounds_u64 w0; exact ⟨a0.toNat, by omega, by omega⟩
  have hat := bounds_i64 w2
  clear w0 w2
  obtain ⟨hl1, hl2⟩ := num_len n hn
  go_enter Try.func8, Try.ntmps8
  go_wp2_with fail
  refine (num_any n hn _).mono ?_
  rintro e W1 ⟨rfl, hb1⟩
  go_wp2_with fail
  refine (rest_any a2 _ hat (by omega) (by omega) _).mono ?_
  rintro e W2 ⟨⟨K, rfl, hK⟩, hW2⟩
  subst hW2
  have hK1 : K < (num n).length := by omega
  have hK2 : (K : Int) ≤ ((num n).length : Int) := by omega
  go_wp2_with fail
  rw [front_bytes]
  refine (read_any _ (by show ((num n).take K).toArray.size ≤ _; simp; omega) _).mono ?_
  rintro e W3 ⟨rfl, hW3⟩
  subst hW3
  rw [show re (ByteArray.mk ((num n).take K).toArray).data.toList = 3 from cut_num n hn K hK1]
  go_wp2_with fail
  by_cases h : a1.size ≤ 4096
  · refine (text_ok a1 h _).mono ?_
    rintro e W4 ⟨rfl, hb4⟩
    have hlen : (text a1.data.toList).length ≤ 4106 ∧ 1 ≤ (text a1.data.toList).length := by have := num_len a1.size (by omega); unfold text; simp; omega
    go_wp2_with fail
    refine (rest_any a2 _ hat (by omega) (by omega) _).mono ?_
    rintro e W5 ⟨⟨J, rfl, hJ⟩, hW5⟩
    subst hW5
    have hJ1 : J < (text a1.data.toList).length := by omega
    have hJ2 : (J : Int) ≤ ((text a1.data.toList).length : Int) := by omega
    go_wp2_with fail
    rw [front_bytes]
    refine (readtext_any _ (by show ((text a1.data.toList).take J).toArray.size ≤ _; simp; omega) _).mono ?_
    rintro e W6 ⟨rfl, hb6⟩
    rw [show te (ByteArray.mk ((text a1.data.toList).take J).toArray).data.toList = 3 from cut_text _ (by simpa using h) J hJ1]
    go_wp2_with fail
    go_ret
    exact ⟨by simp, hb1.trans ((hb4.mono hb1.size).trans (hb6.mono (Nat.le_trans hb1.size hb4.size)))⟩
  · refine (text_large a1 (by omega) _).mono ?_
    rintro e W4 ⟨rfl, hW4⟩
    subst hW4
    have hq : (4096 : Int) < (a1.size : Int) := by omega
    go_wp2_with fail
    go_ret
    exact ⟨by simp, hb1⟩

/-! ### The row's step -/
set_option maxRecDepth 100000 in
theorem lifted (os : Os) (started : os.Started) (H : Type) (enc : TypeId × Value → H) :
    ReturnsInHanded {} Try.checked os 8 .any (Rows.packCutSpec.pre6 enc Try.prog Try.f8 Rows.packCutRow.domain false) (Rows.packCutSpec.post enc Try.prog Try.f8 false true false false) := by
  refine returnsInHanded_of_change_sized (C := Try.checked) own started (by kernel_rfl) Try.func8
    (ChangeSpec.witness6 (enc := enc) (C := Try.checked) false ⟨#[], #[.int .u64 0, .string ByteArray.empty, .int .i64 0], []⟩ 8 (by kernel_rfl) (by kernel_rfl) (by kernel_rfl) (by kernel_rfl)) ?_
  intro W base args ds gs before hval0 hW hcnd hsz0 _
  have hval : ∀ (j : Nat) t v, Try.f8.params[j]? = some t → args[j]? = some v → Value.okWide Try.prog W .any base t v := hval0
  have hsz : (DataW.weightsEach Try.prog (Try.f8.params.toList ++ Rows.packCutSpec.plain.varTypes Try.prog) (ds ++ gs)).all (· ≤ reachBytes) = true := hsz0
  have hW' := hW
  obtain ⟨p, q, hA0, hV, rfl, hfz, hnd⟩ := hW
  have hA : DataW.TrodAll enc Try.prog W 0 (fun _ => true) true Try.f8.params.toList args.toList ds p := hA0
  rw [Try.params8] at hA hval hsz
  obtain ⟨v0, vs0, d0, ds0, p0, q0, hargs, rfl, rfl, h0, r0⟩ := trodAll_cons hA
  obtain ⟨v1, vs1, d1, ds1, p1, q1, rfl, rfl, rfl, h1, r1⟩ := trodAll_cons r0
  obtain ⟨v2, vs2, d2, ds2, p2, q2, rfl, rfl, rfl, h2, r2⟩ := trodAll_cons r1
  obtain ⟨rfl, rfl, rfl⟩ := trodAll_nil r2
  obtain rfl : args = #[v0, v1, v2] := by cases args; simp_all
  obtain ⟨rfl, rfl⟩ := trodVars_none hV
  obtain ⟨a0, rfl, rfl, rfl, w0⟩ := open_int Try.underlying22 (hval 0 22 v0 rfl rfl) h0
  obtain ⟨a1, rfl, rfl, rfl, w1⟩ := open_string Try.underlying9 (hval 1 9 v1 rfl rfl) h1
  obtain ⟨a2, rfl, rfl, rfl, w2⟩ := open_int Try.underlying3 (hval 2 3 v2 rfl rfl) h2
  clear hA0 hval0
  simp only [List.append_nil] at hW'
  have r1z : a1.size ≤ 140737488351232 := by have := sized_string hsz (j := 1) (t := 9) rfl rfl; simpa [reachBytes] using this
  refine (walk a0 a1 a2 w0 r1z w2 W).mono fun e W' ⟨he, hg⟩ => ?_
  subst he
  exact ⟨_, rfl, _, _, _, [], _, [], hW', (trodAll_cons_mk (shut_bool Try.underlying4 _) trodAll_mk0), (trodAll_cons_mk (shut_int Try.underlying22 w0) (trodAll_cons_mk (shut_string Try.underlying9 w1) (trodAll_cons_mk (shut_int Try.underlying3 w2) trodAll_mk0))), rfl, hg.frame _, fun h => by cases h⟩

theorem over : Rows.packCutRow.holds Try.pinned (OpenSpec.ofChange Rows.packCutSpec) :=
  OpenClaim.holds_of_wide 8 Try.f8 rfl rfl rfl rfl rfl rfl rfl ⟨rfl, rfl, rfl, rfl, rfl⟩ rfl rfl rfl rfl rfl (by kernel_rfl) Try.func8 (by kernel_rfl)
    (of_decide_eq_true (by kernel_rfl)) (by unfold Func.isWrapper; first | (rw [if_pos (by decide +kernel)]; kernel_rfl) | (rw [if_neg (by decide +kernel)]; exact ⟨rfl, rfl⟩))
    (fun os started H enc _ => lifted os started H enc)

end Go.Proofs.Ytompnobaledpaaa.packCut
namespace Go.Proofs.Ytompnobaledpaaa
/-- The given statement. -/
theorem packCut_holds : Rows.PackCutSaid := packCut.over
#print axioms packCut_holds
end Go.Proofs.Ytompnobaledpaaa
