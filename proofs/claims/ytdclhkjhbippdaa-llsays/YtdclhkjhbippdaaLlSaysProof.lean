/-
  LlSays returns true whatever grammar and rows are handed in, and changes nothing that it was handed; no condition.
-/
import Derived.Test.YtdclhkjhbippdaaRows
import Derived.WalkKit
import Derived.ProofKit
import Derived.OpenShut
import Derived.ShutString
import Derived.SizedLaws
import Derived.ChangeOld
import Derived.Below
import Derived.Carry
import Derived.WalkLawsBesides
import Derived.WalkSpells
import Derived.Test.YtdclhkjhbippdaaOpens
import Derived.Test.YtdclhkjhbippdaaLlRef
import Derived.Test.YtdclhkjhbippdaaLlEq
namespace Go.Proofs.Ytdclhkjhbippdaa.llSays
open Go.ChangeShapes Go.WideShapes Go.ChangeAt Go.RowKit
open Go.ChangeMaps (open_string shut_string)
open Cg
set_option linter.unusedVariables false

theorem own : ownKnob Try.prog.godebug = none := by kernel_rfl
theorem laidOut : laidOutB Try.prog = true := by kernel_rfl

variable {H : Type} {enc : TypeId × Value → H}
theorem open_rwsv {W : World} {r : Reach} {b0 : Nat} {v : Value} {d : DataW H} {p : List MemPlace} (hv : Value.okWide Try.prog W r b0 25 v) (h : DataW.Trod enc Try.prog W 0 (fun _ => true) true 25 v d p) : ∃ l, Rws W v l := by
  obtain ⟨fuel, hf⟩ := h
  have hc : v.cells = #[v] := by
    obtain ⟨a, n, c, rfl⟩ := okWide_slice Try.underlying25 hv
    rfl
  rw [hc] at hf
  obtain ⟨u, l, e, hl⟩ := open_rws hf
  cases e
  exact ⟨l, hl⟩

/-! ### The walk: the Go text returns true. -/
set_option maxHeartbeats 16000000 in
set_option maxRecDepth 20000 in
theorem walk (a0t : Int) (a0n : Int) (a0s : Value) (a0p : List Pd) (v1 : Value) (a1l : List (List Int)) (w : World) (w0s : Pds w a0s a0p) (w1s : Rws w v1 a1l) :
    Calls Try.prog 3 #[.agg #[.int .i64 a0t, .int .i64 a0n, a0s], v1] w fun e w' => e = .returned (.bool true) ∧ Below w.heap.size w w' := by
  have HG0 : Hid (Gb w w.heap.size a0t a0n a0s a0p (w.alloc (Obj.cells #[.int .i64 a0t, .int .i64 a0n, a0s] 24))) := Gb.box w0s a0t a0n
  have HRW : Hid (Rws w v1 a1l) := w1s
  obtain ⟨ao, c, rfl, hm, -⟩ := w0s
  obtain ⟨ro, rc, rfl, hlm, -⟩ := w1s
  revert HG0 hm HRW hlm
  generalize a0t = t
  generalize a0n = n0
  generalize a0p = ps
  generalize a1l = rows
  intro _ _ _ _
  rename Hid (Gb _ _ _ _ _ _ _) => HG0
  rename Hid (Rws _ _ _) => HRW
  have hmf : ∀ (fn : Fn) (first cap : Array Value) (w : World), (Instr.makeFunc fn first cap).run Try.prog w = .ok (.func fn first cap) w := fun _ _ _ _ => rfl
  by_cases h0 : chk t n0 ps = 0
  · obtain ⟨n, rfl⟩ : ∃ n : Nat, n0 = (n : Int) := ⟨n0.toNat, by have := okTN_le (chk_zero h0).1; omega⟩
    obtain ⟨T, rfl⟩ : ∃ T : Nat, t = (T : Int) := ⟨t.toNat, by have := okTN_le (chk_zero h0).1; omega⟩
    have HK : Hid (chk (T : Int) (n : Int) ps = 0) := h0
    clear h0
    have hcm := Make_ok T n _ ps _ HG0.out.pds HK.out
    go_enter Try.func3, Try.ntmps3
    go_wp2_with fail
    refine hcm.mono ?_
    rintro _ w2 ⟨ra, rn, rcc, vo, vn, vc, rfl, hb, S, htk, hrw, hcl⟩
    have HG2 : Hid (Gb w w.heap.size (T : Int) (n : Int) (.slice ao ps.length c) ps w2) := HG0.out.next hb
    have HM2 : Hid (Rws w2 (.slice ra rn rcc) (rowsL ps S T n) ∧ Cls w2 (.slice vo vn vc) (clsN ps S T n)) := ⟨hrw, hcl⟩
    have HTK : Hid (TK ps S) := htk
    clear hcm hb htk hrw hcl HG0
    have hne : Nonempty (Kp (Sb w2)) := ⟨⟨_, Sb.drew w2⟩⟩
    have k0 : ∀ p : Kp (Sb w2), p.W.cell? ⟨w.heap.size, 0, none⟩ = some (.int .i64 (T : Int)) := fun p => (HG2.out.next p.h).c0
    have k1 : ∀ p : Kp (Sb w2), p.W.cell? ⟨w.heap.size, 1, none⟩ = some (.int .i64 (n : Int)) := fun p => (HG2.out.next p.h).c1
    have k2 : ∀ p : Kp (Sb w2), p.W.cell? ⟨w.heap.size, 2, none⟩ = some (.slice ao ps.length c) := fun p => (HG2.out.next p.h).c2
    obtain ⟨er, HER⟩ : ∃ er, Hid (chkR (T : Int) (n : Int) ps rows = er) := ⟨_, (rfl : _ = _)⟩
    have HC1 : Hid (∀ p : Kp (Sb w2), Calls Try.prog 5 #[.agg #[.int .i64 (T : Int), .int .i64 (n : Int), .slice ao ps.length c], .slice ro rows.length rc] p.W fun e w'' => e = .returned (.int .i64 er) ∧ ∃ q : Kp (Sb w2), w'' = q.W) := fun p => by
      have hg := HG2.out.next p.h
      have := LCheck_any (T : Int) (n : Int) _ ps _ rows p.W hg.pds (HRW.out.below hg.below)
      rw [HER.out] at this
      exact Kp.calls p Sb.next this
    have HC2 : Hid (∀ p : Kp (Sb w2), Calls Try.prog 6 #[.agg #[.int .i64 (T : Int), .int .i64 (n : Int), .slice ao ps.length c], .slice ro rows.length rc] p.W fun e w'' => e = .returned (.int .i64 er) ∧ ∃ q : Kp (Sb w2), w'' = q.W) := fun p => by
      have hg := HG2.out.next p.h
      have := RightRows_any (T : Int) (n : Int) _ ps _ rows p.W hg.pds (HRW.out.below hg.below)
      rw [HER.out] at this
      exact Kp.calls p Sb.next this
    have hee : (er != er) = false := by simp
    go_wp2_with fail
    refine wp_region_kept mixed (by kernel_rfl) (Sb.drew w2) ?_
    repeat (go_big_quiet_step (first | (go_at_call 5; with_reducible exact HC1.out _) | (go_at_call 6; with_reducible exact HC2.out _)))
    refine wpQuiet_nil ?_
    intro W2 hw2
    obtain ⟨p2, rfl⟩ := hw2
    have HB23 : Hid (Below w2.heap.size w2 p2.W) := p2.h
    generalize p2.W = w3 at HB23 ⊢
    have HG3 : Hid (Gb w w.heap.size (T : Int) (n : Int) (.slice ao ps.length c) ps w3) := HG2.out.next HB23.out
    clear k0 k1 k2 HC1 HC2 hne p2 HER hee
    have HM3 : Hid (Rws w3 (.slice ra rn rcc) (rowsL ps S T n) ∧ Cls w3 (.slice vo vn vc) (clsN ps S T n)) := ⟨HM2.out.1.below HB23.out, HM2.out.2.below HB23.out⟩
    clear HM2 HG2 HB23
    have hcf := Cfg_any (T : Int) (n : Int) _ ps _ HG3.out.pds
    rw [HK.out] at hcf
    have k0 := HG3.out.c0
    have k1 := HG3.out.c1
    have k2 := HG3.out.c2
    go_wp2_with fail
    refine hcf.mono ?_
    rintro _ w4 ⟨rfl, hb⟩
    have HG4 : Hid (Gb w w.heap.size (T : Int) (n : Int) (.slice ao ps.length c) ps w4) := HG3.out.next hb
    have HM4 : Hid (Rws w4 (.slice ra rn rcc) (rowsL ps S T n) ∧ Cls w4 (.slice vo vn vc) (clsN ps S T n)) := ⟨HM3.out.1.below hb, HM3.out.2.below hb⟩
    clear hcf hb HG3 HM3 k0 k1 k2
    have hll := Ll_any T n _ ps _ HG4.out.pds HK.out
    have k0 := HG4.out.c0
    have k1 := HG4.out.c1
    have k2 := HG4.out.c2
    go_wp2_with fail
    refine hll.mono ?_
    rintro _ w5 ⟨ra2, rn2, rc2, vo2, vn2, vc2, rfl, hb, S2, htk, hrw, hcl⟩
    obtain rfl := htk.uniq HTK.out
    have HB5 : Hid (Below w.heap.size w w5) := HG4.out.below.trans (hb.mono HG4.out.below.size)
    have HM5 : Hid (Cls w5 (.slice vo vn vc) (clsN ps S2 T n) ∧ Cls w5 (.slice vo2 vn2 vc2) (clsN ps S2 T n)) := ⟨HM4.out.2.below hb, hcl⟩
    have hef := equalF_true w5 _ _ _ (HM4.out.1.below hb) hrw
    clear hll hb HG4 HM4 k0 k1 k2 htk hrw hcl
    go_wp2_with fail
    refine hef.mono ?_
    rintro _ w6 ⟨rfl, hb⟩
    have HB6 : Hid (Below w.heap.size w w6) := HB5.out.trans (hb.mono HB5.out.size)
    have hec := equalC_true w6 _ _ _ (HM5.out.1.below hb) (HM5.out.2.below hb)
    clear hef hb HB5 HM5
    go_wp2_with fail
    refine hec.mono ?_
    rintro _ w7 ⟨rfl, hb⟩
    have HB7 : Hid (Below w.heap.size w w7) := HB6.out.trans (hb.mono HB6.out.size)
    clear hec hb HB6
    go_wp2_with fail
    go_ret
    exact ⟨by simp, HB7.out⟩
  · obtain ⟨r, HR⟩ : ∃ r, Hid (chk t n0 ps = r) := ⟨_, (rfl : _ = _)⟩
    have hcm := Make_bad t n0 _ ps _ HG0.out.pds h0
    rw [HR.out] at hcm h0
    have b0 : (r != 0) = true := by simpa using h0
    clear h0
    go_enter Try.func3, Try.ntmps3
    go_wp2_with fail
    refine hcm.mono ?_
    rintro _ w2 ⟨rfl, hb⟩
    have HG2 : Hid (Gb w w.heap.size t n0 (.slice ao ps.length c) ps w2) := HG0.out.next hb
    clear hcm hb HG0
    have hne : Nonempty (Kp (Sb w2)) := ⟨⟨_, Sb.drew w2⟩⟩
    have k0 : ∀ p : Kp (Sb w2), p.W.cell? ⟨w.heap.size, 0, none⟩ = some (.int .i64 t) := fun p => (HG2.out.next p.h).c0
    have k1 : ∀ p : Kp (Sb w2), p.W.cell? ⟨w.heap.size, 1, none⟩ = some (.int .i64 n0) := fun p => (HG2.out.next p.h).c1
    have k2 : ∀ p : Kp (Sb w2), p.W.cell? ⟨w.heap.size, 2, none⟩ = some (.slice ao ps.length c) := fun p => (HG2.out.next p.h).c2
    obtain ⟨er, HER⟩ : ∃ er, Hid (chkR t n0 ps rows = er) := ⟨_, (rfl : _ = _)⟩
    have HC1 : Hid (∀ p : Kp (Sb w2), Calls Try.prog 5 #[.agg #[.int .i64 t, .int .i64 n0, .slice ao ps.length c], .slice ro rows.length rc] p.W fun e w'' => e = .returned (.int .i64 er) ∧ ∃ q : Kp (Sb w2), w'' = q.W) := fun p => by
      have hg := HG2.out.next p.h
      have := LCheck_any t n0 _ ps _ rows p.W hg.pds (HRW.out.below hg.below)
      rw [HER.out] at this
      exact Kp.calls p Sb.next this
    have HC2 : Hid (∀ p : Kp (Sb w2), Calls Try.prog 6 #[.agg #[.int .i64 t, .int .i64 n0, .slice ao ps.length c], .slice ro rows.length rc] p.W fun e w'' => e = .returned (.int .i64 er) ∧ ∃ q : Kp (Sb w2), w'' = q.W) := fun p => by
      have hg := HG2.out.next p.h
      have := RightRows_any t n0 _ ps _ rows p.W hg.pds (HRW.out.below hg.below)
      rw [HER.out] at this
      exact Kp.calls p Sb.next this
    have hee : (er != er) = false := by simp
    go_wp2_with fail
    refine wp_region_kept mixed (by kernel_rfl) (Sb.drew w2) ?_
    repeat (go_big_quiet_step (first | (go_at_call 5; with_reducible exact HC1.out _) | (go_at_call 6; with_reducible exact HC2.out _)))
    refine wpQuiet_nil ?_
    intro W2 hw2
    obtain ⟨p2, rfl⟩ := hw2
    have HB23 : Hid (Below w2.heap.size w2 p2.W) := p2.h
    generalize p2.W = w3 at HB23 ⊢
    have HG3 : Hid (Gb w w.heap.size t n0 (.slice ao ps.length c) ps w3) := HG2.out.next HB23.out
    clear k0 k1 k2 HC1 HC2 hne p2 HER hee
    clear HG2 HB23
    have hcf := Cfg_any t n0 _ ps _ HG3.out.pds
    rw [HR.out] at hcf
    have k0 := HG3.out.c0
    have k1 := HG3.out.c1
    have k2 := HG3.out.c2
    go_wp2_with fail
    refine hcf.mono ?_
    rintro _ w4 ⟨rfl, hb⟩
    have HB4 : Hid (Below w.heap.size w w4) := (HG3.out.next hb).below
    clear hcf hb HG3 k0 k1 k2
    go_wp2_with fail
    go_ret
    exact ⟨by simp, HB4.out⟩

/-! ### What the walk gives, for every argument -/
set_option maxRecDepth 100000 in
theorem contract (H : Type) (enc : TypeId × Value → H) (W : World) (base : Nat) (args : Array Value) (ds gs : List (DataW H)) (before : List MemPlace)
    (hval : ∀ (j : Nat) t v, Try.f3.params[j]? = some t → args[j]? = some v → Value.okWide Try.prog W .any base t v)
    (hW : DataW.Whole enc Try.prog Try.f3.params.toList Rows.llSaysSpec.vars false W args.toList ds gs before) (hsz : (DataW.weightsEach Try.prog (Try.f3.params.toList ++ Rows.llSaysSpec.plain.varTypes Try.prog) (ds ++ gs)).all (· ≤ reachBytes) = true) :
    Calls Try.prog 3 args W fun e W' => ∃ v, e = .returned v ∧ Rows.llSaysSpec.post enc Try.prog Try.f3 false true false false W args v W' := by
  have hW' := hW
  obtain ⟨p, q, hA0, hV, rfl, hfz, hnd⟩ := hW
  have hA : DataW.TrodAll enc Try.prog W 0 (fun _ => true) true Try.f3.params.toList args.toList ds p := hA0
  rw [Try.params3] at hA hval hsz
  obtain ⟨v0, vs0, d0, ds0, p0, q0, hargs, rfl, rfl, h0, r0⟩ := trodAll_cons hA
  obtain ⟨v1, vs1, d1, ds1, p1, q1, rfl, rfl, rfl, h1, r1⟩ := trodAll_cons r0
  obtain ⟨rfl, rfl, rfl⟩ := trodAll_nil r1
  obtain rfl : args = #[v0, v1] := by cases args; simp_all
  obtain ⟨rfl, rfl⟩ := trodVars_none hV
  have k0 := h0
  have lt0 : ∀ x ∈ p0, x.block < W.heap.size := by obtain ⟨m, hm⟩ := k0; exact DataW.trod_lt m _ _ _ hm
  obtain ⟨a0t, a0n, a0s, a0p, rfl, w0s⟩ := open_gram (hval 0 24 v0 rfl rfl) h0
  have k1 := h1
  have lt1 : ∀ x ∈ p1, x.block < W.heap.size := by obtain ⟨m, hm⟩ := k1; exact DataW.trod_lt m _ _ _ hm
  obtain ⟨a1l, w1s⟩ := open_rwsv (hval 1 25 v1 rfl rfl) h1
  clear hA0
  refine (walk a0t a0n a0s a0p _ a1l W w0s w1s).mono fun e W' ⟨he, bel⟩ => ?_
  subst he
  exact ⟨_, rfl, _, _, _, [], _, [], hW', trodAll_mk1 (shut_bool Try.underlying4 _), (trodAll_cons_mk (Below.trod laidOut (by kernel_rfl) (of_decide_eq_true (by kernel_rfl)) k0 bel lt0) (trodAll_cons_mk (Below.trod laidOut (by kernel_rfl) (of_decide_eq_true (by kernel_rfl)) k1 bel lt1) trodAll_mk0)), rfl, bel.frame _, fun h => by cases h⟩

/-! ### The row's step -/
set_option maxRecDepth 100000 in
theorem lifted (os : Os) (started : os.Started) (H : Type) (enc : TypeId × Value → H) :
    ReturnsInHanded {} Try.checked os 3 .any (Rows.llSaysSpec.pre6 enc Try.prog Try.f3 Rows.llSaysRow.domain false) (Rows.llSaysSpec.post enc Try.prog Try.f3 false true false false) := by
  refine returnsInHanded_of_change_sized (C := Try.checked) own started (by kernel_rfl) Try.func3
    (ChangeSpec.witness6 (enc := enc) (C := Try.checked) false ⟨#[], #[.agg #[.int .i64 0, .int .i64 0, .slice none 0 0], .slice none 0 0], []⟩ 8 (by kernel_rfl) (by kernel_rfl) (by kernel_rfl) (by kernel_rfl)) ?_
  intro W base args ds gs before hval hW hcnd hsz _
  exact contract H enc W base args ds gs before hval hW hsz

theorem over : Rows.llSaysRow.holds Try.pinned (OpenSpec.ofChange Rows.llSaysSpec) :=
  OpenClaim.holds_of_wide 3 Try.f3 rfl rfl rfl rfl rfl rfl rfl ⟨rfl, rfl, rfl, rfl, rfl⟩ rfl rfl rfl rfl rfl (by kernel_rfl) Try.func3 (by kernel_rfl)
    (of_decide_eq_true (by kernel_rfl)) (by unfold Func.isWrapper; first | (rw [if_pos (by decide +kernel)]; kernel_rfl) | (rw [if_neg (by decide +kernel)]; exact ⟨rfl, rfl⟩))
    (fun os started H enc _ => lifted os started H enc)

end Go.Proofs.Ytdclhkjhbippdaa.llSays
namespace Go.Proofs.Ytdclhkjhbippdaa
/-- The given statement. -/
theorem llSays_holds : Rows.LlSaysSaid := llSays.over
#print axioms llSays_holds
end Go.Proofs.Ytdclhkjhbippdaa
