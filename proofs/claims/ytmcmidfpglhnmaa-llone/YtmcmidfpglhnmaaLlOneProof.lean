/-
  LlOne returns true whatever grammar and word are handed in, and changes nothing that it was handed; no condition.
-/
import Derived.Test.YtmcmidfpglhnmaaRows
import Derived.WalkKit
import Derived.ProofKit
import Derived.OpenShut
import Derived.ShutString
import Derived.SizedLaws
import Derived.ChangeOld
import Derived.Below
import Derived.Carry
import Derived.WalkLawsBesides
import Derived.WalkSpells
import Derived.Test.YtmcmidfpglhnmaaOpens
import Derived.Deep.Cut
import Derived.Test.YtmcmidfpglhnmaaBrCnt
import Derived.Test.YtmcmidfpglhnmaaWBf
import Derived.Test.YtmcmidfpglhnmaaWAb
import Derived.Test.YtmcmidfpglhnmaaTrEq
import Derived.Test.YtmcmidfpglhnmaaCtLaws
namespace Go.Proofs.Ytmcmidfpglhnmaa.llOne
open Go.ChangeShapes Go.WideShapes Go.ChangeAt Go.RowKit
open Go.ChangeMaps (open_string shut_string)
open Cg
set_option linter.unusedVariables false

theorem own : ownKnob Try.prog.godebug = none := by kernel_rfl
theorem laidOut : laidOutB Try.prog = true := by kernel_rfl

/-! ### The walk: the Go text returns true. -/
set_option maxHeartbeats 16000000 in
set_option maxRecDepth 20000 in
theorem walk (a0t : Int) (a0n : Int) (a0s : Value) (a0p : List Pd) (v1 : Value) (a1l : List Int) (w : World) (w0s : Pds w a0s a0p) (w1s : Ints w v1 a1l) :
    Calls Try.prog 5 #[.agg #[.int .i64 a0t, .int .i64 a0n, a0s], v1] w fun e w' => e = .returned (.bool true) ∧ Below w.heap.size w w' := by
  have HP : Hid (Pds w a0s a0p) := w0s
  obtain ⟨ga, gc, rfl, -, -⟩ := w0s
  obtain ⟨gm, HGM⟩ : ∃ gm, Hid (a0p.length = gm) := ⟨_, (rfl : a0p.length = _)⟩
  rw [HGM.out] at HP ⊢
  revert HP HGM
  generalize a0t = t
  generalize a0n = n
  generalize a0p = ps
  intro HP HGM
  have HI : Hid (Ints w v1 a1l) := w1s
  obtain ⟨la, lc, rfl, hlm, -⟩ := w1s
  obtain ⟨ln, HLN⟩ : ∃ ln, Hid (a1l.length = ln) := ⟨_, (rfl : a1l.length = _)⟩
  rw [HLN.out] at HI ⊢
  revert HI HLN
  generalize a1l = ws
  intro HI HLN
  have hH1 : Hid (Below w.heap.size w (w.alloc (Obj.cells #[.int .i64 t, .int .i64 n, .slice ga gm gc] 24)) ∧ (w.alloc (Obj.cells #[.int .i64 t, .int .i64 n, .slice ga gm gc] 24)).heap[w.heap.size]? = some (Obj.cells #[.int .i64 t, .int .i64 n, .slice ga gm gc] 24)) := ⟨below_alloc _ _, heap_alloc_new _ _⟩
  obtain ⟨ce, HCE⟩ : ∃ ce, Hid (chk t n ps = ce) := ⟨_, (rfl : chk t n ps = _)⟩
  obtain ⟨cw, HCW⟩ : ∃ cw, Hid (ckW t n ps ws = cw) := ⟨_, (rfl : ckW t n ps ws = _)⟩
  go_enter Try.func5, Try.ntmps5
  go_upto_region 1 with fail
  generalize w.alloc (Obj.cells #[.int .i64 t, .int .i64 n, .slice ga gm gc] 24) = w1 at hH1 ⊢
  have HH1 : Hid (Below w.heap.size w w1 ∧ w1.heap[w.heap.size]? = some (Obj.cells #[.int .i64 t, .int .i64 n, .slice ga gm gc] 24)) := hH1.out
  clear hH1
  go_wp2_with fail
  refine (brackets_any w1).mono ?_
  rintro _ w2 ⟨gb, rfl, hpb, hb⟩
  have HH2 : Hid (Below w.heap.size w w2 ∧ w2.heap[w.heap.size]? = some (Obj.cells #[.int .i64 t, .int .i64 n, .slice ga gm gc] 24)) := ⟨HH1.out.1.trans (hb.mono HH1.out.1.size), tbox_next HH1.out.2 hb⟩
  have HPB : Hid (Pds w2 (.slice (some ⟨gb, 0, none⟩) 2 2) brs) := hpb
  clear hpb hb HH1
  have hc := able_ok 2 1 _ brs w2 HPB.out chk_brs
  go_wp2_with fail
  refine hc.mono ?_
  rintro _ w3 ⟨ra, rn, rc, S, rfl, hS, hR, hb⟩
  rw [(brs_ll hS).1]
  rw [brs_rows hS] at hR
  have HH3 : Hid (Below w.heap.size w w3 ∧ w3.heap[w.heap.size]? = some (Obj.cells #[.int .i64 t, .int .i64 n, .slice ga gm gc] 24)) := ⟨HH2.out.1.trans (hb.mono HH2.out.1.size), tbox_next HH2.out.2 hb⟩
  obtain ⟨ao', cap', e0, -, hR⟩ := hR
  simp only [List.length_cons, List.length_nil, Nat.zero_add, Value.slice.injEq] at e0
  obtain ⟨rfl, rfl, rfl⟩ := e0
  obtain ⟨rb, ro, rfl, hrb, hcc⟩ := hR.resolve_left (by simp)
  obtain ⟨u, hu, hiu⟩ := hcc 0 (by simp)
  have HIU : Hid (Ints w3 u [1, 0, 0]) := hiu
  obtain ⟨ua, uc, rfl, -, -⟩ := hiu
  rw [Nat.add_zero] at hu
  clear hc hcc hS hb HH2 HPB
  have hd : decide (([] : List Cl) = []) = true := by simp
  go_upto_region 2 with fail
  have hb := below_alloc w3 (Obj.cells #[.int .i64 1, .int .i64 0, .int .i64 0] 3)
  have hc := equalI_same (.slice ua 3 uc) (.slice (some ⟨w3.heap.size, 0, none⟩) 3 3) [1, 0, 0] (w3.alloc (Obj.cells #[.int .i64 1, .int .i64 0, .int .i64 0] 3)) (HIU.out.below hb) (ints_blk (l := [1, 0, 0]) (heap_alloc_new _ _) (by decide))
  go_wp2_with fail
  refine hc.mono ?_
  rintro _ w4 ⟨rfl, hb4⟩
  replace hb := hb.trans (hb4.mono hb.size)
  have HH4 : Hid (Below w.heap.size w w4 ∧ w4.heap[w.heap.size]? = some (Obj.cells #[.int .i64 t, .int .i64 n, .slice ga gm gc] 24)) := ⟨HH3.out.1.trans (hb.mono HH3.out.1.size), tbox_next HH3.out.2 hb⟩
  clear hc hb hb4 HH3 HIU hu hR
  have k0 := tcell_blk HH4.out.2 0
  have k1 := tcell_blk HH4.out.2 1
  have k2 := tcell_blk HH4.out.2 2
  simp only [List.getElem?_toArray, List.getElem?_cons_zero, List.getElem?_cons_succ] at k0 k1 k2
  by_cases hz : ce = 0
  · subst hz
    obtain ⟨nn, rfl⟩ : ∃ nn : Nat, n = (nn : Int) := ⟨n.toNat, by have := okTN_le (chk_zero HCE.out).1; omega⟩
    obtain ⟨tt, rfl⟩ : ∃ tt : Nat, t = (tt : Int) := ⟨t.toNat, by have := okTN_le (chk_zero HCE.out).1; omega⟩
    have hc := able_ok tt nn _ ps w4 (HP.out.below HH4.out.1) HCE.out
    go_wp2_with fail
    refine hc.mono ?_
    rintro _ w5 ⟨ra, rn, rc2, S2, rfl, hS2, -, hb⟩
    have HH5 : Hid (Below w.heap.size w w5 ∧ w5.heap[w.heap.size]? = some (Obj.cells #[.int .i64 tt, .int .i64 nn, .slice ga gm gc] 24)) := ⟨HH4.out.1.trans (hb.mono HH4.out.1.size), tbox_next HH4.out.2 hb⟩
    clear hc hb HH4 k0 k1 k2
    by_cases hcl : clsN ps S2 tt nn = []
    · have HC1 : Hid (cTr tt nn ps ws ≤ 1) := by
        show _ ≤ _
        obtain ⟨E, F, V, R, M, hfa, rfl⟩ := hS2
        unfold cTr
        split
        · rename_i hw
          have hrg := rg_of HCE.out
          exact cnt_ll ⟨hfa, hcl, by have := hrg.t2; omega, hrg⟩ (ckW_zero hw).2.2
        · omega
      have hd2 : decide (clsN ps S2 tt nn = []) = true := by simp [hcl]
      have k0 := tcell_blk HH5.out.2 0
      have k1 := tcell_blk HH5.out.2 1
      have k2 := tcell_blk HH5.out.2 2
      simp only [List.getElem?_toArray, List.getElem?_cons_zero, List.getElem?_cons_succ] at k0 k1 k2
      rw [hd2]
      have hc := CTrees_any tt nn _ _ ps ws w5 (HP.out.below HH5.out.1) (HI.out.below HH5.out.1)
      rw [HCW.out] at hc
      generalize cTr tt nn ps ws = x at hc HC1
      clear hcl hd2 hS2
      go_wp2_with fail
      refine hc.mono ?_
      rintro _ w6 ⟨rfl, hb⟩
      have HB6 : Hid (Below w.heap.size w w6) := HH5.out.1.trans (hb.mono HH5.out.1.size)
      clear hc hb HH5 k0 k1 k2
      by_cases hw : cw = 0
      · subst hw
        have hx : (x : Int) ≤ 1 := by have := HC1.out; omega
        go_wp2_with fail
        go_ret
        exact ⟨by simp, HB6.out⟩
      · have hb0 : (cw != 0) = true := by simp; exact hw
        go_wp2_with fail
        go_ret
        exact ⟨by simp, HB6.out⟩
    · have hd2 : decide (clsN ps S2 tt nn = []) = false := by simp [hcl]
      rw [hd2]
      clear hcl hd2 hS2
      go_wp2_with fail
      go_ret
      exact ⟨by simp, HH5.out.1⟩
  · have hc := able_bad t n _ ps w4 (HP.out.below HH4.out.1) (by rw [HCE.out]; exact hz)
    go_wp2_with fail
    refine hc.mono ?_
    rintro _ w5 ⟨rfl, hb⟩
    have HH5 : Hid (Below w.heap.size w w5 ∧ w5.heap[w.heap.size]? = some (Obj.cells #[.int .i64 t, .int .i64 n, .slice ga gm gc] 24)) := ⟨HH4.out.1.trans (hb.mono HH4.out.1.size), tbox_next HH4.out.2 hb⟩
    clear hc hb HH4 k0 k1 k2
    go_wp2_with fail
    go_ret
    exact ⟨by simp, HH5.out.1⟩

/-! ### What the walk gives, for every argument -/
set_option maxRecDepth 100000 in
theorem contract (H : Type) (enc : TypeId × Value → H) (W : World) (base : Nat) (args : Array Value) (ds gs : List (DataW H)) (before : List MemPlace)
    (hval : ∀ (j : Nat) t v, Try.f5.params[j]? = some t → args[j]? = some v → Value.okWide Try.prog W .any base t v)
    (hW : DataW.Whole enc Try.prog Try.f5.params.toList Rows.llOneSpec.vars false W args.toList ds gs before) (hsz : (DataW.weightsEach Try.prog (Try.f5.params.toList ++ Rows.llOneSpec.plain.varTypes Try.prog) (ds ++ gs)).all (· ≤ reachBytes) = true) :
    Calls Try.prog 5 args W fun e W' => ∃ v, e = .returned v ∧ Rows.llOneSpec.post enc Try.prog Try.f5 false true false false W args v W' := by
  have hW' := hW
  obtain ⟨p, q, hA0, hV, rfl, hfz, hnd⟩ := hW
  have hA : DataW.TrodAll enc Try.prog W 0 (fun _ => true) true Try.f5.params.toList args.toList ds p := hA0
  rw [Try.params5] at hA hval hsz
  obtain ⟨v0, vs0, d0, ds0, p0, q0, hargs, rfl, rfl, h0, r0⟩ := trodAll_cons hA
  obtain ⟨v1, vs1, d1, ds1, p1, q1, rfl, rfl, rfl, h1, r1⟩ := trodAll_cons r0
  obtain ⟨rfl, rfl, rfl⟩ := trodAll_nil r1
  obtain rfl : args = #[v0, v1] := by cases args; simp_all
  obtain ⟨rfl, rfl⟩ := trodVars_none hV
  have k0 := h0
  have lt0 : ∀ x ∈ p0, x.block < W.heap.size := by obtain ⟨m, hm⟩ := k0; exact DataW.trod_lt m _ _ _ hm
  obtain ⟨a0t, a0n, a0s, a0p, rfl, w0s⟩ := open_gram (hval 0 24 v0 rfl rfl) h0
  have k1 := h1
  have lt1 : ∀ x ∈ p1, x.block < W.heap.size := by obtain ⟨m, hm⟩ := k1; exact DataW.trod_lt m _ _ _ hm
  obtain ⟨a1l, w1s⟩ := open_intsv (hval 1 25 v1 rfl rfl) h1
  clear hA0
  refine (walk a0t a0n a0s a0p _ a1l W w0s w1s).mono fun e W' ⟨he, bel⟩ => ?_
  subst he
  exact ⟨_, rfl, _, _, _, [], _, [], hW', trodAll_mk1 (shut_bool Try.underlying4 _), (trodAll_cons_mk (Below.trod laidOut (by kernel_rfl) (of_decide_eq_true (by kernel_rfl)) k0 bel lt0) (trodAll_cons_mk (Below.trod laidOut (by kernel_rfl) (of_decide_eq_true (by kernel_rfl)) k1 bel lt1) trodAll_mk0)), rfl, bel.frame _, fun h => by cases h⟩

/-! ### The row's step -/
set_option maxRecDepth 100000 in
theorem lifted (os : Os) (started : os.Started) (H : Type) (enc : TypeId × Value → H) :
    ReturnsInHanded {} Try.checked os 5 .any (Rows.llOneSpec.pre6 enc Try.prog Try.f5 Rows.llOneRow.domain false) (Rows.llOneSpec.post enc Try.prog Try.f5 false true false false) := by
  refine returnsInHanded_of_change_sized (C := Try.checked) own started (by kernel_rfl) Try.func5
    (ChangeSpec.witness6 (enc := enc) (C := Try.checked) false ⟨#[], #[.agg #[.int .i64 0, .int .i64 0, .slice none 0 0], .slice none 0 0], []⟩ 8 (by kernel_rfl) (by kernel_rfl) (by kernel_rfl) (by kernel_rfl)) ?_
  intro W base args ds gs before hval hW hcnd hsz _
  exact contract H enc W base args ds gs before hval hW hsz

theorem over : Rows.llOneRow.holds Try.pinned (OpenSpec.ofChange Rows.llOneSpec) :=
  OpenClaim.holds_of_wide 5 Try.f5 rfl rfl rfl rfl rfl rfl rfl ⟨rfl, rfl, rfl, rfl, rfl⟩ rfl rfl rfl rfl rfl (by kernel_rfl) Try.func5 (by kernel_rfl)
    (of_decide_eq_true (by kernel_rfl)) (by unfold Func.isWrapper; first | (rw [if_pos (by decide +kernel)]; kernel_rfl) | (rw [if_neg (by decide +kernel)]; exact ⟨rfl, rfl⟩))
    (fun os started H enc _ => lifted os started H enc)

end Go.Proofs.Ytmcmidfpglhnmaa.llOne
namespace Go.Proofs.Ytmcmidfpglhnmaa
/-- The given statement. -/
theorem llOne_holds : Rows.LlOneSaid := llOne.over
#print axioms llOne_holds
end Go.Proofs.Ytmcmidfpglhnmaa
