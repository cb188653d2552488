/-
  ClimbParses returns true whatever grammar and word are handed in, and changes nothing that it was handed; no condition.
-/
import Derived.Test.YtpfehghicaaghaaRows
import Derived.WalkKit
import Derived.ProofKit
import Derived.OpenShut
import Derived.ShutString
import Derived.SizedLaws
import Derived.ChangeOld
import Derived.Below
import Derived.Carry
import Derived.WalkLawsBesides
import Derived.WalkSpells
import Derived.Test.YtpfehghicaaghaaOpens
import Derived.Deep.Cut
import Derived.Test.YtpfehghicaaghaaClBr
import Derived.Test.YtpfehghicaaghaaLlB
import Derived.Test.YtpfehghicaaghaaChC
import Derived.Test.YtpfehghicaaghaaFcBrack
import Derived.Test.YtpfehghicaaghaaClPars
namespace Go.Proofs.Ytpfehghicaaghaa.climbParses
open Go.ChangeShapes Go.WideShapes Go.ChangeAt Go.RowKit
open Go.ChangeMaps (open_string shut_string)
open Cg
set_option linter.unusedVariables false

theorem own : ownKnob Try.prog.godebug = none := by kernel_rfl
theorem laidOut : laidOutB Try.prog = true := by kernel_rfl
def IntsC (w : World) (v : Value) (l : List Int) : Prop := Ints w v l ∧ ∃ ao cap, v = .slice ao l.length cap ∧ l.length ≤ cap
section
variable {H : Type} {enc : TypeId × Value → H}
set_option maxRecDepth 20000 in
theorem open_intsw {W : World} {r : Reach} {b0 : Nat} {v : Value} {d : DataW H} {p : List MemPlace} (hv : Value.okWide Try.prog W r b0 25 v) (h : DataW.Trod enc Try.prog W 0 (fun _ => true) true 25 v d p) : ∃ l, IntsC W v l := by
  obtain ⟨l, hl⟩ := open_intsv hv h
  refine ⟨l, hl, ?_⟩
  obtain ⟨fuel, hf⟩ := h
  have hc : v.cells = #[v] := by
    obtain ⟨a, n, c, rfl⟩ := okWide_slice Try.underlying25 hv
    rfl
  rw [hc] at hf
  obtain ⟨ao, n, cap, e, hm, -⟩ := open_seq Try.underlying25 kcells3 (by omega) hf
  cases e
  obtain ⟨ao', cap', e2, -, -⟩ := hl
  simp only [Value.slice.injEq] at e2
  obtain ⟨rfl, rfl, rfl⟩ := e2
  exact ⟨_, _, rfl, hm.2⟩
end

/-! ### The walk: the Go text returns true. -/
set_option maxHeartbeats 16000000 in
set_option maxRecDepth 20000 in
theorem walk (a0t : Int) (a0n : Int) (a0s : Value) (a0p : List Pd) (v1 : Value) (a1l : List Int) (w : World) (w0s : Pds w a0s a0p) (w1s : IntsC w v1 a1l) :
    Calls Try.prog 6 #[.agg #[.int .i64 a0t, .int .i64 a0n, a0s], v1] w fun e w' => e = .returned (.bool true) ∧ Below w.heap.size w w' := by
  have HP : Hid (Pds w a0s a0p) := w0s
  obtain ⟨ga, gc, rfl, -, -⟩ := w0s
  obtain ⟨gm, HGM⟩ : ∃ gm, Hid (a0p.length = gm) := ⟨_, (rfl : a0p.length = _)⟩
  rw [HGM.out] at HP ⊢
  revert HP HGM
  generalize a0t = t
  generalize a0n = n
  generalize a0p = ps
  intro HP HGM
  have HI : Hid (Ints w v1 a1l) := w1s.1
  obtain ⟨-, la, lc, rfl, hlc⟩ := w1s
  obtain ⟨ln, HLN⟩ : ∃ ln, Hid (a1l.length = ln) := ⟨_, (rfl : a1l.length = _)⟩
  rw [HLN.out] at HI hlc ⊢
  have HLC : Hid (ln ≤ lc) := hlc
  clear hlc
  revert HI HLN
  generalize a1l = ws
  intro HI HLN
  have hH1 : Hid (Below w.heap.size w (w.alloc (Obj.cells #[.int .i64 t, .int .i64 n, .slice ga gm gc] 24)) ∧ (w.alloc (Obj.cells #[.int .i64 t, .int .i64 n, .slice ga gm gc] 24)).heap[w.heap.size]? = some (Obj.cells #[.int .i64 t, .int .i64 n, .slice ga gm gc] 24)) := ⟨below_alloc _ _, heap_alloc_new _ _⟩
  obtain ⟨ce, HCE⟩ : ∃ ce, Hid (chk t n ps = ce) := ⟨_, (rfl : chk t n ps = _)⟩
  obtain ⟨cw, HCW⟩ : ∃ cw, Hid (ckW t n ps ws = cw) := ⟨_, (rfl : ckW t n ps ws = _)⟩
  go_enter Try.func6, Try.ntmps6
  go_upto_region 1 with fail
  generalize w.alloc (Obj.cells #[.int .i64 t, .int .i64 n, .slice ga gm gc] 24) = w1 at hH1 ⊢
  have HH1 : Hid (Below w.heap.size w w1 ∧ w1.heap[w.heap.size]? = some (Obj.cells #[.int .i64 t, .int .i64 n, .slice ga gm gc] 24)) := hH1.out
  clear hH1
  go_wp2_with fail
  refine (brackets_any w1).mono ?_
  rintro _ w2 ⟨gb, rfl, hpb, hb⟩
  have HH2 : Hid (Below w.heap.size w w2 ∧ w2.heap[w.heap.size]? = some (Obj.cells #[.int .i64 t, .int .i64 n, .slice ga gm gc] 24)) := ⟨HH1.out.1.trans (hb.mono HH1.out.1.size), tbox_next HH1.out.2 hb⟩
  have HPB : Hid (Pds w2 (.slice (some ⟨gb, 0, none⟩) 2 2) brs) := hpb
  clear hpb hb HH1
  have hc := able_ok 2 1 _ brs w2 HPB.out chk_brs
  go_wp2_with fail
  refine hc.mono ?_
  rintro _ w3 ⟨ra, rn, rc, S, rfl, hS, hR, hb⟩
  rw [(brs_ll hS).1]
  rw [brs_rows hS] at hR
  have HR : Hid (Rws w3 (.slice ra rn rc) [[1, 0, 0]]) := hR
  have HH3 : Hid (Below w.heap.size w w3 ∧ w3.heap[w.heap.size]? = some (Obj.cells #[.int .i64 t, .int .i64 n, .slice ga gm gc] 24)) := ⟨HH2.out.1.trans (hb.mono HH2.out.1.size), tbox_next HH2.out.2 hb⟩
  clear hc hS hR hb HH2 HPB
  have hd : decide (([] : List Cl) = []) = true := by simp
  go_upto_region 2 with fail
  go_wp2_with fail
  refine (brackets_any w3).mono ?_
  rintro _ w4 ⟨gc2, rfl, hpb, hb⟩
  have HH4 : Hid (Below w.heap.size w w4 ∧ w4.heap[w.heap.size]? = some (Obj.cells #[.int .i64 t, .int .i64 n, .slice ga gm gc] 24)) := ⟨HH3.out.1.trans (hb.mono HH3.out.1.size), tbox_next HH3.out.2 hb⟩
  have HPB : Hid (Pds w4 (.slice (some ⟨gc2, 0, none⟩) 2 2) brs) := hpb
  have HR4 : Hid (Rws w4 (.slice ra rn rc) [[1, 0, 0]]) := HR.out.below hb
  clear hpb hb HH3 HR
  have hb := below_alloc w4 (Obj.cells #[.int .i64 0, .int .i64 1] 3)
  have hc := climbed_any 2 1 _ brs (.slice ra rn rc) [[1, 0, 0]] (.slice (some ⟨w4.heap.size, 0, none⟩) 2 2) [0, 1] (w4.alloc (Obj.cells #[.int .i64 0, .int .i64 1] 3)) (HPB.out.below hb) (HR4.out.below hb) (ints_blk (l := [0, 1]) (heap_alloc_new _ _) (by decide)) chkR_brs (by decide) (by decide)
  rw [cls_01] at hc
  go_wp2_with fail
  refine hc.mono ?_
  rintro _ w5 ⟨ea, en, ec, rfl, hdn⟩
  replace hb := hb.trans (hdn.bel.mono hb.size)
  have HH5 : Hid (Below w.heap.size w w5 ∧ w5.heap[w.heap.size]? = some (Obj.cells #[.int .i64 t, .int .i64 n, .slice ga gm gc] 24)) := ⟨HH4.out.1.trans (hb.mono HH4.out.1.size), tbox_next HH4.out.2 hb⟩
  obtain ⟨ao', cap', e0, -, hev⟩ := evs_of_own hdn.own (by decide)
  simp only [List.length_cons, List.length_nil, Nat.zero_add, Nat.reduceAdd, Value.slice.injEq] at e0
  obtain ⟨rfl, rfl, rfl⟩ := e0
  obtain ⟨eb, eo, rfl, -, hcc⟩ := hev.resolve_left (by simp)
  have u1 := (hcc 0 (by decide)).2
  simp only [List.getElem_cons_zero, Nat.zero_mul, Nat.add_zero] at u1
  clear hc hdn hcc hb HH4 HPB HR4
  have k0 := tcell_blk HH5.out.2 0
  have k1 := tcell_blk HH5.out.2 1
  have k2 := tcell_blk HH5.out.2 2
  simp only [List.getElem?_toArray, List.getElem?_cons_zero, List.getElem?_cons_succ] at k0 k1 k2
  by_cases hz : ce = 0
  · subst hz
    obtain ⟨nn, rfl⟩ : ∃ nn : Nat, n = (nn : Int) := ⟨n.toNat, by have := okTN_le (chk_zero HCE.out).1; omega⟩
    obtain ⟨tt, rfl⟩ : ∃ tt : Nat, t = (tt : Int) := ⟨t.toNat, by have := okTN_le (chk_zero HCE.out).1; omega⟩
    have hc := able_ok tt nn _ ps w5 (HP.out.below HH5.out.1) HCE.out
    go_wp2_with fail
    refine hc.mono ?_
    rintro _ w6 ⟨ja, jn, jc, S2, rfl, hS2, hR2, hb⟩
    have HH6 : Hid (Below w.heap.size w w6 ∧ w6.heap[w.heap.size]? = some (Obj.cells #[.int .i64 tt, .int .i64 nn, .slice ga gm gc] 24)) := ⟨HH5.out.1.trans (hb.mono HH5.out.1.size), tbox_next HH5.out.2 hb⟩
    have HS2 : Hid (TK ps S2) := hS2
    have HR2 : Hid (Rws w6 (.slice ja jn jc) (rowsL ps S2 tt nn)) := hR2
    clear hc hb HH5 k0 k1 k2 hS2 hR2
    obtain ⟨q, HQ⟩ : ∃ q, Hid (decide (clsN ps S2 tt nn = []) = q) := ⟨_, (rfl : decide (clsN ps S2 tt nn = []) = _)⟩
    rw [HQ.out]
    have k0 := tcell_blk HH6.out.2 0
    have k1 := tcell_blk HH6.out.2 1
    have k2 := tcell_blk HH6.out.2 2
    simp only [List.getElem?_toArray, List.getElem?_cons_zero, List.getElem?_cons_succ] at k0 k1 k2
    have hc := CTrees_any tt nn _ _ ps ws w6 (HP.out.below HH6.out.1) (HI.out.below HH6.out.1)
    rw [HCW.out] at hc
    generalize cTr tt nn ps ws = x at hc
    go_wp2_with fail
    refine hc.mono ?_
    rintro _ w7 ⟨rfl, hb⟩
    have HH7 : Hid (Below w.heap.size w w7 ∧ w7.heap[w.heap.size]? = some (Obj.cells #[.int .i64 tt, .int .i64 nn, .slice ga gm gc] 24)) := ⟨HH6.out.1.trans (hb.mono HH6.out.1.size), tbox_next HH6.out.2 hb⟩
    have HR3 : Hid (Rws w7 (.slice ja jn jc) (rowsL ps S2 tt nn)) := HR2.out.below hb
    clear hc hb HH6 k0 k1 k2 HR2
    cases q with
    | false =>
      go_wp2_with fail
      go_ret
      exact ⟨by simp, HH7.out.1⟩
    | true =>
      have HNO : Hid (clsN ps S2 tt nn = []) := by show clsN ps S2 tt nn = []; exact of_decide_eq_true HQ.out
      by_cases hw : cw = 0
      · subst hw
        have hc := climbed_any (tt : Int) nn _ ps (.slice ja jn jc) (rowsL ps S2 tt nn) _ ws w7 (HP.out.below HH7.out.1) HR3.out (HI.out.below HH7.out.1) (rowsL_ok HCE.out) (ckW_zero HCW.out).2.1 (ckW_zero HCW.out).2.2
        have HPA : Hid _ := cls_parses HS2.out HNO.out HCW.out
        generalize cls ps (rwC (rowsL ps S2 tt nn)) (tt : Int) ws [symT (2, 0)] 0 [] 0 = A at hc HPA
        have k0 := tcell_blk HH7.out.2 0
        have k1 := tcell_blk HH7.out.2 1
        have k2 := tcell_blk HH7.out.2 2
        simp only [List.getElem?_toArray, List.getElem?_cons_zero, List.getElem?_cons_succ] at k0 k1 k2
        go_wp2_with fail
        refine hc.mono ?_
        rintro _ w8 ⟨ka, kn, kc, rfl, hdn⟩
        have hb := hdn.bel
        have HH8 : Hid (Below w.heap.size w w8 ∧ w8.heap[w.heap.size]? = some (Obj.cells #[.int .i64 tt, .int .i64 nn, .slice ga gm gc] 24)) := ⟨HH7.out.1.trans (hb.mono HH7.out.1.size), tbox_next HH7.out.2 hb⟩
        obtain ⟨oa, ob, oc⟩ := A
        simp only at hdn HPA ⊢
        have hle : oa.length ≤ 9223372036854775807 := by
          obtain ⟨h1, ⟨-, h3⟩ | ⟨gq, cap, cur, -, -, -, h4, h5, -⟩⟩ := hdn.own
          · omega
          · unfold maxLen at h5; omega
        have HEV : Hid (Evs w8 (.slice ka kn kc) oa) := evs_of_own hdn.own hle
        clear hc hdn hb HH7 k0 k1 k2 hle
        have k0 := tcell_blk HH8.out.2 0
        have k1 := tcell_blk HH8.out.2 1
        have k2 := tcell_blk HH8.out.2 2
        simp only [List.getElem?_toArray, List.getElem?_cons_zero, List.getElem?_cons_succ] at k0 k1 k2
        have hc := parsed_true (tt : Int) (nn : Int) _ _ (.slice ka kn kc) ps ws oa (ob : Int) oc w8 (HP.out.below HH8.out.1) (HI.out.below HH8.out.1) HEV.out HCW.out HPA.out
        go_wp2_with fail
        refine hc.mono ?_
        rintro _ w9 ⟨rfl, hb⟩
        have HB9 : Hid (Below w.heap.size w w9) := HH8.out.1.trans (hb.mono HH8.out.1.size)
        clear hc hb
        go_wp2_with fail
        go_ret
        exact ⟨by simp, HB9.out⟩
      · have hb0 : (cw != 0) = true := by simp; exact hw
        go_wp2_with fail
        go_ret
        exact ⟨by simp, HH7.out.1⟩
  · have hc := able_bad t n _ ps w5 (HP.out.below HH5.out.1) (by rw [HCE.out]; exact hz)
    go_wp2_with fail
    refine hc.mono ?_
    rintro _ w6 ⟨rfl, hb⟩
    have HH6 : Hid (Below w.heap.size w w6 ∧ w6.heap[w.heap.size]? = some (Obj.cells #[.int .i64 t, .int .i64 n, .slice ga gm gc] 24)) := ⟨HH5.out.1.trans (hb.mono HH5.out.1.size), tbox_next HH5.out.2 hb⟩
    clear hc hb HH5 k0 k1 k2
    have k0 := tcell_blk HH6.out.2 0
    have k1 := tcell_blk HH6.out.2 1
    have k2 := tcell_blk HH6.out.2 2
    simp only [List.getElem?_toArray, List.getElem?_cons_zero, List.getElem?_cons_succ] at k0 k1 k2
    have hc := CTrees_any t n _ _ ps ws w6 (HP.out.below HH6.out.1) (HI.out.below HH6.out.1)
    rw [HCW.out] at hc
    generalize cTr t n ps ws = x at hc
    go_wp2_with fail
    refine hc.mono ?_
    rintro _ w7 ⟨rfl, hb⟩
    have HH7 : Hid (Below w.heap.size w w7 ∧ w7.heap[w.heap.size]? = some (Obj.cells #[.int .i64 t, .int .i64 n, .slice ga gm gc] 24)) := ⟨HH6.out.1.trans (hb.mono HH6.out.1.size), tbox_next HH6.out.2 hb⟩
    clear hc hb HH6 k0 k1 k2
    go_wp2_with fail
    go_ret
    exact ⟨by simp, HH7.out.1⟩

/-! ### What the walk gives, for every argument -/
set_option maxRecDepth 100000 in
theorem contract (H : Type) (enc : TypeId × Value → H) (W : World) (base : Nat) (args : Array Value) (ds gs : List (DataW H)) (before : List MemPlace)
    (hval : ∀ (j : Nat) t v, Try.f6.params[j]? = some t → args[j]? = some v → Value.okWide Try.prog W .any base t v)
    (hW : DataW.Whole enc Try.prog Try.f6.params.toList Rows.climbParsesSpec.vars false W args.toList ds gs before) (hsz : (DataW.weightsEach Try.prog (Try.f6.params.toList ++ Rows.climbParsesSpec.plain.varTypes Try.prog) (ds ++ gs)).all (· ≤ reachBytes) = true) :
    Calls Try.prog 6 args W fun e W' => ∃ v, e = .returned v ∧ Rows.climbParsesSpec.post enc Try.prog Try.f6 false true false false W args v W' := by
  have hW' := hW
  obtain ⟨p, q, hA0, hV, rfl, hfz, hnd⟩ := hW
  have hA : DataW.TrodAll enc Try.prog W 0 (fun _ => true) true Try.f6.params.toList args.toList ds p := hA0
  rw [Try.params6] at hA hval hsz
  obtain ⟨v0, vs0, d0, ds0, p0, q0, hargs, rfl, rfl, h0, r0⟩ := trodAll_cons hA
  obtain ⟨v1, vs1, d1, ds1, p1, q1, rfl, rfl, rfl, h1, r1⟩ := trodAll_cons r0
  obtain ⟨rfl, rfl, rfl⟩ := trodAll_nil r1
  obtain rfl : args = #[v0, v1] := by cases args; simp_all
  obtain ⟨rfl, rfl⟩ := trodVars_none hV
  have k0 := h0
  have lt0 : ∀ x ∈ p0, x.block < W.heap.size := by obtain ⟨m, hm⟩ := k0; exact DataW.trod_lt m _ _ _ hm
  obtain ⟨a0t, a0n, a0s, a0p, rfl, w0s⟩ := open_gram (hval 0 24 v0 rfl rfl) h0
  have k1 := h1
  have lt1 : ∀ x ∈ p1, x.block < W.heap.size := by obtain ⟨m, hm⟩ := k1; exact DataW.trod_lt m _ _ _ hm
  obtain ⟨a1l, w1s⟩ := open_intsw (hval 1 25 v1 rfl rfl) h1
  clear hA0
  refine (walk a0t a0n a0s a0p _ a1l W w0s w1s).mono fun e W' ⟨he, bel⟩ => ?_
  subst he
  exact ⟨_, rfl, _, _, _, [], _, [], hW', trodAll_mk1 (shut_bool Try.underlying4 _), (trodAll_cons_mk (Below.trod laidOut (by kernel_rfl) (of_decide_eq_true (by kernel_rfl)) k0 bel lt0) (trodAll_cons_mk (Below.trod laidOut (by kernel_rfl) (of_decide_eq_true (by kernel_rfl)) k1 bel lt1) trodAll_mk0)), rfl, bel.frame _, fun h => by cases h⟩

/-! ### The row's step -/
set_option maxRecDepth 100000 in
theorem lifted (os : Os) (started : os.Started) (H : Type) (enc : TypeId × Value → H) :
    ReturnsInHanded {} Try.checked os 6 .any (Rows.climbParsesSpec.pre6 enc Try.prog Try.f6 Rows.climbParsesRow.domain false) (Rows.climbParsesSpec.post enc Try.prog Try.f6 false true false false) := by
  refine returnsInHanded_of_change_sized (C := Try.checked) own started (by kernel_rfl) Try.func6
    (ChangeSpec.witness6 (enc := enc) (C := Try.checked) false ⟨#[], #[.agg #[.int .i64 0, .int .i64 0, .slice none 0 0], .slice none 0 0], []⟩ 8 (by kernel_rfl) (by kernel_rfl) (by kernel_rfl) (by kernel_rfl)) ?_
  intro W base args ds gs before hval hW hcnd hsz _
  exact contract H enc W base args ds gs before hval hW hsz

theorem over : Rows.climbParsesRow.holds Try.pinned (OpenSpec.ofChange Rows.climbParsesSpec) :=
  OpenClaim.holds_of_wide 6 Try.f6 rfl rfl rfl rfl rfl rfl rfl ⟨rfl, rfl, rfl, rfl, rfl⟩ rfl rfl rfl rfl rfl (by kernel_rfl) Try.func6 (by kernel_rfl)
    (of_decide_eq_true (by kernel_rfl)) (by unfold Func.isWrapper; first | (rw [if_pos (by decide +kernel)]; kernel_rfl) | (rw [if_neg (by decide +kernel)]; exact ⟨rfl, rfl⟩))
    (fun os started H enc _ => lifted os started H enc)

end Go.Proofs.Ytpfehghicaaghaa.climbParses
namespace Go.Proofs.Ytpfehghicaaghaa
/-- The given statement. -/
theorem climbParses_holds : Rows.ClimbParsesSaid := climbParses.over
#print axioms climbParses_holds
end Go.Proofs.Ytpfehghicaaghaa
