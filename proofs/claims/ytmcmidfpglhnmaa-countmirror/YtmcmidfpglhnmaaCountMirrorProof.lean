/-
  CountMirror returns true whatever grammar and word are handed in, and changes nothing that it was handed; no condition.
-/
import Derived.Test.YtmcmidfpglhnmaaRows
import Derived.WalkKit
import Derived.ProofKit
import Derived.OpenShut
import Derived.ShutString
import Derived.SizedLaws
import Derived.ChangeOld
import Derived.Below
import Derived.Carry
import Derived.WalkLawsBesides
import Derived.WalkSpells
import Derived.Test.YtmcmidfpglhnmaaOpens
import Derived.Deep.Cut
import Derived.Test.YtmcmidfpglhnmaaBrCnt
import Derived.Test.YtmcmidfpglhnmaaCtLaws
import Derived.Test.YtmcmidfpglhnmaaMirror
import Derived.Test.YtmcmidfpglhnmaaTrRev
import Derived.Test.YtmcmidfpglhnmaaChClone
namespace Go.Proofs.Ytmcmidfpglhnmaa.countMirror
open Go.ChangeShapes Go.WideShapes Go.ChangeAt Go.RowKit
open Go.ChangeMaps (open_string shut_string)
open Cg
set_option linter.unusedVariables false

theorem own : ownKnob Try.prog.godebug = none := by kernel_rfl
theorem laidOut : laidOutB Try.prog = true := by kernel_rfl
theorem ckW_turn {t n : Int} {ps : List Pd} {ws : List Int} (h : ckW t n ps ws = 0) : ckW t n (turn ps) ws.reverse = 0 := by
  have h1 := ckW_zero h
  unfold ckW
  rw [if_pos (turn_chk h1.1), if_neg (by rw [List.length_reverse]; omega), if_pos]
  rw [List.all_reverse]
  unfold ckW at h
  rw [if_pos h1.1, if_neg (by omega)] at h
  by_cases e : ws.all (okN t) = true
  · exact e
  · rw [if_neg e] at h; omega
theorem cTr_turn {t n : Int} {ps : List Pd} {ws : List Int} (h : ckW t n ps ws = 0) : cTr t n (turn ps) ws.reverse = cTr t n ps ws := by
  unfold cTr
  rw [if_pos h, if_pos (ckW_turn h)]
  exact cnt_mirror ws 0

/-! ### The walk: the Go text returns true. -/
set_option maxHeartbeats 16000000 in
set_option maxRecDepth 20000 in
theorem walk (a0t : Int) (a0n : Int) (a0s : Value) (a0p : List Pd) (v1 : Value) (a1l : List Int) (w : World) (w0s : Pds w a0s a0p) (w1s : Ints w v1 a1l) :
    Calls Try.prog 8 #[.agg #[.int .i64 a0t, .int .i64 a0n, a0s], v1] w fun e w' => e = .returned (.bool true) ∧ Below w.heap.size w w' := by
  have HP : Hid (Pds w a0s a0p) := w0s
  obtain ⟨ga, gc, rfl, -, -⟩ := w0s
  obtain ⟨gm, HGM⟩ : ∃ gm, Hid (a0p.length = gm) := ⟨_, (rfl : a0p.length = _)⟩
  rw [HGM.out] at HP ⊢
  revert HP HGM
  generalize a0t = t
  generalize a0n = n
  generalize a0p = ps
  intro HP HGM
  have HI : Hid (Ints w v1 a1l) := w1s
  obtain ⟨la, lc, rfl, hlm, -⟩ := w1s
  obtain ⟨ln, HLN⟩ : ∃ ln, Hid (a1l.length = ln) := ⟨_, (rfl : a1l.length = _)⟩
  rw [HLN.out] at HI ⊢
  revert HI HLN
  generalize a1l = ws
  intro HI HLN
  have hH1 : Hid (Below w.heap.size w (w.alloc (Obj.cells #[.int .i64 t, .int .i64 n, .slice ga gm gc] 24)) ∧ (w.alloc (Obj.cells #[.int .i64 t, .int .i64 n, .slice ga gm gc] 24)).heap[w.heap.size]? = some (Obj.cells #[.int .i64 t, .int .i64 n, .slice ga gm gc] 24)) := ⟨below_alloc _ _, heap_alloc_new _ _⟩
  obtain ⟨x, HX⟩ : ∃ x, Hid (cTr t n ps ws = x) := ⟨_, (rfl : cTr t n ps ws = _)⟩
  obtain ⟨cw, HCW⟩ : ∃ cw, Hid (ckW t n ps ws = cw) := ⟨_, (rfl : ckW t n ps ws = _)⟩
  go_enter Try.func8, Try.ntmps8
  go_upto_region 1 with fail
  generalize w.alloc (Obj.cells #[.int .i64 t, .int .i64 n, .slice ga gm gc] 24) = w1 at hH1 ⊢
  have HH1 : Hid (Below w.heap.size w w1 ∧ w1.heap[w.heap.size]? = some (Obj.cells #[.int .i64 t, .int .i64 n, .slice ga gm gc] 24)) := hH1.out
  clear hH1
  go_wp2_with fail
  refine (brackets_any w1).mono ?_
  rintro _ w2 ⟨gb, rfl, hpb, hb⟩
  have HH2 : Hid (Below w.heap.size w w2 ∧ w2.heap[w.heap.size]? = some (Obj.cells #[.int .i64 t, .int .i64 n, .slice ga gm gc] 24)) := ⟨HH1.out.1.trans (hb.mono HH1.out.1.size), tbox_next HH1.out.2 hb⟩
  have HPB : Hid (Pds w2 (.slice (some ⟨gb, 0, none⟩) 2 2) brs) := hpb
  clear hpb hb HH1
  go_wp2_with fail
  have hb := below_alloc w2 (Obj.cells #[.int .i64 0, .int .i64 1] 3)
  have hc := CTrees_any 2 1 _ _ brs [0, 1] (w2.alloc (Obj.cells #[.int .i64 0, .int .i64 1] 3)) (HPB.out.below hb) (ints_blk (l := [0, 1]) (heap_alloc_new _ _) (by decide))
  rw [cTr_01, ckW_brs (by decide) (by decide)] at hc
  refine hc.mono ?_
  rintro _ w3 ⟨rfl, hb3⟩
  replace hb := hb.trans (hb3.mono hb.size)
  have HH3 : Hid (Below w.heap.size w w3 ∧ w3.heap[w.heap.size]? = some (Obj.cells #[.int .i64 t, .int .i64 n, .slice ga gm gc] 24)) := ⟨HH2.out.1.trans (hb.mono HH2.out.1.size), tbox_next HH2.out.2 hb⟩
  clear hc hb hb3 HH2 HPB
  have k0 := tcell_blk HH3.out.2 0
  have k1 := tcell_blk HH3.out.2 1
  have k2 := tcell_blk HH3.out.2 2
  simp only [List.getElem?_toArray, List.getElem?_cons_zero, List.getElem?_cons_succ] at k0 k1 k2
  have hc := CTrees_any t n _ _ ps ws w3 (HP.out.below HH3.out.1) (HI.out.below HH3.out.1)
  rw [HX.out, HCW.out] at hc
  go_wp2_with fail
  refine hc.mono ?_
  rintro _ w4 ⟨rfl, hb⟩
  have HH4 : Hid (Below w.heap.size w w4 ∧ w4.heap[w.heap.size]? = some (Obj.cells #[.int .i64 t, .int .i64 n, .slice ga gm gc] 24)) := ⟨HH3.out.1.trans (hb.mono HH3.out.1.size), tbox_next HH3.out.2 hb⟩
  clear hc hb HH3 k0 k1 k2
  by_cases hz : cw = 0
  · subst hz
    have hck := (ckW_zero HCW.out).1
    have HWL : Hid (ws.length ≤ 20) := (ckW_zero HCW.out).2.1
    have hc := Mirror_ok t n _ ps w4 (HP.out.below HH4.out.1) hck
    have k0 := tcell_blk HH4.out.2 0
    have k1 := tcell_blk HH4.out.2 1
    have k2 := tcell_blk HH4.out.2 2
    simp only [List.getElem?_toArray, List.getElem?_cons_zero, List.getElem?_cons_succ] at k0 k1 k2
    go_wp2_with fail
    refine hc.mono ?_
    rintro _ w5 ⟨g, rfl, hpt, hb⟩
    have HH5 : Hid (Below w.heap.size w w5 ∧ w5.heap[w.heap.size]? = some (Obj.cells #[.int .i64 t, .int .i64 n, .slice ga gm gc] 24)) := ⟨HH4.out.1.trans (hb.mono HH4.out.1.size), tbox_next HH4.out.2 hb⟩
    have HPT : Hid (Pds w5 (.slice (some ⟨g, 0, none⟩) ps.length ps.length) (turn ps)) := hpt
    clear hc hb HH4 k0 k1 k2 hpt hck
    obtain ⟨pl, HPLN⟩ : ∃ pl, Hid (ps.length = pl) := ⟨_, (rfl : ps.length = _)⟩
    rw [HPLN.out] at HPT ⊢
    have hb := below_alloc w5 (Obj.cells #[.int .i64 t, .int .i64 n, .slice (some ⟨g, 0, none⟩) pl pl] 24)
    have hbx := heap_alloc_new w5 (Obj.cells #[.int .i64 t, .int .i64 n, .slice (some ⟨g, 0, none⟩) pl pl] 24)
    go_upto_region 8 with fail
    obtain ⟨w6, HW6⟩ : ∃ w6, Hid (w5.alloc (Obj.cells #[.int .i64 t, .int .i64 n, .slice (some ⟨g, 0, none⟩) pl pl] 24) = w6) := ⟨_, (rfl : w5.alloc (Obj.cells #[.int .i64 t, .int .i64 n, .slice (some ⟨g, 0, none⟩) pl pl] 24) = _)⟩
    obtain ⟨fb, HFB⟩ : ∃ fb, Hid (w5.heap.size = fb) := ⟨_, (rfl : w5.heap.size = _)⟩
    rw [HW6.out] at hb hbx ⊢
    rw [HFB.out] at hbx ⊢
    have HH6 : Hid (Below w.heap.size w w6 ∧ w6.heap[w.heap.size]? = some (Obj.cells #[.int .i64 t, .int .i64 n, .slice ga gm gc] 24)) := ⟨HH5.out.1.trans (hb.mono HH5.out.1.size), tbox_next HH5.out.2 hb⟩
    have HBX6 : Hid (w6.heap[fb]? = some (Obj.cells #[.int .i64 t, .int .i64 n, .slice (some ⟨g, 0, none⟩) pl pl] 24)) := hbx
    have HPT6 : Hid (Pds w6 (.slice (some ⟨g, 0, none⟩) pl pl) (turn ps)) := HPT.out.below hb
    clear hb hbx HW6 HFB HH5 HPT
    have hc := clone_ints _ ws w6 (HI.out.below HH6.out.1) (by have := HWL.out; omega)
    rw [HLN.out] at hc
    go_wp2_with fail
    refine hc.mono ?_
    rintro _ w7 ⟨ca, cc, rfl, hown, hb⟩
    have HH7 : Hid (Below w.heap.size w w7 ∧ w7.heap[w.heap.size]? = some (Obj.cells #[.int .i64 t, .int .i64 n, .slice ga gm gc] 24)) := ⟨HH6.out.1.trans (hb.mono HH6.out.1.size), tbox_next HH6.out.2 hb⟩
    have HBX7 : Hid (w7.heap[fb]? = some (Obj.cells #[.int .i64 t, .int .i64 n, .slice (some ⟨g, 0, none⟩) pl pl] 24)) := tbox_next HBX6.out hb
    have HPT7 : Hid (Pds w7 (.slice (some ⟨g, 0, none⟩) pl pl) (turn ps)) := HPT6.out.below hb
    have HSZ : Hid (w.heap.size < w6.heap.size ∧ fb < w6.heap.size) := ⟨heap_lt3 HH6.out.2, heap_lt3 HBX6.out⟩
    have HPT6W : Hid (Pds w6 (.slice (some ⟨g, 0, none⟩) pl pl) (turn ps)) := HPT6.out
    have HH7W : Hid (Below w6.heap.size w6 w7) := hb
    clear hc hb HBX6 HPT6
    have hc := reverse_any w6.heap.size ca ln cc ws w7 (by rw [HLN.out]; exact hown) (by have := HWL.out; omega)
    go_wp2_with fail
    refine hc.mono ?_
    rintro _ w8 ⟨rfl, hb8, hnm⟩
    have HB8 : Hid (Below w.heap.size w w8) := HH7.out.1.trans (hb8.mono (by have := HH6.out.1.size; omega))
    have HBX8 : Hid (w8.heap[fb]? = some (Obj.cells #[.int .i64 t, .int .i64 n, .slice (some ⟨g, 0, none⟩) pl pl] 24)) := (hb8.block _ HSZ.out.2).trans HBX7.out
    have HNM : Hid (Ints w8 (.slice ca ln cc) ws.reverse) := hnm
    have HPT8 : Hid (Pds w8 (.slice (some ⟨g, 0, none⟩) pl pl) (turn ps)) := HPT6W.out.below (HH7W.out.trans hb8)
    clear hc hb8 hnm hown HBX7 HPT7 HH6
    have k0 := tcell_blk HBX8.out 0
    have k1 := tcell_blk HBX8.out 1
    have k2 := tcell_blk HBX8.out 2
    simp only [List.getElem?_toArray, List.getElem?_cons_zero, List.getElem?_cons_succ] at k0 k1 k2
    have hc := CTrees_any t n _ _ (turn ps) ws.reverse w8 HPT8.out HNM.out
    rw [cTr_turn HCW.out, ckW_turn HCW.out, HX.out] at hc
    go_wp2_with fail
    refine hc.mono ?_
    rintro _ w9 ⟨rfl, hb⟩
    have HB9 : Hid (Below w.heap.size w w9) := HB8.out.trans (hb.mono HB8.out.size)
    clear hc hb k0 k1 k2
    have hxx : ((x : Int) == (x : Int)) = true := by simp
    go_wp2_with fail
    go_ret
    exact ⟨by simp, HB9.out⟩
  · obtain rfl : x = 0 := by rw [← HX.out]; unfold cTr; rw [if_neg (by rw [HCW.out]; exact hz)]
    have hb0 : (cw != 0) = true := by simp; exact hz
    go_wp2_with fail
    go_ret
    exact ⟨by simp, HH4.out.1⟩

/-! ### What the walk gives, for every argument -/
set_option maxRecDepth 100000 in
theorem contract (H : Type) (enc : TypeId × Value → H) (W : World) (base : Nat) (args : Array Value) (ds gs : List (DataW H)) (before : List MemPlace)
    (hval : ∀ (j : Nat) t v, Try.f8.params[j]? = some t → args[j]? = some v → Value.okWide Try.prog W .any base t v)
    (hW : DataW.Whole enc Try.prog Try.f8.params.toList Rows.countMirrorSpec.vars false W args.toList ds gs before) (hsz : (DataW.weightsEach Try.prog (Try.f8.params.toList ++ Rows.countMirrorSpec.plain.varTypes Try.prog) (ds ++ gs)).all (· ≤ reachBytes) = true) :
    Calls Try.prog 8 args W fun e W' => ∃ v, e = .returned v ∧ Rows.countMirrorSpec.post enc Try.prog Try.f8 false true false false W args v W' := by
  have hW' := hW
  obtain ⟨p, q, hA0, hV, rfl, hfz, hnd⟩ := hW
  have hA : DataW.TrodAll enc Try.prog W 0 (fun _ => true) true Try.f8.params.toList args.toList ds p := hA0
  rw [Try.params8] at hA hval hsz
  obtain ⟨v0, vs0, d0, ds0, p0, q0, hargs, rfl, rfl, h0, r0⟩ := trodAll_cons hA
  obtain ⟨v1, vs1, d1, ds1, p1, q1, rfl, rfl, rfl, h1, r1⟩ := trodAll_cons r0
  obtain ⟨rfl, rfl, rfl⟩ := trodAll_nil r1
  obtain rfl : args = #[v0, v1] := by cases args; simp_all
  obtain ⟨rfl, rfl⟩ := trodVars_none hV
  have k0 := h0
  have lt0 : ∀ x ∈ p0, x.block < W.heap.size := by obtain ⟨m, hm⟩ := k0; exact DataW.trod_lt m _ _ _ hm
  obtain ⟨a0t, a0n, a0s, a0p, rfl, w0s⟩ := open_gram (hval 0 24 v0 rfl rfl) h0
  have k1 := h1
  have lt1 : ∀ x ∈ p1, x.block < W.heap.size := by obtain ⟨m, hm⟩ := k1; exact DataW.trod_lt m _ _ _ hm
  obtain ⟨a1l, w1s⟩ := open_intsv (hval 1 25 v1 rfl rfl) h1
  clear hA0
  refine (walk a0t a0n a0s a0p _ a1l W w0s w1s).mono fun e W' ⟨he, bel⟩ => ?_
  subst he
  exact ⟨_, rfl, _, _, _, [], _, [], hW', trodAll_mk1 (shut_bool Try.underlying4 _), (trodAll_cons_mk (Below.trod laidOut (by kernel_rfl) (of_decide_eq_true (by kernel_rfl)) k0 bel lt0) (trodAll_cons_mk (Below.trod laidOut (by kernel_rfl) (of_decide_eq_true (by kernel_rfl)) k1 bel lt1) trodAll_mk0)), rfl, bel.frame _, fun h => by cases h⟩

/-! ### The row's step -/
set_option maxRecDepth 100000 in
theorem lifted (os : Os) (started : os.Started) (H : Type) (enc : TypeId × Value → H) :
    ReturnsInHanded {} Try.checked os 8 .any (Rows.countMirrorSpec.pre6 enc Try.prog Try.f8 Rows.countMirrorRow.domain false) (Rows.countMirrorSpec.post enc Try.prog Try.f8 false true false false) := by
  refine returnsInHanded_of_change_sized (C := Try.checked) own started (by kernel_rfl) Try.func8
    (ChangeSpec.witness6 (enc := enc) (C := Try.checked) false ⟨#[], #[.agg #[.int .i64 0, .int .i64 0, .slice none 0 0], .slice none 0 0], []⟩ 8 (by kernel_rfl) (by kernel_rfl) (by kernel_rfl) (by kernel_rfl)) ?_
  intro W base args ds gs before hval hW hcnd hsz _
  exact contract H enc W base args ds gs before hval hW hsz

theorem over : Rows.countMirrorRow.holds Try.pinned (OpenSpec.ofChange Rows.countMirrorSpec) :=
  OpenClaim.holds_of_wide 8 Try.f8 rfl rfl rfl rfl rfl rfl rfl ⟨rfl, rfl, rfl, rfl, rfl⟩ rfl rfl rfl rfl rfl (by kernel_rfl) Try.func8 (by kernel_rfl)
    (of_decide_eq_true (by kernel_rfl)) (by unfold Func.isWrapper; first | (rw [if_pos (by decide +kernel)]; kernel_rfl) | (rw [if_neg (by decide +kernel)]; exact ⟨rfl, rfl⟩))
    (fun os started H enc _ => lifted os started H enc)

end Go.Proofs.Ytmcmidfpglhnmaa.countMirror
namespace Go.Proofs.Ytmcmidfpglhnmaa
/-- The given statement. -/
theorem countMirror_holds : Rows.CountMirrorSaid := countMirror.over
#print axioms countMirror_holds
end Go.Proofs.Ytmcmidfpglhnmaa
