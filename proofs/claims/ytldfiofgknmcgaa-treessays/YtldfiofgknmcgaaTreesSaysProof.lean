/-
  TreesSays returns true whatever grammar and tree are handed in, and changes nothing that it was handed; no condition.
-/
import Derived.Test.YtldfiofgknmcgaaRows
import Derived.WalkKit
import Derived.ProofKit
import Derived.OpenShut
import Derived.ShutString
import Derived.SizedLaws
import Derived.ChangeOld
import Derived.Below
import Derived.Carry
import Derived.WalkLawsBesides
import Derived.WalkSpells
import Derived.Test.YtldfiofgknmcgaaOpens
import Derived.Deep.Cut
import Derived.Test.YtldfiofgknmcgaaTrYield
import Derived.Test.YtldfiofgknmcgaaTrRTree
import Derived.Test.YtldfiofgknmcgaaTrRYield
import Derived.Test.YtldfiofgknmcgaaTrEvents
import Derived.Test.YtldfiofgknmcgaaTrEq
namespace Go.Proofs.Ytldfiofgknmcgaa.treesSays
open Go.ChangeShapes Go.WideShapes Go.ChangeAt Go.RowKit
open Go.ChangeMaps (open_string shut_string)
open Cg
set_option linter.unusedVariables false

theorem own : ownKnob Try.prog.godebug = none := by kernel_rfl
theorem laidOut : laidOutB Try.prog = true := by kernel_rfl

/-! ### The walk: the Go text returns true. -/
set_option maxHeartbeats 16000000 in
set_option maxRecDepth 20000 in
theorem walk (a0t : Int) (a0n : Int) (a0s : Value) (a0p : List Pd) (v1 : Value) (a1x : T) (w : World) (w0s : Pds w a0s a0p) (w1s : Tx w (fun _ => True) v1 a1x) :
    Calls Try.prog 3 #[.agg #[.int .i64 a0t, .int .i64 a0n, a0s], v1] w fun e w' => e = .returned (.bool true) ∧ Below w.heap.size w w' := by
  have HP : Hid (Pds w a0s a0p) := w0s
  have HX : Hid (Tx w (fun _ => True) v1 a1x) := w1s
  obtain ⟨ga, gc, rfl, -, -⟩ := w0s
  obtain ⟨p, k, ao, cap, kids, vals, rfl, rfl, -⟩ := w1s.shape
  clear w1s
  obtain ⟨gm, HGM⟩ : ∃ gm, Hid (a0p.length = gm) := ⟨_, (rfl : a0p.length = _)⟩
  obtain ⟨tn, HTN⟩ : ∃ tn, Hid (kids.length = tn) := ⟨_, (rfl : kids.length = _)⟩
  rw [HGM.out] at HP ⊢
  rw [HTN.out] at HX ⊢
  obtain ⟨x, HXT⟩ : ∃ x, Hid (T.mk p k kids = x) := ⟨_, (rfl : T.mk p k kids = _)⟩
  rw [HXT.out] at HX
  revert HP HX HGM
  generalize a0t = t
  generalize a0n = n
  generalize a0p = ps
  intro _ _ _
  rename Hid (Pds _ _ _) => HP
  rename Hid (Tx _ _ _ _) => HX
  obtain ⟨er, HER⟩ : ∃ er, Hid (errT t n ps x = er) := ⟨_, (rfl : errT t n ps x = _)⟩
  obtain ⟨ce, HCE⟩ : ∃ ce, Hid (chk t n ps = ce) := ⟨_, (rfl : chk t n ps = _)⟩
  have HH1 : Hid (Below w.heap.size w ((w.alloc (Obj.cells #[.int .i64 t, .int .i64 n, .slice ga gm gc] 24)).alloc (Obj.cells #[.int .i64 p, .int .i64 k, .slice ao tn cap] 27)) ∧ Yh w.heap.size t n ga gm gc p k ao tn cap ((w.alloc (Obj.cells #[.int .i64 t, .int .i64 n, .slice ga gm gc] 24)).alloc (Obj.cells #[.int .i64 p, .int .i64 k, .slice ao tn cap] 27))) := by
    refine ⟨below_alloc2 _ _ _, tbox_next (heap_alloc_new _ _) (below_alloc _ _), ?_⟩
    have := heap_alloc_new (w.alloc (Obj.cells #[.int .i64 t, .int .i64 n, .slice ga gm gc] 24)) (Obj.cells #[.int .i64 p, .int .i64 k, .slice ao tn cap] 27)
    rw [show (w.alloc (Obj.cells #[.int .i64 t, .int .i64 n, .slice ga gm gc] 24)).heap.size = w.heap.size + 1 by simp] at this
    exact this
  obtain ⟨w1, HW1⟩ : ∃ w1, Hid ((w.alloc (Obj.cells #[.int .i64 t, .int .i64 n, .slice ga gm gc] 24)).alloc (Obj.cells #[.int .i64 p, .int .i64 k, .slice ao tn cap] 27) = w1) := ⟨_, (rfl : (w.alloc (Obj.cells #[.int .i64 t, .int .i64 n, .slice ga gm gc] 24)).alloc (Obj.cells #[.int .i64 p, .int .i64 k, .slice ao tn cap] 27) = _)⟩
  go_enter Try.func3, Try.ntmps3
  go_upto_region 1 with fail
  rw [HW1.out] at HH1 ⊢
  clear HW1
  have k0 := tcell_blk HH1.out.2.1 0
  have k1 := tcell_blk HH1.out.2.1 1
  have k2 := tcell_blk HH1.out.2.1 2
  have l0 := tcell_blk HH1.out.2.2 0
  have l1 := tcell_blk HH1.out.2.2 1
  have l2 := tcell_blk HH1.out.2.2 2
  simp only [List.getElem?_toArray, List.getElem?_cons_zero, List.getElem?_cons_succ] at k0 k1 k2 l0 l1 l2
  have hc := Cfg_any t n (.slice ga gm gc) ps w1 (HP.out.below HH1.out.1)
  go_wp2_with fail
  refine hc.mono ?_
  rintro _ w2 ⟨rfl, hb⟩
  have HH2 : Hid (Below w.heap.size w w2 ∧ Yh w.heap.size t n ga gm gc p k ao tn cap w2) := ⟨HH1.out.1.trans (hb.mono HH1.out.1.size), HH1.out.2.next hb⟩
  rw [HCE.out]
  clear hc hb HH1 k0 k1 k2 l0 l1 l2
  by_cases hz : ce = 0
  · subst hz
    have HE1 : Hid (((thr ps x (2, 0) 1 0 []).1 : Int) = er) := by show _ = _; rw [← HER.out]; unfold errT; rw [if_pos HCE.out]
    have k0 := tcell_blk HH2.out.2.1 0
    have k1 := tcell_blk HH2.out.2.1 1
    have k2 := tcell_blk HH2.out.2.1 2
    have l0 := tcell_blk HH2.out.2.2 0
    have l1 := tcell_blk HH2.out.2.2 1
    have l2 := tcell_blk HH2.out.2.2 2
    simp only [List.getElem?_toArray, List.getElem?_cons_zero, List.getElem?_cons_succ] at k0 k1 k2 l0 l1 l2
    have hc := RTree_any t n (.slice ga gm gc) ps (.agg #[.int .i64 p, .int .i64 k, .slice ao tn cap]) x (fun _ => True) w2 (HP.out.below HH2.out.1) (HX.out.bel HH2.out.1)
    go_wp2_with fail
    refine hc.mono ?_
    rintro _ w3 ⟨rfl, hb⟩
    have HH3 : Hid (Below w.heap.size w w3 ∧ Yh w.heap.size t n ga gm gc p k ao tn cap w3) := ⟨HH2.out.1.trans (hb.mono HH2.out.1.size), HH2.out.2.next hb⟩
    rw [HE1.out]
    clear hc hb HH2 k0 k1 k2 l0 l1 l2
    by_cases hr : er = 0
    · subst hr
      have h3 : (thr ps x (2, 0) 1 0 []).1 = 0 := by have := HE1.out; omega
      have h4 := thr_fwd (ps := ps) (t := x) (s := (2, 0)) (d := 1) (n := 0) (ws := []) (n' := (thr ps x (2, 0) 1 0 []).2.1) (ws' := (thr ps x (2, 0) 1 0 []).2.2) (trip h3)
      have HSH : Hid (sh ps x (2, 0) = true) := h4.1
      have HWD : Hid (wordT ps x = yl ps x (2, 0)) := by show _ = _; unfold wordT; rw [h4.2.2.2.2.2.1]; rfl
      have HLEN : Hid ((evD x).length ≤ 100000 ∧ (evU x).length ≤ 100000 ∧ (wordT ps x).length ≤ 100000) := by
        have h5 := ev_len x
        have h6 := h4.2.2.2.2.2.2
        rw [← HWD.out] at h6
        show _ ∧ _ ∧ _
        omega
      clear h3 h4
      have k0 := tcell_blk HH3.out.2.1 0
      have k1 := tcell_blk HH3.out.2.1 1
      have k2 := tcell_blk HH3.out.2.1 2
      have l0 := tcell_blk HH3.out.2.2 0
      have l1 := tcell_blk HH3.out.2.2 1
      have l2 := tcell_blk HH3.out.2.2 2
      simp only [List.getElem?_toArray, List.getElem?_cons_zero, List.getElem?_cons_succ] at k0 k1 k2 l0 l1 l2
      have hc := Yield_any t n (.slice ga gm gc) ps (.agg #[.int .i64 p, .int .i64 k, .slice ao tn cap]) x (fun _ => True) w3 (HP.out.below HH3.out.1) (HX.out.bel HH3.out.1)
      go_wp2_with fail
      refine hc.mono ?_
      rintro _ w4 ⟨a0, n0, c0, rfl, hb, hq⟩
      have HH4 : Hid (Below w.heap.size w w4 ∧ Yh w.heap.size t n ga gm gc p k ao tn cap w4) := ⟨HH3.out.1.trans (hb.mono HH3.out.1.size), HH3.out.2.next hb⟩
      rw [HER.out]
      rw [HER.out, if_pos rfl] at hq
      have HL0_4 : Hid (Nms w4 (.slice a0 n0 c0) (wordT ps x)) := nms_of_own hq (by have := HLEN.out; omega)
      clear hc hb HH3 k0 k1 k2 l0 l1 l2 hq
      have k0 := tcell_blk HH4.out.2.1 0
      have k1 := tcell_blk HH4.out.2.1 1
      have k2 := tcell_blk HH4.out.2.1 2
      have l0 := tcell_blk HH4.out.2.2 0
      have l1 := tcell_blk HH4.out.2.2 1
      have l2 := tcell_blk HH4.out.2.2 2
      simp only [List.getElem?_toArray, List.getElem?_cons_zero, List.getElem?_cons_succ] at k0 k1 k2 l0 l1 l2
      have hc := Down_any t n (.slice ga gm gc) ps (.agg #[.int .i64 p, .int .i64 k, .slice ao tn cap]) x (fun _ => True) w4 (HP.out.below HH4.out.1) (HX.out.bel HH4.out.1)
      go_wp2_with fail
      refine hc.mono ?_
      rintro _ w5 ⟨a1, n1, c1, rfl, hb, hq⟩
      have HH5 : Hid (Below w.heap.size w w5 ∧ Yh w.heap.size t n ga gm gc p k ao tn cap w5) := ⟨HH4.out.1.trans (hb.mono HH4.out.1.size), HH4.out.2.next hb⟩
      rw [HER.out]
      rw [HER.out, if_pos rfl] at hq
      have HL1_5 : Hid (Evs w5 (.slice a1 n1 c1) (evD x)) := evs_of_own hq (by have := HLEN.out; omega)
      have HL0_5 : Hid (Nms w5 (.slice a0 n0 c0) (wordT ps x)) := HL0_4.out.below hb
      clear hc hb HH4 k0 k1 k2 l0 l1 l2 hq HL0_4
      have k0 := tcell_blk HH5.out.2.1 0
      have k1 := tcell_blk HH5.out.2.1 1
      have k2 := tcell_blk HH5.out.2.1 2
      have l0 := tcell_blk HH5.out.2.2 0
      have l1 := tcell_blk HH5.out.2.2 1
      have l2 := tcell_blk HH5.out.2.2 2
      simp only [List.getElem?_toArray, List.getElem?_cons_zero, List.getElem?_cons_succ] at k0 k1 k2 l0 l1 l2
      have hc := Up_any t n (.slice ga gm gc) ps (.agg #[.int .i64 p, .int .i64 k, .slice ao tn cap]) x (fun _ => True) w5 (HP.out.below HH5.out.1) (HX.out.bel HH5.out.1)
      go_wp2_with fail
      refine hc.mono ?_
      rintro _ w6 ⟨a2, n2, c2, rfl, hb, hq⟩
      have HH6 : Hid (Below w.heap.size w w6 ∧ Yh w.heap.size t n ga gm gc p k ao tn cap w6) := ⟨HH5.out.1.trans (hb.mono HH5.out.1.size), HH5.out.2.next hb⟩
      rw [HER.out]
      rw [HER.out, if_pos rfl] at hq
      have HL2_6 : Hid (Evs w6 (.slice a2 n2 c2) (evU x)) := evs_of_own hq (by have := HLEN.out; omega)
      have HL0_6 : Hid (Nms w6 (.slice a0 n0 c0) (wordT ps x)) := HL0_5.out.below hb
      have HL1_6 : Hid (Evs w6 (.slice a1 n1 c1) (evD x)) := HL1_5.out.below hb
      clear hc hb HH5 k0 k1 k2 l0 l1 l2 hq HL0_5 HL1_5
      have k0 := tcell_blk HH6.out.2.1 0
      have k1 := tcell_blk HH6.out.2.1 1
      have k2 := tcell_blk HH6.out.2.1 2
      have l0 := tcell_blk HH6.out.2.2 0
      have l1 := tcell_blk HH6.out.2.2 1
      have l2 := tcell_blk HH6.out.2.2 2
      simp only [List.getElem?_toArray, List.getElem?_cons_zero, List.getElem?_cons_succ] at k0 k1 k2 l0 l1 l2
      have hc := TCheck_any t n (.slice ga gm gc) ps (.agg #[.int .i64 p, .int .i64 k, .slice ao tn cap]) x (fun _ => True) w6 (HP.out.below HH6.out.1) (HX.out.bel HH6.out.1)
      go_wp2_with fail
      refine hc.mono ?_
      rintro _ w7 ⟨rfl, hb⟩
      have HH7 : Hid (Below w.heap.size w w7 ∧ Yh w.heap.size t n ga gm gc p k ao tn cap w7) := ⟨HH6.out.1.trans (hb.mono HH6.out.1.size), HH6.out.2.next hb⟩
      rw [HER.out]
      have HL0_7 : Hid (Nms w7 (.slice a0 n0 c0) (wordT ps x)) := HL0_6.out.below hb
      have HL1_7 : Hid (Evs w7 (.slice a1 n1 c1) (evD x)) := HL1_6.out.below hb
      have HL2_7 : Hid (Evs w7 (.slice a2 n2 c2) (evU x)) := HL2_6.out.below hb
      clear hc hb HH6 k0 k1 k2 l0 l1 l2 HL0_6 HL1_6 HL2_6
      have k0 := tcell_blk HH7.out.2.1 0
      have k1 := tcell_blk HH7.out.2.1 1
      have k2 := tcell_blk HH7.out.2.1 2
      have l0 := tcell_blk HH7.out.2.2 0
      have l1 := tcell_blk HH7.out.2.2 1
      have l2 := tcell_blk HH7.out.2.2 2
      simp only [List.getElem?_toArray, List.getElem?_cons_zero, List.getElem?_cons_succ] at k0 k1 k2 l0 l1 l2
      have hc := RYield_all ps (fun _ => True) t n x.sz x (Nat.le_refl _) (.slice ga gm gc) (.agg #[.int .i64 p, .int .i64 k, .slice ao tn cap]) (2, 0) w7 (HP.out.below HH7.out.1) (HX.out.bel HH7.out.1) HSH.out (by decide) (by have := HLEN.out; rw [HWD.out] at this; omega)
      go_wp2_with fail
      refine hc.mono ?_
      rintro _ w8 ⟨ra, rn, rc, rfl, hd⟩
      have hb := hd.bel
      have HH8 : Hid (Below w.heap.size w w8 ∧ Yh w.heap.size t n ga gm gc p k ao tn cap w8) := ⟨HH7.out.1.trans (hb.mono HH7.out.1.size), HH7.out.2.next hb⟩
      have HR : Hid (Nms w8 (.slice ra rn rc) (wordT ps x)) := by show Nms _ _ _; rw [HWD.out]; exact nms_of_own hd.own (by have := HLEN.out; rw [HWD.out] at this; omega)
      have HL0_8 : Hid (Nms w8 (.slice a0 n0 c0) (wordT ps x)) := HL0_7.out.below hb
      have HL1_8 : Hid (Evs w8 (.slice a1 n1 c1) (evD x)) := HL1_7.out.below hb
      have HL2_8 : Hid (Evs w8 (.slice a2 n2 c2) (evU x)) := HL2_7.out.below hb
      clear hc hb HH7 k0 k1 k2 l0 l1 l2 hd HL0_7 HL1_7 HL2_7
      have k0 := tcell_blk HH8.out.2.1 0
      have k1 := tcell_blk HH8.out.2.1 1
      have k2 := tcell_blk HH8.out.2.1 2
      have l0 := tcell_blk HH8.out.2.2 0
      have l1 := tcell_blk HH8.out.2.2 1
      have l2 := tcell_blk HH8.out.2.2 2
      simp only [List.getElem?_toArray, List.getElem?_cons_zero, List.getElem?_cons_succ] at k0 k1 k2 l0 l1 l2
      have hc := equalI_same (.slice a0 n0 c0) (.slice ra rn rc) (wordT ps x) w8 HL0_8.out HR.out
      go_wp2_with fail
      refine hc.mono ?_
      rintro _ w9 ⟨rfl, hb⟩
      have HH9 : Hid (Below w.heap.size w w9 ∧ Yh w.heap.size t n ga gm gc p k ao tn cap w9) := ⟨HH8.out.1.trans (hb.mono HH8.out.1.size), HH8.out.2.next hb⟩
      have HL1_9 : Hid (Evs w9 (.slice a1 n1 c1) (evD x)) := HL1_8.out.below hb
      have HL2_9 : Hid (Evs w9 (.slice a2 n2 c2) (evU x)) := HL2_8.out.below hb
      clear hc hb HH8 k0 k1 k2 l0 l1 l2 HR HL0_8 HL1_8 HL2_8
      have k0 := tcell_blk HH9.out.2.1 0
      have k1 := tcell_blk HH9.out.2.1 1
      have k2 := tcell_blk HH9.out.2.1 2
      have l0 := tcell_blk HH9.out.2.2 0
      have l1 := tcell_blk HH9.out.2.2 1
      have l2 := tcell_blk HH9.out.2.2 2
      simp only [List.getElem?_toArray, List.getElem?_cons_zero, List.getElem?_cons_succ] at k0 k1 k2 l0 l1 l2
      have hc := RevD_all ps (fun _ => True) x.sz x (Nat.le_refl _) (.agg #[.int .i64 p, .int .i64 k, .slice ao tn cap]) (2, 0) w9 (HX.out.bel HH9.out.1) HSH.out (by have := HLEN.out; omega)
      go_wp2_with fail
      refine hc.mono ?_
      rintro _ w10 ⟨ra, rn, rc, rfl, hd⟩
      have hb := hd.bel
      have HH10 : Hid (Below w.heap.size w w10 ∧ Yh w.heap.size t n ga gm gc p k ao tn cap w10) := ⟨HH9.out.1.trans (hb.mono HH9.out.1.size), HH9.out.2.next hb⟩
      have HR : Hid (Evs w10 (.slice ra rn rc) (evD x)) := evs_of_own hd.own (by have := HLEN.out; omega)
      have HL1_10 : Hid (Evs w10 (.slice a1 n1 c1) (evD x)) := HL1_9.out.below hb
      have HL2_10 : Hid (Evs w10 (.slice a2 n2 c2) (evU x)) := HL2_9.out.below hb
      clear hc hb HH9 k0 k1 k2 l0 l1 l2 hd HL1_9 HL2_9
      have k0 := tcell_blk HH10.out.2.1 0
      have k1 := tcell_blk HH10.out.2.1 1
      have k2 := tcell_blk HH10.out.2.1 2
      have l0 := tcell_blk HH10.out.2.2 0
      have l1 := tcell_blk HH10.out.2.2 1
      have l2 := tcell_blk HH10.out.2.2 2
      simp only [List.getElem?_toArray, List.getElem?_cons_zero, List.getElem?_cons_succ] at k0 k1 k2 l0 l1 l2
      have hc := equalE_same (.slice a1 n1 c1) (.slice ra rn rc) (evD x) w10 HL1_10.out HR.out
      go_wp2_with fail
      refine hc.mono ?_
      rintro _ w11 ⟨rfl, hb⟩
      have HH11 : Hid (Below w.heap.size w w11 ∧ Yh w.heap.size t n ga gm gc p k ao tn cap w11) := ⟨HH10.out.1.trans (hb.mono HH10.out.1.size), HH10.out.2.next hb⟩
      have HL2_11 : Hid (Evs w11 (.slice a2 n2 c2) (evU x)) := HL2_10.out.below hb
      clear hc hb HH10 k0 k1 k2 l0 l1 l2 HR HL1_10 HL2_10
      have k0 := tcell_blk HH11.out.2.1 0
      have k1 := tcell_blk HH11.out.2.1 1
      have k2 := tcell_blk HH11.out.2.1 2
      have l0 := tcell_blk HH11.out.2.2 0
      have l1 := tcell_blk HH11.out.2.2 1
      have l2 := tcell_blk HH11.out.2.2 2
      simp only [List.getElem?_toArray, List.getElem?_cons_zero, List.getElem?_cons_succ] at k0 k1 k2 l0 l1 l2
      have hc := RevU_all ps (fun _ => True) x.sz x (Nat.le_refl _) (.agg #[.int .i64 p, .int .i64 k, .slice ao tn cap]) (2, 0) w11 (HX.out.bel HH11.out.1) HSH.out (by have := HLEN.out; omega)
      go_wp2_with fail
      refine hc.mono ?_
      rintro _ w12 ⟨ra, rn, rc, rfl, hd⟩
      have hb := hd.bel
      have HH12 : Hid (Below w.heap.size w w12 ∧ Yh w.heap.size t n ga gm gc p k ao tn cap w12) := ⟨HH11.out.1.trans (hb.mono HH11.out.1.size), HH11.out.2.next hb⟩
      have HR : Hid (Evs w12 (.slice ra rn rc) (evU x)) := evs_of_own hd.own (by have := HLEN.out; omega)
      have HL2_12 : Hid (Evs w12 (.slice a2 n2 c2) (evU x)) := HL2_11.out.below hb
      clear hc hb HH11 k0 k1 k2 l0 l1 l2 hd HL2_11
      have k0 := tcell_blk HH12.out.2.1 0
      have k1 := tcell_blk HH12.out.2.1 1
      have k2 := tcell_blk HH12.out.2.1 2
      have l0 := tcell_blk HH12.out.2.2 0
      have l1 := tcell_blk HH12.out.2.2 1
      have l2 := tcell_blk HH12.out.2.2 2
      simp only [List.getElem?_toArray, List.getElem?_cons_zero, List.getElem?_cons_succ] at k0 k1 k2 l0 l1 l2
      have hc := equalE_same (.slice a2 n2 c2) (.slice ra rn rc) (evU x) w12 HL2_12.out HR.out
      go_wp2_with fail
      refine hc.mono ?_
      rintro _ w13 ⟨rfl, hb⟩
      have HH13 : Hid (Below w.heap.size w w13 ∧ Yh w.heap.size t n ga gm gc p k ao tn cap w13) := ⟨HH12.out.1.trans (hb.mono HH12.out.1.size), HH12.out.2.next hb⟩
      clear hc hb HH12 k0 k1 k2 l0 l1 l2 HR HL2_12
      go_wp2_with fail
      go_ret
      exact ⟨by simp, HH13.out.1⟩
    · have HNZ : Hid (¬ er = 0) := hr
      have hb1 : (er != 0) = true := by simp; exact hr
      clear hr
      have k0 := tcell_blk HH3.out.2.1 0
      have k1 := tcell_blk HH3.out.2.1 1
      have k2 := tcell_blk HH3.out.2.1 2
      have l0 := tcell_blk HH3.out.2.2 0
      have l1 := tcell_blk HH3.out.2.2 1
      have l2 := tcell_blk HH3.out.2.2 2
      simp only [List.getElem?_toArray, List.getElem?_cons_zero, List.getElem?_cons_succ] at k0 k1 k2 l0 l1 l2
      have hc := Yield_any t n (.slice ga gm gc) ps (.agg #[.int .i64 p, .int .i64 k, .slice ao tn cap]) x (fun _ => True) w3 (HP.out.below HH3.out.1) (HX.out.bel HH3.out.1)
      go_wp2_with fail
      refine hc.mono ?_
      rintro _ w4 ⟨a0, n0, c0, rfl, hb, hq⟩
      have HH4 : Hid (Below w.heap.size w w4 ∧ Yh w.heap.size t n ga gm gc p k ao tn cap w4) := ⟨HH3.out.1.trans (hb.mono HH3.out.1.size), HH3.out.2.next hb⟩
      rw [HER.out]
      rw [HER.out, if_neg HNZ.out] at hq
      simp only [Value.slice.injEq] at hq
      obtain ⟨rfl, rfl, rfl⟩ := hq
      clear hc hb HH3 k0 k1 k2 l0 l1 l2
      have k0 := tcell_blk HH4.out.2.1 0
      have k1 := tcell_blk HH4.out.2.1 1
      have k2 := tcell_blk HH4.out.2.1 2
      have l0 := tcell_blk HH4.out.2.2 0
      have l1 := tcell_blk HH4.out.2.2 1
      have l2 := tcell_blk HH4.out.2.2 2
      simp only [List.getElem?_toArray, List.getElem?_cons_zero, List.getElem?_cons_succ] at k0 k1 k2 l0 l1 l2
      have hc := Down_any t n (.slice ga gm gc) ps (.agg #[.int .i64 p, .int .i64 k, .slice ao tn cap]) x (fun _ => True) w4 (HP.out.below HH4.out.1) (HX.out.bel HH4.out.1)
      go_wp2_with fail
      refine hc.mono ?_
      rintro _ w5 ⟨a1, n1, c1, rfl, hb, hq⟩
      have HH5 : Hid (Below w.heap.size w w5 ∧ Yh w.heap.size t n ga gm gc p k ao tn cap w5) := ⟨HH4.out.1.trans (hb.mono HH4.out.1.size), HH4.out.2.next hb⟩
      rw [HER.out]
      rw [HER.out, if_neg HNZ.out] at hq
      simp only [Value.slice.injEq] at hq
      obtain ⟨rfl, rfl, rfl⟩ := hq
      clear hc hb HH4 k0 k1 k2 l0 l1 l2
      have k0 := tcell_blk HH5.out.2.1 0
      have k1 := tcell_blk HH5.out.2.1 1
      have k2 := tcell_blk HH5.out.2.1 2
      have l0 := tcell_blk HH5.out.2.2 0
      have l1 := tcell_blk HH5.out.2.2 1
      have l2 := tcell_blk HH5.out.2.2 2
      simp only [List.getElem?_toArray, List.getElem?_cons_zero, List.getElem?_cons_succ] at k0 k1 k2 l0 l1 l2
      have hc := Up_any t n (.slice ga gm gc) ps (.agg #[.int .i64 p, .int .i64 k, .slice ao tn cap]) x (fun _ => True) w5 (HP.out.below HH5.out.1) (HX.out.bel HH5.out.1)
      go_wp2_with fail
      refine hc.mono ?_
      rintro _ w6 ⟨a2, n2, c2, rfl, hb, hq⟩
      have HH6 : Hid (Below w.heap.size w w6 ∧ Yh w.heap.size t n ga gm gc p k ao tn cap w6) := ⟨HH5.out.1.trans (hb.mono HH5.out.1.size), HH5.out.2.next hb⟩
      rw [HER.out]
      rw [HER.out, if_neg HNZ.out] at hq
      simp only [Value.slice.injEq] at hq
      obtain ⟨rfl, rfl, rfl⟩ := hq
      clear hc hb HH5 k0 k1 k2 l0 l1 l2
      have k0 := tcell_blk HH6.out.2.1 0
      have k1 := tcell_blk HH6.out.2.1 1
      have k2 := tcell_blk HH6.out.2.1 2
      have l0 := tcell_blk HH6.out.2.2 0
      have l1 := tcell_blk HH6.out.2.2 1
      have l2 := tcell_blk HH6.out.2.2 2
      simp only [List.getElem?_toArray, List.getElem?_cons_zero, List.getElem?_cons_succ] at k0 k1 k2 l0 l1 l2
      have hc := TCheck_any t n (.slice ga gm gc) ps (.agg #[.int .i64 p, .int .i64 k, .slice ao tn cap]) x (fun _ => True) w6 (HP.out.below HH6.out.1) (HX.out.bel HH6.out.1)
      go_wp2_with fail
      refine hc.mono ?_
      rintro _ w7 ⟨rfl, hb⟩
      have HH7 : Hid (Below w.heap.size w w7 ∧ Yh w.heap.size t n ga gm gc p k ao tn cap w7) := ⟨HH6.out.1.trans (hb.mono HH6.out.1.size), HH6.out.2.next hb⟩
      rw [HER.out]
      clear hc hb HH6 k0 k1 k2 l0 l1 l2
      go_wp2_with fail
      go_ret
      exact ⟨by simp, HH7.out.1⟩
  · have HE1 : Hid (ce = er) := by show _ = _; rw [← HER.out]; unfold errT; rw [if_neg (by rw [HCE.out]; exact hz)]; exact HCE.out.symm
    rw [HE1.out] at hz ⊢
    have HNZ : Hid (¬ er = 0) := hz
    have hb1 : (er != 0) = true := by simp; exact hz
    have hb2 : (er == 0) = false := by simp; exact hz
    clear hz
    have k0 := tcell_blk HH2.out.2.1 0
    have k1 := tcell_blk HH2.out.2.1 1
    have k2 := tcell_blk HH2.out.2.1 2
    have l0 := tcell_blk HH2.out.2.2 0
    have l1 := tcell_blk HH2.out.2.2 1
    have l2 := tcell_blk HH2.out.2.2 2
    simp only [List.getElem?_toArray, List.getElem?_cons_zero, List.getElem?_cons_succ] at k0 k1 k2 l0 l1 l2
    have hc := Yield_any t n (.slice ga gm gc) ps (.agg #[.int .i64 p, .int .i64 k, .slice ao tn cap]) x (fun _ => True) w2 (HP.out.below HH2.out.1) (HX.out.bel HH2.out.1)
    go_wp2_with fail
    refine hc.mono ?_
    rintro _ w3 ⟨a0, n0, c0, rfl, hb, hq⟩
    have HH3 : Hid (Below w.heap.size w w3 ∧ Yh w.heap.size t n ga gm gc p k ao tn cap w3) := ⟨HH2.out.1.trans (hb.mono HH2.out.1.size), HH2.out.2.next hb⟩
    rw [HER.out]
    rw [HER.out, if_neg HNZ.out] at hq
    simp only [Value.slice.injEq] at hq
    obtain ⟨rfl, rfl, rfl⟩ := hq
    clear hc hb HH2 k0 k1 k2 l0 l1 l2
    have k0 := tcell_blk HH3.out.2.1 0
    have k1 := tcell_blk HH3.out.2.1 1
    have k2 := tcell_blk HH3.out.2.1 2
    have l0 := tcell_blk HH3.out.2.2 0
    have l1 := tcell_blk HH3.out.2.2 1
    have l2 := tcell_blk HH3.out.2.2 2
    simp only [List.getElem?_toArray, List.getElem?_cons_zero, List.getElem?_cons_succ] at k0 k1 k2 l0 l1 l2
    have hc := Down_any t n (.slice ga gm gc) ps (.agg #[.int .i64 p, .int .i64 k, .slice ao tn cap]) x (fun _ => True) w3 (HP.out.below HH3.out.1) (HX.out.bel HH3.out.1)
    go_wp2_with fail
    refine hc.mono ?_
    rintro _ w4 ⟨a1, n1, c1, rfl, hb, hq⟩
    have HH4 : Hid (Below w.heap.size w w4 ∧ Yh w.heap.size t n ga gm gc p k ao tn cap w4) := ⟨HH3.out.1.trans (hb.mono HH3.out.1.size), HH3.out.2.next hb⟩
    rw [HER.out]
    rw [HER.out, if_neg HNZ.out] at hq
    simp only [Value.slice.injEq] at hq
    obtain ⟨rfl, rfl, rfl⟩ := hq
    clear hc hb HH3 k0 k1 k2 l0 l1 l2
    have k0 := tcell_blk HH4.out.2.1 0
    have k1 := tcell_blk HH4.out.2.1 1
    have k2 := tcell_blk HH4.out.2.1 2
    have l0 := tcell_blk HH4.out.2.2 0
    have l1 := tcell_blk HH4.out.2.2 1
    have l2 := tcell_blk HH4.out.2.2 2
    simp only [List.getElem?_toArray, List.getElem?_cons_zero, List.getElem?_cons_succ] at k0 k1 k2 l0 l1 l2
    have hc := Up_any t n (.slice ga gm gc) ps (.agg #[.int .i64 p, .int .i64 k, .slice ao tn cap]) x (fun _ => True) w4 (HP.out.below HH4.out.1) (HX.out.bel HH4.out.1)
    go_wp2_with fail
    refine hc.mono ?_
    rintro _ w5 ⟨a2, n2, c2, rfl, hb, hq⟩
    have HH5 : Hid (Below w.heap.size w w5 ∧ Yh w.heap.size t n ga gm gc p k ao tn cap w5) := ⟨HH4.out.1.trans (hb.mono HH4.out.1.size), HH4.out.2.next hb⟩
    rw [HER.out]
    rw [HER.out, if_neg HNZ.out] at hq
    simp only [Value.slice.injEq] at hq
    obtain ⟨rfl, rfl, rfl⟩ := hq
    clear hc hb HH4 k0 k1 k2 l0 l1 l2
    have k0 := tcell_blk HH5.out.2.1 0
    have k1 := tcell_blk HH5.out.2.1 1
    have k2 := tcell_blk HH5.out.2.1 2
    have l0 := tcell_blk HH5.out.2.2 0
    have l1 := tcell_blk HH5.out.2.2 1
    have l2 := tcell_blk HH5.out.2.2 2
    simp only [List.getElem?_toArray, List.getElem?_cons_zero, List.getElem?_cons_succ] at k0 k1 k2 l0 l1 l2
    have hc := TCheck_any t n (.slice ga gm gc) ps (.agg #[.int .i64 p, .int .i64 k, .slice ao tn cap]) x (fun _ => True) w5 (HP.out.below HH5.out.1) (HX.out.bel HH5.out.1)
    go_wp2_with fail
    refine hc.mono ?_
    rintro _ w6 ⟨rfl, hb⟩
    have HH6 : Hid (Below w.heap.size w w6 ∧ Yh w.heap.size t n ga gm gc p k ao tn cap w6) := ⟨HH5.out.1.trans (hb.mono HH5.out.1.size), HH5.out.2.next hb⟩
    rw [HER.out]
    clear hc hb HH5 k0 k1 k2 l0 l1 l2
    go_wp2_with fail
    go_ret
    exact ⟨by simp, HH6.out.1⟩

/-! ### What the walk gives, for every argument -/
set_option maxRecDepth 100000 in
theorem contract (H : Type) (enc : TypeId × Value → H) (W : World) (base : Nat) (args : Array Value) (ds gs : List (DataW H)) (before : List MemPlace)
    (hval : ∀ (j : Nat) t v, Try.f3.params[j]? = some t → args[j]? = some v → Value.okWide Try.prog W .any base t v)
    (hW : DataW.Whole enc Try.prog Try.f3.params.toList Rows.treesSaysSpec.vars false W args.toList ds gs before) (hsz : (DataW.weightsEach Try.prog (Try.f3.params.toList ++ Rows.treesSaysSpec.plain.varTypes Try.prog) (ds ++ gs)).all (· ≤ reachBytes) = true) :
    Calls Try.prog 3 args W fun e W' => ∃ v, e = .returned v ∧ Rows.treesSaysSpec.post enc Try.prog Try.f3 false true false false W args v W' := by
  have hW' := hW
  obtain ⟨p, q, hA0, hV, rfl, hfz, hnd⟩ := hW
  have hA : DataW.TrodAll enc Try.prog W 0 (fun _ => true) true Try.f3.params.toList args.toList ds p := hA0
  rw [Try.params3] at hA hval hsz
  obtain ⟨v0, vs0, d0, ds0, p0, q0, hargs, rfl, rfl, h0, r0⟩ := trodAll_cons hA
  obtain ⟨v1, vs1, d1, ds1, p1, q1, rfl, rfl, rfl, h1, r1⟩ := trodAll_cons r0
  obtain ⟨rfl, rfl, rfl⟩ := trodAll_nil r1
  obtain rfl : args = #[v0, v1] := by cases args; simp_all
  obtain ⟨rfl, rfl⟩ := trodVars_none hV
  have k0 := h0
  have lt0 : ∀ x ∈ p0, x.block < W.heap.size := by obtain ⟨m, hm⟩ := k0; exact DataW.trod_lt m _ _ _ hm
  obtain ⟨a0t, a0n, a0s, a0p, rfl, w0s⟩ := open_gram (hval 0 24 v0 rfl rfl) h0
  have k1 := h1
  have lt1 : ∀ x ∈ p1, x.block < W.heap.size := by obtain ⟨m, hm⟩ := k1; exact DataW.trod_lt m _ _ _ hm
  obtain ⟨a1x, w1s⟩ := open_tree (hval 1 27 v1 rfl rfl) h1
  clear hA0
  refine (walk a0t a0n a0s a0p _ a1x W w0s w1s).mono fun e W' ⟨he, bel⟩ => ?_
  subst he
  exact ⟨_, rfl, _, _, _, [], _, [], hW', trodAll_mk1 (shut_bool Try.underlying4 _), (trodAll_cons_mk (Below.trod laidOut (by kernel_rfl) (of_decide_eq_true (by kernel_rfl)) k0 bel lt0) (trodAll_cons_mk (Below.trod laidOut (by kernel_rfl) (of_decide_eq_true (by kernel_rfl)) k1 bel lt1) trodAll_mk0)), rfl, bel.frame _, fun h => by cases h⟩

/-! ### The row's step -/
set_option maxRecDepth 100000 in
theorem lifted (os : Os) (started : os.Started) (H : Type) (enc : TypeId × Value → H) :
    ReturnsInHanded {} Try.checked os 3 .any (Rows.treesSaysSpec.pre6 enc Try.prog Try.f3 Rows.treesSaysRow.domain false) (Rows.treesSaysSpec.post enc Try.prog Try.f3 false true false false) := by
  refine returnsInHanded_of_change_sized (C := Try.checked) own started (by kernel_rfl) Try.func3
    (ChangeSpec.witness6 (enc := enc) (C := Try.checked) false ⟨#[], #[.agg #[.int .i64 0, .int .i64 0, .slice none 0 0], .agg #[.int .i64 0, .int .i64 0, .slice none 0 0]], []⟩ 8 (by kernel_rfl) (by kernel_rfl) (by kernel_rfl) (by kernel_rfl)) ?_
  intro W base args ds gs before hval hW hcnd hsz _
  exact contract H enc W base args ds gs before hval hW hsz

theorem over : Rows.treesSaysRow.holds Try.pinned (OpenSpec.ofChange Rows.treesSaysSpec) :=
  OpenClaim.holds_of_wide 3 Try.f3 rfl rfl rfl rfl rfl rfl rfl ⟨rfl, rfl, rfl, rfl, rfl⟩ rfl rfl rfl rfl rfl (by kernel_rfl) Try.func3 (by kernel_rfl)
    (of_decide_eq_true (by kernel_rfl)) (by unfold Func.isWrapper; first | (rw [if_pos (by decide +kernel)]; kernel_rfl) | (rw [if_neg (by decide +kernel)]; exact ⟨rfl, rfl⟩))
    (fun os started H enc _ => lifted os started H enc)

end Go.Proofs.Ytldfiofgknmcgaa.treesSays
namespace Go.Proofs.Ytldfiofgknmcgaa
/-- The given statement. -/
theorem treesSays_holds : Rows.TreesSaysSaid := treesSays.over
#print axioms treesSays_holds
end Go.Proofs.Ytldfiofgknmcgaa
