/-
  TreesBack returns true whatever grammar and tree are handed in, and changes nothing that it was handed; no condition.
-/
import Derived.Test.YtldfiofgknmcgaaRows
import Derived.WalkKit
import Derived.ProofKit
import Derived.OpenShut
import Derived.ShutString
import Derived.SizedLaws
import Derived.ChangeOld
import Derived.Below
import Derived.Carry
import Derived.WalkLawsBesides
import Derived.WalkSpells
import Derived.Test.YtldfiofgknmcgaaOpens
import Derived.Deep.Cut
import Derived.Test.YtldfiofgknmcgaaTrOfDown
import Derived.Test.YtldfiofgknmcgaaTrSame
import Derived.Test.YtldfiofgknmcgaaFcBrack
import Derived.Test.YtldfiofgknmcgaaTrRYield
namespace Go.Proofs.Ytldfiofgknmcgaa.treesBack
open Go.ChangeShapes Go.WideShapes Go.ChangeAt Go.RowKit
open Go.ChangeMaps (open_string shut_string)
open Cg
set_option linter.unusedVariables false

theorem own : ownKnob Try.prog.godebug = none := by kernel_rfl
theorem laidOut : laidOutB Try.prog = true := by kernel_rfl
theorem one_err : errT 2 1 brs oneT = 0 := by decide +kernel
theorem one_ev : evU oneT = [(2, 0), (4, 0), (2, 1), (4, 0), (4, 1)] := by simp [oneT, evU, evUL]

/-! ### The walk: the Go text returns true. -/
set_option maxHeartbeats 16000000 in
set_option maxRecDepth 20000 in
theorem walk (a0t : Int) (a0n : Int) (a0s : Value) (a0p : List Pd) (v1 : Value) (a1x : T) (w : World) (w0s : Pds w a0s a0p) (w1s : Tx w (fun _ => True) v1 a1x) :
    Calls Try.prog 7 #[.agg #[.int .i64 a0t, .int .i64 a0n, a0s], v1] w fun e w' => e = .returned (.bool true) ∧ Below w.heap.size w w' := by
  have HP : Hid (Pds w a0s a0p) := w0s
  have HX : Hid (Tx w (fun _ => True) v1 a1x) := w1s
  obtain ⟨ga, gc, rfl, -, -⟩ := w0s
  obtain ⟨p, k, ao, cap, kids, vals, rfl, rfl, -⟩ := w1s.shape
  clear w1s
  obtain ⟨gm, HGM⟩ : ∃ gm, Hid (a0p.length = gm) := ⟨_, (rfl : a0p.length = _)⟩
  obtain ⟨tn, HTN⟩ : ∃ tn, Hid (kids.length = tn) := ⟨_, (rfl : kids.length = _)⟩
  rw [HGM.out] at HP ⊢
  rw [HTN.out] at HX ⊢
  obtain ⟨x, HXT⟩ : ∃ x, Hid (T.mk p k kids = x) := ⟨_, (rfl : T.mk p k kids = _)⟩
  rw [HXT.out] at HX
  revert HP HX HGM
  generalize a0t = t
  generalize a0n = n
  generalize a0p = ps
  intro _ _ _
  rename Hid (Pds _ _ _) => HP
  rename Hid (Tx _ _ _ _) => HX
  obtain ⟨er, HER⟩ : ∃ er, Hid (errT t n ps x = er) := ⟨_, (rfl : errT t n ps x = _)⟩
  have HH1 : Hid (Below w.heap.size w ((w.alloc (Obj.cells #[.int .i64 t, .int .i64 n, .slice ga gm gc] 24)).alloc (Obj.cells #[.int .i64 p, .int .i64 k, .slice ao tn cap] 27)) ∧ Yh w.heap.size t n ga gm gc p k ao tn cap ((w.alloc (Obj.cells #[.int .i64 t, .int .i64 n, .slice ga gm gc] 24)).alloc (Obj.cells #[.int .i64 p, .int .i64 k, .slice ao tn cap] 27))) := by
    refine ⟨below_alloc2 _ _ _, tbox_next (heap_alloc_new _ _) (below_alloc _ _), ?_⟩
    have := heap_alloc_new (w.alloc (Obj.cells #[.int .i64 t, .int .i64 n, .slice ga gm gc] 24)) (Obj.cells #[.int .i64 p, .int .i64 k, .slice ao tn cap] 27)
    rw [show (w.alloc (Obj.cells #[.int .i64 t, .int .i64 n, .slice ga gm gc] 24)).heap.size = w.heap.size + 1 by simp] at this
    exact this
  obtain ⟨w1, HW1⟩ : ∃ w1, Hid ((w.alloc (Obj.cells #[.int .i64 t, .int .i64 n, .slice ga gm gc] 24)).alloc (Obj.cells #[.int .i64 p, .int .i64 k, .slice ao tn cap] 27) = w1) := ⟨_, (rfl : (w.alloc (Obj.cells #[.int .i64 t, .int .i64 n, .slice ga gm gc] 24)).alloc (Obj.cells #[.int .i64 p, .int .i64 k, .slice ao tn cap] 27) = _)⟩
  have hbb : ((5 : Int) != 5) = false := rfl
  have hb1x : ((1 : Int) != 1) = false := rfl
  go_enter Try.func7, Try.ntmps7
  go_upto_region 1 with fail
  rw [HW1.out] at HH1 ⊢
  clear HW1
  have k0 := tcell_blk HH1.out.2.1 0
  have k1 := tcell_blk HH1.out.2.1 1
  have k2 := tcell_blk HH1.out.2.1 2
  have l0 := tcell_blk HH1.out.2.2 0
  have l1 := tcell_blk HH1.out.2.2 1
  have l2 := tcell_blk HH1.out.2.2 2
  simp only [List.getElem?_toArray, List.getElem?_cons_zero, List.getElem?_cons_succ] at k0 k1 k2 l0 l1 l2
  have hc := brackets_any w1
  go_wp2_with fail
  refine hc.mono ?_
  rintro _ w2 ⟨gb, rfl, hpb, hb⟩
  have HH2 : Hid (Below w.heap.size w w2 ∧ Yh w.heap.size t n ga gm gc p k ao tn cap w2) := ⟨HH1.out.1.trans (hb.mono HH1.out.1.size), HH1.out.2.next hb⟩
  have HPB_2 : Hid (Pds w2 (.slice (some ⟨gb, 0, none⟩) 2 2) brs) := hpb
  clear hc hb HH1 k0 k1 k2 l0 l1 l2 hpb
  have k0 := tcell_blk HH2.out.2.1 0
  have k1 := tcell_blk HH2.out.2.1 1
  have k2 := tcell_blk HH2.out.2.1 2
  have l0 := tcell_blk HH2.out.2.2 0
  have l1 := tcell_blk HH2.out.2.2 1
  have l2 := tcell_blk HH2.out.2.2 2
  simp only [List.getElem?_toArray, List.getElem?_cons_zero, List.getElem?_cons_succ] at k0 k1 k2 l0 l1 l2
  have hc := one_any w2
  go_wp2_with fail
  refine hc.mono ?_
  rintro _ w3 ⟨go, rfl, hpo, hb⟩
  have HH3 : Hid (Below w.heap.size w w3 ∧ Yh w.heap.size t n ga gm gc p k ao tn cap w3) := ⟨HH2.out.1.trans (hb.mono HH2.out.1.size), HH2.out.2.next hb⟩
  have HPB_3 : Hid (Pds w3 (.slice (some ⟨gb, 0, none⟩) 2 2) brs) := HPB_2.out.below hb
  have HPO_3 : Hid (Tx w3 (fun _ => True) (.agg #[.int .i64 1, .int .i64 0, .slice (some ⟨go, 0, none⟩) 4 4]) oneT) := hpo
  clear hc hb HH2 k0 k1 k2 l0 l1 l2 HPB_2 hpo
  have k0 := tcell_blk HH3.out.2.1 0
  have k1 := tcell_blk HH3.out.2.1 1
  have k2 := tcell_blk HH3.out.2.1 2
  have l0 := tcell_blk HH3.out.2.2 0
  have l1 := tcell_blk HH3.out.2.2 1
  have l2 := tcell_blk HH3.out.2.2 2
  simp only [List.getElem?_toArray, List.getElem?_cons_zero, List.getElem?_cons_succ] at k0 k1 k2 l0 l1 l2
  have hc := Up_any 2 1 _ brs _ oneT (fun _ => True) w3 HPB_3.out HPO_3.out
  go_wp2_with fail
  refine hc.mono ?_
  rintro _ w4 ⟨a0, n0, c0, rfl, hb, hq⟩
  have HH4 : Hid (Below w.heap.size w w4 ∧ Yh w.heap.size t n ga gm gc p k ao tn cap w4) := ⟨HH3.out.1.trans (hb.mono HH3.out.1.size), HH3.out.2.next hb⟩
  have HPB_4 : Hid (Pds w4 (.slice (some ⟨gb, 0, none⟩) 2 2) brs) := HPB_3.out.below hb
  rw [one_err] at hq ⊢
  rw [if_pos rfl] at hq
  have HQ := evs_of_own hq (by decide)
  obtain ⟨xa, xc, hxe, -, hxc⟩ := HQ
  rw [one_ev] at hxe hxc
  simp only [Value.slice.injEq, List.length_cons, List.length_nil] at hxe
  obtain ⟨rfl, rfl, rfl⟩ := hxe
  obtain ⟨xb, xo, rfl, hxl, hxc⟩ := hxc.resolve_left (by simp)
  have x4 := (hxc 4 (by simp)).2
  simp only [List.getElem_cons_succ, List.getElem_cons_zero] at x4
  clear hc hb HH3 k0 k1 k2 l0 l1 l2 HPB_3 hq hxc HPO_3 HPB_4
  by_cases hr : er = 0
  · subst hr
    have hce : chk t n ps = 0 := by
      have h1 := HER.out
      unfold errT at h1
      by_cases h2 : chk t n ps = 0
      · exact h2
      · rw [if_neg h2] at h1; exact absurd h1 h2
    have h3 : (thr ps x (2, 0) 1 0 []).1 = 0 := by have h1 := HER.out; unfold errT at h1; rw [if_pos hce] at h1; omega
    have h4 := thr_fwd (ps := ps) (t := x) (s := (2, 0)) (d := 1) (n := 0) (ws := []) (n' := (thr ps x (2, 0) 1 0 []).2.1) (ws' := (thr ps x (2, 0) 1 0 []).2.2) (trip h3)
    have h5 := ev_len x
    have HWD : Hid (wordT ps x = yl ps x (2, 0)) := by show _ = _; unfold wordT; rw [h4.2.2.2.2.2.1]; rfl
    have h6 := h4.2.2.2.2.2.2
    rw [← HWD.out] at h6
    have HOK : Hid (Ok ps x) := ⟨h4.1, h4.2.1⟩
    obtain ⟨dn, HN0⟩ : ∃ dn, Hid ((evD x).length = dn) := ⟨_, (rfl : (evD x).length = _)⟩
    obtain ⟨un, HN1⟩ : ∃ un, Hid ((evU x).length = un) := ⟨_, (rfl : (evU x).length = _)⟩
    obtain ⟨wn, HN2⟩ : ∃ wn, Hid ((wordT ps x).length = wn) := ⟨_, (rfl : (wordT ps x).length = _)⟩
    have HLEN : Hid ((evD x).length ≤ 2000 ∧ (evU x).length ≤ 2000 ∧ (wordT ps x).length ≤ 2000) := by show _ ∧ _ ∧ _; omega
    have HLEN2 : Hid (dn ≤ 2000 ∧ un ≤ 2000 ∧ wn ≤ 2000) := by rw [← HN0.out, ← HN1.out, ← HN2.out]; exact HLEN.out
    have HSUM : Hid (dn + wn = 2 * un) := by rw [← HN0.out, ← HN1.out, ← HN2.out]; show _ = _; omega
    have HOD : Hid (errO t n ps (evD x) (ofD ps (evD x)) = 0 ∧ ofD ps (evD x) = some x) := by
      have h7 : ofD ps (evD x) = some x := ofD_iff.2 ⟨HOK.out, rfl⟩
      refine ⟨?_, h7⟩
      have hE : errE t n ps (evD x) = 0 := by unfold errE; rw [if_pos hce, if_neg (by have := HLEN.out; omega)]
      unfold errO
      rw [hE, if_pos rfl, h7]
      exact HER.out
    have HOU : Hid (errO t n ps (evU x) (built ps (evU x)) = 0 ∧ built ps (evU x) = some x) := by
      have h7 : built ps (evU x) = some x := built_iff.2 ⟨HOK.out, rfl⟩
      refine ⟨?_, h7⟩
      have hE : errE t n ps (evU x) = 0 := by unfold errE; rw [if_pos hce, if_neg (by have := HLEN.out; omega)]
      unfold errO
      rw [hE, if_pos rfl, h7]
      exact HER.out
    clear hce h3 h4 h5 h6
    have k0 := tcell_blk HH4.out.2.1 0
    have k1 := tcell_blk HH4.out.2.1 1
    have k2 := tcell_blk HH4.out.2.1 2
    have l0 := tcell_blk HH4.out.2.2 0
    have l1 := tcell_blk HH4.out.2.2 1
    have l2 := tcell_blk HH4.out.2.2 2
    simp only [List.getElem?_toArray, List.getElem?_cons_zero, List.getElem?_cons_succ] at k0 k1 k2 l0 l1 l2
    have hc := Down_any t n (.slice ga gm gc) ps (.agg #[.int .i64 p, .int .i64 k, .slice ao tn cap]) x (fun _ => True) w4 (HP.out.below HH4.out.1) (HX.out.bel HH4.out.1)
    go_wp2_with fail
    refine hc.mono ?_
    rintro _ w5 ⟨b0, m0, d0, rfl, hb, hq⟩
    have HH5 : Hid (Below w.heap.size w w5 ∧ Yh w.heap.size t n ga gm gc p k ao tn cap w5) := ⟨HH4.out.1.trans (hb.mono HH4.out.1.size), HH4.out.2.next hb⟩
    rw [HER.out]
    rw [HER.out, if_pos rfl] at hq
    obtain ⟨_, _, hsh0⟩ := own_len hq
    simp only [Value.slice.injEq] at hsh0
    obtain ⟨-, rfl, -⟩ := hsh0
    have HL0_5 : Hid (Evs w5 (.slice b0 (evD x).length d0) (evD x)) := evs_of_own hq (by have := HLEN.out; omega)
    rw [HN0.out] at HL0_5 ⊢
    clear hc hb HH4 k0 k1 k2 l0 l1 l2 hq x4 hxl
    have k0 := tcell_blk HH5.out.2.1 0
    have k1 := tcell_blk HH5.out.2.1 1
    have k2 := tcell_blk HH5.out.2.1 2
    have l0 := tcell_blk HH5.out.2.2 0
    have l1 := tcell_blk HH5.out.2.2 1
    have l2 := tcell_blk HH5.out.2.2 2
    simp only [List.getElem?_toArray, List.getElem?_cons_zero, List.getElem?_cons_succ] at k0 k1 k2 l0 l1 l2
    have hc := Up_any t n (.slice ga gm gc) ps (.agg #[.int .i64 p, .int .i64 k, .slice ao tn cap]) x (fun _ => True) w5 (HP.out.below HH5.out.1) (HX.out.bel HH5.out.1)
    go_wp2_with fail
    refine hc.mono ?_
    rintro _ w6 ⟨b1, m1, d1, rfl, hb, hq⟩
    have HH6 : Hid (Below w.heap.size w w6 ∧ Yh w.heap.size t n ga gm gc p k ao tn cap w6) := ⟨HH5.out.1.trans (hb.mono HH5.out.1.size), HH5.out.2.next hb⟩
    have HL0_6 : Hid (Evs w6 (.slice b0 dn d0) (evD x)) := HL0_5.out.below hb
    rw [HER.out]
    rw [HER.out, if_pos rfl] at hq
    obtain ⟨_, _, hsh1⟩ := own_len hq
    simp only [Value.slice.injEq] at hsh1
    obtain ⟨-, rfl, -⟩ := hsh1
    have HL1_6 : Hid (Evs w6 (.slice b1 (evU x).length d1) (evU x)) := evs_of_own hq (by have := HLEN.out; omega)
    rw [HN1.out] at HL1_6 ⊢
    clear hc hb HH5 k0 k1 k2 l0 l1 l2 HL0_5 hq
    have k0 := tcell_blk HH6.out.2.1 0
    have k1 := tcell_blk HH6.out.2.1 1
    have k2 := tcell_blk HH6.out.2.1 2
    have l0 := tcell_blk HH6.out.2.2 0
    have l1 := tcell_blk HH6.out.2.2 1
    have l2 := tcell_blk HH6.out.2.2 2
    simp only [List.getElem?_toArray, List.getElem?_cons_zero, List.getElem?_cons_succ] at k0 k1 k2 l0 l1 l2
    have hc := Yield_any t n (.slice ga gm gc) ps (.agg #[.int .i64 p, .int .i64 k, .slice ao tn cap]) x (fun _ => True) w6 (HP.out.below HH6.out.1) (HX.out.bel HH6.out.1)
    go_wp2_with fail
    refine hc.mono ?_
    rintro _ w7 ⟨b2, m2, d2, rfl, hb, hq⟩
    have HH7 : Hid (Below w.heap.size w w7 ∧ Yh w.heap.size t n ga gm gc p k ao tn cap w7) := ⟨HH6.out.1.trans (hb.mono HH6.out.1.size), HH6.out.2.next hb⟩
    have HL0_7 : Hid (Evs w7 (.slice b0 dn d0) (evD x)) := HL0_6.out.below hb
    have HL1_7 : Hid (Evs w7 (.slice b1 un d1) (evU x)) := HL1_6.out.below hb
    rw [HER.out]
    rw [HER.out, if_pos rfl] at hq
    obtain ⟨_, _, hsh2⟩ := own_len hq
    simp only [Value.slice.injEq] at hsh2
    obtain ⟨-, rfl, -⟩ := hsh2
    have HL2_7 : Hid (Nms w7 (.slice b2 (wordT ps x).length d2) (wordT ps x)) := nms_of_own hq (by have := HLEN.out; omega)
    rw [HN2.out] at HL2_7 ⊢
    clear hc hb HH6 k0 k1 k2 l0 l1 l2 HL0_6 HL1_6 hq
    have k0 := tcell_blk HH7.out.2.1 0
    have k1 := tcell_blk HH7.out.2.1 1
    have k2 := tcell_blk HH7.out.2.1 2
    have l0 := tcell_blk HH7.out.2.2 0
    have l1 := tcell_blk HH7.out.2.2 1
    have l2 := tcell_blk HH7.out.2.2 2
    simp only [List.getElem?_toArray, List.getElem?_cons_zero, List.getElem?_cons_succ] at k0 k1 k2 l0 l1 l2
    have hc := OfDown_any t n (.slice ga gm gc) ps (.slice b0 dn d0) (evD x) w7 (HP.out.below HH7.out.1) HL0_7.out
    go_wp2_with fail
    refine hc.mono ?_
    rintro _ w8 ⟨pa, ka, oa, sa, ua, rfl, hb, hq⟩
    have HH8 : Hid (Below w.heap.size w w8 ∧ Yh w.heap.size t n ga gm gc p k ao tn cap w8) := ⟨HH7.out.1.trans (hb.mono HH7.out.1.size), HH7.out.2.next hb⟩
    have HL0_8 : Hid (Evs w8 (.slice b0 dn d0) (evD x)) := HL0_7.out.below hb
    have HL1_8 : Hid (Evs w8 (.slice b1 un d1) (evU x)) := HL1_7.out.below hb
    have HL2_8 : Hid (Nms w8 (.slice b2 wn d2) (wordT ps x)) := HL2_7.out.below hb
    rw [HOD.out.1] at hq ⊢
    rw [if_pos rfl, HOD.out.2] at hq
    obtain ⟨xa2, hxs, hxt⟩ := hq
    obtain rfl : x = xa2 := Option.some.inj hxs
    have HTA0 : Hid (Tx w8 (fun _ => True) (.agg #[.int .i64 pa, .int .i64 ka, .slice oa sa ua]) x) := hxt.mono fun _ _ _ => trivial
    clear hc hb HH7 k0 k1 k2 l0 l1 l2 HL0_7 HL1_7 HL2_7 hxs hxt
    have HHb : Hid (Below w.heap.size w (w8.alloc (Obj.cells #[.int .i64 pa, .int .i64 ka, .slice oa sa ua] 27)) ∧ Yh w.heap.size t n ga gm gc p k ao tn cap (w8.alloc (Obj.cells #[.int .i64 pa, .int .i64 ka, .slice oa sa ua] 27))) := ⟨HH8.out.1.trans ((below_alloc _ _).mono HH8.out.1.size), HH8.out.2.next (below_alloc _ _)⟩
    have HTA_b : Hid ((w8.alloc (Obj.cells #[.int .i64 pa, .int .i64 ka, .slice oa sa ua] 27)).heap[w8.heap.size]? = some (.cells #[.int .i64 pa, .int .i64 ka, .slice oa sa ua] 27) ∧ Tx (w8.alloc (Obj.cells #[.int .i64 pa, .int .i64 ka, .slice oa sa ua] 27)) (fun _ => True) (.agg #[.int .i64 pa, .int .i64 ka, .slice oa sa ua]) x) := ⟨heap_alloc_new _ _, HTA0.out.bel (below_alloc _ _)⟩
    have HL0_b : Hid (Evs (w8.alloc (Obj.cells #[.int .i64 pa, .int .i64 ka, .slice oa sa ua] 27)) (.slice b0 dn d0) (evD x)) := HL0_8.out.below (below_alloc _ _)
    have HL1_b : Hid (Evs (w8.alloc (Obj.cells #[.int .i64 pa, .int .i64 ka, .slice oa sa ua] 27)) (.slice b1 un d1) (evU x)) := HL1_8.out.below (below_alloc _ _)
    have HL2_b : Hid (Nms (w8.alloc (Obj.cells #[.int .i64 pa, .int .i64 ka, .slice oa sa ua] 27)) (.slice b2 wn d2) (wordT ps x)) := HL2_8.out.below (below_alloc _ _)
    go_upto_region 10 with fail
    obtain ⟨qa, HQNqa⟩ : ∃ qa, Hid (w8.heap.size = qa) := ⟨_, (rfl : w8.heap.size = _)⟩
    rw [HQNqa.out] at HTA_b ⊢
    obtain ⟨w9, HW9⟩ : ∃ w9, Hid (w8.alloc (Obj.cells #[.int .i64 pa, .int .i64 ka, .slice oa sa ua] 27) = w9) := ⟨_, (rfl : w8.alloc (Obj.cells #[.int .i64 pa, .int .i64 ka, .slice oa sa ua] 27) = _)⟩
    rw [HW9.out] at HHb HTA_b HL0_b HL1_b HL2_b ⊢
    have HH9 : Hid (Below w.heap.size w w9 ∧ Yh w.heap.size t n ga gm gc p k ao tn cap w9) := HHb.out
    have HTA_9 : Hid (w9.heap[qa]? = some (.cells #[.int .i64 pa, .int .i64 ka, .slice oa sa ua] 27) ∧ Tx w9 (fun _ => True) (.agg #[.int .i64 pa, .int .i64 ka, .slice oa sa ua]) x) := HTA_b.out
    have HL0_9 : Hid (Evs w9 (.slice b0 dn d0) (evD x)) := HL0_b.out
    have HL1_9 : Hid (Evs w9 (.slice b1 un d1) (evU x)) := HL1_b.out
    have HL2_9 : Hid (Nms w9 (.slice b2 wn d2) (wordT ps x)) := HL2_b.out
    clear HHb HTA_b HL0_b HL1_b HL2_b
    clear HW9 HH8 HTA0 HQNqa HL0_8 HL1_8 HL2_8
    have k0 := tcell_blk HH9.out.2.1 0
    have k1 := tcell_blk HH9.out.2.1 1
    have k2 := tcell_blk HH9.out.2.1 2
    have l0 := tcell_blk HH9.out.2.2 0
    have l1 := tcell_blk HH9.out.2.2 1
    have l2 := tcell_blk HH9.out.2.2 2
    simp only [List.getElem?_toArray, List.getElem?_cons_zero, List.getElem?_cons_succ] at k0 k1 k2 l0 l1 l2
    have hc := OfUp_any t n (.slice ga gm gc) ps (.slice b1 un d1) (evU x) w9 (HP.out.below HH9.out.1) HL1_9.out
    go_wp2_with fail
    refine hc.mono ?_
    rintro _ w10 ⟨pb, kb, ob, sb, ub, rfl, hb, hq⟩
    have HH10 : Hid (Below w.heap.size w w10 ∧ Yh w.heap.size t n ga gm gc p k ao tn cap w10) := ⟨HH9.out.1.trans (hb.mono HH9.out.1.size), HH9.out.2.next hb⟩
    have HL0_10 : Hid (Evs w10 (.slice b0 dn d0) (evD x)) := HL0_9.out.below hb
    have HL1_10 : Hid (Evs w10 (.slice b1 un d1) (evU x)) := HL1_9.out.below hb
    have HL2_10 : Hid (Nms w10 (.slice b2 wn d2) (wordT ps x)) := HL2_9.out.below hb
    have HTA_10 : Hid (w10.heap[qa]? = some (.cells #[.int .i64 pa, .int .i64 ka, .slice oa sa ua] 27) ∧ Tx w10 (fun _ => True) (.agg #[.int .i64 pa, .int .i64 ka, .slice oa sa ua]) x) := ⟨tbox_next HTA_9.out.1 hb, HTA_9.out.2.bel hb⟩
    rw [HOU.out.1] at hq ⊢
    rw [if_pos rfl, HOU.out.2] at hq
    obtain ⟨xa2, hxs, hxt⟩ := hq
    obtain rfl : x = xa2 := Option.some.inj hxs
    have HTB0 : Hid (Tx w10 (fun _ => True) (.agg #[.int .i64 pb, .int .i64 kb, .slice ob sb ub]) x) := hxt.mono fun _ _ _ => trivial
    clear hc hb HH9 k0 k1 k2 l0 l1 l2 HL0_9 HL1_9 HL2_9 HTA_9 hxs hxt
    have HHb : Hid (Below w.heap.size w (w10.alloc (Obj.cells #[.int .i64 pb, .int .i64 kb, .slice ob sb ub] 27)) ∧ Yh w.heap.size t n ga gm gc p k ao tn cap (w10.alloc (Obj.cells #[.int .i64 pb, .int .i64 kb, .slice ob sb ub] 27))) := ⟨HH10.out.1.trans ((below_alloc _ _).mono HH10.out.1.size), HH10.out.2.next (below_alloc _ _)⟩
    have HTB_b : Hid ((w10.alloc (Obj.cells #[.int .i64 pb, .int .i64 kb, .slice ob sb ub] 27)).heap[w10.heap.size]? = some (.cells #[.int .i64 pb, .int .i64 kb, .slice ob sb ub] 27) ∧ Tx (w10.alloc (Obj.cells #[.int .i64 pb, .int .i64 kb, .slice ob sb ub] 27)) (fun _ => True) (.agg #[.int .i64 pb, .int .i64 kb, .slice ob sb ub]) x) := ⟨heap_alloc_new _ _, HTB0.out.bel (below_alloc _ _)⟩
    have HL0_b : Hid (Evs (w10.alloc (Obj.cells #[.int .i64 pb, .int .i64 kb, .slice ob sb ub] 27)) (.slice b0 dn d0) (evD x)) := HL0_10.out.below (below_alloc _ _)
    have HL1_b : Hid (Evs (w10.alloc (Obj.cells #[.int .i64 pb, .int .i64 kb, .slice ob sb ub] 27)) (.slice b1 un d1) (evU x)) := HL1_10.out.below (below_alloc _ _)
    have HL2_b : Hid (Nms (w10.alloc (Obj.cells #[.int .i64 pb, .int .i64 kb, .slice ob sb ub] 27)) (.slice b2 wn d2) (wordT ps x)) := HL2_10.out.below (below_alloc _ _)
    have HTA_b : Hid ((w10.alloc (Obj.cells #[.int .i64 pb, .int .i64 kb, .slice ob sb ub] 27)).heap[qa]? = some (.cells #[.int .i64 pa, .int .i64 ka, .slice oa sa ua] 27) ∧ Tx (w10.alloc (Obj.cells #[.int .i64 pb, .int .i64 kb, .slice ob sb ub] 27)) (fun _ => True) (.agg #[.int .i64 pa, .int .i64 ka, .slice oa sa ua]) x) := ⟨tbox_next HTA_10.out.1 (below_alloc _ _), HTA_10.out.2.bel (below_alloc _ _)⟩
    go_upto_region 11 with fail
    obtain ⟨qb, HQNqb⟩ : ∃ qb, Hid (w10.heap.size = qb) := ⟨_, (rfl : w10.heap.size = _)⟩
    rw [HQNqb.out] at HTB_b ⊢
    obtain ⟨w11, HW11⟩ : ∃ w11, Hid (w10.alloc (Obj.cells #[.int .i64 pb, .int .i64 kb, .slice ob sb ub] 27) = w11) := ⟨_, (rfl : w10.alloc (Obj.cells #[.int .i64 pb, .int .i64 kb, .slice ob sb ub] 27) = _)⟩
    rw [HW11.out] at HHb HTB_b HL0_b HL1_b HL2_b HTA_b ⊢
    have HH11 : Hid (Below w.heap.size w w11 ∧ Yh w.heap.size t n ga gm gc p k ao tn cap w11) := HHb.out
    have HTB_11 : Hid (w11.heap[qb]? = some (.cells #[.int .i64 pb, .int .i64 kb, .slice ob sb ub] 27) ∧ Tx w11 (fun _ => True) (.agg #[.int .i64 pb, .int .i64 kb, .slice ob sb ub]) x) := HTB_b.out
    have HL0_11 : Hid (Evs w11 (.slice b0 dn d0) (evD x)) := HL0_b.out
    have HL1_11 : Hid (Evs w11 (.slice b1 un d1) (evU x)) := HL1_b.out
    have HL2_11 : Hid (Nms w11 (.slice b2 wn d2) (wordT ps x)) := HL2_b.out
    have HTA_11 : Hid (w11.heap[qa]? = some (.cells #[.int .i64 pa, .int .i64 ka, .slice oa sa ua] 27) ∧ Tx w11 (fun _ => True) (.agg #[.int .i64 pa, .int .i64 ka, .slice oa sa ua]) x) := HTA_b.out
    clear HHb HTB_b HL0_b HL1_b HL2_b HTA_b
    clear HW11 HH10 HTB0 HQNqb HL0_10 HL1_10 HL2_10 HTA_10
    have v0 := tcell_blk HTA_11.out.1 0
    have v1 := tcell_blk HTA_11.out.1 1
    have v2 := tcell_blk HTA_11.out.1 2
    simp only [List.getElem?_toArray, List.getElem?_cons_zero, List.getElem?_cons_succ] at v0 v1 v2
    have k0 := tcell_blk HH11.out.2.1 0
    have k1 := tcell_blk HH11.out.2.1 1
    have k2 := tcell_blk HH11.out.2.1 2
    have l0 := tcell_blk HH11.out.2.2 0
    have l1 := tcell_blk HH11.out.2.2 1
    have l2 := tcell_blk HH11.out.2.2 2
    simp only [List.getElem?_toArray, List.getElem?_cons_zero, List.getElem?_cons_succ] at k0 k1 k2 l0 l1 l2
    have hc := same_true x (.agg #[.int .i64 pa, .int .i64 ka, .slice oa sa ua]) (.agg #[.int .i64 p, .int .i64 k, .slice ao tn cap]) (fun _ => True) (fun _ => True) w11 HTA_11.out.2 (HX.out.bel HH11.out.1)
    go_wp2_with fail
    refine hc.mono ?_
    rintro _ w12 ⟨rfl, hb⟩
    have HH12 : Hid (Below w.heap.size w w12 ∧ Yh w.heap.size t n ga gm gc p k ao tn cap w12) := ⟨HH11.out.1.trans (hb.mono HH11.out.1.size), HH11.out.2.next hb⟩
    have HL0_12 : Hid (Evs w12 (.slice b0 dn d0) (evD x)) := HL0_11.out.below hb
    have HL1_12 : Hid (Evs w12 (.slice b1 un d1) (evU x)) := HL1_11.out.below hb
    have HL2_12 : Hid (Nms w12 (.slice b2 wn d2) (wordT ps x)) := HL2_11.out.below hb
    have HTA_12 : Hid (w12.heap[qa]? = some (.cells #[.int .i64 pa, .int .i64 ka, .slice oa sa ua] 27) ∧ Tx w12 (fun _ => True) (.agg #[.int .i64 pa, .int .i64 ka, .slice oa sa ua]) x) := ⟨tbox_next HTA_11.out.1 hb, HTA_11.out.2.bel hb⟩
    have HTB_12 : Hid (w12.heap[qb]? = some (.cells #[.int .i64 pb, .int .i64 kb, .slice ob sb ub] 27) ∧ Tx w12 (fun _ => True) (.agg #[.int .i64 pb, .int .i64 kb, .slice ob sb ub]) x) := ⟨tbox_next HTB_11.out.1 hb, HTB_11.out.2.bel hb⟩
    clear hc hb HH11 k0 k1 k2 l0 l1 l2 HL0_11 HL1_11 HL2_11 HTA_11 HTB_11 v0 v1 v2
    have v0 := tcell_blk HTB_12.out.1 0
    have v1 := tcell_blk HTB_12.out.1 1
    have v2 := tcell_blk HTB_12.out.1 2
    simp only [List.getElem?_toArray, List.getElem?_cons_zero, List.getElem?_cons_succ] at v0 v1 v2
    have k0 := tcell_blk HH12.out.2.1 0
    have k1 := tcell_blk HH12.out.2.1 1
    have k2 := tcell_blk HH12.out.2.1 2
    have l0 := tcell_blk HH12.out.2.2 0
    have l1 := tcell_blk HH12.out.2.2 1
    have l2 := tcell_blk HH12.out.2.2 2
    simp only [List.getElem?_toArray, List.getElem?_cons_zero, List.getElem?_cons_succ] at k0 k1 k2 l0 l1 l2
    have hc := same_true x (.agg #[.int .i64 pb, .int .i64 kb, .slice ob sb ub]) (.agg #[.int .i64 p, .int .i64 k, .slice ao tn cap]) (fun _ => True) (fun _ => True) w12 HTB_12.out.2 (HX.out.bel HH12.out.1)
    go_wp2_with fail
    refine hc.mono ?_
    rintro _ w13 ⟨rfl, hb⟩
    have HH13 : Hid (Below w.heap.size w w13 ∧ Yh w.heap.size t n ga gm gc p k ao tn cap w13) := ⟨HH12.out.1.trans (hb.mono HH12.out.1.size), HH12.out.2.next hb⟩
    have HL0_13 : Hid (Evs w13 (.slice b0 dn d0) (evD x)) := HL0_12.out.below hb
    have HL1_13 : Hid (Evs w13 (.slice b1 un d1) (evU x)) := HL1_12.out.below hb
    have HL2_13 : Hid (Nms w13 (.slice b2 wn d2) (wordT ps x)) := HL2_12.out.below hb
    have HTA_13 : Hid (w13.heap[qa]? = some (.cells #[.int .i64 pa, .int .i64 ka, .slice oa sa ua] 27) ∧ Tx w13 (fun _ => True) (.agg #[.int .i64 pa, .int .i64 ka, .slice oa sa ua]) x) := ⟨tbox_next HTA_12.out.1 hb, HTA_12.out.2.bel hb⟩
    have HTB_13 : Hid (w13.heap[qb]? = some (.cells #[.int .i64 pb, .int .i64 kb, .slice ob sb ub] 27) ∧ Tx w13 (fun _ => True) (.agg #[.int .i64 pb, .int .i64 kb, .slice ob sb ub]) x) := ⟨tbox_next HTB_12.out.1 hb, HTB_12.out.2.bel hb⟩
    clear hc hb HH12 k0 k1 k2 l0 l1 l2 HL0_12 HL1_12 HL2_12 HTA_12 HTB_12 v0 v1 v2
    have hbq : ((dn : Int) - (wn : Int) == 2 * ((un : Int) - (wn : Int))) = true := by have := HSUM.out; simp; omega
    have hdn : dn ≤ 100000 := by have := HLEN2.out; omega
    have hun : un ≤ 100000 := by have := HLEN2.out; omega
    have hwn : wn ≤ 100000 := by have := HLEN2.out; omega
    go_wp2_with fail
    go_ret
    exact ⟨by simp, HH13.out.1⟩
  · have HNZ : Hid (¬ er = 0) := hr
    have hb1 : (er != 0) = true := by simp; exact hr
    clear hr
    have k0 := tcell_blk HH4.out.2.1 0
    have k1 := tcell_blk HH4.out.2.1 1
    have k2 := tcell_blk HH4.out.2.1 2
    have l0 := tcell_blk HH4.out.2.2 0
    have l1 := tcell_blk HH4.out.2.2 1
    have l2 := tcell_blk HH4.out.2.2 2
    simp only [List.getElem?_toArray, List.getElem?_cons_zero, List.getElem?_cons_succ] at k0 k1 k2 l0 l1 l2
    have hc := Down_any t n (.slice ga gm gc) ps (.agg #[.int .i64 p, .int .i64 k, .slice ao tn cap]) x (fun _ => True) w4 (HP.out.below HH4.out.1) (HX.out.bel HH4.out.1)
    go_wp2_with fail
    refine hc.mono ?_
    rintro _ w5 ⟨b0, m0, d0, rfl, hb, hq⟩
    have HH5 : Hid (Below w.heap.size w w5 ∧ Yh w.heap.size t n ga gm gc p k ao tn cap w5) := ⟨HH4.out.1.trans (hb.mono HH4.out.1.size), HH4.out.2.next hb⟩
    rw [HER.out]
    rw [HER.out, if_neg HNZ.out] at hq
    simp only [Value.slice.injEq] at hq
    obtain ⟨rfl, rfl, rfl⟩ := hq
    clear hc hb HH4 k0 k1 k2 l0 l1 l2 x4 hxl
    have k0 := tcell_blk HH5.out.2.1 0
    have k1 := tcell_blk HH5.out.2.1 1
    have k2 := tcell_blk HH5.out.2.1 2
    have l0 := tcell_blk HH5.out.2.2 0
    have l1 := tcell_blk HH5.out.2.2 1
    have l2 := tcell_blk HH5.out.2.2 2
    simp only [List.getElem?_toArray, List.getElem?_cons_zero, List.getElem?_cons_succ] at k0 k1 k2 l0 l1 l2
    have hc := Up_any t n (.slice ga gm gc) ps (.agg #[.int .i64 p, .int .i64 k, .slice ao tn cap]) x (fun _ => True) w5 (HP.out.below HH5.out.1) (HX.out.bel HH5.out.1)
    go_wp2_with fail
    refine hc.mono ?_
    rintro _ w6 ⟨b1, m1, d1, rfl, hb, hq⟩
    have HH6 : Hid (Below w.heap.size w w6 ∧ Yh w.heap.size t n ga gm gc p k ao tn cap w6) := ⟨HH5.out.1.trans (hb.mono HH5.out.1.size), HH5.out.2.next hb⟩
    rw [HER.out]
    rw [HER.out, if_neg HNZ.out] at hq
    simp only [Value.slice.injEq] at hq
    obtain ⟨rfl, rfl, rfl⟩ := hq
    clear hc hb HH5 k0 k1 k2 l0 l1 l2
    have k0 := tcell_blk HH6.out.2.1 0
    have k1 := tcell_blk HH6.out.2.1 1
    have k2 := tcell_blk HH6.out.2.1 2
    have l0 := tcell_blk HH6.out.2.2 0
    have l1 := tcell_blk HH6.out.2.2 1
    have l2 := tcell_blk HH6.out.2.2 2
    simp only [List.getElem?_toArray, List.getElem?_cons_zero, List.getElem?_cons_succ] at k0 k1 k2 l0 l1 l2
    have hc := Yield_any t n (.slice ga gm gc) ps (.agg #[.int .i64 p, .int .i64 k, .slice ao tn cap]) x (fun _ => True) w6 (HP.out.below HH6.out.1) (HX.out.bel HH6.out.1)
    go_wp2_with fail
    refine hc.mono ?_
    rintro _ w7 ⟨b2, m2, d2, rfl, hb, hq⟩
    have HH7 : Hid (Below w.heap.size w w7 ∧ Yh w.heap.size t n ga gm gc p k ao tn cap w7) := ⟨HH6.out.1.trans (hb.mono HH6.out.1.size), HH6.out.2.next hb⟩
    rw [HER.out]
    rw [HER.out, if_neg HNZ.out] at hq
    simp only [Value.slice.injEq] at hq
    obtain ⟨rfl, rfl, rfl⟩ := hq
    clear hc hb HH6 k0 k1 k2 l0 l1 l2
    have k0 := tcell_blk HH7.out.2.1 0
    have k1 := tcell_blk HH7.out.2.1 1
    have k2 := tcell_blk HH7.out.2.1 2
    have l0 := tcell_blk HH7.out.2.2 0
    have l1 := tcell_blk HH7.out.2.2 1
    have l2 := tcell_blk HH7.out.2.2 2
    simp only [List.getElem?_toArray, List.getElem?_cons_zero, List.getElem?_cons_succ] at k0 k1 k2 l0 l1 l2
    have hc := TCheck_any t n (.slice ga gm gc) ps (.agg #[.int .i64 p, .int .i64 k, .slice ao tn cap]) x (fun _ => True) w7 (HP.out.below HH7.out.1) (HX.out.bel HH7.out.1)
    go_wp2_with fail
    refine hc.mono ?_
    rintro _ w8 ⟨rfl, hb⟩
    have HH8 : Hid (Below w.heap.size w w8 ∧ Yh w.heap.size t n ga gm gc p k ao tn cap w8) := ⟨HH7.out.1.trans (hb.mono HH7.out.1.size), HH7.out.2.next hb⟩
    rw [HER.out]
    clear hc hb HH7 k0 k1 k2 l0 l1 l2
    go_wp2_with fail
    go_ret
    exact ⟨by simp, HH8.out.1⟩

/-! ### What the walk gives, for every argument -/
set_option maxRecDepth 100000 in
theorem contract (H : Type) (enc : TypeId × Value → H) (W : World) (base : Nat) (args : Array Value) (ds gs : List (DataW H)) (before : List MemPlace)
    (hval : ∀ (j : Nat) t v, Try.f7.params[j]? = some t → args[j]? = some v → Value.okWide Try.prog W .any base t v)
    (hW : DataW.Whole enc Try.prog Try.f7.params.toList Rows.treesBackSpec.vars false W args.toList ds gs before) (hsz : (DataW.weightsEach Try.prog (Try.f7.params.toList ++ Rows.treesBackSpec.plain.varTypes Try.prog) (ds ++ gs)).all (· ≤ reachBytes) = true) :
    Calls Try.prog 7 args W fun e W' => ∃ v, e = .returned v ∧ Rows.treesBackSpec.post enc Try.prog Try.f7 false true false false W args v W' := by
  have hW' := hW
  obtain ⟨p, q, hA0, hV, rfl, hfz, hnd⟩ := hW
  have hA : DataW.TrodAll enc Try.prog W 0 (fun _ => true) true Try.f7.params.toList args.toList ds p := hA0
  rw [Try.params7] at hA hval hsz
  obtain ⟨v0, vs0, d0, ds0, p0, q0, hargs, rfl, rfl, h0, r0⟩ := trodAll_cons hA
  obtain ⟨v1, vs1, d1, ds1, p1, q1, rfl, rfl, rfl, h1, r1⟩ := trodAll_cons r0
  obtain ⟨rfl, rfl, rfl⟩ := trodAll_nil r1
  obtain rfl : args = #[v0, v1] := by cases args; simp_all
  obtain ⟨rfl, rfl⟩ := trodVars_none hV
  have k0 := h0
  have lt0 : ∀ x ∈ p0, x.block < W.heap.size := by obtain ⟨m, hm⟩ := k0; exact DataW.trod_lt m _ _ _ hm
  obtain ⟨a0t, a0n, a0s, a0p, rfl, w0s⟩ := open_gram (hval 0 24 v0 rfl rfl) h0
  have k1 := h1
  have lt1 : ∀ x ∈ p1, x.block < W.heap.size := by obtain ⟨m, hm⟩ := k1; exact DataW.trod_lt m _ _ _ hm
  obtain ⟨a1x, w1s⟩ := open_tree (hval 1 27 v1 rfl rfl) h1
  clear hA0
  refine (walk a0t a0n a0s a0p _ a1x W w0s w1s).mono fun e W' ⟨he, bel⟩ => ?_
  subst he
  exact ⟨_, rfl, _, _, _, [], _, [], hW', trodAll_mk1 (shut_bool Try.underlying4 _), (trodAll_cons_mk (Below.trod laidOut (by kernel_rfl) (of_decide_eq_true (by kernel_rfl)) k0 bel lt0) (trodAll_cons_mk (Below.trod laidOut (by kernel_rfl) (of_decide_eq_true (by kernel_rfl)) k1 bel lt1) trodAll_mk0)), rfl, bel.frame _, fun h => by cases h⟩

/-! ### The row's step -/
set_option maxRecDepth 100000 in
theorem lifted (os : Os) (started : os.Started) (H : Type) (enc : TypeId × Value → H) :
    ReturnsInHanded {} Try.checked os 7 .any (Rows.treesBackSpec.pre6 enc Try.prog Try.f7 Rows.treesBackRow.domain false) (Rows.treesBackSpec.post enc Try.prog Try.f7 false true false false) := by
  refine returnsInHanded_of_change_sized (C := Try.checked) own started (by kernel_rfl) Try.func7
    (ChangeSpec.witness6 (enc := enc) (C := Try.checked) false ⟨#[], #[.agg #[.int .i64 0, .int .i64 0, .slice none 0 0], .agg #[.int .i64 0, .int .i64 0, .slice none 0 0]], []⟩ 8 (by kernel_rfl) (by kernel_rfl) (by kernel_rfl) (by kernel_rfl)) ?_
  intro W base args ds gs before hval hW hcnd hsz _
  exact contract H enc W base args ds gs before hval hW hsz

theorem over : Rows.treesBackRow.holds Try.pinned (OpenSpec.ofChange Rows.treesBackSpec) :=
  OpenClaim.holds_of_wide 7 Try.f7 rfl rfl rfl rfl rfl rfl rfl ⟨rfl, rfl, rfl, rfl, rfl⟩ rfl rfl rfl rfl rfl (by kernel_rfl) Try.func7 (by kernel_rfl)
    (of_decide_eq_true (by kernel_rfl)) (by unfold Func.isWrapper; first | (rw [if_pos (by decide +kernel)]; kernel_rfl) | (rw [if_neg (by decide +kernel)]; exact ⟨rfl, rfl⟩))
    (fun os started H enc _ => lifted os started H enc)

end Go.Proofs.Ytldfiofgknmcgaa.treesBack
namespace Go.Proofs.Ytldfiofgknmcgaa
/-- The given statement. -/
theorem treesBack_holds : Rows.TreesBackSaid := treesBack.over
#print axioms treesBack_holds
end Go.Proofs.Ytldfiofgknmcgaa
