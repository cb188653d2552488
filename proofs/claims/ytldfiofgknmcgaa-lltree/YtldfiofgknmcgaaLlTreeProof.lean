/-
  LlTree returns true whatever grammar and tree are handed in, and changes nothing that it was handed; no condition.
-/
import Derived.Test.YtldfiofgknmcgaaRows
import Derived.WalkKit
import Derived.ProofKit
import Derived.OpenShut
import Derived.ShutString
import Derived.SizedLaws
import Derived.ChangeOld
import Derived.Below
import Derived.Carry
import Derived.WalkLawsBesides
import Derived.WalkSpells
import Derived.Test.YtldfiofgknmcgaaOpens
import Derived.Deep.Cut
import Derived.Test.YtldfiofgknmcgaaTrLlTree
import Derived.Test.YtldfiofgknmcgaaTrLlB
import Derived.Test.YtldfiofgknmcgaaTrAble
import Derived.Test.YtldfiofgknmcgaaTrYield
import Derived.Test.YtldfiofgknmcgaaFcBrack
namespace Go.Proofs.Ytldfiofgknmcgaa.llTree
open Go.ChangeShapes Go.WideShapes Go.ChangeAt Go.RowKit
open Go.ChangeMaps (open_string shut_string)
open Cg
set_option linter.unusedVariables false

theorem own : ownKnob Try.prog.godebug = none := by kernel_rfl
theorem laidOut : laidOutB Try.prog = true := by kernel_rfl
mutual
theorem yl_ok {t : Int} {n : Nat} {ps : List Pd} (hok : ∀ q (hq : q < ps.length), OkL t n ps[q].2) : ∀ {x : T} {s : Sy}, sh ps x s = true → (s.1 = 1 → 0 ≤ s.2 ∧ s.2 < t) → ∀ y ∈ yl ps x s, 0 ≤ y ∧ y < t
  | .mk p k l, s, h, hs => by
    rw [yl]
    by_cases h4 : s.1 = 1
    · rw [if_pos h4]; intro y hy; simp at hy; subst hy; exact hs h4
    · rw [if_neg h4]
      obtain ⟨h1, -, -, h5⟩ := sh_node h h4
      obtain ⟨q, hq, -, e2⟩ := body_mem h1
      obtain ⟨j, hj, rfl⟩ := List.mem_iff_getElem.1 hq
      exact ylL_ok hok h5 (fun s hs e => by
        have := hok j hj s (by rw [e2]; exact hs)
        rcases this with h | h
        · exact h.2
        · omega)
theorem ylL_ok {t : Int} {n : Nat} {ps : List Pd} (hok : ∀ q (hq : q < ps.length), OkL t n ps[q].2) : ∀ {l : List T} {ss : List Sy}, shL ps l ss = true → (∀ s ∈ ss, s.1 = 1 → 0 ≤ s.2 ∧ s.2 < t) → ∀ y ∈ ylL ps l ss, 0 ≤ y ∧ y < t
  | [], ss, h, hs => by intro y hy; simp [ylL] at hy
  | x :: l, [], h, hs => by rw [shL] at h; simp at h
  | x :: l, s :: ss, h, hs => by
    rw [shL] at h; simp at h
    intro y hy
    rw [ylL] at hy
    simp only [List.headD_cons, List.tail_cons, List.mem_append] at hy
    rcases hy with hy | hy
    · exact yl_ok hok h.1 (hs s (by simp)) y hy
    · exact ylL_ok hok h.2 (fun s2 hs2 => hs s2 (by simp [hs2])) y hy
end

/-! ### The walk: the Go text returns true. -/
set_option maxHeartbeats 16000000 in
set_option maxRecDepth 20000 in
theorem walk (a0t : Int) (a0n : Int) (a0s : Value) (a0p : List Pd) (v1 : Value) (a1x : T) (w : World) (w0s : Pds w a0s a0p) (w1s : Tx w (fun _ => True) v1 a1x) :
    Calls Try.prog 6 #[.agg #[.int .i64 a0t, .int .i64 a0n, a0s], v1] w fun e w' => e = .returned (.bool true) ∧ Below w.heap.size w w' := by
  have HP : Hid (Pds w a0s a0p) := w0s
  have HX : Hid (Tx w (fun _ => True) v1 a1x) := w1s
  obtain ⟨ga, gc, rfl, -, -⟩ := w0s
  obtain ⟨p, k, ao, cap, kids, vals, rfl, rfl, -⟩ := w1s.shape
  clear w1s
  obtain ⟨gm, HGM⟩ : ∃ gm, Hid (a0p.length = gm) := ⟨_, (rfl : a0p.length = _)⟩
  obtain ⟨tn, HTN⟩ : ∃ tn, Hid (kids.length = tn) := ⟨_, (rfl : kids.length = _)⟩
  rw [HGM.out] at HP ⊢
  rw [HTN.out] at HX ⊢
  obtain ⟨x, HXT⟩ : ∃ x, Hid (T.mk p k kids = x) := ⟨_, (rfl : T.mk p k kids = _)⟩
  rw [HXT.out] at HX
  revert HP HX HGM
  generalize a0t = t
  generalize a0n = n
  generalize a0p = ps
  intro _ _ _
  rename Hid (Pds _ _ _) => HP
  rename Hid (Tx _ _ _ _) => HX
  rename Hid (ps.length = _) => HGM
  obtain ⟨er, HER⟩ : ∃ er, Hid (errT t n ps x = er) := ⟨_, (rfl : errT t n ps x = _)⟩
  obtain ⟨ce, HCE⟩ : ∃ ce, Hid (chk t n ps = ce) := ⟨_, (rfl : chk t n ps = _)⟩
  have HH1 : Hid (Below w.heap.size w ((w.alloc (Obj.cells #[.int .i64 t, .int .i64 n, .slice ga gm gc] 24)).alloc (Obj.cells #[.int .i64 p, .int .i64 k, .slice ao tn cap] 27)) ∧ Yh w.heap.size t n ga gm gc p k ao tn cap ((w.alloc (Obj.cells #[.int .i64 t, .int .i64 n, .slice ga gm gc] 24)).alloc (Obj.cells #[.int .i64 p, .int .i64 k, .slice ao tn cap] 27))) := by
    refine ⟨below_alloc2 _ _ _, tbox_next (heap_alloc_new _ _) (below_alloc _ _), ?_⟩
    have := heap_alloc_new (w.alloc (Obj.cells #[.int .i64 t, .int .i64 n, .slice ga gm gc] 24)) (Obj.cells #[.int .i64 p, .int .i64 k, .slice ao tn cap] 27)
    rw [show (w.alloc (Obj.cells #[.int .i64 t, .int .i64 n, .slice ga gm gc] 24)).heap.size = w.heap.size + 1 by simp] at this
    exact this
  obtain ⟨w1, HW1⟩ : ∃ w1, Hid ((w.alloc (Obj.cells #[.int .i64 t, .int .i64 n, .slice ga gm gc] 24)).alloc (Obj.cells #[.int .i64 p, .int .i64 k, .slice ao tn cap] 27) = w1) := ⟨_, (rfl : (w.alloc (Obj.cells #[.int .i64 t, .int .i64 n, .slice ga gm gc] 24)).alloc (Obj.cells #[.int .i64 p, .int .i64 k, .slice ao tn cap] 27) = _)⟩
  have hb1x : ((1 : Int) != 1) = false := rfl
  go_enter Try.func6, Try.ntmps6
  go_upto_region 1 with fail
  rw [HW1.out] at HH1 ⊢
  clear HW1
  have k0 := tcell_blk HH1.out.2.1 0
  have k1 := tcell_blk HH1.out.2.1 1
  have k2 := tcell_blk HH1.out.2.1 2
  have l0 := tcell_blk HH1.out.2.2 0
  have l1 := tcell_blk HH1.out.2.2 1
  have l2 := tcell_blk HH1.out.2.2 2
  simp only [List.getElem?_toArray, List.getElem?_cons_zero, List.getElem?_cons_succ] at k0 k1 k2 l0 l1 l2
  have hc := brackets_any w1
  go_wp2_with fail
  refine hc.mono ?_
  rintro _ w2 ⟨gb, rfl, hpb, hb⟩
  have HH2 : Hid (Below w.heap.size w w2 ∧ Yh w.heap.size t n ga gm gc p k ao tn cap w2) := ⟨HH1.out.1.trans (hb.mono HH1.out.1.size), HH1.out.2.next hb⟩
  have HPB : Hid (Pds w2 (.slice (some ⟨gb, 0, none⟩) 2 2) brs) := hpb
  clear hc hb HH1 k0 k1 k2 l0 l1 l2 hpb
  have k0 := tcell_blk HH2.out.2.1 0
  have k1 := tcell_blk HH2.out.2.1 1
  have k2 := tcell_blk HH2.out.2.1 2
  have l0 := tcell_blk HH2.out.2.2 0
  have l1 := tcell_blk HH2.out.2.2 1
  have l2 := tcell_blk HH2.out.2.2 2
  simp only [List.getElem?_toArray, List.getElem?_cons_zero, List.getElem?_cons_succ] at k0 k1 k2 l0 l1 l2
  have hc := able_ok 2 1 _ brs w2 HPB.out (by decide)
  rw [show ((2 : Nat) : Int) = 2 from rfl, show ((1 : Nat) : Int) = 1 from rfl] at hc
  go_wp2_with fail
  refine hc.mono ?_
  rintro _ w3 ⟨rz, rzn, rzc, S0, rfl, htk, hrw, hb⟩
  have HH3 : Hid (Below w.heap.size w w3 ∧ Yh w.heap.size t n ga gm gc p k ao tn cap w3) := ⟨HH2.out.1.trans (hb.mono HH2.out.1.size), HH2.out.2.next hb⟩
  have hbl := brs_ll htk
  rw [show decide (clsN brs S0 2 1 = []) = true by simp [hbl.1]]
  obtain ⟨_, _, hre, -⟩ := id hrw
  simp only [Value.slice.injEq] at hre
  obtain ⟨-, hrn, -⟩ := hre
  rw [hbl.2.2] at hrn
  subst hrn
  have HRZ_3 : Hid (Rws w3 (.slice rz 1 rzc) (rowsL brs S0 2 1)) := hrw
  have HCZ : Hid (chkR 2 1 brs (rowsL brs S0 2 1) = 0) := hbl.2.1
  clear hc hb HH2 k0 k1 k2 l0 l1 l2 htk hrw hbl HPB
  have k0 := tcell_blk HH3.out.2.1 0
  have k1 := tcell_blk HH3.out.2.1 1
  have k2 := tcell_blk HH3.out.2.1 2
  have l0 := tcell_blk HH3.out.2.2 0
  have l1 := tcell_blk HH3.out.2.2 1
  have l2 := tcell_blk HH3.out.2.2 2
  simp only [List.getElem?_toArray, List.getElem?_cons_zero, List.getElem?_cons_succ] at k0 k1 k2 l0 l1 l2
  have hc := brackets_any w3
  go_wp2_with fail
  refine hc.mono ?_
  rintro _ w4 ⟨gb2, rfl, hpb, hb⟩
  have HH4 : Hid (Below w.heap.size w w4 ∧ Yh w.heap.size t n ga gm gc p k ao tn cap w4) := ⟨HH3.out.1.trans (hb.mono HH3.out.1.size), HH3.out.2.next hb⟩
  have HRZ_4 : Hid (Rws w4 (.slice rz 1 rzc) (rowsL brs S0 2 1)) := HRZ_3.out.below hb
  have HPB2 : Hid (Pds w4 (.slice (some ⟨gb2, 0, none⟩) 2 2) brs) := hpb
  clear hc hb HH3 k0 k1 k2 l0 l1 l2 hpb HRZ_3
  have k0 := tcell_blk HH4.out.2.1 0
  have k1 := tcell_blk HH4.out.2.1 1
  have k2 := tcell_blk HH4.out.2.1 2
  have l0 := tcell_blk HH4.out.2.2 0
  have l1 := tcell_blk HH4.out.2.2 1
  have l2 := tcell_blk HH4.out.2.2 2
  simp only [List.getElem?_toArray, List.getElem?_cons_zero, List.getElem?_cons_succ] at k0 k1 k2 l0 l1 l2
  have hc := LCheck_any 2 1 _ brs _ _ w4 HPB2.out HRZ_4.out
  rw [HCZ.out] at hc
  go_wp2_with fail
  refine hc.mono ?_
  rintro _ w5 ⟨rfl, hb⟩
  have HH5 : Hid (Below w.heap.size w w5 ∧ Yh w.heap.size t n ga gm gc p k ao tn cap w5) := ⟨HH4.out.1.trans (hb.mono HH4.out.1.size), HH4.out.2.next hb⟩
  clear hc hb HH4 k0 k1 k2 l0 l1 l2 HRZ_4 HPB2
  by_cases hz : ce = 0
  · subst hz
    obtain ⟨nn, rfl⟩ : ∃ nn : Nat, n = (nn : Int) := ⟨n.toNat, by have := okTN_le (chk_zero HCE.out).1; omega⟩
    obtain ⟨TT, rfl⟩ : ∃ TT : Nat, t = (TT : Int) := ⟨t.toNat, by have := okTN_le (chk_zero HCE.out).1; omega⟩
    have HCK : Hid (chk (TT : Int) (nn : Int) ps = 0) := HCE.out
    by_cases hr : er = 0
    · subst hr
      have h3 : (thr ps x (2, 0) 1 0 []).1 = 0 := by have h1 := HER.out; unfold errT at h1; rw [if_pos HCK.out] at h1; omega
      have h4 := thr_fwd (ps := ps) (t := x) (s := (2, 0)) (d := 1) (n := 0) (ws := []) (n' := (thr ps x (2, 0) 1 0 []).2.1) (ws' := (thr ps x (2, 0) 1 0 []).2.2) (trip h3)
      have HSH : Hid (sh ps x (2, 0) = true) := h4.1
      have HWD : Hid (wordT ps x = yl ps x (2, 0)) := by show _ = _; unfold wordT; rw [h4.2.2.2.2.2.1]; rfl
      have h5 := ev_len x
      have h6 := h4.2.2.2.2.2.2
      rw [← HWD.out] at h6
      have HLEN : Hid ((wordT ps x).length ≤ 100000) := by show _ ≤ _; omega
      have HWX : Hid (∀ y ∈ wordT ps x, 0 ≤ y ∧ y < (TT : Int)) := fun y hy => by
        rw [HWD.out] at hy
        have hrg := rg_of HCK.out
        have := yl_ok (fun q hq => hrg.ok q hq) HSH.out (fun h => absurd h (by decide)) y hy
        omega
      obtain ⟨wn, HWN⟩ : ∃ wn, Hid ((wordT ps x).length = wn) := ⟨_, (rfl : (wordT ps x).length = _)⟩
      clear h3 h4 h5 h6
      have k0 := tcell_blk HH5.out.2.1 0
      have k1 := tcell_blk HH5.out.2.1 1
      have k2 := tcell_blk HH5.out.2.1 2
      have l0 := tcell_blk HH5.out.2.2 0
      have l1 := tcell_blk HH5.out.2.2 1
      have l2 := tcell_blk HH5.out.2.2 2
      simp only [List.getElem?_toArray, List.getElem?_cons_zero, List.getElem?_cons_succ] at k0 k1 k2 l0 l1 l2
      have hc := able_ok TT nn (.slice ga gm gc) ps w5 (HP.out.below HH5.out.1) HCK.out
      go_wp2_with fail
      refine hc.mono ?_
      rintro _ w6 ⟨ra, rn, rc, S, rfl, htk, hrw, hb⟩
      have HH6 : Hid (Below w.heap.size w w6 ∧ Yh w.heap.size (TT : Int) (nn : Int) ga gm gc p k ao tn cap w6) := ⟨HH5.out.1.trans (hb.mono HH5.out.1.size), HH5.out.2.next hb⟩
      have HTK : Hid (TK ps S) := htk
      have HRR_6 : Hid (Rws w6 (.slice ra rn rc) (rowsL ps S TT nn)) := hrw
      obtain ⟨bq, HBQ⟩ : ∃ bq, Hid (decide (clsN ps S TT nn = []) = bq) := ⟨_, (rfl : decide (clsN ps S TT nn = []) = _)⟩
      rw [HBQ.out]
      clear hc hb HH5 k0 k1 k2 l0 l1 l2 htk hrw
      have HHb : Hid (Below w.heap.size w (w6.alloc (Obj.cells #[.slice ra rn rc] 60)) ∧ Yh w.heap.size (TT : Int) (nn : Int) ga gm gc p k ao tn cap (w6.alloc (Obj.cells #[.slice ra rn rc] 60))) := ⟨HH6.out.1.trans ((below_alloc _ _).mono HH6.out.1.size), HH6.out.2.next (below_alloc _ _)⟩
      have HRB_b : Hid ((w6.alloc (Obj.cells #[.slice ra rn rc] 60)).heap[w6.heap.size]? = some (.cells #[.slice ra rn rc] 60)) := heap_alloc_new _ _
      have HRR_b : Hid (Rws (w6.alloc (Obj.cells #[.slice ra rn rc] 60)) (.slice ra rn rc) (rowsL ps S TT nn)) := HRR_6.out.below (below_alloc _ _)
      go_upto_region 5 with fail
      obtain ⟨rbk, HQNrbk⟩ : ∃ rbk, Hid (w6.heap.size = rbk) := ⟨_, (rfl : w6.heap.size = _)⟩
      rw [HQNrbk.out] at HRB_b ⊢
      obtain ⟨w7, HW7⟩ : ∃ w7, Hid ((w6.alloc (Obj.cells #[.slice ra rn rc] 60)) = w7) := ⟨_, (rfl : (w6.alloc (Obj.cells #[.slice ra rn rc] 60)) = _)⟩
      rw [HW7.out] at HHb HRB_b HRR_b ⊢
      have HH7 : Hid (Below w.heap.size w w7 ∧ Yh w.heap.size (TT : Int) (nn : Int) ga gm gc p k ao tn cap w7) := HHb.out
      have HRB_7 : Hid (w7.heap[rbk]? = some (.cells #[.slice ra rn rc] 60)) := HRB_b.out
      have HRR_7 : Hid (Rws w7 (.slice ra rn rc) (rowsL ps S TT nn)) := HRR_b.out
      clear HHb HRB_b HRR_b HW7 HH6 HQNrbk HRR_6
      cases bq with
      | false =>
        have k0 := tcell_blk HH7.out.2.1 0
        have k1 := tcell_blk HH7.out.2.1 1
        have k2 := tcell_blk HH7.out.2.1 2
        have l0 := tcell_blk HH7.out.2.2 0
        have l1 := tcell_blk HH7.out.2.2 1
        have l2 := tcell_blk HH7.out.2.2 2
        simp only [List.getElem?_toArray, List.getElem?_cons_zero, List.getElem?_cons_succ] at k0 k1 k2 l0 l1 l2
        have hc := Yield_any (TT : Int) (nn : Int) (.slice ga gm gc) ps (.agg #[.int .i64 p, .int .i64 k, .slice ao tn cap]) x (fun _ => True) w7 (HP.out.below HH7.out.1) (HX.out.bel HH7.out.1)
        go_wp2_with fail
        refine hc.mono ?_
        rintro _ w8 ⟨ya, yn, yc, rfl, hb, hq⟩
        have HH8 : Hid (Below w.heap.size w w8 ∧ Yh w.heap.size (TT : Int) (nn : Int) ga gm gc p k ao tn cap w8) := ⟨HH7.out.1.trans (hb.mono HH7.out.1.size), HH7.out.2.next hb⟩
        have HRR_8 : Hid (Rws w8 (.slice ra rn rc) (rowsL ps S TT nn)) := HRR_7.out.below hb
        have HRB_8 : Hid (w8.heap[rbk]? = some (.cells #[.slice ra rn rc] 60)) := tbox_next HRB_7.out hb
        rw [HER.out]
        rw [HER.out, if_pos rfl] at hq
        obtain ⟨_, _, hsh⟩ := own_len hq
        simp only [Value.slice.injEq] at hsh
        obtain ⟨-, rfl, -⟩ := hsh
        have HWL_8 : Hid (Nms w8 (.slice ya (wordT ps x).length yc) (wordT ps x)) := nms_of_own hq (by have := HLEN.out; omega)
        rw [HWN.out] at HWL_8 ⊢
        clear hc hb HH7 k0 k1 k2 l0 l1 l2 hq HRR_7 HRB_7
        have HHb : Hid (Below w.heap.size w (w8.alloc (Obj.cells #[.slice ya wn yc] 31)) ∧ Yh w.heap.size (TT : Int) (nn : Int) ga gm gc p k ao tn cap (w8.alloc (Obj.cells #[.slice ya wn yc] 31))) := ⟨HH8.out.1.trans ((below_alloc _ _).mono HH8.out.1.size), HH8.out.2.next (below_alloc _ _)⟩
        have HWB_b : Hid ((w8.alloc (Obj.cells #[.slice ya wn yc] 31)).heap[w8.heap.size]? = some (.cells #[.slice ya wn yc] 31)) := heap_alloc_new _ _
        have HRR_b : Hid (Rws (w8.alloc (Obj.cells #[.slice ya wn yc] 31)) (.slice ra rn rc) (rowsL ps S TT nn)) := HRR_8.out.below (below_alloc _ _)
        have HRB_b : Hid ((w8.alloc (Obj.cells #[.slice ya wn yc] 31)).heap[rbk]? = some (.cells #[.slice ra rn rc] 60)) := tbox_next HRB_8.out (below_alloc _ _)
        have HWL_b : Hid (Nms (w8.alloc (Obj.cells #[.slice ya wn yc] 31)) (.slice ya wn yc) (wordT ps x)) := HWL_8.out.below (below_alloc _ _)
        go_upto_region 6 with fail
        obtain ⟨wbk, HQNwbk⟩ : ∃ wbk, Hid (w8.heap.size = wbk) := ⟨_, (rfl : w8.heap.size = _)⟩
        rw [HQNwbk.out] at HWB_b ⊢
        obtain ⟨w9, HW9⟩ : ∃ w9, Hid ((w8.alloc (Obj.cells #[.slice ya wn yc] 31)) = w9) := ⟨_, (rfl : (w8.alloc (Obj.cells #[.slice ya wn yc] 31)) = _)⟩
        rw [HW9.out] at HHb HWB_b HRR_b HRB_b HWL_b ⊢
        have HH9 : Hid (Below w.heap.size w w9 ∧ Yh w.heap.size (TT : Int) (nn : Int) ga gm gc p k ao tn cap w9) := HHb.out
        have HWB_9 : Hid (w9.heap[wbk]? = some (.cells #[.slice ya wn yc] 31)) := HWB_b.out
        have HRR_9 : Hid (Rws w9 (.slice ra rn rc) (rowsL ps S TT nn)) := HRR_b.out
        have HRB_9 : Hid (w9.heap[rbk]? = some (.cells #[.slice ra rn rc] 60)) := HRB_b.out
        have HWL_9 : Hid (Nms w9 (.slice ya wn yc) (wordT ps x)) := HWL_b.out
        clear HHb HWB_b HRR_b HRB_b HWL_b HW9 HH8 HQNwbk HRR_8 HRB_8 HWL_8
        go_wp2_with fail
        go_ret
        exact ⟨by simp, HH9.out.1⟩
      | true =>
        have k0 := tcell_blk HH7.out.2.1 0
        have k1 := tcell_blk HH7.out.2.1 1
        have k2 := tcell_blk HH7.out.2.1 2
        have l0 := tcell_blk HH7.out.2.2 0
        have l1 := tcell_blk HH7.out.2.2 1
        have l2 := tcell_blk HH7.out.2.2 2
        simp only [List.getElem?_toArray, List.getElem?_cons_zero, List.getElem?_cons_succ] at k0 k1 k2 l0 l1 l2
        have hc := Yield_any (TT : Int) (nn : Int) (.slice ga gm gc) ps (.agg #[.int .i64 p, .int .i64 k, .slice ao tn cap]) x (fun _ => True) w7 (HP.out.below HH7.out.1) (HX.out.bel HH7.out.1)
        go_wp2_with fail
        refine hc.mono ?_
        rintro _ w8 ⟨ya, yn, yc, rfl, hb, hq⟩
        have HH8 : Hid (Below w.heap.size w w8 ∧ Yh w.heap.size (TT : Int) (nn : Int) ga gm gc p k ao tn cap w8) := ⟨HH7.out.1.trans (hb.mono HH7.out.1.size), HH7.out.2.next hb⟩
        have HRR_8 : Hid (Rws w8 (.slice ra rn rc) (rowsL ps S TT nn)) := HRR_7.out.below hb
        have HRB_8 : Hid (w8.heap[rbk]? = some (.cells #[.slice ra rn rc] 60)) := tbox_next HRB_7.out hb
        rw [HER.out]
        rw [HER.out, if_pos rfl] at hq
        obtain ⟨_, _, hsh⟩ := own_len hq
        simp only [Value.slice.injEq] at hsh
        obtain ⟨-, rfl, -⟩ := hsh
        have HWL_8 : Hid (Nms w8 (.slice ya (wordT ps x).length yc) (wordT ps x)) := nms_of_own hq (by have := HLEN.out; omega)
        rw [HWN.out] at HWL_8 ⊢
        clear hc hb HH7 k0 k1 k2 l0 l1 l2 hq HRR_7 HRB_7
        have HHb : Hid (Below w.heap.size w (w8.alloc (Obj.cells #[.slice ya wn yc] 31)) ∧ Yh w.heap.size (TT : Int) (nn : Int) ga gm gc p k ao tn cap (w8.alloc (Obj.cells #[.slice ya wn yc] 31))) := ⟨HH8.out.1.trans ((below_alloc _ _).mono HH8.out.1.size), HH8.out.2.next (below_alloc _ _)⟩
        have HWB_b : Hid ((w8.alloc (Obj.cells #[.slice ya wn yc] 31)).heap[w8.heap.size]? = some (.cells #[.slice ya wn yc] 31)) := heap_alloc_new _ _
        have HRR_b : Hid (Rws (w8.alloc (Obj.cells #[.slice ya wn yc] 31)) (.slice ra rn rc) (rowsL ps S TT nn)) := HRR_8.out.below (below_alloc _ _)
        have HRB_b : Hid ((w8.alloc (Obj.cells #[.slice ya wn yc] 31)).heap[rbk]? = some (.cells #[.slice ra rn rc] 60)) := tbox_next HRB_8.out (below_alloc _ _)
        have HWL_b : Hid (Nms (w8.alloc (Obj.cells #[.slice ya wn yc] 31)) (.slice ya wn yc) (wordT ps x)) := HWL_8.out.below (below_alloc _ _)
        go_upto_region 6 with fail
        obtain ⟨wbk, HQNwbk⟩ : ∃ wbk, Hid (w8.heap.size = wbk) := ⟨_, (rfl : w8.heap.size = _)⟩
        rw [HQNwbk.out] at HWB_b ⊢
        obtain ⟨w9, HW9⟩ : ∃ w9, Hid ((w8.alloc (Obj.cells #[.slice ya wn yc] 31)) = w9) := ⟨_, (rfl : (w8.alloc (Obj.cells #[.slice ya wn yc] 31)) = _)⟩
        rw [HW9.out] at HHb HWB_b HRR_b HRB_b HWL_b ⊢
        have HH9 : Hid (Below w.heap.size w w9 ∧ Yh w.heap.size (TT : Int) (nn : Int) ga gm gc p k ao tn cap w9) := HHb.out
        have HWB_9 : Hid (w9.heap[wbk]? = some (.cells #[.slice ya wn yc] 31)) := HWB_b.out
        have HRR_9 : Hid (Rws w9 (.slice ra rn rc) (rowsL ps S TT nn)) := HRR_b.out
        have HRB_9 : Hid (w9.heap[rbk]? = some (.cells #[.slice ra rn rc] 60)) := HRB_b.out
        have HWL_9 : Hid (Nms w9 (.slice ya wn yc) (wordT ps x)) := HWL_b.out
        clear HHb HWB_b HRR_b HRB_b HWL_b HW9 HH8 HQNwbk HRR_8 HRB_8 HWL_8
        obtain ⟨E, F, V, R, M, hfa, hS⟩ := HTK.out
        subst hS
        have HLD : Hid (Ld w9 TT nn ga gm gc ya wn yc ra rn rc ps E F V R M (wordT ps x)) := ⟨(HP.out.below HH9.out.1), HGM.out, rg_of HCK.out, hfa, HWL_9.out, HWN.out, HWX.out, by rw [← HWN.out]; have := HLEN.out; omega, HRR_9.out, of_decide_eq_true HBQ.out⟩
        have HFW : Hid (le (nx []) (V 0)) := hfa.w.cl.z
        have hmf : ∀ (fn : Fn) (first cap : Array Value) (w : World), (Instr.makeFunc fn first cap).run Try.prog w = .ok (.func fn first cap) w := fun _ _ _ _ => rfl
        have HLY : Hid (Ly w9 w9.heap.size wbk rbk w.heap.size (w9.heap.size + 1) TT nn ga gm gc ya wn yc ra rn rc 0 ((w9.alloc (Obj.cells #[.int .i64 0] 3)).alloc (Obj.cells #[.func (Fn.func 28) #[] #[.pointer (some ⟨w.heap.size, 0, none⟩), .pointer (some ⟨w9.heap.size, 0, none⟩), .pointer (some ⟨wbk, 0, none⟩), .pointer (some ⟨rbk, 0, none⟩), .pointer (some ⟨w9.heap.size + 1, 0, none⟩)]] 64)) ∧ Yh w.heap.size (TT : Int) (nn : Int) ga gm gc p k ao tn cap ((w9.alloc (Obj.cells #[.int .i64 0] 3)).alloc (Obj.cells #[.func (Fn.func 28) #[] #[.pointer (some ⟨w.heap.size, 0, none⟩), .pointer (some ⟨w9.heap.size, 0, none⟩), .pointer (some ⟨wbk, 0, none⟩), .pointer (some ⟨rbk, 0, none⟩), .pointer (some ⟨w9.heap.size + 1, 0, none⟩)]] 64))) := by
          have b1 := below_alloc w9 (Obj.cells #[.int .i64 0] 3)
          have b2 := below_alloc (w9.alloc (Obj.cells #[.int .i64 0] 3)) (Obj.cells #[.func (Fn.func 28) #[] #[.pointer (some ⟨w.heap.size, 0, none⟩), .pointer (some ⟨w9.heap.size, 0, none⟩), .pointer (some ⟨wbk, 0, none⟩), .pointer (some ⟨rbk, 0, none⟩), .pointer (some ⟨w9.heap.size + 1, 0, none⟩)]] 64)
          have g1 := heap_alloc_new w9 (Obj.cells #[.int .i64 0] 3)
          have g2 := heap_alloc_new (w9.alloc (Obj.cells #[.int .i64 0] 3)) (Obj.cells #[.func (Fn.func 28) #[] #[.pointer (some ⟨w.heap.size, 0, none⟩), .pointer (some ⟨w9.heap.size, 0, none⟩), .pointer (some ⟨wbk, 0, none⟩), .pointer (some ⟨rbk, 0, none⟩), .pointer (some ⟨w9.heap.size + 1, 0, none⟩)]] 64)
          rw [show (w9.alloc (Obj.cells #[.int .i64 0] 3)).heap.size = w9.heap.size + 1 by simp] at g2
          have b3 := b1.trans (b2.mono b1.size)
          exact ⟨⟨tbox_next g1 b2, tbox_next HWB_9.out b3, tbox_next HRB_9.out b3, tbox_next HH9.out.2.1 b3, g2, Nat.le_refl _, b3⟩, HH9.out.2.next b3⟩
        clear hfa
        go_upto_region 11 with fail
        obtain ⟨w10, HW10⟩ : ∃ w10, Hid (((w9.alloc (Obj.cells #[.int .i64 0] 3)).alloc (Obj.cells #[.func (Fn.func 28) #[] #[.pointer (some ⟨w.heap.size, 0, none⟩), .pointer (some ⟨w9.heap.size, 0, none⟩), .pointer (some ⟨wbk, 0, none⟩), .pointer (some ⟨rbk, 0, none⟩), .pointer (some ⟨w9.heap.size + 1, 0, none⟩)]] 64)) = w10) := ⟨_, (rfl : ((w9.alloc (Obj.cells #[.int .i64 0] 3)).alloc (Obj.cells #[.func (Fn.func 28) #[] #[.pointer (some ⟨w.heap.size, 0, none⟩), .pointer (some ⟨w9.heap.size, 0, none⟩), .pointer (some ⟨wbk, 0, none⟩), .pointer (some ⟨rbk, 0, none⟩), .pointer (some ⟨w9.heap.size + 1, 0, none⟩)]] 64)) = _)⟩
        rw [HW10.out] at HLY ⊢
        have hc := lltree_all w9 w9.heap.size wbk rbk w.heap.size (w9.heap.size + 1) TT nn ga gm gc ya wn yc ra rn rc ps E F V R M (wordT ps x) HLD.out (fun _ => True) x.sz x (Nat.le_refl _) (.agg #[.int .i64 p, .int .i64 k, .slice ao tn cap]) (2, 0) [] [] w10 (HX.out.bel HH9.out.1) HSH.out (by decide) (by rw [HWD.out]; simp) HFW.out HLY.out.1
        have fx := tcell_blk HLY.out.1.f 0
        have k0 := tcell_blk HLY.out.2.1 0
        have k1 := tcell_blk HLY.out.2.1 1
        have k2 := tcell_blk HLY.out.2.1 2
        have l0 := tcell_blk HLY.out.2.2 0
        have l1 := tcell_blk HLY.out.2.2 1
        have l2 := tcell_blk HLY.out.2.2 2
        simp only [List.getElem?_toArray, List.getElem?_cons_zero, List.getElem?_cons_succ] at k0 k1 k2 l0 l1 l2
        simp only [List.getElem?_toArray, List.getElem?_cons_zero] at fx
        go_wp2_with fail
        refine hc.mono ?_
        rintro _ w11 ⟨rfl, hl9, -⟩
        have HB9 : Hid (Below w.heap.size w w11) := HH9.out.1.trans (hl9.bel.mono HH9.out.1.size)
        clear hc k0 k1 k2 l0 l1 l2 hl9 fx
        go_wp2_with fail
        go_ret
        exact ⟨by simp, HB9.out⟩
    · have HNZ : Hid (¬ er = 0) := hr
      have hb1 : (er != 0) = true := by simp; exact hr
      clear hr
      have k0 := tcell_blk HH5.out.2.1 0
      have k1 := tcell_blk HH5.out.2.1 1
      have k2 := tcell_blk HH5.out.2.1 2
      have l0 := tcell_blk HH5.out.2.2 0
      have l1 := tcell_blk HH5.out.2.2 1
      have l2 := tcell_blk HH5.out.2.2 2
      simp only [List.getElem?_toArray, List.getElem?_cons_zero, List.getElem?_cons_succ] at k0 k1 k2 l0 l1 l2
      have hc := able_ok TT nn (.slice ga gm gc) ps w5 (HP.out.below HH5.out.1) HCK.out
      go_wp2_with fail
      refine hc.mono ?_
      rintro _ w6 ⟨ra, rn, rc, S, rfl, htk, hrw, hb⟩
      have HH6 : Hid (Below w.heap.size w w6 ∧ Yh w.heap.size (TT : Int) (nn : Int) ga gm gc p k ao tn cap w6) := ⟨HH5.out.1.trans (hb.mono HH5.out.1.size), HH5.out.2.next hb⟩
      have HTK : Hid (TK ps S) := htk
      have HRR_6 : Hid (Rws w6 (.slice ra rn rc) (rowsL ps S TT nn)) := hrw
      obtain ⟨bq, HBQ⟩ : ∃ bq, Hid (decide (clsN ps S TT nn = []) = bq) := ⟨_, (rfl : decide (clsN ps S TT nn = []) = _)⟩
      rw [HBQ.out]
      clear hc hb HH5 k0 k1 k2 l0 l1 l2 htk hrw
      have HHb : Hid (Below w.heap.size w (w6.alloc (Obj.cells #[.slice ra rn rc] 60)) ∧ Yh w.heap.size (TT : Int) (nn : Int) ga gm gc p k ao tn cap (w6.alloc (Obj.cells #[.slice ra rn rc] 60))) := ⟨HH6.out.1.trans ((below_alloc _ _).mono HH6.out.1.size), HH6.out.2.next (below_alloc _ _)⟩
      have HRB_b : Hid ((w6.alloc (Obj.cells #[.slice ra rn rc] 60)).heap[w6.heap.size]? = some (.cells #[.slice ra rn rc] 60)) := heap_alloc_new _ _
      have HRR_b : Hid (Rws (w6.alloc (Obj.cells #[.slice ra rn rc] 60)) (.slice ra rn rc) (rowsL ps S TT nn)) := HRR_6.out.below (below_alloc _ _)
      go_upto_region 5 with fail
      obtain ⟨rbk, HQNrbk⟩ : ∃ rbk, Hid (w6.heap.size = rbk) := ⟨_, (rfl : w6.heap.size = _)⟩
      rw [HQNrbk.out] at HRB_b ⊢
      obtain ⟨w7, HW7⟩ : ∃ w7, Hid ((w6.alloc (Obj.cells #[.slice ra rn rc] 60)) = w7) := ⟨_, (rfl : (w6.alloc (Obj.cells #[.slice ra rn rc] 60)) = _)⟩
      rw [HW7.out] at HHb HRB_b HRR_b ⊢
      have HH7 : Hid (Below w.heap.size w w7 ∧ Yh w.heap.size (TT : Int) (nn : Int) ga gm gc p k ao tn cap w7) := HHb.out
      have HRB_7 : Hid (w7.heap[rbk]? = some (.cells #[.slice ra rn rc] 60)) := HRB_b.out
      have HRR_7 : Hid (Rws w7 (.slice ra rn rc) (rowsL ps S TT nn)) := HRR_b.out
      clear HHb HRB_b HRR_b HW7 HH6 HQNrbk HRR_6
      cases bq with
      | false =>
        have k0 := tcell_blk HH7.out.2.1 0
        have k1 := tcell_blk HH7.out.2.1 1
        have k2 := tcell_blk HH7.out.2.1 2
        have l0 := tcell_blk HH7.out.2.2 0
        have l1 := tcell_blk HH7.out.2.2 1
        have l2 := tcell_blk HH7.out.2.2 2
        simp only [List.getElem?_toArray, List.getElem?_cons_zero, List.getElem?_cons_succ] at k0 k1 k2 l0 l1 l2
        have hc := Yield_any (TT : Int) (nn : Int) (.slice ga gm gc) ps (.agg #[.int .i64 p, .int .i64 k, .slice ao tn cap]) x (fun _ => True) w7 (HP.out.below HH7.out.1) (HX.out.bel HH7.out.1)
        go_wp2_with fail
        refine hc.mono ?_
        rintro _ w8 ⟨ya, yn, yc, rfl, hb, -⟩
        have HH8 : Hid (Below w.heap.size w w8 ∧ Yh w.heap.size (TT : Int) (nn : Int) ga gm gc p k ao tn cap w8) := ⟨HH7.out.1.trans (hb.mono HH7.out.1.size), HH7.out.2.next hb⟩
        have HRR_8 : Hid (Rws w8 (.slice ra rn rc) (rowsL ps S TT nn)) := HRR_7.out.below hb
        have HRB_8 : Hid (w8.heap[rbk]? = some (.cells #[.slice ra rn rc] 60)) := tbox_next HRB_7.out hb
        rw [HER.out]
        clear hc hb HH7 k0 k1 k2 l0 l1 l2 HRR_7 HRB_7
        have HHb : Hid (Below w.heap.size w (w8.alloc (Obj.cells #[.slice ya yn yc] 31)) ∧ Yh w.heap.size (TT : Int) (nn : Int) ga gm gc p k ao tn cap (w8.alloc (Obj.cells #[.slice ya yn yc] 31))) := ⟨HH8.out.1.trans ((below_alloc _ _).mono HH8.out.1.size), HH8.out.2.next (below_alloc _ _)⟩
        have HWB_b : Hid ((w8.alloc (Obj.cells #[.slice ya yn yc] 31)).heap[w8.heap.size]? = some (.cells #[.slice ya yn yc] 31)) := heap_alloc_new _ _
        have HRR_b : Hid (Rws (w8.alloc (Obj.cells #[.slice ya yn yc] 31)) (.slice ra rn rc) (rowsL ps S TT nn)) := HRR_8.out.below (below_alloc _ _)
        have HRB_b : Hid ((w8.alloc (Obj.cells #[.slice ya yn yc] 31)).heap[rbk]? = some (.cells #[.slice ra rn rc] 60)) := tbox_next HRB_8.out (below_alloc _ _)
        go_upto_region 6 with fail
        obtain ⟨wbk, HQNwbk⟩ : ∃ wbk, Hid (w8.heap.size = wbk) := ⟨_, (rfl : w8.heap.size = _)⟩
        rw [HQNwbk.out] at HWB_b ⊢
        obtain ⟨w9, HW9⟩ : ∃ w9, Hid ((w8.alloc (Obj.cells #[.slice ya yn yc] 31)) = w9) := ⟨_, (rfl : (w8.alloc (Obj.cells #[.slice ya yn yc] 31)) = _)⟩
        rw [HW9.out] at HHb HWB_b HRR_b HRB_b ⊢
        have HH9 : Hid (Below w.heap.size w w9 ∧ Yh w.heap.size (TT : Int) (nn : Int) ga gm gc p k ao tn cap w9) := HHb.out
        have HWB_9 : Hid (w9.heap[wbk]? = some (.cells #[.slice ya yn yc] 31)) := HWB_b.out
        have HRR_9 : Hid (Rws w9 (.slice ra rn rc) (rowsL ps S TT nn)) := HRR_b.out
        have HRB_9 : Hid (w9.heap[rbk]? = some (.cells #[.slice ra rn rc] 60)) := HRB_b.out
        clear HHb HWB_b HRR_b HRB_b HW9 HH8 HQNwbk HRR_8 HRB_8
        go_wp2_with fail
        go_ret
        exact ⟨by simp, HH9.out.1⟩
      | true =>
        have k0 := tcell_blk HH7.out.2.1 0
        have k1 := tcell_blk HH7.out.2.1 1
        have k2 := tcell_blk HH7.out.2.1 2
        have l0 := tcell_blk HH7.out.2.2 0
        have l1 := tcell_blk HH7.out.2.2 1
        have l2 := tcell_blk HH7.out.2.2 2
        simp only [List.getElem?_toArray, List.getElem?_cons_zero, List.getElem?_cons_succ] at k0 k1 k2 l0 l1 l2
        have hc := Yield_any (TT : Int) (nn : Int) (.slice ga gm gc) ps (.agg #[.int .i64 p, .int .i64 k, .slice ao tn cap]) x (fun _ => True) w7 (HP.out.below HH7.out.1) (HX.out.bel HH7.out.1)
        go_wp2_with fail
        refine hc.mono ?_
        rintro _ w8 ⟨ya, yn, yc, rfl, hb, -⟩
        have HH8 : Hid (Below w.heap.size w w8 ∧ Yh w.heap.size (TT : Int) (nn : Int) ga gm gc p k ao tn cap w8) := ⟨HH7.out.1.trans (hb.mono HH7.out.1.size), HH7.out.2.next hb⟩
        have HRR_8 : Hid (Rws w8 (.slice ra rn rc) (rowsL ps S TT nn)) := HRR_7.out.below hb
        have HRB_8 : Hid (w8.heap[rbk]? = some (.cells #[.slice ra rn rc] 60)) := tbox_next HRB_7.out hb
        rw [HER.out]
        clear hc hb HH7 k0 k1 k2 l0 l1 l2 HRR_7 HRB_7
        have HHb : Hid (Below w.heap.size w (w8.alloc (Obj.cells #[.slice ya yn yc] 31)) ∧ Yh w.heap.size (TT : Int) (nn : Int) ga gm gc p k ao tn cap (w8.alloc (Obj.cells #[.slice ya yn yc] 31))) := ⟨HH8.out.1.trans ((below_alloc _ _).mono HH8.out.1.size), HH8.out.2.next (below_alloc _ _)⟩
        have HWB_b : Hid ((w8.alloc (Obj.cells #[.slice ya yn yc] 31)).heap[w8.heap.size]? = some (.cells #[.slice ya yn yc] 31)) := heap_alloc_new _ _
        have HRR_b : Hid (Rws (w8.alloc (Obj.cells #[.slice ya yn yc] 31)) (.slice ra rn rc) (rowsL ps S TT nn)) := HRR_8.out.below (below_alloc _ _)
        have HRB_b : Hid ((w8.alloc (Obj.cells #[.slice ya yn yc] 31)).heap[rbk]? = some (.cells #[.slice ra rn rc] 60)) := tbox_next HRB_8.out (below_alloc _ _)
        go_upto_region 6 with fail
        obtain ⟨wbk, HQNwbk⟩ : ∃ wbk, Hid (w8.heap.size = wbk) := ⟨_, (rfl : w8.heap.size = _)⟩
        rw [HQNwbk.out] at HWB_b ⊢
        obtain ⟨w9, HW9⟩ : ∃ w9, Hid ((w8.alloc (Obj.cells #[.slice ya yn yc] 31)) = w9) := ⟨_, (rfl : (w8.alloc (Obj.cells #[.slice ya yn yc] 31)) = _)⟩
        rw [HW9.out] at HHb HWB_b HRR_b HRB_b ⊢
        have HH9 : Hid (Below w.heap.size w w9 ∧ Yh w.heap.size (TT : Int) (nn : Int) ga gm gc p k ao tn cap w9) := HHb.out
        have HWB_9 : Hid (w9.heap[wbk]? = some (.cells #[.slice ya yn yc] 31)) := HWB_b.out
        have HRR_9 : Hid (Rws w9 (.slice ra rn rc) (rowsL ps S TT nn)) := HRR_b.out
        have HRB_9 : Hid (w9.heap[rbk]? = some (.cells #[.slice ra rn rc] 60)) := HRB_b.out
        clear HHb HWB_b HRR_b HRB_b HW9 HH8 HQNwbk HRR_8 HRB_8
        go_wp2_with fail
        go_ret
        exact ⟨by simp, HH9.out.1⟩
  · have HCK : Hid (chk t n ps ≠ 0) := by show _ ≠ _; rw [HCE.out]; exact hz
    clear hz
    have k0 := tcell_blk HH5.out.2.1 0
    have k1 := tcell_blk HH5.out.2.1 1
    have k2 := tcell_blk HH5.out.2.1 2
    have l0 := tcell_blk HH5.out.2.2 0
    have l1 := tcell_blk HH5.out.2.2 1
    have l2 := tcell_blk HH5.out.2.2 2
    simp only [List.getElem?_toArray, List.getElem?_cons_zero, List.getElem?_cons_succ] at k0 k1 k2 l0 l1 l2
    have hc := able_bad t n (.slice ga gm gc) ps w5 (HP.out.below HH5.out.1) HCK.out
    go_wp2_with fail
    refine hc.mono ?_
    rintro _ w6 ⟨rfl, hb⟩
    have HH6 : Hid (Below w.heap.size w w6 ∧ Yh w.heap.size t n ga gm gc p k ao tn cap w6) := ⟨HH5.out.1.trans (hb.mono HH5.out.1.size), HH5.out.2.next hb⟩
    clear hc hb HH5 k0 k1 k2 l0 l1 l2
    have HHb : Hid (Below w.heap.size w (w6.alloc (Obj.cells #[.slice none 0 0] 60)) ∧ Yh w.heap.size t n ga gm gc p k ao tn cap (w6.alloc (Obj.cells #[.slice none 0 0] 60))) := ⟨HH6.out.1.trans ((below_alloc _ _).mono HH6.out.1.size), HH6.out.2.next (below_alloc _ _)⟩
    have HRB_b : Hid ((w6.alloc (Obj.cells #[.slice none 0 0] 60)).heap[w6.heap.size]? = some (.cells #[.slice none 0 0] 60)) := heap_alloc_new _ _
    go_upto_region 5 with fail
    obtain ⟨rbk, HQNrbk⟩ : ∃ rbk, Hid (w6.heap.size = rbk) := ⟨_, (rfl : w6.heap.size = _)⟩
    rw [HQNrbk.out] at HRB_b ⊢
    obtain ⟨w7, HW7⟩ : ∃ w7, Hid ((w6.alloc (Obj.cells #[.slice none 0 0] 60)) = w7) := ⟨_, (rfl : (w6.alloc (Obj.cells #[.slice none 0 0] 60)) = _)⟩
    rw [HW7.out] at HHb HRB_b  ⊢
    have HH7 : Hid (Below w.heap.size w w7 ∧ Yh w.heap.size t n ga gm gc p k ao tn cap w7) := HHb.out
    have HRB_7 : Hid (w7.heap[rbk]? = some (.cells #[.slice none 0 0] 60)) := HRB_b.out
    clear HHb HRB_b HW7 HH6 HQNrbk
    have k0 := tcell_blk HH7.out.2.1 0
    have k1 := tcell_blk HH7.out.2.1 1
    have k2 := tcell_blk HH7.out.2.1 2
    have l0 := tcell_blk HH7.out.2.2 0
    have l1 := tcell_blk HH7.out.2.2 1
    have l2 := tcell_blk HH7.out.2.2 2
    simp only [List.getElem?_toArray, List.getElem?_cons_zero, List.getElem?_cons_succ] at k0 k1 k2 l0 l1 l2
    have hc := Yield_any t n (.slice ga gm gc) ps (.agg #[.int .i64 p, .int .i64 k, .slice ao tn cap]) x (fun _ => True) w7 (HP.out.below HH7.out.1) (HX.out.bel HH7.out.1)
    go_wp2_with fail
    refine hc.mono ?_
    rintro _ w8 ⟨ya, yn, yc, rfl, hb, -⟩
    have HH8 : Hid (Below w.heap.size w w8 ∧ Yh w.heap.size t n ga gm gc p k ao tn cap w8) := ⟨HH7.out.1.trans (hb.mono HH7.out.1.size), HH7.out.2.next hb⟩
    have HRB_8 : Hid (w8.heap[rbk]? = some (.cells #[.slice none 0 0] 60)) := tbox_next HRB_7.out hb
    rw [HER.out]
    clear hc hb HH7 k0 k1 k2 l0 l1 l2 HRB_7
    have HHb : Hid (Below w.heap.size w (w8.alloc (Obj.cells #[.slice ya yn yc] 31)) ∧ Yh w.heap.size t n ga gm gc p k ao tn cap (w8.alloc (Obj.cells #[.slice ya yn yc] 31))) := ⟨HH8.out.1.trans ((below_alloc _ _).mono HH8.out.1.size), HH8.out.2.next (below_alloc _ _)⟩
    have HWB_b : Hid ((w8.alloc (Obj.cells #[.slice ya yn yc] 31)).heap[w8.heap.size]? = some (.cells #[.slice ya yn yc] 31)) := heap_alloc_new _ _
    have HRB_b : Hid ((w8.alloc (Obj.cells #[.slice ya yn yc] 31)).heap[rbk]? = some (.cells #[.slice none 0 0] 60)) := tbox_next HRB_8.out (below_alloc _ _)
    go_upto_region 6 with fail
    obtain ⟨wbk, HQNwbk⟩ : ∃ wbk, Hid (w8.heap.size = wbk) := ⟨_, (rfl : w8.heap.size = _)⟩
    rw [HQNwbk.out] at HWB_b ⊢
    obtain ⟨w9, HW9⟩ : ∃ w9, Hid ((w8.alloc (Obj.cells #[.slice ya yn yc] 31)) = w9) := ⟨_, (rfl : (w8.alloc (Obj.cells #[.slice ya yn yc] 31)) = _)⟩
    rw [HW9.out] at HHb HWB_b HRB_b ⊢
    have HH9 : Hid (Below w.heap.size w w9 ∧ Yh w.heap.size t n ga gm gc p k ao tn cap w9) := HHb.out
    have HWB_9 : Hid (w9.heap[wbk]? = some (.cells #[.slice ya yn yc] 31)) := HWB_b.out
    have HRB_9 : Hid (w9.heap[rbk]? = some (.cells #[.slice none 0 0] 60)) := HRB_b.out
    clear HHb HWB_b HRB_b HW9 HH8 HQNwbk HRB_8
    go_wp2_with fail
    go_ret
    exact ⟨by simp, HH9.out.1⟩

/-! ### What the walk gives, for every argument -/
set_option maxRecDepth 100000 in
theorem contract (H : Type) (enc : TypeId × Value → H) (W : World) (base : Nat) (args : Array Value) (ds gs : List (DataW H)) (before : List MemPlace)
    (hval : ∀ (j : Nat) t v, Try.f6.params[j]? = some t → args[j]? = some v → Value.okWide Try.prog W .any base t v)
    (hW : DataW.Whole enc Try.prog Try.f6.params.toList Rows.llTreeSpec.vars false W args.toList ds gs before) (hsz : (DataW.weightsEach Try.prog (Try.f6.params.toList ++ Rows.llTreeSpec.plain.varTypes Try.prog) (ds ++ gs)).all (· ≤ reachBytes) = true) :
    Calls Try.prog 6 args W fun e W' => ∃ v, e = .returned v ∧ Rows.llTreeSpec.post enc Try.prog Try.f6 false true false false W args v W' := by
  have hW' := hW
  obtain ⟨p, q, hA0, hV, rfl, hfz, hnd⟩ := hW
  have hA : DataW.TrodAll enc Try.prog W 0 (fun _ => true) true Try.f6.params.toList args.toList ds p := hA0
  rw [Try.params6] at hA hval hsz
  obtain ⟨v0, vs0, d0, ds0, p0, q0, hargs, rfl, rfl, h0, r0⟩ := trodAll_cons hA
  obtain ⟨v1, vs1, d1, ds1, p1, q1, rfl, rfl, rfl, h1, r1⟩ := trodAll_cons r0
  obtain ⟨rfl, rfl, rfl⟩ := trodAll_nil r1
  obtain rfl : args = #[v0, v1] := by cases args; simp_all
  obtain ⟨rfl, rfl⟩ := trodVars_none hV
  have k0 := h0
  have lt0 : ∀ x ∈ p0, x.block < W.heap.size := by obtain ⟨m, hm⟩ := k0; exact DataW.trod_lt m _ _ _ hm
  obtain ⟨a0t, a0n, a0s, a0p, rfl, w0s⟩ := open_gram (hval 0 24 v0 rfl rfl) h0
  have k1 := h1
  have lt1 : ∀ x ∈ p1, x.block < W.heap.size := by obtain ⟨m, hm⟩ := k1; exact DataW.trod_lt m _ _ _ hm
  obtain ⟨a1x, w1s⟩ := open_tree (hval 1 27 v1 rfl rfl) h1
  clear hA0
  refine (walk a0t a0n a0s a0p _ a1x W w0s w1s).mono fun e W' ⟨he, bel⟩ => ?_
  subst he
  exact ⟨_, rfl, _, _, _, [], _, [], hW', trodAll_mk1 (shut_bool Try.underlying4 _), (trodAll_cons_mk (Below.trod laidOut (by kernel_rfl) (of_decide_eq_true (by kernel_rfl)) k0 bel lt0) (trodAll_cons_mk (Below.trod laidOut (by kernel_rfl) (of_decide_eq_true (by kernel_rfl)) k1 bel lt1) trodAll_mk0)), rfl, bel.frame _, fun h => by cases h⟩

/-! ### The row's step -/
set_option maxRecDepth 100000 in
theorem lifted (os : Os) (started : os.Started) (H : Type) (enc : TypeId × Value → H) :
    ReturnsInHanded {} Try.checked os 6 .any (Rows.llTreeSpec.pre6 enc Try.prog Try.f6 Rows.llTreeRow.domain false) (Rows.llTreeSpec.post enc Try.prog Try.f6 false true false false) := by
  refine returnsInHanded_of_change_sized (C := Try.checked) own started (by kernel_rfl) Try.func6
    (ChangeSpec.witness6 (enc := enc) (C := Try.checked) false ⟨#[], #[.agg #[.int .i64 0, .int .i64 0, .slice none 0 0], .agg #[.int .i64 0, .int .i64 0, .slice none 0 0]], []⟩ 8 (by kernel_rfl) (by kernel_rfl) (by kernel_rfl) (by kernel_rfl)) ?_
  intro W base args ds gs before hval hW hcnd hsz _
  exact contract H enc W base args ds gs before hval hW hsz

theorem over : Rows.llTreeRow.holds Try.pinned (OpenSpec.ofChange Rows.llTreeSpec) :=
  OpenClaim.holds_of_wide 6 Try.f6 rfl rfl rfl rfl rfl rfl rfl ⟨rfl, rfl, rfl, rfl, rfl⟩ rfl rfl rfl rfl rfl (by kernel_rfl) Try.func6 (by kernel_rfl)
    (of_decide_eq_true (by kernel_rfl)) (by unfold Func.isWrapper; first | (rw [if_pos (by decide +kernel)]; kernel_rfl) | (rw [if_neg (by decide +kernel)]; exact ⟨rfl, rfl⟩))
    (fun os started H enc _ => lifted os started H enc)

end Go.Proofs.Ytldfiofgknmcgaa.llTree
namespace Go.Proofs.Ytldfiofgknmcgaa
/-- The given statement. -/
theorem llTree_holds : Rows.LlTreeSaid := llTree.over
#print axioms llTree_holds
end Go.Proofs.Ytldfiofgknmcgaa
