/-
  FactsTree returns true whatever grammar and tree are handed in, and changes nothing that it was handed; no condition.
-/
import Derived.Test.YtldfiofgknmcgaaRows
import Derived.WalkKit
import Derived.ProofKit
import Derived.OpenShut
import Derived.ShutString
import Derived.SizedLaws
import Derived.ChangeOld
import Derived.Below
import Derived.Carry
import Derived.WalkLawsBesides
import Derived.WalkSpells
import Derived.Test.YtldfiofgknmcgaaOpens
import Derived.Deep.Cut
import Derived.Test.YtldfiofgknmcgaaTrNode
import Derived.Test.YtldfiofgknmcgaaTrYield
import Derived.Test.YtldfiofgknmcgaaFcBrack
namespace Go.Proofs.Ytldfiofgknmcgaa.factsTree
open Go.ChangeShapes Go.WideShapes Go.ChangeAt Go.RowKit
open Go.ChangeMaps (open_string shut_string)
open Cg
set_option linter.unusedVariables false

theorem own : ownKnob Try.prog.godebug = none := by kernel_rfl
theorem laidOut : laidOutB Try.prog = true := by kernel_rfl
mutual
theorem yl_ok {t : Int} {n : Nat} {ps : List Pd} (hok : ∀ q (hq : q < ps.length), OkL t n ps[q].2) : ∀ {x : T} {s : Sy}, sh ps x s = true → (s.1 = 1 → 0 ≤ s.2 ∧ s.2 < t) → ∀ y ∈ yl ps x s, 0 ≤ y ∧ y < t
  | .mk p k l, s, h, hs => by
    rw [yl]
    by_cases h4 : s.1 = 1
    · rw [if_pos h4]; intro y hy; simp at hy; subst hy; exact hs h4
    · rw [if_neg h4]
      obtain ⟨h1, -, -, h5⟩ := sh_node h h4
      obtain ⟨q, hq, -, e2⟩ := body_mem h1
      obtain ⟨j, hj, rfl⟩ := List.mem_iff_getElem.1 hq
      exact ylL_ok hok h5 (fun s hs e => by
        have := hok j hj s (by rw [e2]; exact hs)
        rcases this with h | h
        · exact h.2
        · omega)
theorem ylL_ok {t : Int} {n : Nat} {ps : List Pd} (hok : ∀ q (hq : q < ps.length), OkL t n ps[q].2) : ∀ {l : List T} {ss : List Sy}, shL ps l ss = true → (∀ s ∈ ss, s.1 = 1 → 0 ≤ s.2 ∧ s.2 < t) → ∀ y ∈ ylL ps l ss, 0 ≤ y ∧ y < t
  | [], ss, h, hs => by intro y hy; simp [ylL] at hy
  | x :: l, [], h, hs => by rw [shL] at h; simp at h
  | x :: l, s :: ss, h, hs => by
    rw [shL] at h; simp at h
    intro y hy
    rw [ylL] at hy
    simp only [List.headD_cons, List.tail_cons, List.mem_append] at hy
    rcases hy with hy | hy
    · exact yl_ok hok h.1 (hs s (by simp)) y hy
    · exact ylL_ok hok h.2 (fun s2 hs2 => hs s2 (by simp [hs2])) y hy
end

/-! ### The walk: the Go text returns true. -/
set_option maxHeartbeats 16000000 in
set_option maxRecDepth 20000 in
theorem walk (a0t : Int) (a0n : Int) (a0s : Value) (a0p : List Pd) (v1 : Value) (a1x : T) (w : World) (w0s : Pds w a0s a0p) (w1s : Tx w (fun _ => True) v1 a1x) :
    Calls Try.prog 5 #[.agg #[.int .i64 a0t, .int .i64 a0n, a0s], v1] w fun e w' => e = .returned (.bool true) ∧ Below w.heap.size w w' := by
  have HP : Hid (Pds w a0s a0p) := w0s
  have HX : Hid (Tx w (fun _ => True) v1 a1x) := w1s
  obtain ⟨ga, gc, rfl, -, -⟩ := w0s
  obtain ⟨p, k, ao, cap, kids, vals, rfl, rfl, -⟩ := w1s.shape
  clear w1s
  obtain ⟨gm, HGM⟩ : ∃ gm, Hid (a0p.length = gm) := ⟨_, (rfl : a0p.length = _)⟩
  obtain ⟨tn, HTN⟩ : ∃ tn, Hid (kids.length = tn) := ⟨_, (rfl : kids.length = _)⟩
  rw [HGM.out] at HP ⊢
  rw [HTN.out] at HX ⊢
  obtain ⟨x, HXT⟩ : ∃ x, Hid (T.mk p k kids = x) := ⟨_, (rfl : T.mk p k kids = _)⟩
  rw [HXT.out] at HX
  revert HP HX HGM
  generalize a0t = t
  generalize a0n = n
  generalize a0p = ps
  intro _ _ _
  rename Hid (Pds _ _ _) => HP
  rename Hid (Tx _ _ _ _) => HX
  rename Hid (ps.length = _) => HGM
  obtain ⟨er, HER⟩ : ∃ er, Hid (errT t n ps x = er) := ⟨_, (rfl : errT t n ps x = _)⟩
  obtain ⟨ce, HCE⟩ : ∃ ce, Hid (chk t n ps = ce) := ⟨_, (rfl : chk t n ps = _)⟩
  have HH1 : Hid (Below w.heap.size w ((w.alloc (Obj.cells #[.int .i64 t, .int .i64 n, .slice ga gm gc] 24)).alloc (Obj.cells #[.int .i64 p, .int .i64 k, .slice ao tn cap] 27)) ∧ Yh w.heap.size t n ga gm gc p k ao tn cap ((w.alloc (Obj.cells #[.int .i64 t, .int .i64 n, .slice ga gm gc] 24)).alloc (Obj.cells #[.int .i64 p, .int .i64 k, .slice ao tn cap] 27))) := by
    refine ⟨below_alloc2 _ _ _, tbox_next (heap_alloc_new _ _) (below_alloc _ _), ?_⟩
    have := heap_alloc_new (w.alloc (Obj.cells #[.int .i64 t, .int .i64 n, .slice ga gm gc] 24)) (Obj.cells #[.int .i64 p, .int .i64 k, .slice ao tn cap] 27)
    rw [show (w.alloc (Obj.cells #[.int .i64 t, .int .i64 n, .slice ga gm gc] 24)).heap.size = w.heap.size + 1 by simp] at this
    exact this
  obtain ⟨w1, HW1⟩ : ∃ w1, Hid ((w.alloc (Obj.cells #[.int .i64 t, .int .i64 n, .slice ga gm gc] 24)).alloc (Obj.cells #[.int .i64 p, .int .i64 k, .slice ao tn cap] 27) = w1) := ⟨_, (rfl : (w.alloc (Obj.cells #[.int .i64 t, .int .i64 n, .slice ga gm gc] 24)).alloc (Obj.cells #[.int .i64 p, .int .i64 k, .slice ao tn cap] 27) = _)⟩
  have hb1x : ((1 : Int) != 1) = false := rfl
  go_enter Try.func5, Try.ntmps5
  go_upto_region 1 with fail
  rw [HW1.out] at HH1 ⊢
  clear HW1
  have k0 := tcell_blk HH1.out.2.1 0
  have k1 := tcell_blk HH1.out.2.1 1
  have k2 := tcell_blk HH1.out.2.1 2
  have l0 := tcell_blk HH1.out.2.2 0
  have l1 := tcell_blk HH1.out.2.2 1
  have l2 := tcell_blk HH1.out.2.2 2
  simp only [List.getElem?_toArray, List.getElem?_cons_zero, List.getElem?_cons_succ] at k0 k1 k2 l0 l1 l2
  have hc := brackets_any w1
  go_wp2_with fail
  refine hc.mono ?_
  rintro _ w2 ⟨gb, rfl, hpb, hb⟩
  have HH2 : Hid (Below w.heap.size w w2 ∧ Yh w.heap.size t n ga gm gc p k ao tn cap w2) := ⟨HH1.out.1.trans (hb.mono HH1.out.1.size), HH1.out.2.next hb⟩
  have HPB : Hid (Pds w2 (.slice (some ⟨gb, 0, none⟩) 2 2) brs) := hpb
  clear hc hb HH1 k0 k1 k2 l0 l1 l2 hpb
  have k0 := tcell_blk HH2.out.2.1 0
  have k1 := tcell_blk HH2.out.2.1 1
  have k2 := tcell_blk HH2.out.2.1 2
  have l0 := tcell_blk HH2.out.2.2 0
  have l1 := tcell_blk HH2.out.2.2 1
  have l2 := tcell_blk HH2.out.2.2 2
  simp only [List.getElem?_toArray, List.getElem?_cons_zero, List.getElem?_cons_succ] at k0 k1 k2 l0 l1 l2
  have hc := Of_ok 2 1 _ brs w2 HPB.out (by decide)
  rw [show ((1 : Nat) : Int) = 1 from rfl] at hc
  go_wp2_with fail
  refine hc.mono ?_
  rintro _ w3 ⟨be, bf, bw, br, bm, rfl, hb, E, F, V, R, M, hfx, hfa⟩
  have HH3 : Hid (Below w.heap.size w w3 ∧ Yh w.heap.size t n ga gm gc p k ao tn cap w3) := ⟨HH2.out.1.trans (hb.mono HH2.out.1.size), HH2.out.2.next hb⟩
  have hM0 : M 0 = true := hfa.m.cl (0, []) (by simp [brs]) rfl
  have HM0 : Hid (w3.cell? ⟨bm, 0, none⟩ = some (.bool true) ∧ bm < w3.heap.size) := ⟨by have := hfx.m.cell (i := 0) (by omega); rw [hM0] at this; exact this, hfx.m.lt⟩
  clear hc hb HH2 k0 k1 k2 l0 l1 l2 hfx hfa hM0 HPB
  have HHb : Hid (Below w.heap.size w (w3.alloc (Obj.cells #[(.slice (some ⟨be, 0, none⟩) 1 1), (.slice (some ⟨bf, 0, none⟩) 1 1), (.slice (some ⟨bw, 0, none⟩) 1 1), (.slice (some ⟨br, 0, none⟩) 1 1), (.slice (some ⟨bm, 0, none⟩) 1 1)] 52)) ∧ Yh w.heap.size t n ga gm gc p k ao tn cap (w3.alloc (Obj.cells #[(.slice (some ⟨be, 0, none⟩) 1 1), (.slice (some ⟨bf, 0, none⟩) 1 1), (.slice (some ⟨bw, 0, none⟩) 1 1), (.slice (some ⟨br, 0, none⟩) 1 1), (.slice (some ⟨bm, 0, none⟩) 1 1)] 52))) := ⟨HH3.out.1.trans ((below_alloc _ _).mono HH3.out.1.size), HH3.out.2.next (below_alloc _ _)⟩
  have m0 : (w3.alloc (Obj.cells #[(.slice (some ⟨be, 0, none⟩) 1 1), (.slice (some ⟨bf, 0, none⟩) 1 1), (.slice (some ⟨bw, 0, none⟩) 1 1), (.slice (some ⟨br, 0, none⟩) 1 1), (.slice (some ⟨bm, 0, none⟩) 1 1)] 52)).cell? ⟨bm, 0, none⟩ = some (.bool true) := ((below_alloc w3 _).cell (p := ⟨bm, 0, none⟩) HM0.out.2).trans HM0.out.1
  go_upto_region 4 with fail
  obtain ⟨w4, HW4⟩ : ∃ w4, Hid ((w3.alloc (Obj.cells #[(.slice (some ⟨be, 0, none⟩) 1 1), (.slice (some ⟨bf, 0, none⟩) 1 1), (.slice (some ⟨bw, 0, none⟩) 1 1), (.slice (some ⟨br, 0, none⟩) 1 1), (.slice (some ⟨bm, 0, none⟩) 1 1)] 52)) = w4) := ⟨_, (rfl : (w3.alloc (Obj.cells #[(.slice (some ⟨be, 0, none⟩) 1 1), (.slice (some ⟨bf, 0, none⟩) 1 1), (.slice (some ⟨bw, 0, none⟩) 1 1), (.slice (some ⟨br, 0, none⟩) 1 1), (.slice (some ⟨bm, 0, none⟩) 1 1)] 52)) = _)⟩
  clear m0
  rw [HW4.out] at HHb ⊢
  have HH4 : Hid (Below w.heap.size w w4 ∧ Yh w.heap.size t n ga gm gc p k ao tn cap w4) := HHb.out
  clear HHb HW4 HH3
  clear HM0
  by_cases hz : ce = 0
  · subst hz
    obtain ⟨nn, rfl⟩ : ∃ nn : Nat, n = (nn : Int) := ⟨n.toNat, by have := okTN_le (chk_zero HCE.out).1; omega⟩
    have HCK : Hid (chk t (nn : Int) ps = 0) := HCE.out
    by_cases hr : er = 0
    · subst hr
      have h3 : (thr ps x (2, 0) 1 0 []).1 = 0 := by have h1 := HER.out; unfold errT at h1; rw [if_pos HCK.out] at h1; omega
      have h4 := thr_fwd (ps := ps) (t := x) (s := (2, 0)) (d := 1) (n := 0) (ws := []) (n' := (thr ps x (2, 0) 1 0 []).2.1) (ws' := (thr ps x (2, 0) 1 0 []).2.2) (trip h3)
      have HSH : Hid (sh ps x (2, 0) = true) := h4.1
      have HWD : Hid (wordT ps x = yl ps x (2, 0)) := by show _ = _; unfold wordT; rw [h4.2.2.2.2.2.1]; rfl
      have h5 := ev_len x
      have h6 := h4.2.2.2.2.2.2
      rw [← HWD.out] at h6
      have HLEN : Hid ((wordT ps x).length ≤ 100000) := by show _ ≤ _; omega
      have HWX : Hid (∀ y ∈ wordT ps x, 0 ≤ y ∧ y < 60) := fun y hy => by
        rw [HWD.out] at hy
        have hrg := rg_of HCK.out
        have := yl_ok (fun q hq => hrg.ok q hq) HSH.out (fun h => absurd h (by decide)) y hy
        have := hrg.t2
        omega
      obtain ⟨wn, HWN⟩ : ∃ wn, Hid ((wordT ps x).length = wn) := ⟨_, (rfl : (wordT ps x).length = _)⟩
      clear h3 h4 h5 h6
      have k0 := tcell_blk HH4.out.2.1 0
      have k1 := tcell_blk HH4.out.2.1 1
      have k2 := tcell_blk HH4.out.2.1 2
      have l0 := tcell_blk HH4.out.2.2 0
      have l1 := tcell_blk HH4.out.2.2 1
      have l2 := tcell_blk HH4.out.2.2 2
      simp only [List.getElem?_toArray, List.getElem?_cons_zero, List.getElem?_cons_succ] at k0 k1 k2 l0 l1 l2
      have hc := Yield_any t (nn : Int) (.slice ga gm gc) ps (.agg #[.int .i64 p, .int .i64 k, .slice ao tn cap]) x (fun _ => True) w4 (HP.out.below HH4.out.1) (HX.out.bel HH4.out.1)
      go_wp2_with fail
      refine hc.mono ?_
      rintro _ w5 ⟨ya, yn, yc, rfl, hb, hq⟩
      have HH5 : Hid (Below w.heap.size w w5 ∧ Yh w.heap.size t (nn : Int) ga gm gc p k ao tn cap w5) := ⟨HH4.out.1.trans (hb.mono HH4.out.1.size), HH4.out.2.next hb⟩
      rw [HER.out]
      rw [HER.out, if_pos rfl] at hq
      obtain ⟨_, _, hsh⟩ := own_len hq
      simp only [Value.slice.injEq] at hsh
      obtain ⟨-, rfl, -⟩ := hsh
      have HL5 : Hid (Nms w5 (.slice ya (wordT ps x).length yc) (wordT ps x)) := nms_of_own hq (by have := HLEN.out; omega)
      rw [HWN.out] at HL5 ⊢
      clear hc hb HH4 k0 k1 k2 l0 l1 l2 hq
      have k0 := tcell_blk HH5.out.2.1 0
      have k1 := tcell_blk HH5.out.2.1 1
      have k2 := tcell_blk HH5.out.2.1 2
      have l0 := tcell_blk HH5.out.2.2 0
      have l1 := tcell_blk HH5.out.2.2 1
      have l2 := tcell_blk HH5.out.2.2 2
      simp only [List.getElem?_toArray, List.getElem?_cons_zero, List.getElem?_cons_succ] at k0 k1 k2 l0 l1 l2
      have hc := Of_ok t nn (.slice ga gm gc) ps w5 (HP.out.below HH5.out.1) HCK.out
      go_wp2_with fail
      refine hc.mono ?_
      rintro _ w6 ⟨be, bf, bw, br, bm, rfl, hb, E, F, V, R, M, hfx, hfa⟩
      have HH6 : Hid (Below w.heap.size w w6 ∧ Yh w.heap.size t (nn : Int) ga gm gc p k ao tn cap w6) := ⟨HH5.out.1.trans (hb.mono HH5.out.1.size), HH5.out.2.next hb⟩
      have HFX6 : Hid (Fx nn be bf bw br bm E F V R M w6) := hfx
      have HFA : Hid (Fa ps E F V R M) := hfa
      have HL6 : Hid (Nms w6 (.slice ya wn yc) (wordT ps x)) := HL5.out.below hb
      clear hc hb HH5 k0 k1 k2 l0 l1 l2 hfx hfa HL5
      have HHb : Hid (Below w.heap.size w (w6.alloc (Obj.cells #[(.slice (some ⟨be, 0, none⟩) nn nn), (.slice (some ⟨bf, 0, none⟩) nn nn), (.slice (some ⟨bw, 0, none⟩) nn nn), (.slice (some ⟨br, 0, none⟩) nn nn), (.slice (some ⟨bm, 0, none⟩) nn nn)] 52)) ∧ Yh w.heap.size t (nn : Int) ga gm gc p k ao tn cap (w6.alloc (Obj.cells #[(.slice (some ⟨be, 0, none⟩) nn nn), (.slice (some ⟨bf, 0, none⟩) nn nn), (.slice (some ⟨bw, 0, none⟩) nn nn), (.slice (some ⟨br, 0, none⟩) nn nn), (.slice (some ⟨bm, 0, none⟩) nn nn)] 52))) := ⟨HH6.out.1.trans ((below_alloc _ _).mono HH6.out.1.size), HH6.out.2.next (below_alloc _ _)⟩
      have HFXb : Hid (Fx nn be bf bw br bm E F V R M (w6.alloc (Obj.cells #[(.slice (some ⟨be, 0, none⟩) nn nn), (.slice (some ⟨bf, 0, none⟩) nn nn), (.slice (some ⟨bw, 0, none⟩) nn nn), (.slice (some ⟨br, 0, none⟩) nn nn), (.slice (some ⟨bm, 0, none⟩) nn nn)] 52))) := HFX6.out.next (below_alloc _ _)
      have HLb : Hid (Nms (w6.alloc (Obj.cells #[(.slice (some ⟨be, 0, none⟩) nn nn), (.slice (some ⟨bf, 0, none⟩) nn nn), (.slice (some ⟨bw, 0, none⟩) nn nn), (.slice (some ⟨br, 0, none⟩) nn nn), (.slice (some ⟨bm, 0, none⟩) nn nn)] 52)) (.slice ya wn yc) (wordT ps x)) := HL6.out.below (below_alloc _ _)
      have HBb : Hid ((w6.alloc (Obj.cells #[(.slice (some ⟨be, 0, none⟩) nn nn), (.slice (some ⟨bf, 0, none⟩) nn nn), (.slice (some ⟨bw, 0, none⟩) nn nn), (.slice (some ⟨br, 0, none⟩) nn nn), (.slice (some ⟨bm, 0, none⟩) nn nn)] 52)).heap[w6.heap.size]? = some (.cells #[(.slice (some ⟨be, 0, none⟩) nn nn), (.slice (some ⟨bf, 0, none⟩) nn nn), (.slice (some ⟨bw, 0, none⟩) nn nn), (.slice (some ⟨br, 0, none⟩) nn nn), (.slice (some ⟨bm, 0, none⟩) nn nn)] 52)) := heap_alloc_new _ _
      go_upto_region 8 with fail
      obtain ⟨fb, HFB⟩ : ∃ fb, Hid (w6.heap.size = fb) := ⟨_, (rfl : w6.heap.size = _)⟩
      rw [HFB.out] at HBb ⊢
      obtain ⟨w7, HW7⟩ : ∃ w7, Hid ((w6.alloc (Obj.cells #[(.slice (some ⟨be, 0, none⟩) nn nn), (.slice (some ⟨bf, 0, none⟩) nn nn), (.slice (some ⟨bw, 0, none⟩) nn nn), (.slice (some ⟨br, 0, none⟩) nn nn), (.slice (some ⟨bm, 0, none⟩) nn nn)] 52)) = w7) := ⟨_, (rfl : (w6.alloc (Obj.cells #[(.slice (some ⟨be, 0, none⟩) nn nn), (.slice (some ⟨bf, 0, none⟩) nn nn), (.slice (some ⟨bw, 0, none⟩) nn nn), (.slice (some ⟨br, 0, none⟩) nn nn), (.slice (some ⟨bm, 0, none⟩) nn nn)] 52)) = _)⟩
      rw [HW7.out] at HHb HFXb HLb HBb ⊢
      have HH7 : Hid (Below w.heap.size w w7 ∧ Yh w.heap.size t (nn : Int) ga gm gc p k ao tn cap w7) := HHb.out
      clear HHb HW7 HH6 HFX6 HL6 HFB
      have k0 := tcell_blk HH7.out.2.1 0
      have k1 := tcell_blk HH7.out.2.1 1
      have k2 := tcell_blk HH7.out.2.1 2
      have l0 := tcell_blk HH7.out.2.2 0
      have l1 := tcell_blk HH7.out.2.2 1
      have l2 := tcell_blk HH7.out.2.2 2
      simp only [List.getElem?_toArray, List.getElem?_cons_zero, List.getElem?_cons_succ] at k0 k1 k2 l0 l1 l2
      have f0 := tcell_blk HBb.out 0
      have f1 := tcell_blk HBb.out 1
      have f2 := tcell_blk HBb.out 2
      have f3 := tcell_blk HBb.out 3
      have f4 := tcell_blk HBb.out 4
      simp only [List.getElem?_toArray, List.getElem?_cons_zero, List.getElem?_cons_succ] at f0 f1 f2 f3 f4
      have HLC : Hid (Lc w7 t nn ga gm gc be bf bw br bm ya wn yc ps E F V R M (wordT ps x)) := ⟨(HP.out.below HH7.out.1), HGM.out, rg_of HCK.out, HFXb.out, HFA.out, HLb.out, HWN.out, HWX.out, by rw [← HWN.out]; have := HLEN.out; omega⟩
      have HB8 : Hid (Below w7.heap.size w7 (w7.alloc (Obj.cells #[.int .i64 t, .int .i64 (nn : Int), .slice ga gm gc, (.slice (some ⟨be, 0, none⟩) nn nn), (.slice (some ⟨bf, 0, none⟩) nn nn), (.slice (some ⟨bw, 0, none⟩) nn nn), (.slice (some ⟨br, 0, none⟩) nn nn), (.slice (some ⟨bm, 0, none⟩) nn nn), .slice ya wn yc, .int .i64 0, .bool true] 58))) := below_alloc _ _
      have HLO : Hid (Lo w7 w7.heap.size t nn ga gm gc be bf bw br bm ya wn yc 0 (w7.alloc (Obj.cells #[.int .i64 t, .int .i64 (nn : Int), .slice ga gm gc, (.slice (some ⟨be, 0, none⟩) nn nn), (.slice (some ⟨bf, 0, none⟩) nn nn), (.slice (some ⟨bw, 0, none⟩) nn nn), (.slice (some ⟨br, 0, none⟩) nn nn), (.slice (some ⟨bm, 0, none⟩) nn nn), .slice ya wn yc, .int .i64 0, .bool true] 58))) := ⟨heap_alloc_new _ _, Nat.le_refl _, HB8.out⟩
      have HY8 : Hid (Yh w.heap.size t (nn : Int) ga gm gc p k ao tn cap (w7.alloc (Obj.cells #[.int .i64 t, .int .i64 (nn : Int), .slice ga gm gc, (.slice (some ⟨be, 0, none⟩) nn nn), (.slice (some ⟨bf, 0, none⟩) nn nn), (.slice (some ⟨bw, 0, none⟩) nn nn), (.slice (some ⟨br, 0, none⟩) nn nn), (.slice (some ⟨bm, 0, none⟩) nn nn), .slice ya wn yc, .int .i64 0, .bool true] 58))) := HH7.out.2.next HB8.out
      go_upto_region 9 with fail
      clear k0 k1 k2 l0 l1 l2 f0 f1 f2 f3 f4
      obtain ⟨qq, HQQ⟩ : ∃ qq, Hid (w7.heap.size = qq) := ⟨_, (rfl : w7.heap.size = _)⟩
      have HLO2 : Hid (Lo w7 qq t nn ga gm gc be bf bw br bm ya wn yc 0 (w7.alloc (Obj.cells #[.int .i64 t, .int .i64 (nn : Int), .slice ga gm gc, (.slice (some ⟨be, 0, none⟩) nn nn), (.slice (some ⟨bf, 0, none⟩) nn nn), (.slice (some ⟨bw, 0, none⟩) nn nn), (.slice (some ⟨br, 0, none⟩) nn nn), (.slice (some ⟨bm, 0, none⟩) nn nn), .slice ya wn yc, .int .i64 0, .bool true] 58))) := by rw [← HQQ.out]; exact HLO.out
      rw [HQQ.out]
      generalize w7.alloc (Obj.cells #[.int .i64 t, .int .i64 (nn : Int), .slice ga gm gc, (.slice (some ⟨be, 0, none⟩) nn nn), (.slice (some ⟨bf, 0, none⟩) nn nn), (.slice (some ⟨bw, 0, none⟩) nn nn), (.slice (some ⟨br, 0, none⟩) nn nn), (.slice (some ⟨bm, 0, none⟩) nn nn), .slice ya wn yc, .int .i64 0, .bool true] 58) = w8 at HLO2 HY8 ⊢
      clear HLO HB8 HQQ
      have hc := node_all w7 qq t nn ga gm gc be bf bw br bm ya wn yc ps E F V R M (wordT ps x) HLC.out (fun _ => True) x.sz x (Nat.le_refl _) (.agg #[.int .i64 p, .int .i64 k, .slice ao tn cap]) (2, 0) [] [] w8 (HX.out.bel HH7.out.1) HSH.out (by decide) (by rw [HWD.out]; simp) HFA.out.r.cl.z HFA.out.w.cl.z HLO2.out
      have k0 := tcell_blk HY8.out.1 0
      have k1 := tcell_blk HY8.out.1 1
      have k2 := tcell_blk HY8.out.1 2
      have l0 := tcell_blk HY8.out.2 0
      have l1 := tcell_blk HY8.out.2 1
      have l2 := tcell_blk HY8.out.2 2
      simp only [List.getElem?_toArray, List.getElem?_cons_zero, List.getElem?_cons_succ] at k0 k1 k2 l0 l1 l2
      go_wp2_with fail
      refine hc.mono ?_
      rintro _ w9 ⟨rfl, hl9, -⟩
      have HB9 : Hid (Below w.heap.size w w9) := HH7.out.1.trans (hl9.bel.mono HH7.out.1.size)
      have b10 := tcell_blk hl9.blk 10
      simp only [List.getElem?_toArray, List.getElem?_cons_zero, List.getElem?_cons_succ] at b10
      clear hc k0 k1 k2 l0 l1 l2 hl9
      go_wp2_with fail
      go_ret
      exact ⟨by simp, HB9.out⟩
    · have HNZ : Hid (¬ er = 0) := hr
      have hb1 : (er != 0) = true := by simp; exact hr
      clear hr
      have k0 := tcell_blk HH4.out.2.1 0
      have k1 := tcell_blk HH4.out.2.1 1
      have k2 := tcell_blk HH4.out.2.1 2
      have l0 := tcell_blk HH4.out.2.2 0
      have l1 := tcell_blk HH4.out.2.2 1
      have l2 := tcell_blk HH4.out.2.2 2
      simp only [List.getElem?_toArray, List.getElem?_cons_zero, List.getElem?_cons_succ] at k0 k1 k2 l0 l1 l2
      have hc := Yield_any t (nn : Int) (.slice ga gm gc) ps (.agg #[.int .i64 p, .int .i64 k, .slice ao tn cap]) x (fun _ => True) w4 (HP.out.below HH4.out.1) (HX.out.bel HH4.out.1)
      go_wp2_with fail
      refine hc.mono ?_
      rintro _ w5 ⟨ya, yn, yc, rfl, hb, hq⟩
      have HH5 : Hid (Below w.heap.size w w5 ∧ Yh w.heap.size t (nn : Int) ga gm gc p k ao tn cap w5) := ⟨HH4.out.1.trans (hb.mono HH4.out.1.size), HH4.out.2.next hb⟩
      rw [HER.out]
      rw [HER.out, if_neg HNZ.out] at hq
      simp only [Value.slice.injEq] at hq
      obtain ⟨rfl, rfl, rfl⟩ := hq
      clear hc hb HH4 k0 k1 k2 l0 l1 l2
      have k0 := tcell_blk HH5.out.2.1 0
      have k1 := tcell_blk HH5.out.2.1 1
      have k2 := tcell_blk HH5.out.2.1 2
      have l0 := tcell_blk HH5.out.2.2 0
      have l1 := tcell_blk HH5.out.2.2 1
      have l2 := tcell_blk HH5.out.2.2 2
      simp only [List.getElem?_toArray, List.getElem?_cons_zero, List.getElem?_cons_succ] at k0 k1 k2 l0 l1 l2
      have hc := Of_ok t nn (.slice ga gm gc) ps w5 (HP.out.below HH5.out.1) HCK.out
      go_wp2_with fail
      refine hc.mono ?_
      rintro _ w6 ⟨be, bf, bw, br, bm, rfl, hb, -⟩
      have HH6 : Hid (Below w.heap.size w w6 ∧ Yh w.heap.size t (nn : Int) ga gm gc p k ao tn cap w6) := ⟨HH5.out.1.trans (hb.mono HH5.out.1.size), HH5.out.2.next hb⟩
      clear hc hb HH5 k0 k1 k2 l0 l1 l2
      have hfb : Hid (Below w.heap.size w (w6.alloc (Obj.cells #[(.slice (some ⟨be, 0, none⟩) nn nn), (.slice (some ⟨bf, 0, none⟩) nn nn), (.slice (some ⟨bw, 0, none⟩) nn nn), (.slice (some ⟨br, 0, none⟩) nn nn), (.slice (some ⟨bm, 0, none⟩) nn nn)] 52))) := HH6.out.1.trans ((below_alloc _ _).mono HH6.out.1.size)
      go_wp2_with fail
      go_ret
      exact ⟨by simp, hfb.out⟩
  · have HCK : Hid (chk t n ps ≠ 0) := by show _ ≠ _; rw [HCE.out]; exact hz
    have HE1 : Hid (er = ce) := by show _ = _; rw [← HER.out]; unfold errT; rw [if_neg HCK.out]; exact HCE.out
    have HNZ : Hid (¬ er = 0) := by show ¬ _; rw [HE1.out]; exact hz
    have hb1 : (er != 0) = true := by simp; exact HNZ.out
    clear hz
    have k0 := tcell_blk HH4.out.2.1 0
    have k1 := tcell_blk HH4.out.2.1 1
    have k2 := tcell_blk HH4.out.2.1 2
    have l0 := tcell_blk HH4.out.2.2 0
    have l1 := tcell_blk HH4.out.2.2 1
    have l2 := tcell_blk HH4.out.2.2 2
    simp only [List.getElem?_toArray, List.getElem?_cons_zero, List.getElem?_cons_succ] at k0 k1 k2 l0 l1 l2
    have hc := Yield_any t n (.slice ga gm gc) ps (.agg #[.int .i64 p, .int .i64 k, .slice ao tn cap]) x (fun _ => True) w4 (HP.out.below HH4.out.1) (HX.out.bel HH4.out.1)
    go_wp2_with fail
    refine hc.mono ?_
    rintro _ w5 ⟨ya, yn, yc, rfl, hb, hq⟩
    have HH5 : Hid (Below w.heap.size w w5 ∧ Yh w.heap.size t n ga gm gc p k ao tn cap w5) := ⟨HH4.out.1.trans (hb.mono HH4.out.1.size), HH4.out.2.next hb⟩
    rw [HER.out]
    rw [HER.out, if_neg HNZ.out] at hq
    simp only [Value.slice.injEq] at hq
    obtain ⟨rfl, rfl, rfl⟩ := hq
    clear hc hb HH4 k0 k1 k2 l0 l1 l2
    have k0 := tcell_blk HH5.out.2.1 0
    have k1 := tcell_blk HH5.out.2.1 1
    have k2 := tcell_blk HH5.out.2.1 2
    have l0 := tcell_blk HH5.out.2.2 0
    have l1 := tcell_blk HH5.out.2.2 1
    have l2 := tcell_blk HH5.out.2.2 2
    simp only [List.getElem?_toArray, List.getElem?_cons_zero, List.getElem?_cons_succ] at k0 k1 k2 l0 l1 l2
    have hc := Of_bad t n (.slice ga gm gc) ps w5 (HP.out.below HH5.out.1) HCK.out
    go_wp2_with fail
    refine hc.mono ?_
    rintro _ w6 ⟨rfl, hb⟩
    have HH6 : Hid (Below w.heap.size w w6 ∧ Yh w.heap.size t n ga gm gc p k ao tn cap w6) := ⟨HH5.out.1.trans (hb.mono HH5.out.1.size), HH5.out.2.next hb⟩
    rw [HCE.out]
    clear hc hb HH5 k0 k1 k2 l0 l1 l2
    have hfb : Hid (Below w.heap.size w (w6.alloc (Obj.cells #[(.slice none 0 0), (.slice none 0 0), (.slice none 0 0), (.slice none 0 0), (.slice none 0 0)] 52))) := HH6.out.1.trans ((below_alloc _ _).mono HH6.out.1.size)
    go_wp2_with fail
    go_ret
    exact ⟨by simp, hfb.out⟩

/-! ### What the walk gives, for every argument -/
set_option maxRecDepth 100000 in
theorem contract (H : Type) (enc : TypeId × Value → H) (W : World) (base : Nat) (args : Array Value) (ds gs : List (DataW H)) (before : List MemPlace)
    (hval : ∀ (j : Nat) t v, Try.f5.params[j]? = some t → args[j]? = some v → Value.okWide Try.prog W .any base t v)
    (hW : DataW.Whole enc Try.prog Try.f5.params.toList Rows.factsTreeSpec.vars false W args.toList ds gs before) (hsz : (DataW.weightsEach Try.prog (Try.f5.params.toList ++ Rows.factsTreeSpec.plain.varTypes Try.prog) (ds ++ gs)).all (· ≤ reachBytes) = true) :
    Calls Try.prog 5 args W fun e W' => ∃ v, e = .returned v ∧ Rows.factsTreeSpec.post enc Try.prog Try.f5 false true false false W args v W' := by
  have hW' := hW
  obtain ⟨p, q, hA0, hV, rfl, hfz, hnd⟩ := hW
  have hA : DataW.TrodAll enc Try.prog W 0 (fun _ => true) true Try.f5.params.toList args.toList ds p := hA0
  rw [Try.params5] at hA hval hsz
  obtain ⟨v0, vs0, d0, ds0, p0, q0, hargs, rfl, rfl, h0, r0⟩ := trodAll_cons hA
  obtain ⟨v1, vs1, d1, ds1, p1, q1, rfl, rfl, rfl, h1, r1⟩ := trodAll_cons r0
  obtain ⟨rfl, rfl, rfl⟩ := trodAll_nil r1
  obtain rfl : args = #[v0, v1] := by cases args; simp_all
  obtain ⟨rfl, rfl⟩ := trodVars_none hV
  have k0 := h0
  have lt0 : ∀ x ∈ p0, x.block < W.heap.size := by obtain ⟨m, hm⟩ := k0; exact DataW.trod_lt m _ _ _ hm
  obtain ⟨a0t, a0n, a0s, a0p, rfl, w0s⟩ := open_gram (hval 0 24 v0 rfl rfl) h0
  have k1 := h1
  have lt1 : ∀ x ∈ p1, x.block < W.heap.size := by obtain ⟨m, hm⟩ := k1; exact DataW.trod_lt m _ _ _ hm
  obtain ⟨a1x, w1s⟩ := open_tree (hval 1 27 v1 rfl rfl) h1
  clear hA0
  refine (walk a0t a0n a0s a0p _ a1x W w0s w1s).mono fun e W' ⟨he, bel⟩ => ?_
  subst he
  exact ⟨_, rfl, _, _, _, [], _, [], hW', trodAll_mk1 (shut_bool Try.underlying4 _), (trodAll_cons_mk (Below.trod laidOut (by kernel_rfl) (of_decide_eq_true (by kernel_rfl)) k0 bel lt0) (trodAll_cons_mk (Below.trod laidOut (by kernel_rfl) (of_decide_eq_true (by kernel_rfl)) k1 bel lt1) trodAll_mk0)), rfl, bel.frame _, fun h => by cases h⟩

/-! ### The row's step -/
set_option maxRecDepth 100000 in
theorem lifted (os : Os) (started : os.Started) (H : Type) (enc : TypeId × Value → H) :
    ReturnsInHanded {} Try.checked os 5 .any (Rows.factsTreeSpec.pre6 enc Try.prog Try.f5 Rows.factsTreeRow.domain false) (Rows.factsTreeSpec.post enc Try.prog Try.f5 false true false false) := by
  refine returnsInHanded_of_change_sized (C := Try.checked) own started (by kernel_rfl) Try.func5
    (ChangeSpec.witness6 (enc := enc) (C := Try.checked) false ⟨#[], #[.agg #[.int .i64 0, .int .i64 0, .slice none 0 0], .agg #[.int .i64 0, .int .i64 0, .slice none 0 0]], []⟩ 8 (by kernel_rfl) (by kernel_rfl) (by kernel_rfl) (by kernel_rfl)) ?_
  intro W base args ds gs before hval hW hcnd hsz _
  exact contract H enc W base args ds gs before hval hW hsz

theorem over : Rows.factsTreeRow.holds Try.pinned (OpenSpec.ofChange Rows.factsTreeSpec) :=
  OpenClaim.holds_of_wide 5 Try.f5 rfl rfl rfl rfl rfl rfl rfl ⟨rfl, rfl, rfl, rfl, rfl⟩ rfl rfl rfl rfl rfl (by kernel_rfl) Try.func5 (by kernel_rfl)
    (of_decide_eq_true (by kernel_rfl)) (by unfold Func.isWrapper; first | (rw [if_pos (by decide +kernel)]; kernel_rfl) | (rw [if_neg (by decide +kernel)]; exact ⟨rfl, rfl⟩))
    (fun os started H enc _ => lifted os started H enc)

end Go.Proofs.Ytldfiofgknmcgaa.factsTree
namespace Go.Proofs.Ytldfiofgknmcgaa
/-- The given statement. -/
theorem factsTree_holds : Rows.FactsTreeSaid := factsTree.over
#print axioms factsTree_holds
end Go.Proofs.Ytldfiofgknmcgaa
