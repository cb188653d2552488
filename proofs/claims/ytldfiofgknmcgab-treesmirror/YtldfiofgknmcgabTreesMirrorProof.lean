/-
  TreesMirror returns true whatever grammar and tree are handed in, and changes nothing that it was handed; no condition.
-/
import Derived.Test.YtldfiofgknmcgabRows
import Derived.WalkKit
import Derived.ProofKit
import Derived.OpenShut
import Derived.ShutString
import Derived.SizedLaws
import Derived.ChangeOld
import Derived.Below
import Derived.Carry
import Derived.WalkLawsBesides
import Derived.WalkSpells
import Derived.Test.YtldfiofgknmcgabOpens
import Derived.Deep.Cut
import Derived.Test.YtldfiofgknmcgabTrYield
import Derived.Test.YtldfiofgknmcgabTrSame
import Derived.Test.YtldfiofgknmcgabFcBrack
import Derived.Test.YtldfiofgknmcgabTrMirW
import Derived.Test.YtldfiofgknmcgabTrRev
import Derived.Test.YtldfiofgknmcgabMirror
import Derived.Test.YtldfiofgknmcgabTrEq
namespace Go.Proofs.Ytldfiofgknmcgab.treesMirror
open Go.ChangeShapes Go.WideShapes Go.ChangeAt Go.RowKit
open Go.ChangeMaps (open_string shut_string)
open Cg
set_option linter.unusedVariables false

theorem own : ownKnob Try.prog.godebug = none := by kernel_rfl
theorem laidOut : laidOutB Try.prog = true := by kernel_rfl
theorem one_err : errT 2 1 brs oneT = 0 := by decide +kernel
theorem one_word : wordT brs oneT = [0, 1] := by decide +kernel
/-- What the law holds: both boxes. -/
def Yh (g : Nat) (tt n : Int) (ga : Option Addr) (gm gc : Nat) (p k : Int) (ao : Option Addr) (tn cap : Nat) (W : World) : Prop := W.heap[g]? = some (.cells #[.int .i64 tt, .int .i64 n, .slice ga gm gc] 24) ∧ W.heap[g + 1]? = some (.cells #[.int .i64 p, .int .i64 k, .slice ao tn cap] 27)
theorem Yh.next {g : Nat} {tt n : Int} {ga : Option Addr} {gm gc : Nat} {p k : Int} {ao : Option Addr} {tn cap : Nat} {W W' : World} (h : Yh g tt n ga gm gc p k ao tn cap W) (hb : Below W.heap.size W W') : Yh g tt n ga gm gc p k ao tn cap W' := ⟨tbox_next h.1 hb, tbox_next h.2 hb⟩
structure RMl (w8 : World) (q9 g : Nat) (t n : Int) (gm2 gm : Nat) (p k : Int) (ao : Option Addr) (tn cap : Nat) (wa : Option Addr) (wn wc : Nat) (xm : T) (wm : List Int) (p2 : Int) (k2 : Int) (a2 : Option Addr) (m2 : Nat) (c2 : Nat) (ya : Option Addr) (yn : Nat) (yc : Nat) (d : Nat → Bool) (x10 x11 x49 x50 x51 x52 x53 x54 x55 x56 x57 : Value) (W : World) : Prop where
  f0 : d 0 = true → x50 = (.agg #[.int .i64 t, .int .i64 n, .slice (some ⟨gm2, 0, none⟩) gm gm])
  f1 : d 1 = true → x51 = (.agg #[.int .i64 p, .int .i64 k, .slice ao tn cap])
  f2 : d 2 = true → x52 = (.slice wa wn wc)
  f3 : d 3 = true → x53 = (.int .i64 (wn : Int))
  f4 : d 4 = true → x54 = (.agg #[.int .i64 p2, .int .i64 k2, .slice a2 m2 c2])
  f5 : d 5 = true → x55 = (.tuple #[(.slice ya yn yc), .int .i64 0])
  f6 : d 6 = true → x49 = (.tuple #[(.slice ya yn yc), .int .i64 0])
  f7 : d 7 = true → x56 = (.slice ya yn yc)
  f8 : d 8 = true → x57 = (.int .i64 0)
  f9 : d 9 = true → x10 = (.slice ya yn yc)
  f10 : d 10 = true → x11 = (.int .i64 0)
  o5_4 : d 5 = true → d 4 = true
  o6_5 : d 6 = true → d 5 = true
  o7_6 : d 7 = true → d 6 = true
  o8_6 : d 8 = true → d 6 = true
  o9_7 : d 9 = true → d 7 = true
  o10_8 : d 10 = true → d 8 = true
  bw : Below w8.heap.size w8 W
  r4 : d 4 = true → Tx W (fun _ => True) (.agg #[.int .i64 p2, .int .i64 k2, .slice a2 m2 c2]) xm
  r5 : d 5 = true → ∃ B, w8.heap.size ≤ B ∧ W.ownsRow B 3 1 (.slice ya yn yc) wm.length (wm.map (Value.int .i64))

/-! ### The walk: the Go text returns true. -/
set_option maxHeartbeats 16000000 in
set_option maxRecDepth 20000 in
theorem walk (a0t : Int) (a0n : Int) (a0s : Value) (a0p : List Pd) (v1 : Value) (a1x : T) (w : World) (w0s : Pds w a0s a0p) (w1s : Tx w (fun _ => True) v1 a1x) :
    Calls Try.prog 3 #[.agg #[.int .i64 a0t, .int .i64 a0n, a0s], v1] w fun e w' => e = .returned (.bool true) ∧ Below w.heap.size w w' := by
  have HP : Hid (Pds w a0s a0p) := w0s
  have HX : Hid (Tx w (fun _ => True) v1 a1x) := w1s
  obtain ⟨ga, gc, rfl, -, -⟩ := w0s
  obtain ⟨p, k, ao, cap, kids, vals, rfl, rfl, -⟩ := w1s.shape
  clear w1s
  obtain ⟨gm, HGM⟩ : ∃ gm, Hid (a0p.length = gm) := ⟨_, (rfl : a0p.length = _)⟩
  obtain ⟨tn, HTN⟩ : ∃ tn, Hid (kids.length = tn) := ⟨_, (rfl : kids.length = _)⟩
  rw [HGM.out] at HP ⊢
  rw [HTN.out] at HX ⊢
  obtain ⟨x, HXT⟩ : ∃ x, Hid (T.mk p k kids = x) := ⟨_, (rfl : T.mk p k kids = _)⟩
  rw [HXT.out] at HX
  revert HP HX HGM
  generalize a0t = t
  generalize a0n = n
  generalize a0p = ps
  intro _ _ _
  rename Hid (Pds _ _ _) => HP
  rename Hid (Tx _ _ _ _) => HX
  rename Hid (ps.length = _) => HGM
  obtain ⟨er, HER⟩ : ∃ er, Hid (errT t n ps x = er) := ⟨_, (rfl : errT t n ps x = _)⟩
  have HH1 : Hid (Below w.heap.size w ((w.alloc (Obj.cells #[.int .i64 t, .int .i64 n, .slice ga gm gc] 24)).alloc (Obj.cells #[.int .i64 p, .int .i64 k, .slice ao tn cap] 27)) ∧ Yh w.heap.size t n ga gm gc p k ao tn cap ((w.alloc (Obj.cells #[.int .i64 t, .int .i64 n, .slice ga gm gc] 24)).alloc (Obj.cells #[.int .i64 p, .int .i64 k, .slice ao tn cap] 27))) := by
    refine ⟨below_alloc2 _ _ _, tbox_next (heap_alloc_new _ _) (below_alloc _ _), ?_⟩
    have := heap_alloc_new (w.alloc (Obj.cells #[.int .i64 t, .int .i64 n, .slice ga gm gc] 24)) (Obj.cells #[.int .i64 p, .int .i64 k, .slice ao tn cap] 27)
    rw [show (w.alloc (Obj.cells #[.int .i64 t, .int .i64 n, .slice ga gm gc] 24)).heap.size = w.heap.size + 1 by simp] at this
    exact this
  obtain ⟨w1, HW1⟩ : ∃ w1, Hid ((w.alloc (Obj.cells #[.int .i64 t, .int .i64 n, .slice ga gm gc] 24)).alloc (Obj.cells #[.int .i64 p, .int .i64 k, .slice ao tn cap] 27) = w1) := ⟨_, (rfl : (w.alloc (Obj.cells #[.int .i64 t, .int .i64 n, .slice ga gm gc] 24)).alloc (Obj.cells #[.int .i64 p, .int .i64 k, .slice ao tn cap] 27) = _)⟩
  go_enter Try.func3, Try.ntmps3
  go_upto_region 1 with fail
  rw [HW1.out] at HH1 ⊢
  clear HW1
  have k0 := tcell_blk HH1.out.2.1 0
  have k1 := tcell_blk HH1.out.2.1 1
  have k2 := tcell_blk HH1.out.2.1 2
  have l0 := tcell_blk HH1.out.2.2 0
  have l1 := tcell_blk HH1.out.2.2 1
  have l2 := tcell_blk HH1.out.2.2 2
  simp only [List.getElem?_toArray, List.getElem?_cons_zero, List.getElem?_cons_succ] at k0 k1 k2 l0 l1 l2
  have hc := brackets_any w1
  go_wp2_with fail
  refine hc.mono ?_
  rintro _ w2 ⟨gb, rfl, hpb, hb⟩
  have HH2 : Hid (Below w.heap.size w w2 ∧ Yh w.heap.size t n ga gm gc p k ao tn cap w2) := ⟨HH1.out.1.trans (hb.mono HH1.out.1.size), HH1.out.2.next hb⟩
  have HPB_2 : Hid (Pds w2 (.slice (some ⟨gb, 0, none⟩) 2 2) brs) := hpb
  clear hc hb HH1 k0 k1 k2 l0 l1 l2 hpb
  have k0 := tcell_blk HH2.out.2.1 0
  have k1 := tcell_blk HH2.out.2.1 1
  have k2 := tcell_blk HH2.out.2.1 2
  have l0 := tcell_blk HH2.out.2.2 0
  have l1 := tcell_blk HH2.out.2.2 1
  have l2 := tcell_blk HH2.out.2.2 2
  simp only [List.getElem?_toArray, List.getElem?_cons_zero, List.getElem?_cons_succ] at k0 k1 k2 l0 l1 l2
  have hc := one_any w2
  go_wp2_with fail
  refine hc.mono ?_
  rintro _ w3 ⟨go, rfl, hpo, hb⟩
  have HH3 : Hid (Below w.heap.size w w3 ∧ Yh w.heap.size t n ga gm gc p k ao tn cap w3) := ⟨HH2.out.1.trans (hb.mono HH2.out.1.size), HH2.out.2.next hb⟩
  have HPB_3 : Hid (Pds w3 (.slice (some ⟨gb, 0, none⟩) 2 2) brs) := HPB_2.out.below hb
  have HPO_3 : Hid (Tx w3 (fun _ => True) (.agg #[.int .i64 1, .int .i64 0, .slice (some ⟨go, 0, none⟩) 4 4]) oneT) := hpo
  clear hc hb HH2 k0 k1 k2 l0 l1 l2 HPB_2 hpo
  have k0 := tcell_blk HH3.out.2.1 0
  have k1 := tcell_blk HH3.out.2.1 1
  have k2 := tcell_blk HH3.out.2.1 2
  have l0 := tcell_blk HH3.out.2.2 0
  have l1 := tcell_blk HH3.out.2.2 1
  have l2 := tcell_blk HH3.out.2.2 2
  simp only [List.getElem?_toArray, List.getElem?_cons_zero, List.getElem?_cons_succ] at k0 k1 k2 l0 l1 l2
  have hc := Yield_any 2 1 _ brs _ oneT (fun _ => True) w3 HPB_3.out HPO_3.out
  go_wp2_with fail
  refine hc.mono ?_
  rintro _ w4 ⟨a0, n0, c0, rfl, hb, hq⟩
  have HH4 : Hid (Below w.heap.size w w4 ∧ Yh w.heap.size t n ga gm gc p k ao tn cap w4) := ⟨HH3.out.1.trans (hb.mono HH3.out.1.size), HH3.out.2.next hb⟩
  have HPB_4 : Hid (Pds w4 (.slice (some ⟨gb, 0, none⟩) 2 2) brs) := HPB_3.out.below hb
  rw [one_err] at hq ⊢
  rw [if_pos rfl, one_word] at hq
  obtain ⟨_, _, hsh0⟩ := own_len hq
  simp only [Value.slice.injEq, List.length_cons, List.length_nil] at hsh0
  obtain ⟨-, rfl, -⟩ := hsh0
  have HR_4 : Hid (Nms w4 (.slice a0 2 c0) [0, 1]) := nms_of_own hq (by decide)
  clear hc hb HH3 k0 k1 k2 l0 l1 l2 HPB_3 hq HPO_3
  have hce : Nms (w4.alloc (Obj.cells #[.int .i64 0, .int .i64 1] 3)) (.slice (some ⟨w4.heap.size, 0, none⟩) 2 2) [0, 1] := by
    refine ⟨some ⟨w4.heap.size, 0, none⟩, 2, rfl, by decide, Or.inr ⟨w4.heap.size, 0, rfl, by simp, fun i hi => ?_⟩⟩
    have hi0 : i = 0 ∨ i = 1 := by simp at hi; omega
    rcases hi0 with rfl | rfl
    · exact tcell_blk (heap_alloc_new _ _) 0
    · exact tcell_blk (heap_alloc_new _ _) 1
  have hbw := below_alloc w4 (Obj.cells #[.int .i64 0, .int .i64 1] 3)
  have k0 := tcell_blk HH4.out.2.1 0
  have k1 := tcell_blk HH4.out.2.1 1
  have k2 := tcell_blk HH4.out.2.1 2
  have l0 := tcell_blk HH4.out.2.2 0
  have l1 := tcell_blk HH4.out.2.2 1
  have l2 := tcell_blk HH4.out.2.2 2
  simp only [List.getElem?_toArray, List.getElem?_cons_zero, List.getElem?_cons_succ] at k0 k1 k2 l0 l1 l2
  have hc := equalI_same (.slice a0 2 c0) (.slice (some ⟨w4.heap.size, 0, none⟩) 2 2) [0, 1] (w4.alloc (Obj.cells #[.int .i64 0, .int .i64 1] 3)) (HR_4.out.below hbw) hce
  go_wp2_with fail
  refine hc.mono ?_
  rintro _ w5 ⟨rfl, hb0⟩
  have hb := hbw.trans (hb0.mono hbw.size)
  have HH5 : Hid (Below w.heap.size w w5 ∧ Yh w.heap.size t n ga gm gc p k ao tn cap w5) := ⟨HH4.out.1.trans (hb.mono HH4.out.1.size), HH4.out.2.next hb⟩
  clear hc hb HH4 k0 k1 k2 l0 l1 l2 hb0 hbw hce HR_4 HPB_4
  have k0 := tcell_blk HH5.out.2.1 0
  have k1 := tcell_blk HH5.out.2.1 1
  have k2 := tcell_blk HH5.out.2.1 2
  have l0 := tcell_blk HH5.out.2.2 0
  have l1 := tcell_blk HH5.out.2.2 1
  have l2 := tcell_blk HH5.out.2.2 2
  simp only [List.getElem?_toArray, List.getElem?_cons_zero, List.getElem?_cons_succ] at k0 k1 k2 l0 l1 l2
  have hc := Yield_any t n (.slice ga gm gc) ps (.agg #[.int .i64 p, .int .i64 k, .slice ao tn cap]) x (fun _ => True) w5 (HP.out.below HH5.out.1) (HX.out.bel HH5.out.1)
  go_wp2_with fail
  refine hc.mono ?_
  rintro _ w6 ⟨a1, n1, c1, rfl, hb, hq⟩
  have HH6 : Hid (Below w.heap.size w w6 ∧ Yh w.heap.size t n ga gm gc p k ao tn cap w6) := ⟨HH5.out.1.trans (hb.mono HH5.out.1.size), HH5.out.2.next hb⟩
  rw [HER.out] at hq ⊢
  clear hc hb HH5 k0 k1 k2 l0 l1 l2
  by_cases hr : er = 0
  · subst hr
    have hce : chk t n ps = 0 := by
      have h1 := HER.out
      unfold errT at h1
      by_cases h2 : chk t n ps = 0
      · exact h2
      · rw [if_neg h2] at h1; exact absurd h1 h2
    have HCK : Hid (chk t n ps = 0) := hce
    have h3 : (thr ps x (2, 0) 1 0 []).1 = 0 := by have h1 := HER.out; unfold errT at h1; rw [if_pos hce] at h1; omega
    have h4 := thr_fwd (ps := ps) (t := x) (s := (2, 0)) (d := 1) (n := 0) (ws := []) (n' := (thr ps x (2, 0) 1 0 []).2.1) (ws' := (thr ps x (2, 0) 1 0 []).2.2) (trip h3)
    have h5 := mir_thr (ps := ps) (t := x) (n' := (thr ps x (2, 0) 1 0 []).2.1) (ws := (thr ps x (2, 0) 1 0 []).2.2) (trip h3)
    have h6 := ev_len x
    have HWD : Hid (wordT ps x = yl ps x (2, 0)) := by show _ = _; unfold wordT; rw [h4.2.2.2.2.2.1]; rfl
    have h7 := h4.2.2.2.2.2.2
    rw [← HWD.out] at h7
    have HSH : Hid (sh ps x (2, 0) = true) := h4.1
    have HSZ : Hid (x.sz ≤ 1000) := by show _ ≤ _; have := h4.2.2.1; have := h4.2.2.2.1; omega
    obtain ⟨wn, HN⟩ : ∃ wn, Hid ((wordT ps x).length = wn) := ⟨_, (rfl : (wordT ps x).length = _)⟩
    have HLEN : Hid ((wordT ps x).length ≤ 2000) := by show _ ≤ _; have := HSZ.out; omega
    have HWN : Hid (wn ≤ 100000) := by rw [← HN.out]; show _ ≤ _; have := HLEN.out; omega
    have HTK : Hid (∀ k ∈ tk x, 0 ≤ k ∧ k ≤ 100000) := fun k hk => by
      rw [h4.2.1, h7] at hk
      simp only [nums, List.mem_map, List.mem_range, List.length_nil] at hk
      obtain ⟨j, hj, rfl⟩ := hk
      have := HLEN.out
      omega
    have HMI : Hid (errT t n (turn ps) (mirT (wordT ps x).length x) = 0 ∧ wordT (turn ps) (mirT (wordT ps x).length x) = (wordT ps x).reverse) := by
      have e : wordT ps x = (thr ps x (2, 0) 1 0 []).2.2 := rfl
      rw [← e] at h5
      refine ⟨?_, ?_⟩
      · unfold errT; rw [if_pos (turn_chk hce), h5]; rfl
      · show (thr (turn ps) (mirT (wordT ps x).length x) (2, 0) 1 0 []).2.2 = _
        rw [h5]
    clear hce h3 h4 h5 h6 h7
    rw [if_pos rfl] at hq
    obtain ⟨_, _, hsh1⟩ := own_len hq
    simp only [Value.slice.injEq] at hsh1
    obtain ⟨-, rfl, -⟩ := hsh1
    have HL_6 : Hid (Nms w6 (.slice a1 (wordT ps x).length c1) (wordT ps x)) := nms_of_own hq (by have := HLEN.out; omega)
    rw [HN.out] at HL_6 ⊢
    clear hq
    have k0 := tcell_blk HH6.out.2.1 0
    have k1 := tcell_blk HH6.out.2.1 1
    have k2 := tcell_blk HH6.out.2.1 2
    have l0 := tcell_blk HH6.out.2.2 0
    have l1 := tcell_blk HH6.out.2.2 1
    have l2 := tcell_blk HH6.out.2.2 2
    simp only [List.getElem?_toArray, List.getElem?_cons_zero, List.getElem?_cons_succ] at k0 k1 k2 l0 l1 l2
    have hc := Mirror_ok t n (.slice ga gm gc) ps w6 (HP.out.below HH6.out.1) HCK.out
    rw [HGM.out] at hc
    go_wp2_with fail
    refine hc.mono ?_
    rintro _ w7 ⟨gm2, rfl, hpm, hb⟩
    have HH7 : Hid (Below w.heap.size w w7 ∧ Yh w.heap.size t n ga gm gc p k ao tn cap w7) := ⟨HH6.out.1.trans (hb.mono HH6.out.1.size), HH6.out.2.next hb⟩
    have HL_7 : Hid (Nms w7 (.slice a1 wn c1) (wordT ps x)) := HL_6.out.below hb
    have HPM : Hid (Pds w7 (.slice (some ⟨gm2, 0, none⟩) gm gm) (turn ps)) := hpm
    clear hc hb HH6 k0 k1 k2 l0 l1 l2 HL_6 hpm
    have HB8 : Hid (Below w.heap.size w (w7.alloc (Obj.cells #[.int .i64 t, .int .i64 n, .slice (some ⟨gm2, 0, none⟩) gm gm] 24)) ∧ Yh w.heap.size t n ga gm gc p k ao tn cap (w7.alloc (Obj.cells #[.int .i64 t, .int .i64 n, .slice (some ⟨gm2, 0, none⟩) gm gm] 24))) := ⟨HH7.out.1.trans ((below_alloc _ _).mono HH7.out.1.size), HH7.out.2.next (below_alloc _ _)⟩
    have HB9 : Hid ((w7.alloc (Obj.cells #[.int .i64 t, .int .i64 n, .slice (some ⟨gm2, 0, none⟩) gm gm] 24)).heap[w7.heap.size]? = some (.cells #[.int .i64 t, .int .i64 n, .slice (some ⟨gm2, 0, none⟩) gm gm] 24)) := heap_alloc_new _ _
    have HL_8 : Hid (Nms (w7.alloc (Obj.cells #[.int .i64 t, .int .i64 n, .slice (some ⟨gm2, 0, none⟩) gm gm] 24)) (.slice a1 wn c1) (wordT ps x)) := HL_7.out.below (below_alloc _ _)
    have HPM8 : Hid (Pds (w7.alloc (Obj.cells #[.int .i64 t, .int .i64 n, .slice (some ⟨gm2, 0, none⟩) gm gm] 24)) (.slice (some ⟨gm2, 0, none⟩) gm gm) (turn ps)) := HPM.out.below (below_alloc _ _)
    go_upto_region 8 with fail
    obtain ⟨q9, HQ9⟩ : ∃ q9, Hid (w7.heap.size = q9) := ⟨_, (rfl : w7.heap.size = _)⟩
    rw [HQ9.out] at HB9 ⊢
    generalize (w7.alloc (Obj.cells #[.int .i64 t, .int .i64 n, .slice (some ⟨gm2, 0, none⟩) gm gm] 24)) = w8 at HB8 HB9 HL_8 HPM8 ⊢
    have HY8 : Hid (Yh w.heap.size t n ga gm gc p k ao tn cap w8) := HB8.out.2
    have HBW8 : Hid (Below w.heap.size w w8) := HB8.out.1
    clear HQ9 HPM HL_7 HH7
    obtain ⟨xm, HXM⟩ : ∃ xm, Hid (mirT wn x = xm) := ⟨_, (rfl : mirT wn x = _)⟩
    obtain ⟨wm, HWM⟩ : ∃ wm, Hid ((wordT ps x).reverse = wm) := ⟨_, (rfl : (wordT ps x).reverse = _)⟩
    have HC11 : Hid (∀ W, Below w8.heap.size w8 W → Calls Try.prog 11 #[(.agg #[.int .i64 p, .int .i64 k, .slice ao tn cap]), .int .i64 (wn : Int)] W fun e w' => MiQ W xm e w') := fun W hb => by
      rw [← HXM.out]
      exact mirrored_all ps (fun _ => True) wn HWN.out 1000 (by omega) x HSZ.out _ (2, 0) W (HX.out.bel (HBW8.out.trans (hb.mono HBW8.out.size))) HSH.out HTK.out
    have HC5 : Hid (∀ W v, Below w8.heap.size w8 W → Tx W (fun _ => True) v xm → Calls Try.prog 5 #[(.agg #[.int .i64 t, .int .i64 n, .slice (some ⟨gm2, 0, none⟩) gm gm]), v] W fun e w' => ∃ ya yn yc, e = .returned (.tuple #[.slice ya yn yc, .int .i64 0]) ∧ Below W.heap.size W w' ∧ w'.ownsRow W.heap.size 3 1 (.slice ya yn yc) wm.length (wm.map (Value.int .i64))) := fun W v hb hx => by
      refine (Yield_any t n _ (turn ps) v xm (fun _ => True) W (HPM8.out.below hb) hx).mono ?_
      rintro e w' ⟨ya, yn, yc, rfl, h1, h2⟩
      rw [← HXM.out, ← HN.out, (HMI.out).1] at h2 ⊢
      rw [if_pos rfl, (HMI.out).2, HWM.out] at h2
      exact ⟨ya, yn, yc, rfl, h1, h2⟩
    refine wp_region_free mixed (fun a0 d a W => ∃ (p2 : Int) (k2 : Int) (a2 : Option Addr) (m2 : Nat) (c2 : Nat) (ya : Option Addr) (yn : Nat) (yc : Nat) (x10 x11 x49 x50 x51 x52 x53 x54 x55 x56 x57 : Value), a = (((((((((((a0.put (some 10) x10).put (some 11) x11).put (some 49) x49).put (some 50) x50).put (some 51) x51).put (some 52) x52).put (some 53) x53).put (some 54) x54).put (some 55) x55).put (some 56) x56).put (some 57) x57) ∧ Hid (RMl w8 q9 w.heap.size t n gm2 gm p k ao tn cap a1 wn c1 xm wm p2 k2 a2 m2 c2 ya yn yc d x10 x11 x49 x50 x51 x52 x53 x54 x55 x56 x57 W)) (by kernel_rfl) ⟨0, 0, none, 0, 0, none, 0, 0, undef, undef, undef, undef, undef, undef, undef, undef, undef, undef, undef, by first | (simp only [Act.put, List.setIfInBounds_toArray, List.set_cons_zero, List.set_cons_succ]; done) | (simp only [Act.put, List.setIfInBounds_toArray, List.set_cons_zero, List.set_cons_succ]; rfl), ?_⟩ ?_ ?_
    · exact ⟨fun h => no_way h, fun h => no_way h, fun h => no_way h, fun h => no_way h, fun h => no_way h, fun h => no_way h, fun h => no_way h, fun h => no_way h, fun h => no_way h, fun h => no_way h, fun h => no_way h, fun h => no_way h, fun h => no_way h, fun h => no_way h, fun h => no_way h, fun h => no_way h, fun h => no_way h, (Below.refl _ _).drew, fun h => no_way h, fun h => no_way h⟩
    · simp only [StepAll, and_true]
      refine ⟨?_, ?_, ?_, ?_, ?_, ?_, ?_, ?_, ?_, ?_, ?_⟩
      · intro d a W hI hd hdep
        obtain ⟨p2, k2, a2, m2, c2, ya, yn, yc, x10, x11, x49, x50, x51, x52, x53, x54, x55, x56, x57, rfl, hF⟩ := hI
        have q0 := tcell_blk (tbox_next HB9.out hF.out.bw) 0
        have q1 := tcell_blk (tbox_next HB9.out hF.out.bw) 1
        have q2 := tcell_blk (tbox_next HB9.out hF.out.bw) 2
        simp only [List.getElem?_toArray, List.getElem?_cons_zero, List.getElem?_cons_succ] at q0 q1 q2
        clear hdep hd
        intro K hK
        simp only [Act.put, List.setIfInBounds_toArray, List.set_cons_zero, List.set_cons_succ]
        go_simp
        refine hK.out _ _ ⟨p2, k2, a2, m2, c2, ya, yn, yc, x10, x11, x49, (.agg #[.int .i64 t, .int .i64 n, .slice (some ⟨gm2, 0, none⟩) gm gm]), x51, x52, x53, x54, x55, x56, x57, by first | (simp only [Act.put, List.setIfInBounds_toArray, List.set_cons_zero, List.set_cons_succ]; done) | (simp only [Act.put, List.setIfInBounds_toArray, List.set_cons_zero, List.set_cons_succ]; rfl), ?_⟩
        exact ⟨fun _ => rfl, fun h => hF.out.f1 (by simpa using h), fun h => hF.out.f2 (by simpa using h), fun h => hF.out.f3 (by simpa using h), fun h => hF.out.f4 (by simpa using h), fun h => hF.out.f5 (by simpa using h), fun h => hF.out.f6 (by simpa using h), fun h => hF.out.f7 (by simpa using h), fun h => hF.out.f8 (by simpa using h), fun h => hF.out.f9 (by simpa using h), fun h => hF.out.f10 (by simpa using h), fun h => by have := hF.out.o5_4 (by simpa using h); simpa using this, fun h => by have := hF.out.o6_5 (by simpa using h); simpa using this, fun h => by have := hF.out.o7_6 (by simpa using h); simpa using this, fun h => by have := hF.out.o8_6 (by simpa using h); simpa using this, fun h => by have := hF.out.o9_7 (by simpa using h); simpa using this, fun h => by have := hF.out.o10_8 (by simpa using h); simpa using this, hF.out.bw, fun h => hF.out.r4 (by simpa using h), fun h => hF.out.r5 (by simpa using h)⟩
      · intro d a W hI hd hdep
        obtain ⟨p2, k2, a2, m2, c2, ya, yn, yc, x10, x11, x49, x50, x51, x52, x53, x54, x55, x56, x57, rfl, hF⟩ := hI
        have q0 := tcell_blk (tbox_next HY8.out.2 hF.out.bw) 0
        have q1 := tcell_blk (tbox_next HY8.out.2 hF.out.bw) 1
        have q2 := tcell_blk (tbox_next HY8.out.2 hF.out.bw) 2
        simp only [List.getElem?_toArray, List.getElem?_cons_zero, List.getElem?_cons_succ] at q0 q1 q2
        clear hdep hd
        intro K hK
        simp only [Act.put, List.setIfInBounds_toArray, List.set_cons_zero, List.set_cons_succ]
        go_simp
        refine hK.out _ _ ⟨p2, k2, a2, m2, c2, ya, yn, yc, x10, x11, x49, x50, (.agg #[.int .i64 p, .int .i64 k, .slice ao tn cap]), x52, x53, x54, x55, x56, x57, by first | (simp only [Act.put, List.setIfInBounds_toArray, List.set_cons_zero, List.set_cons_succ]; done) | (simp only [Act.put, List.setIfInBounds_toArray, List.set_cons_zero, List.set_cons_succ]; rfl), ?_⟩
        exact ⟨fun h => hF.out.f0 (by simpa using h), fun _ => rfl, fun h => hF.out.f2 (by simpa using h), fun h => hF.out.f3 (by simpa using h), fun h => hF.out.f4 (by simpa using h), fun h => hF.out.f5 (by simpa using h), fun h => hF.out.f6 (by simpa using h), fun h => hF.out.f7 (by simpa using h), fun h => hF.out.f8 (by simpa using h), fun h => hF.out.f9 (by simpa using h), fun h => hF.out.f10 (by simpa using h), fun h => by have := hF.out.o5_4 (by simpa using h); simpa using this, fun h => by have := hF.out.o6_5 (by simpa using h); simpa using this, fun h => by have := hF.out.o7_6 (by simpa using h); simpa using this, fun h => by have := hF.out.o8_6 (by simpa using h); simpa using this, fun h => by have := hF.out.o9_7 (by simpa using h); simpa using this, fun h => by have := hF.out.o10_8 (by simpa using h); simpa using this, hF.out.bw, fun h => hF.out.r4 (by simpa using h), fun h => hF.out.r5 (by simpa using h)⟩
      · intro d a W hI hd hdep
        obtain ⟨p2, k2, a2, m2, c2, ya, yn, yc, x10, x11, x49, x50, x51, x52, x53, x54, x55, x56, x57, rfl, hF⟩ := hI
        clear hdep hd
        intro K hK
        simp only [Act.put, List.setIfInBounds_toArray, List.set_cons_zero, List.set_cons_succ]
        go_simp
        refine hK.out _ _ ⟨p2, k2, a2, m2, c2, ya, yn, yc, x10, x11, x49, x50, x51, (.slice a1 wn c1), x53, x54, x55, x56, x57, by first | (simp only [Act.put, List.setIfInBounds_toArray, List.set_cons_zero, List.set_cons_succ]; done) | (simp only [Act.put, List.setIfInBounds_toArray, List.set_cons_zero, List.set_cons_succ]; rfl), ?_⟩
        exact ⟨fun h => hF.out.f0 (by simpa using h), fun h => hF.out.f1 (by simpa using h), fun _ => rfl, fun h => hF.out.f3 (by simpa using h), fun h => hF.out.f4 (by simpa using h), fun h => hF.out.f5 (by simpa using h), fun h => hF.out.f6 (by simpa using h), fun h => hF.out.f7 (by simpa using h), fun h => hF.out.f8 (by simpa using h), fun h => hF.out.f9 (by simpa using h), fun h => hF.out.f10 (by simpa using h), fun h => by have := hF.out.o5_4 (by simpa using h); simpa using this, fun h => by have := hF.out.o6_5 (by simpa using h); simpa using this, fun h => by have := hF.out.o7_6 (by simpa using h); simpa using this, fun h => by have := hF.out.o8_6 (by simpa using h); simpa using this, fun h => by have := hF.out.o9_7 (by simpa using h); simpa using this, fun h => by have := hF.out.o10_8 (by simpa using h); simpa using this, hF.out.bw, fun h => hF.out.r4 (by simpa using h), fun h => hF.out.r5 (by simpa using h)⟩
      · intro d a W hI hd hdep
        obtain ⟨p2, k2, a2, m2, c2, ya, yn, yc, x10, x11, x49, x50, x51, x52, x53, x54, x55, x56, x57, rfl, hF⟩ := hI
        have hd2 : d 2 = true := dep_of hdep 2 (by kernel_rfl)
        obtain rfl := hF.out.f2 hd2
        clear hdep hd hd2
        intro K hK
        simp only [Act.put, List.setIfInBounds_toArray, List.set_cons_zero, List.set_cons_succ]
        go_simp
        refine hK.out _ _ ⟨p2, k2, a2, m2, c2, ya, yn, yc, x10, x11, x49, x50, x51, (.slice a1 wn c1), (.int .i64 (wn : Int)), x54, x55, x56, x57, by first | (simp only [Act.put, List.setIfInBounds_toArray, List.set_cons_zero, List.set_cons_succ]; done) | (simp only [Act.put, List.setIfInBounds_toArray, List.set_cons_zero, List.set_cons_succ]; rfl), ?_⟩
        exact ⟨fun h => hF.out.f0 (by simpa using h), fun h => hF.out.f1 (by simpa using h), fun h => hF.out.f2 (by simpa using h), fun _ => rfl, fun h => hF.out.f4 (by simpa using h), fun h => hF.out.f5 (by simpa using h), fun h => hF.out.f6 (by simpa using h), fun h => hF.out.f7 (by simpa using h), fun h => hF.out.f8 (by simpa using h), fun h => hF.out.f9 (by simpa using h), fun h => hF.out.f10 (by simpa using h), fun h => by have := hF.out.o5_4 (by simpa using h); simpa using this, fun h => by have := hF.out.o6_5 (by simpa using h); simpa using this, fun h => by have := hF.out.o7_6 (by simpa using h); simpa using this, fun h => by have := hF.out.o8_6 (by simpa using h); simpa using this, fun h => by have := hF.out.o9_7 (by simpa using h); simpa using this, fun h => by have := hF.out.o10_8 (by simpa using h); simpa using this, hF.out.bw, fun h => hF.out.r4 (by simpa using h), fun h => hF.out.r5 (by simpa using h)⟩
      · intro d a W hI hd hdep
        obtain ⟨p2, k2, a2, m2, c2, ya, yn, yc, x10, x11, x49, x50, x51, x52, x53, x54, x55, x56, x57, rfl, hF⟩ := hI
        have hd1 : d 1 = true := dep_of hdep 1 (by kernel_rfl)
        have hd3 : d 3 = true := dep_of hdep 3 (by kernel_rfl)
        obtain rfl := hF.out.f1 hd1
        obtain rfl := hF.out.f3 hd3
        have HD5 : Hid (d 5 = false) := no_later (fun h => hF.out.o5_4 h) hd
        have HD6 : Hid (d 6 = false) := no_later (fun h => hF.out.o5_4 (hF.out.o6_5 h)) hd
        have HD7 : Hid (d 7 = false) := no_later (fun h => hF.out.o5_4 (hF.out.o6_5 (hF.out.o7_6 h))) hd
        have HD8 : Hid (d 8 = false) := no_later (fun h => hF.out.o5_4 (hF.out.o6_5 (hF.out.o8_6 h))) hd
        have HD9 : Hid (d 9 = false) := no_later (fun h => hF.out.o5_4 (hF.out.o6_5 (hF.out.o7_6 (hF.out.o9_7 h)))) hd
        have HD10 : Hid (d 10 = false) := no_later (fun h => hF.out.o5_4 (hF.out.o6_5 (hF.out.o8_6 (hF.out.o10_8 h)))) hd
        clear hdep hd hd1 hd3
        intro K hK
        simp only [Act.put, List.setIfInBounds_toArray, List.set_cons_zero, List.set_cons_succ]
        go_simp
        refine (HC11.out W hF.out.bw).mono ?_
        rintro _ W2 ⟨p9, k9, a9, m9, c9, rfl, hB, hbt⟩
        have hbx : Tx W2 (fun _ => True) (.agg #[.int .i64 p9, .int .i64 k9, .slice a9 m9 c9]) xm := hbt.mono fun _ _ _ => trivial
        clear hbt
        go_simp
        refine hK.out _ _ ⟨p9, k9, a9, m9, c9, ya, yn, yc, x10, x11, x49, x50, (.agg #[.int .i64 p, .int .i64 k, .slice ao tn cap]), x52, (.int .i64 (wn : Int)), (.agg #[.int .i64 p9, .int .i64 k9, .slice a9 m9 c9]), x55, x56, x57, by first | (simp only [Act.put, List.setIfInBounds_toArray, List.set_cons_zero, List.set_cons_succ]; done) | (simp only [Act.put, List.setIfInBounds_toArray, List.set_cons_zero, List.set_cons_succ]; rfl), ?_⟩
        exact ⟨fun h => hF.out.f0 (by simpa using h), fun h => hF.out.f1 (by simpa using h), fun h => hF.out.f2 (by simpa using h), fun h => hF.out.f3 (by simpa using h), fun _ => rfl, fun h => by have := HD5.out; simp [this] at h, fun h => hF.out.f6 (by simpa using h), fun h => hF.out.f7 (by simpa using h), fun h => hF.out.f8 (by simpa using h), fun h => hF.out.f9 (by simpa using h), fun h => hF.out.f10 (by simpa using h), fun _ => by simp, fun h => by have := hF.out.o6_5 (by simpa using h); simpa using this, fun h => by have := hF.out.o7_6 (by simpa using h); simpa using this, fun h => by have := hF.out.o8_6 (by simpa using h); simpa using this, fun h => by have := hF.out.o9_7 (by simpa using h); simpa using this, fun h => by have := hF.out.o10_8 (by simpa using h); simpa using this, hF.out.bw.trans (hB.mono hF.out.bw.size), fun _ => hbx, fun h => by have := HD5.out; simp [this] at h⟩
      · intro d a W hI hd hdep
        obtain ⟨p2, k2, a2, m2, c2, ya, yn, yc, x10, x11, x49, x50, x51, x52, x53, x54, x55, x56, x57, rfl, hF⟩ := hI
        have hd0 : d 0 = true := dep_of hdep 0 (by kernel_rfl)
        have hd4 : d 4 = true := dep_of hdep 4 (by kernel_rfl)
        obtain rfl := hF.out.f0 hd0
        obtain rfl := hF.out.f4 hd4
        have e5_4 := hd4
        have hr4 := hF.out.r4 hd4
        have HD6 : Hid (d 6 = false) := no_later (fun h => hF.out.o6_5 h) hd
        have HD7 : Hid (d 7 = false) := no_later (fun h => hF.out.o6_5 (hF.out.o7_6 h)) hd
        have HD8 : Hid (d 8 = false) := no_later (fun h => hF.out.o6_5 (hF.out.o8_6 h)) hd
        have HD9 : Hid (d 9 = false) := no_later (fun h => hF.out.o6_5 (hF.out.o7_6 (hF.out.o9_7 h))) hd
        have HD10 : Hid (d 10 = false) := no_later (fun h => hF.out.o6_5 (hF.out.o8_6 (hF.out.o10_8 h))) hd
        clear hdep hd hd0 hd4
        intro K hK
        simp only [Act.put, List.setIfInBounds_toArray, List.set_cons_zero, List.set_cons_succ]
        go_simp
        refine (HC5.out W _ hF.out.bw hr4).mono ?_
        rintro _ W2 ⟨ya9, yn9, yc9, rfl, hB, hbt⟩
        have hbz := hF.out.bw.size
        go_simp
        refine hK.out _ _ ⟨p2, k2, a2, m2, c2, ya9, yn9, yc9, x10, x11, x49, (.agg #[.int .i64 t, .int .i64 n, .slice (some ⟨gm2, 0, none⟩) gm gm]), x51, x52, x53, (.agg #[.int .i64 p2, .int .i64 k2, .slice a2 m2 c2]), (.tuple #[.slice ya9 yn9 yc9, .int .i64 0]), x56, x57, by first | (simp only [Act.put, List.setIfInBounds_toArray, List.set_cons_zero, List.set_cons_succ]; done) | (simp only [Act.put, List.setIfInBounds_toArray, List.set_cons_zero, List.set_cons_succ]; rfl), ?_⟩
        exact ⟨fun h => hF.out.f0 (by simpa using h), fun h => hF.out.f1 (by simpa using h), fun h => hF.out.f2 (by simpa using h), fun h => hF.out.f3 (by simpa using h), fun h => hF.out.f4 (by simpa using h), fun _ => rfl, fun h => by have := HD6.out; simp [this] at h, fun h => by have := HD7.out; simp [this] at h, fun h => hF.out.f8 (by simpa using h), fun h => by have := HD9.out; simp [this] at h, fun h => hF.out.f10 (by simpa using h), fun _ => by simpa using e5_4, fun _ => by simp, fun h => by have := hF.out.o7_6 (by simpa using h); simpa using this, fun h => by have := hF.out.o8_6 (by simpa using h); simpa using this, fun h => by have := hF.out.o9_7 (by simpa using h); simpa using this, fun h => by have := hF.out.o10_8 (by simpa using h); simpa using this, hF.out.bw.trans (hB.mono hF.out.bw.size), fun _ => hr4.bel hB, fun _ => ⟨_, hbz, hbt⟩⟩
      · intro d a W hI hd hdep
        obtain ⟨p2, k2, a2, m2, c2, ya, yn, yc, x10, x11, x49, x50, x51, x52, x53, x54, x55, x56, x57, rfl, hF⟩ := hI
        have hd5 : d 5 = true := dep_of hdep 5 (by kernel_rfl)
        obtain rfl := hF.out.f5 hd5
        have e6_5 := hd5
        clear hdep hd hd5
        intro K hK
        simp only [Act.put, List.setIfInBounds_toArray, List.set_cons_zero, List.set_cons_succ]
        go_simp
        refine hK.out _ _ ⟨p2, k2, a2, m2, c2, ya, yn, yc, x10, x11, (.tuple #[(.slice ya yn yc), .int .i64 0]), x50, x51, x52, x53, x54, (.tuple #[(.slice ya yn yc), .int .i64 0]), x56, x57, by first | (simp only [Act.put, List.setIfInBounds_toArray, List.set_cons_zero, List.set_cons_succ]; done) | (simp only [Act.put, List.setIfInBounds_toArray, List.set_cons_zero, List.set_cons_succ]; rfl), ?_⟩
        exact ⟨fun h => hF.out.f0 (by simpa using h), fun h => hF.out.f1 (by simpa using h), fun h => hF.out.f2 (by simpa using h), fun h => hF.out.f3 (by simpa using h), fun h => hF.out.f4 (by simpa using h), fun h => hF.out.f5 (by simpa using h), fun _ => rfl, fun h => hF.out.f7 (by simpa using h), fun h => hF.out.f8 (by simpa using h), fun h => hF.out.f9 (by simpa using h), fun h => hF.out.f10 (by simpa using h), fun h => by have := hF.out.o5_4 (by simpa using h); simpa using this, fun _ => by simpa using e6_5, fun _ => by simp, fun _ => by simp, fun h => by have := hF.out.o9_7 (by simpa using h); simpa using this, fun h => by have := hF.out.o10_8 (by simpa using h); simpa using this, hF.out.bw, fun h => hF.out.r4 (by simpa using h), fun h => hF.out.r5 (by simpa using h)⟩
      · intro d a W hI hd hdep
        obtain ⟨p2, k2, a2, m2, c2, ya, yn, yc, x10, x11, x49, x50, x51, x52, x53, x54, x55, x56, x57, rfl, hF⟩ := hI
        have hd6 : d 6 = true := dep_of hdep 6 (by kernel_rfl)
        obtain rfl := hF.out.f6 hd6
        have e7_6 := hd6
        clear hdep hd hd6
        intro K hK
        simp only [Act.put, List.setIfInBounds_toArray, List.set_cons_zero, List.set_cons_succ]
        go_simp
        refine hK.out _ _ ⟨p2, k2, a2, m2, c2, ya, yn, yc, x10, x11, (.tuple #[(.slice ya yn yc), .int .i64 0]), x50, x51, x52, x53, x54, x55, (.slice ya yn yc), x57, by first | (simp only [Act.put, List.setIfInBounds_toArray, List.set_cons_zero, List.set_cons_succ]; done) | (simp only [Act.put, List.setIfInBounds_toArray, List.set_cons_zero, List.set_cons_succ]; rfl), ?_⟩
        exact ⟨fun h => hF.out.f0 (by simpa using h), fun h => hF.out.f1 (by simpa using h), fun h => hF.out.f2 (by simpa using h), fun h => hF.out.f3 (by simpa using h), fun h => hF.out.f4 (by simpa using h), fun h => hF.out.f5 (by simpa using h), fun h => hF.out.f6 (by simpa using h), fun _ => rfl, fun h => hF.out.f8 (by simpa using h), fun h => hF.out.f9 (by simpa using h), fun h => hF.out.f10 (by simpa using h), fun h => by have := hF.out.o5_4 (by simpa using h); simpa using this, fun h => by have := hF.out.o6_5 (by simpa using h); simpa using this, fun _ => by simpa using e7_6, fun h => by have := hF.out.o8_6 (by simpa using h); simpa using this, fun _ => by simp, fun h => by have := hF.out.o10_8 (by simpa using h); simpa using this, hF.out.bw, fun h => hF.out.r4 (by simpa using h), fun h => hF.out.r5 (by simpa using h)⟩
      · intro d a W hI hd hdep
        obtain ⟨p2, k2, a2, m2, c2, ya, yn, yc, x10, x11, x49, x50, x51, x52, x53, x54, x55, x56, x57, rfl, hF⟩ := hI
        have hd6 : d 6 = true := dep_of hdep 6 (by kernel_rfl)
        obtain rfl := hF.out.f6 hd6
        have e8_6 := hd6
        clear hdep hd hd6
        intro K hK
        simp only [Act.put, List.setIfInBounds_toArray, List.set_cons_zero, List.set_cons_succ]
        go_simp
        refine hK.out _ _ ⟨p2, k2, a2, m2, c2, ya, yn, yc, x10, x11, (.tuple #[(.slice ya yn yc), .int .i64 0]), x50, x51, x52, x53, x54, x55, x56, (.int .i64 0), by first | (simp only [Act.put, List.setIfInBounds_toArray, List.set_cons_zero, List.set_cons_succ]; done) | (simp only [Act.put, List.setIfInBounds_toArray, List.set_cons_zero, List.set_cons_succ]; rfl), ?_⟩
        exact ⟨fun h => hF.out.f0 (by simpa using h), fun h => hF.out.f1 (by simpa using h), fun h => hF.out.f2 (by simpa using h), fun h => hF.out.f3 (by simpa using h), fun h => hF.out.f4 (by simpa using h), fun h => hF.out.f5 (by simpa using h), fun h => hF.out.f6 (by simpa using h), fun h => hF.out.f7 (by simpa using h), fun _ => rfl, fun h => hF.out.f9 (by simpa using h), fun h => hF.out.f10 (by simpa using h), fun h => by have := hF.out.o5_4 (by simpa using h); simpa using this, fun h => by have := hF.out.o6_5 (by simpa using h); simpa using this, fun h => by have := hF.out.o7_6 (by simpa using h); simpa using this, fun _ => by simpa using e8_6, fun h => by have := hF.out.o9_7 (by simpa using h); simpa using this, fun _ => by simp, hF.out.bw, fun h => hF.out.r4 (by simpa using h), fun h => hF.out.r5 (by simpa using h)⟩
      · intro d a W hI hd hdep
        obtain ⟨p2, k2, a2, m2, c2, ya, yn, yc, x10, x11, x49, x50, x51, x52, x53, x54, x55, x56, x57, rfl, hF⟩ := hI
        have hd7 : d 7 = true := dep_of hdep 7 (by kernel_rfl)
        obtain rfl := hF.out.f7 hd7
        have e9_7 := hd7
        clear hdep hd hd7
        intro K hK
        simp only [Act.put, List.setIfInBounds_toArray, List.set_cons_zero, List.set_cons_succ]
        go_simp
        refine hK.out _ _ ⟨p2, k2, a2, m2, c2, ya, yn, yc, (.slice ya yn yc), x11, x49, x50, x51, x52, x53, x54, x55, (.slice ya yn yc), x57, by first | (simp only [Act.put, List.setIfInBounds_toArray, List.set_cons_zero, List.set_cons_succ]; done) | (simp only [Act.put, List.setIfInBounds_toArray, List.set_cons_zero, List.set_cons_succ]; rfl), ?_⟩
        exact ⟨fun h => hF.out.f0 (by simpa using h), fun h => hF.out.f1 (by simpa using h), fun h => hF.out.f2 (by simpa using h), fun h => hF.out.f3 (by simpa using h), fun h => hF.out.f4 (by simpa using h), fun h => hF.out.f5 (by simpa using h), fun h => hF.out.f6 (by simpa using h), fun h => hF.out.f7 (by simpa using h), fun h => hF.out.f8 (by simpa using h), fun _ => rfl, fun h => hF.out.f10 (by simpa using h), fun h => by have := hF.out.o5_4 (by simpa using h); simpa using this, fun h => by have := hF.out.o6_5 (by simpa using h); simpa using this, fun h => by have := hF.out.o7_6 (by simpa using h); simpa using this, fun h => by have := hF.out.o8_6 (by simpa using h); simpa using this, fun _ => by simpa using e9_7, fun h => by have := hF.out.o10_8 (by simpa using h); simpa using this, hF.out.bw, fun h => hF.out.r4 (by simpa using h), fun h => hF.out.r5 (by simpa using h)⟩
      · intro d a W hI hd hdep
        obtain ⟨p2, k2, a2, m2, c2, ya, yn, yc, x10, x11, x49, x50, x51, x52, x53, x54, x55, x56, x57, rfl, hF⟩ := hI
        have hd8 : d 8 = true := dep_of hdep 8 (by kernel_rfl)
        obtain rfl := hF.out.f8 hd8
        have e10_8 := hd8
        clear hdep hd hd8
        intro K hK
        simp only [Act.put, List.setIfInBounds_toArray, List.set_cons_zero, List.set_cons_succ]
        go_simp
        refine hK.out _ _ ⟨p2, k2, a2, m2, c2, ya, yn, yc, x10, (.int .i64 0), x49, x50, x51, x52, x53, x54, x55, x56, (.int .i64 0), by first | (simp only [Act.put, List.setIfInBounds_toArray, List.set_cons_zero, List.set_cons_succ]; done) | (simp only [Act.put, List.setIfInBounds_toArray, List.set_cons_zero, List.set_cons_succ]; rfl), ?_⟩
        exact ⟨fun h => hF.out.f0 (by simpa using h), fun h => hF.out.f1 (by simpa using h), fun h => hF.out.f2 (by simpa using h), fun h => hF.out.f3 (by simpa using h), fun h => hF.out.f4 (by simpa using h), fun h => hF.out.f5 (by simpa using h), fun h => hF.out.f6 (by simpa using h), fun h => hF.out.f7 (by simpa using h), fun h => hF.out.f8 (by simpa using h), fun h => hF.out.f9 (by simpa using h), fun _ => rfl, fun h => by have := hF.out.o5_4 (by simpa using h); simpa using this, fun h => by have := hF.out.o6_5 (by simpa using h); simpa using this, fun h => by have := hF.out.o7_6 (by simpa using h); simpa using this, fun h => by have := hF.out.o8_6 (by simpa using h); simpa using this, fun h => by have := hF.out.o9_7 (by simpa using h); simpa using this, fun _ => by simpa using e10_8, hF.out.bw, fun h => hF.out.r4 (by simpa using h), fun h => hF.out.r5 (by simpa using h)⟩
    · intro d a W hI hall
      obtain ⟨p2, k2, a2, m2, c2, ya, yn, yc, x10, x11, x49, x50, x51, x52, x53, x54, x55, x56, x57, rfl, hF⟩ := hI
      simp only [List.length_cons, List.length_nil] at hall
      obtain rfl := hF.out.f0 (hall 0 (by omega))
      obtain rfl := hF.out.f1 (hall 1 (by omega))
      obtain rfl := hF.out.f2 (hall 2 (by omega))
      obtain rfl := hF.out.f3 (hall 3 (by omega))
      obtain rfl := hF.out.f4 (hall 4 (by omega))
      obtain rfl := hF.out.f5 (hall 5 (by omega))
      obtain rfl := hF.out.f6 (hall 6 (by omega))
      obtain rfl := hF.out.f7 (hall 7 (by omega))
      obtain rfl := hF.out.f8 (hall 8 (by omega))
      obtain rfl := hF.out.f9 (hall 9 (by omega))
      obtain rfl := hF.out.f10 (hall 10 (by omega))
      have HB9' : Hid (Below w8.heap.size w8 W) := hF.out.bw
      obtain ⟨B, hB1, hB2⟩ := hF.out.r5 (hall 5 (by omega))
      clear hF hall
      simp only [Act.put, List.setIfInBounds_toArray, List.set_cons_zero, List.set_cons_succ]
      have hc := reverse_any B ya yn yc wm W hB2 (by rw [← HWM.out, List.length_reverse, HN.out]; exact HWN.out)
      go_wp2_with fail
      refine hc.mono ?_
      rintro _ w10 ⟨rfl, hb, hnm⟩
      have HB10 : Hid (Below w8.heap.size w8 w10) := HB9'.out.trans (hb.mono hB1)
      have HV10 : Hid (Nms w10 (.slice ya yn yc) (wordT ps x)) := by rw [← HWM.out, List.reverse_reverse] at hnm; exact hnm
      have hc2 := equalI_same (.slice ya yn yc) (.slice a1 wn c1) (wordT ps x) w10 HV10.out (HL_8.out.below HB10.out)
      clear hc hb hnm hB1 hB2
      go_wp2_with fail
      refine hc2.mono ?_
      rintro _ w11 ⟨rfl, hb⟩
      have HB11 : Hid (Below w.heap.size w w11) := HBW8.out.trans ((HB10.out.trans (hb.mono HB10.out.size)).mono HBW8.out.size)
      clear hc2 hb
      go_wp2_with fail
      go_ret
      exact ⟨by simp, HB11.out⟩
  · have HNZ : Hid (¬ er = 0) := hr
    have hb1 : (er != 0) = true := by simp; exact hr
    clear hr
    rw [if_neg HNZ.out] at hq
    simp only [Value.slice.injEq] at hq
    obtain ⟨rfl, rfl, rfl⟩ := hq
    have k0 := tcell_blk HH6.out.2.1 0
    have k1 := tcell_blk HH6.out.2.1 1
    have k2 := tcell_blk HH6.out.2.1 2
    have l0 := tcell_blk HH6.out.2.2 0
    have l1 := tcell_blk HH6.out.2.2 1
    have l2 := tcell_blk HH6.out.2.2 2
    simp only [List.getElem?_toArray, List.getElem?_cons_zero, List.getElem?_cons_succ] at k0 k1 k2 l0 l1 l2
    have hc := TCheck_any t n (.slice ga gm gc) ps (.agg #[.int .i64 p, .int .i64 k, .slice ao tn cap]) x (fun _ => True) w6 (HP.out.below HH6.out.1) (HX.out.bel HH6.out.1)
    go_wp2_with fail
    refine hc.mono ?_
    rintro _ w7 ⟨rfl, hb⟩
    have HH7 : Hid (Below w.heap.size w w7 ∧ Yh w.heap.size t n ga gm gc p k ao tn cap w7) := ⟨HH6.out.1.trans (hb.mono HH6.out.1.size), HH6.out.2.next hb⟩
    rw [HER.out]
    clear hc hb HH6 k0 k1 k2 l0 l1 l2
    have hbe : (er == er) = true := by simp
    go_wp2_with fail
    go_ret
    exact ⟨by simp, HH7.out.1⟩

/-! ### What the walk gives, for every argument -/
set_option maxRecDepth 100000 in
theorem contract (H : Type) (enc : TypeId × Value → H) (W : World) (base : Nat) (args : Array Value) (ds gs : List (DataW H)) (before : List MemPlace)
    (hval : ∀ (j : Nat) t v, Try.f3.params[j]? = some t → args[j]? = some v → Value.okWide Try.prog W .any base t v)
    (hW : DataW.Whole enc Try.prog Try.f3.params.toList Rows.treesMirrorSpec.vars false W args.toList ds gs before) (hsz : (DataW.weightsEach Try.prog (Try.f3.params.toList ++ Rows.treesMirrorSpec.plain.varTypes Try.prog) (ds ++ gs)).all (· ≤ reachBytes) = true) :
    Calls Try.prog 3 args W fun e W' => ∃ v, e = .returned v ∧ Rows.treesMirrorSpec.post enc Try.prog Try.f3 false true false false W args v W' := by
  have hW' := hW
  obtain ⟨p, q, hA0, hV, rfl, hfz, hnd⟩ := hW
  have hA : DataW.TrodAll enc Try.prog W 0 (fun _ => true) true Try.f3.params.toList args.toList ds p := hA0
  rw [Try.params3] at hA hval hsz
  obtain ⟨v0, vs0, d0, ds0, p0, q0, hargs, rfl, rfl, h0, r0⟩ := trodAll_cons hA
  obtain ⟨v1, vs1, d1, ds1, p1, q1, rfl, rfl, rfl, h1, r1⟩ := trodAll_cons r0
  obtain ⟨rfl, rfl, rfl⟩ := trodAll_nil r1
  obtain rfl : args = #[v0, v1] := by cases args; simp_all
  obtain ⟨rfl, rfl⟩ := trodVars_none hV
  have k0 := h0
  have lt0 : ∀ x ∈ p0, x.block < W.heap.size := by obtain ⟨m, hm⟩ := k0; exact DataW.trod_lt m _ _ _ hm
  obtain ⟨a0t, a0n, a0s, a0p, rfl, w0s⟩ := open_gram (hval 0 24 v0 rfl rfl) h0
  have k1 := h1
  have lt1 : ∀ x ∈ p1, x.block < W.heap.size := by obtain ⟨m, hm⟩ := k1; exact DataW.trod_lt m _ _ _ hm
  obtain ⟨a1x, w1s⟩ := open_tree (hval 1 27 v1 rfl rfl) h1
  clear hA0
  refine (walk a0t a0n a0s a0p _ a1x W w0s w1s).mono fun e W' ⟨he, bel⟩ => ?_
  subst he
  exact ⟨_, rfl, _, _, _, [], _, [], hW', trodAll_mk1 (shut_bool Try.underlying4 _), (trodAll_cons_mk (Below.trod laidOut (by kernel_rfl) (of_decide_eq_true (by kernel_rfl)) k0 bel lt0) (trodAll_cons_mk (Below.trod laidOut (by kernel_rfl) (of_decide_eq_true (by kernel_rfl)) k1 bel lt1) trodAll_mk0)), rfl, bel.frame _, fun h => by cases h⟩

/-! ### The row's step -/
set_option maxRecDepth 100000 in
theorem lifted (os : Os) (started : os.Started) (H : Type) (enc : TypeId × Value → H) :
    ReturnsInHanded {} Try.checked os 3 .any (Rows.treesMirrorSpec.pre6 enc Try.prog Try.f3 Rows.treesMirrorRow.domain false) (Rows.treesMirrorSpec.post enc Try.prog Try.f3 false true false false) := by
  refine returnsInHanded_of_change_sized (C := Try.checked) own started (by kernel_rfl) Try.func3
    (ChangeSpec.witness6 (enc := enc) (C := Try.checked) false ⟨#[], #[.agg #[.int .i64 0, .int .i64 0, .slice none 0 0], .agg #[.int .i64 0, .int .i64 0, .slice none 0 0]], []⟩ 8 (by kernel_rfl) (by kernel_rfl) (by kernel_rfl) (by kernel_rfl)) ?_
  intro W base args ds gs before hval hW hcnd hsz _
  exact contract H enc W base args ds gs before hval hW hsz

theorem over : Rows.treesMirrorRow.holds Try.pinned (OpenSpec.ofChange Rows.treesMirrorSpec) :=
  OpenClaim.holds_of_wide 3 Try.f3 rfl rfl rfl rfl rfl rfl rfl ⟨rfl, rfl, rfl, rfl, rfl⟩ rfl rfl rfl rfl rfl (by kernel_rfl) Try.func3 (by kernel_rfl)
    (of_decide_eq_true (by kernel_rfl)) (by unfold Func.isWrapper; first | (rw [if_pos (by decide +kernel)]; kernel_rfl) | (rw [if_neg (by decide +kernel)]; exact ⟨rfl, rfl⟩))
    (fun os started H enc _ => lifted os started H enc)

end Go.Proofs.Ytldfiofgknmcgab.treesMirror
namespace Go.Proofs.Ytldfiofgknmcgab
/-- The given statement. -/
theorem treesMirror_holds : Rows.TreesMirrorSaid := treesMirror.over
#print axioms treesMirror_holds
end Go.Proofs.Ytldfiofgknmcgab
