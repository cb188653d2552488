/-
  TreesOwn returns true whatever grammar and tree are handed in, and changes nothing that it was handed; no condition.
-/
import Derived.Test.YtldfiofgknmcgabRows
import Derived.WalkKit
import Derived.ProofKit
import Derived.OpenShut
import Derived.ShutString
import Derived.SizedLaws
import Derived.ChangeOld
import Derived.Below
import Derived.Carry
import Derived.WalkLawsBesides
import Derived.WalkSpells
import Derived.Test.YtldfiofgknmcgabOpens
import Derived.Deep.Cut
import Derived.Test.YtldfiofgknmcgabTzOfDown
import Derived.Test.YtldfiofgknmcgabTrSame
import Derived.Test.YtldfiofgknmcgabFcBrack
import Derived.Test.YtldfiofgknmcgabTrOwn1
import Derived.Test.YtldfiofgknmcgabTrEq
namespace Go.Proofs.Ytldfiofgknmcgab.treesOwn
open Go.ChangeShapes Go.WideShapes Go.ChangeAt Go.RowKit
open Go.ChangeMaps (open_string shut_string)
open Cg
set_option linter.unusedVariables false

theorem own : ownKnob Try.prog.godebug = none := by kernel_rfl
theorem laidOut : laidOutB Try.prog = true := by kernel_rfl
theorem one_err : errT 2 1 brs oneT = 0 := by decide +kernel
theorem one_len : (evD oneT).length = 8 := by simp [oneT, evD, evDL]
/-- What the law holds: both boxes. -/
def Yh (g : Nat) (tt n : Int) (ga : Option Addr) (gm gc : Nat) (p k : Int) (ao : Option Addr) (tn cap : Nat) (W : World) : Prop := W.heap[g]? = some (.cells #[.int .i64 tt, .int .i64 n, .slice ga gm gc] 24) ∧ W.heap[g + 1]? = some (.cells #[.int .i64 p, .int .i64 k, .slice ao tn cap] 27)
theorem Yh.next {g : Nat} {tt n : Int} {ga : Option Addr} {gm gc : Nat} {p k : Int} {ao : Option Addr} {tn cap : Nat} {W W' : World} (h : Yh g tt n ga gm gc p k ao tn cap W) (hb : Below W.heap.size W W') : Yh g tt n ga gm gc p k ao tn cap W' := ⟨tbox_next h.1 hb, tbox_next h.2 hb⟩
theorem evs_of_row {w : World} {base n : Nat} {v : Value} {l : List Ev} (h : w.ownsRow base 46 2 v n (ecs l)) (hl : l.length = n) (hn : n ≤ 1000000) : Evs w v l := by
  subst hl
  exact evs_of_own h (by omega)
theorem evs_front {w : World} {base g rc n : Nat} {l m : List Ev} (h : w.ownsRow base 46 2 (.slice (some ⟨g, 0, none⟩) (n + 2) rc) (n + 2) (ecs (l ++ m))) (hl : l.length = n) (hn : n ≤ 900000) : Evs w (.slice (some ⟨g, 0, none⟩) n rc) l := by
  have hlen : (l ++ m).length = n + 2 := by
    have := h.1
    rw [ecs_length] at this
    omega
  obtain ⟨ao, cap, e1, -, hc⟩ := evs_of_row h hlen (by omega)
  simp only [Value.slice.injEq] at e1
  obtain ⟨rfl, -, rfl⟩ := e1
  subst hl
  refine ⟨_, rc, rfl, by omega, ?_⟩
  by_cases h0 : l = []
  · exact Or.inl h0
  · obtain ⟨b, o, e2, hb, hc⟩ := hc.resolve_left (by simp [h0])
    refine Or.inr ⟨b, o, e2, hb, fun i hi => ?_⟩
    have := hc i (by rw [List.length_append]; omega)
    rw [List.getElem_append_left hi] at this
    exact this
theorem own_row {w : World} {base g rc n m : Nat} {xs : List Value} (h : w.ownsRow base 46 2 (.slice (some ⟨g, 0, none⟩) n rc) m xs) : ∃ f, w.rowIs g 46 (rc * 2) f ∧ rc ≤ 9223372036854775807 := by
  rcases h.2 with ⟨e, -⟩ | ⟨g', cap, cur, e, -, hh, -, hm, hs, -⟩
  · simp at e
  · simp only [Value.slice.injEq, Option.some.injEq, Addr.mk.injEq, and_true] at e
    obtain ⟨rfl, -, rfl⟩ := e
    unfold maxLen at hm
    exact ⟨fun i => cur.getD i undef, ⟨cur, hh, hs, fun i hi => by simp [show i < cur.size by omega]⟩, hm⟩
theorem Rm1.spoil {W W' : World} {P : Nat → Prop} {v : Value} {bk N : Nat} {cur : Array Value} {f' : Nat → Value} (h : Rm1 W P v) (hg : W.grownBy W' (some bk)) (hc : W.heap[bk]? = some (.cells cur 27)) (hs : cur.size = N) (hf : W'.rowIs bk 27 N f') : Rm1 W' P v := by
  obtain ⟨p, k, ao, n, cap, h1, h2 | ⟨b, cu, h2, h3, h4, h5, h6⟩⟩ := h
  · exact ⟨p, k, ao, n, cap, h1, Or.inl h2⟩
  · by_cases e : b = bk
    · subst e
      rw [h5] at hc
      simp only [Option.some.injEq, Obj.cells.injEq, and_true] at hc
      obtain ⟨rfl, -⟩ := hc
      obtain ⟨cur', k1, k2, -⟩ := hf
      exact ⟨p, k, ao, n, cap, h1, Or.inr ⟨b, cur', h2, h3, h4, k1, by omega⟩⟩
    · exact ⟨p, k, ao, n, cap, h1, Or.inr ⟨b, cu, h2, h3, h4, (hg.block b (heap_lt3 h5) (by simpa using e)).trans h5, h6⟩⟩
/-- What the law's loop holds. -/
structure OwI (w : World) (t n : Int) (ga : Option Addr) (gm gc : Nat) (p k : Int) (ao : Option Addr) (tn cap bD q12 q14 : Nat) (va vb : Value) (cb : Array Value) (x : T) (W : World) : Prop where
  bel : Below w.heap.size w W
  yh : Yh w.heap.size t n ga gm gc p k ao tn cap W
  rm : Rm2 W (fun b => bD ≤ b ∧ b < q12) va
  bb : W.heap[q14]? = some (.cells cb 27)
  tb : Tx W (fun b => q12 < b) vb x
  l1 : w.heap.size + 1 < bD
  l2 : q12 < q14
theorem OwI.next {w : World} {t n : Int} {ga : Option Addr} {gm gc : Nat} {p k : Int} {ao : Option Addr} {tn cap bD q12 q14 : Nat} {va vb : Value} {cb : Array Value} {x : T} {W W' : World} (h : OwI w t n ga gm gc p k ao tn cap bD q12 q14 va vb cb x W) (hb : Below W.heap.size W W') : OwI w t n ga gm gc p k ao tn cap bD q12 q14 va vb cb x W' := ⟨h.bel.trans (hb.mono h.bel.size), h.yh.next hb, h.rm.next fun b hl _ => hb.block b hl, tbox_next h.bb hb, h.tb.bel hb, h.l1, h.l2⟩
theorem OwI.root {w : World} {t n : Int} {ga : Option Addr} {gm gc : Nat} {p k : Int} {ao : Option Addr} {tn cap bD q12 q14 : Nat} {pa ka : Int} {oa : Option Addr} {sa ua : Nat} {vb : Value} {cb : Array Value} {x : T} {W : World} (h : OwI w t n ga gm gc p k ao tn cap bD q12 q14 (.agg #[.int .i64 pa, .int .i64 ka, .slice oa sa ua]) vb cb x W) (h0 : sa ≠ 0) : ∃ rb, oa = some ⟨rb, 0, none⟩ ∧ rb < W.heap.size := by
  obtain ⟨p', k', ao', n', cap', h1, h2 | ⟨b', cur, h2, h3, h4, h5, h6⟩⟩ := h.rm.1
  · simp only [Value.agg.injEq, Array.mk.injEq, List.cons.injEq, Value.int.injEq, Value.slice.injEq, true_and, and_true] at h1
    omega
  · simp only [Value.agg.injEq, Array.mk.injEq, List.cons.injEq, Value.int.injEq, Value.slice.injEq, true_and, and_true] at h1
    exact ⟨b', by rw [h1.2.2.1, h2], heap_lt3 h5⟩
theorem OwI.spoil {w : World} {t n : Int} {ga : Option Addr} {gm gc : Nat} {p k : Int} {ao : Option Addr} {tn cap bD q12 q14 : Nat} {pa ka : Int} {rb sa ua : Nat} {vb : Value} {cb : Array Value} {x : T} {W W' : World} {bk N : Nat} {cur : Array Value} {f' : Nat → Value} (h : OwI w t n ga gm gc p k ao tn cap bD q12 q14 (.agg #[.int .i64 pa, .int .i64 ka, .slice (some ⟨rb, 0, none⟩) sa ua]) vb cb x W)
    (hg : W.grownBy W' (some bk)) (hc : W.heap[bk]? = some (.cells cur 27)) (hs : cur.size = N) (hf : W'.rowIs bk 27 N f') (hp : bD ≤ bk ∧ bk < q12) (hne : bk ≠ rb) : OwI w t n ga gm gc p k ao tn cap bD q12 q14 (.agg #[.int .i64 pa, .int .i64 ka, .slice (some ⟨rb, 0, none⟩) sa ua]) vb cb x W' := by
  have l1 := h.l1
  have l2 := h.l2
  have same : ∀ b, b < W.heap.size → b ≠ bk → W'.heap[b]? = W.heap[b]? := fun b hl e => hg.block b hl (by simpa using e)
  refine ⟨h.bel.grown hg h.bel.size (fun k e => by simp at e; omega), ⟨?_, ?_⟩, ⟨Rm1.spoil h.rm.1 hg hc hs hf, fun p' k' b n' cap' e i hi => ?_⟩, ?_, ?_, h.l1, h.l2⟩
  · rw [same _ (heap_lt3 h.yh.1) (by omega)]; exact h.yh.1
  · rw [same _ (heap_lt3 h.yh.2) (by omega)]; exact h.yh.2
  · obtain ⟨u, h1, h2⟩ := h.rm.2 p' k' b n' cap' e i hi
    have h0 := h.rm.1.block.2
    simp only [Value.agg.injEq, Array.mk.injEq, List.cons.injEq, Value.int.injEq, Value.slice.injEq, Option.some.injEq, Addr.mk.injEq, true_and, and_true] at e
    obtain ⟨-, -, rfl, -, -⟩ := e
    exact ⟨u, Rm1.spoil h1 hg hc hs hf, fun j hj => (cell_same (same _ h0 (Ne.symm hne))).trans (h2 j hj)⟩
  · rw [same _ (heap_lt3 h.bb) (by omega)]; exact h.bb
  · exact h.tb.next (fun b hl hq => same b hl (by have hq2 : q12 < b := hq; omega)) hg.size

/-! ### The walk: the Go text returns true. -/
set_option maxHeartbeats 16000000 in
set_option maxRecDepth 20000 in
theorem walk (a0t : Int) (a0n : Int) (a0s : Value) (a0p : List Pd) (v1 : Value) (a1x : T) (w : World) (w0s : Pds w a0s a0p) (w1s : Tx w (fun _ => True) v1 a1x) :
    Calls Try.prog 4 #[.agg #[.int .i64 a0t, .int .i64 a0n, a0s], v1] w fun e w' => e = .returned (.bool true) ∧ Below w.heap.size w w' := by
  have HP : Hid (Pds w a0s a0p) := w0s
  have HX : Hid (Tx w (fun _ => True) v1 a1x) := w1s
  obtain ⟨ga, gc, rfl, -, -⟩ := w0s
  obtain ⟨p, k, ao, cap, kids, vals, rfl, rfl, -⟩ := w1s.shape
  clear w1s
  obtain ⟨gm, HGM⟩ : ∃ gm, Hid (a0p.length = gm) := ⟨_, (rfl : a0p.length = _)⟩
  obtain ⟨tn, HTN⟩ : ∃ tn, Hid (kids.length = tn) := ⟨_, (rfl : kids.length = _)⟩
  rw [HGM.out] at HP ⊢
  rw [HTN.out] at HX ⊢
  obtain ⟨x, HXT⟩ : ∃ x, Hid (T.mk p k kids = x) := ⟨_, (rfl : T.mk p k kids = _)⟩
  rw [HXT.out] at HX
  revert HP HX HGM
  generalize a0t = t
  generalize a0n = n
  generalize a0p = ps
  intro _ _ _
  rename Hid (Pds _ _ _) => HP
  rename Hid (Tx _ _ _ _) => HX
  obtain ⟨er, HER⟩ : ∃ er, Hid (errT t n ps x = er) := ⟨_, (rfl : errT t n ps x = _)⟩
  have HH1 : Hid (Below w.heap.size w ((w.alloc (Obj.cells #[.int .i64 t, .int .i64 n, .slice ga gm gc] 24)).alloc (Obj.cells #[.int .i64 p, .int .i64 k, .slice ao tn cap] 27)) ∧ Yh w.heap.size t n ga gm gc p k ao tn cap ((w.alloc (Obj.cells #[.int .i64 t, .int .i64 n, .slice ga gm gc] 24)).alloc (Obj.cells #[.int .i64 p, .int .i64 k, .slice ao tn cap] 27))) := by
    refine ⟨below_alloc2 _ _ _, tbox_next (heap_alloc_new _ _) (below_alloc _ _), ?_⟩
    have := heap_alloc_new (w.alloc (Obj.cells #[.int .i64 t, .int .i64 n, .slice ga gm gc] 24)) (Obj.cells #[.int .i64 p, .int .i64 k, .slice ao tn cap] 27)
    rw [show (w.alloc (Obj.cells #[.int .i64 t, .int .i64 n, .slice ga gm gc] 24)).heap.size = w.heap.size + 1 by simp] at this
    exact this
  obtain ⟨w1, HW1⟩ : ∃ w1, Hid ((w.alloc (Obj.cells #[.int .i64 t, .int .i64 n, .slice ga gm gc] 24)).alloc (Obj.cells #[.int .i64 p, .int .i64 k, .slice ao tn cap] 27) = w1) := ⟨_, (rfl : (w.alloc (Obj.cells #[.int .i64 t, .int .i64 n, .slice ga gm gc] 24)).alloc (Obj.cells #[.int .i64 p, .int .i64 k, .slice ao tn cap] 27) = _)⟩
  have hbb : ((8 : Int) != 8) = false := rfl
  go_enter Try.func4, Try.ntmps4
  go_upto_region 1 with fail
  rw [HW1.out] at HH1 ⊢
  clear HW1
  have k0 := tcell_blk HH1.out.2.1 0
  have k1 := tcell_blk HH1.out.2.1 1
  have k2 := tcell_blk HH1.out.2.1 2
  have l0 := tcell_blk HH1.out.2.2 0
  have l1 := tcell_blk HH1.out.2.2 1
  have l2 := tcell_blk HH1.out.2.2 2
  simp only [List.getElem?_toArray, List.getElem?_cons_zero, List.getElem?_cons_succ] at k0 k1 k2 l0 l1 l2
  have hc := brackets_any w1
  go_wp2_with fail
  refine hc.mono ?_
  rintro _ w2 ⟨gb, rfl, hpb, hb⟩
  have HH2 : Hid (Below w.heap.size w w2 ∧ Yh w.heap.size t n ga gm gc p k ao tn cap w2) := ⟨HH1.out.1.trans (hb.mono HH1.out.1.size), HH1.out.2.next hb⟩
  have HPB_2 : Hid (Pds w2 (.slice (some ⟨gb, 0, none⟩) 2 2) brs) := hpb
  clear hc hb HH1 k0 k1 k2 l0 l1 l2 hpb
  have k0 := tcell_blk HH2.out.2.1 0
  have k1 := tcell_blk HH2.out.2.1 1
  have k2 := tcell_blk HH2.out.2.1 2
  have l0 := tcell_blk HH2.out.2.2 0
  have l1 := tcell_blk HH2.out.2.2 1
  have l2 := tcell_blk HH2.out.2.2 2
  simp only [List.getElem?_toArray, List.getElem?_cons_zero, List.getElem?_cons_succ] at k0 k1 k2 l0 l1 l2
  have hc := one_any w2
  go_wp2_with fail
  refine hc.mono ?_
  rintro _ w3 ⟨go, rfl, hpo, hb⟩
  have HH3 : Hid (Below w.heap.size w w3 ∧ Yh w.heap.size t n ga gm gc p k ao tn cap w3) := ⟨HH2.out.1.trans (hb.mono HH2.out.1.size), HH2.out.2.next hb⟩
  have HPB_3 : Hid (Pds w3 (.slice (some ⟨gb, 0, none⟩) 2 2) brs) := HPB_2.out.below hb
  have HPO_3 : Hid (Tx w3 (fun _ => True) (.agg #[.int .i64 1, .int .i64 0, .slice (some ⟨go, 0, none⟩) 4 4]) oneT) := hpo
  clear hc hb HH2 k0 k1 k2 l0 l1 l2 HPB_2 hpo
  have k0 := tcell_blk HH3.out.2.1 0
  have k1 := tcell_blk HH3.out.2.1 1
  have k2 := tcell_blk HH3.out.2.1 2
  have l0 := tcell_blk HH3.out.2.2 0
  have l1 := tcell_blk HH3.out.2.2 1
  have l2 := tcell_blk HH3.out.2.2 2
  simp only [List.getElem?_toArray, List.getElem?_cons_zero, List.getElem?_cons_succ] at k0 k1 k2 l0 l1 l2
  have hc := Down_any 2 1 _ brs _ oneT (fun _ => True) w3 HPB_3.out HPO_3.out
  go_wp2_with fail
  refine hc.mono ?_
  rintro _ w4 ⟨a0, n0, c0, rfl, hb, hq⟩
  have HH4 : Hid (Below w.heap.size w w4 ∧ Yh w.heap.size t n ga gm gc p k ao tn cap w4) := ⟨HH3.out.1.trans (hb.mono HH3.out.1.size), HH3.out.2.next hb⟩
  have HPB_4 : Hid (Pds w4 (.slice (some ⟨gb, 0, none⟩) 2 2) brs) := HPB_3.out.below hb
  rw [one_err] at hq ⊢
  rw [if_pos rfl] at hq
  obtain ⟨_, _, hsh0⟩ := own_len hq
  rw [one_len] at hsh0
  simp only [Value.slice.injEq] at hsh0
  obtain ⟨-, rfl, -⟩ := hsh0
  clear hc hb HH3 k0 k1 k2 l0 l1 l2 HPB_3 hq HPO_3
  have k0 := tcell_blk HH4.out.2.1 0
  have k1 := tcell_blk HH4.out.2.1 1
  have k2 := tcell_blk HH4.out.2.1 2
  have l0 := tcell_blk HH4.out.2.2 0
  have l1 := tcell_blk HH4.out.2.2 1
  have l2 := tcell_blk HH4.out.2.2 2
  simp only [List.getElem?_toArray, List.getElem?_cons_zero, List.getElem?_cons_succ] at k0 k1 k2 l0 l1 l2
  have hc := Down_any t n (.slice ga gm gc) ps (.agg #[.int .i64 p, .int .i64 k, .slice ao tn cap]) x (fun _ => True) w4 (HP.out.below HH4.out.1) (HX.out.bel HH4.out.1)
  go_wp2_with fail
  refine hc.mono ?_
  rintro _ w5 ⟨b0, m0, d0, rfl, hb, hq⟩
  have HH5 : Hid (Below w.heap.size w w5 ∧ Yh w.heap.size t n ga gm gc p k ao tn cap w5) := ⟨HH4.out.1.trans (hb.mono HH4.out.1.size), HH4.out.2.next hb⟩
  rw [HER.out] at hq ⊢
  have HQ1 : Hid (if er = 0 then w5.ownsRow w4.heap.size 46 2 (.slice b0 m0 d0) (evD x).length (ecs (evD x)) else Value.slice b0 m0 d0 = .slice none 0 0) := hq
  clear hc hb HH4 k0 k1 k2 l0 l1 l2 hq HPB_4
  have HB5_5 : Hid (Below w5.heap.size w5 w5) := Below.refl _ _
  have k0 := tcell_blk HH5.out.2.1 0
  have k1 := tcell_blk HH5.out.2.1 1
  have k2 := tcell_blk HH5.out.2.1 2
  have l0 := tcell_blk HH5.out.2.2 0
  have l1 := tcell_blk HH5.out.2.2 1
  have l2 := tcell_blk HH5.out.2.2 2
  simp only [List.getElem?_toArray, List.getElem?_cons_zero, List.getElem?_cons_succ] at k0 k1 k2 l0 l1 l2
  have hc := Up_any t n (.slice ga gm gc) ps (.agg #[.int .i64 p, .int .i64 k, .slice ao tn cap]) x (fun _ => True) w5 (HP.out.below HH5.out.1) (HX.out.bel HH5.out.1)
  go_wp2_with fail
  refine hc.mono ?_
  rintro _ w6 ⟨b1, m1, d1, rfl, hb, hq⟩
  have HH6 : Hid (Below w.heap.size w w6 ∧ Yh w.heap.size t n ga gm gc p k ao tn cap w6) := ⟨HH5.out.1.trans (hb.mono HH5.out.1.size), HH5.out.2.next hb⟩
  have HB5_6 : Hid (Below w5.heap.size w5 w6) := HB5_5.out.trans (hb.mono HB5_5.out.size)
  rw [HER.out] at hq ⊢
  clear hc hb HH5 k0 k1 k2 l0 l1 l2 HB5_5
  by_cases hr : er = 0
  · subst hr
    have hce : chk t n ps = 0 := by
      have h1 := HER.out
      unfold errT at h1
      by_cases h2 : chk t n ps = 0
      · exact h2
      · rw [if_neg h2] at h1; exact absurd h1 h2
    have h3 : (thr ps x (2, 0) 1 0 []).1 = 0 := by have h1 := HER.out; unfold errT at h1; rw [if_pos hce] at h1; omega
    have h4 := thr_fwd (ps := ps) (t := x) (s := (2, 0)) (d := 1) (n := 0) (ws := []) (n' := (thr ps x (2, 0) 1 0 []).2.1) (ws' := (thr ps x (2, 0) 1 0 []).2.2) (trip h3)
    have h5 := ev_len x
    have HWD : Hid (wordT ps x = yl ps x (2, 0)) := by show _ = _; unfold wordT; rw [h4.2.2.2.2.2.1]; rfl
    have h6 := h4.2.2.2.2.2.2
    rw [← HWD.out] at h6
    have HOK : Hid (Ok ps x) := ⟨h4.1, h4.2.1⟩
    obtain ⟨dn, HN0⟩ : ∃ dn, Hid ((evD x).length = dn) := ⟨_, (rfl : (evD x).length = _)⟩
    obtain ⟨un, HN1⟩ : ∃ un, Hid ((evU x).length = un) := ⟨_, (rfl : (evU x).length = _)⟩
    obtain ⟨wn, HN2⟩ : ∃ wn, Hid ((wordT ps x).length = wn) := ⟨_, (rfl : (wordT ps x).length = _)⟩
    have HLEN : Hid ((evD x).length ≤ 2000 ∧ (evU x).length ≤ 2000 ∧ (wordT ps x).length ≤ 2000) := by show _ ∧ _ ∧ _; omega
    have HLEN2 : Hid (dn ≤ 2000 ∧ un ≤ 2000 ∧ wn ≤ 2000) := by rw [← HN0.out, ← HN1.out, ← HN2.out]; exact HLEN.out
    have HSUM : Hid (dn + wn = 2 * un) := by rw [← HN0.out, ← HN1.out, ← HN2.out]; show _ = _; omega
    have HOD : Hid (errO t n ps (evD x) (ofD ps (evD x)) = 0 ∧ ofD ps (evD x) = some x) := by
      have h7 : ofD ps (evD x) = some x := ofD_iff.2 ⟨HOK.out, rfl⟩
      refine ⟨?_, h7⟩
      have hE : errE t n ps (evD x) = 0 := by unfold errE; rw [if_pos hce, if_neg (by have := HLEN.out; omega)]
      unfold errO
      rw [hE, if_pos rfl, h7]
      exact HER.out
    have HOU : Hid (errO t n ps (evU x) (built ps (evU x)) = 0 ∧ built ps (evU x) = some x) := by
      have h7 : built ps (evU x) = some x := built_iff.2 ⟨HOK.out, rfl⟩
      refine ⟨?_, h7⟩
      have hE : errE t n ps (evU x) = 0 := by unfold errE; rw [if_pos hce, if_neg (by have := HLEN.out; omega)]
      unfold errO
      rw [hE, if_pos rfl, h7]
      exact HER.out
    clear hce h3 h4 h5 h6
    have hz := HQ1.out
    rw [if_pos rfl] at hq hz
    obtain ⟨_, _, hsh1⟩ := own_len hz
    simp only [Value.slice.injEq] at hsh1
    obtain ⟨-, rfl, -⟩ := hsh1
    obtain ⟨_, _, hsh2⟩ := own_len hq
    simp only [Value.slice.injEq] at hsh2
    obtain ⟨-, rfl, -⟩ := hsh2
    rw [HN0.out] at hz ⊢
    rw [HN1.out] at hq ⊢
    obtain ⟨q4, HQ4⟩ : ∃ q4, Hid (w4.heap.size = q4) := ⟨_, (rfl : w4.heap.size = _)⟩
    obtain ⟨q5, HQ5⟩ : ∃ q5, Hid (w5.heap.size = q5) := ⟨_, (rfl : w5.heap.size = _)⟩
    have HLD_6 : Hid (w6.ownsRow q4 46 2 (.slice b0 dn d0) dn (ecs (evD x))) := by
      show World.ownsRow _ _ _ _ _ _ _
      rw [← HQ4.out]; exact own_below hz HB5_6.out
    have HLU_6 : Hid (w6.ownsRow q5 46 2 (.slice b1 un d1) un (ecs (evU x))) := by
      show World.ownsRow _ _ _ _ _ _ _
      rw [← HQ5.out]; exact hq
    clear hq hz HQ1 HB5_6 HQ4 HQ5
    have HS6 : Hid (w.heap.size + 1 < w6.heap.size) := heap_lt3 HH6.out.2.2
    have k0 := tcell_blk HH6.out.2.1 0
    have k1 := tcell_blk HH6.out.2.1 1
    have k2 := tcell_blk HH6.out.2.1 2
    have l0 := tcell_blk HH6.out.2.2 0
    have l1 := tcell_blk HH6.out.2.2 1
    have l2 := tcell_blk HH6.out.2.2 2
    simp only [List.getElem?_toArray, List.getElem?_cons_zero, List.getElem?_cons_succ] at k0 k1 k2 l0 l1 l2
    have hc := roomyE_any 9 0 b0 dn d0 (evD x) w6 HN0.out (by have := HLEN2.out; omega) (Oth.own HLD_6.out)
    go_wp2_with fail
    refine hc.mono ?_
    rintro _ w7 ⟨gi, rci, rfl, hb, hown, hge⟩
    have HH7 : Hid (Below w.heap.size w w7 ∧ Yh w.heap.size t n ga gm gc p k ao tn cap w7) := ⟨HH6.out.1.trans (hb.mono HH6.out.1.size), HH6.out.2.next hb⟩
    have HLD_7 : Hid (w7.ownsRow q4 46 2 (.slice b0 dn d0) dn (ecs (evD x))) := own_below HLD_6.out hb
    have HLU_7 : Hid (w7.ownsRow q5 46 2 (.slice b1 un d1) un (ecs (evU x))) := own_below HLU_6.out hb
    have HIN_7 : Hid (w7.ownsRow (w6.heap.size + 1) 46 2 (.slice (some ⟨gi, 0, none⟩) (dn + 2) rci) (dn + 2) (ecs (evD x ++ [(9, 0), (9, 0)]))) := hown
    have HGI : Hid (w.heap.size + 1 < gi) := by show _ < _; have := HS6.out; omega
    clear hc hb HH6 k0 k1 k2 l0 l1 l2 HLD_6 HLU_6 hown hge
    obtain ⟨bD, HBD⟩ : ∃ bD, Hid (w7.heap.size = bD) := ⟨_, (rfl : w7.heap.size = _)⟩
    have HGB : Hid (gi < bD) := by show _ < _; have := (HIN_7.out.lt gi rfl).2; have := HBD.out; omega
    have k0 := tcell_blk HH7.out.2.1 0
    have k1 := tcell_blk HH7.out.2.1 1
    have k2 := tcell_blk HH7.out.2.1 2
    have l0 := tcell_blk HH7.out.2.2 0
    have l1 := tcell_blk HH7.out.2.2 1
    have l2 := tcell_blk HH7.out.2.2 2
    simp only [List.getElem?_toArray, List.getElem?_cons_zero, List.getElem?_cons_succ] at k0 k1 k2 l0 l1 l2
    have hc := OfDownz_any t n (.slice ga gm gc) ps (.slice (some ⟨gi, 0, none⟩) dn rci) (evD x) w7 (HP.out.below HH7.out.1) (evs_front HIN_7.out HN0.out (by have := HLEN2.out; omega))
    go_wp2_with fail
    refine hc.mono ?_
    rintro _ w8 ⟨pa, ka, oa, sa, ua, rfl, hb, hq⟩
    have HH8 : Hid (Below w.heap.size w w8 ∧ Yh w.heap.size t n ga gm gc p k ao tn cap w8) := ⟨HH7.out.1.trans (hb.mono HH7.out.1.size), HH7.out.2.next hb⟩
    have HLD_8 : Hid (w8.ownsRow q4 46 2 (.slice b0 dn d0) dn (ecs (evD x))) := own_below HLD_7.out hb
    have HLU_8 : Hid (w8.ownsRow q5 46 2 (.slice b1 un d1) un (ecs (evU x))) := own_below HLU_7.out hb
    have HIN_8 : Hid (w8.ownsRow (w6.heap.size + 1) 46 2 (.slice (some ⟨gi, 0, none⟩) (dn + 2) rci) (dn + 2) (ecs (evD x ++ [(9, 0), (9, 0)]))) := own_below HIN_7.out hb
    rw [HOD.out.1] at hq ⊢
    rw [if_pos rfl, HOD.out.2] at hq
    obtain ⟨xa2, hxs, hxt⟩ := hq
    obtain rfl : x = xa2 := Option.some.inj hxs
    have HS78 : Hid (w7.heap.size ≤ w8.heap.size) := hb.size
    have HTA0 : Hid (Tz w8 (fun b => bD ≤ b) (.agg #[.int .i64 pa, .int .i64 ka, .slice oa sa ua]) x) := by rw [← HBD.out]; exact hxt
    clear hc hb HH7 k0 k1 k2 l0 l1 l2 HLD_7 HLU_7 HIN_7 hxs hxt
    have HHb : Hid (Below w.heap.size w (w8.alloc (Obj.cells #[.int .i64 pa, .int .i64 ka, .slice oa sa ua] 27)) ∧ Yh w.heap.size t n ga gm gc p k ao tn cap (w8.alloc (Obj.cells #[.int .i64 pa, .int .i64 ka, .slice oa sa ua] 27))) := ⟨HH8.out.1.trans ((below_alloc _ _).mono HH8.out.1.size), HH8.out.2.next (below_alloc _ _)⟩
    have HTA_b : Hid ((w8.alloc (Obj.cells #[.int .i64 pa, .int .i64 ka, .slice oa sa ua] 27)).heap[w8.heap.size]? = some (.cells #[.int .i64 pa, .int .i64 ka, .slice oa sa ua] 27) ∧ Tz (w8.alloc (Obj.cells #[.int .i64 pa, .int .i64 ka, .slice oa sa ua] 27)) (fun b => bD ≤ b ∧ b < w8.heap.size) (.agg #[.int .i64 pa, .int .i64 ka, .slice oa sa ua]) x) := ⟨heap_alloc_new _ _, (HTA0.out.mono fun b hb hp => ⟨hp, hb⟩).bel (below_alloc _ _)⟩
    have HLD_b : Hid ((w8.alloc (Obj.cells #[.int .i64 pa, .int .i64 ka, .slice oa sa ua] 27)).ownsRow q4 46 2 (.slice b0 dn d0) dn (ecs (evD x))) := own_below HLD_8.out (below_alloc _ _)
    have HLU_b : Hid ((w8.alloc (Obj.cells #[.int .i64 pa, .int .i64 ka, .slice oa sa ua] 27)).ownsRow q5 46 2 (.slice b1 un d1) un (ecs (evU x))) := own_below HLU_8.out (below_alloc _ _)
    have HIN_b : Hid ((w8.alloc (Obj.cells #[.int .i64 pa, .int .i64 ka, .slice oa sa ua] 27)).ownsRow (w6.heap.size + 1) 46 2 (.slice (some ⟨gi, 0, none⟩) (dn + 2) rci) (dn + 2) (ecs (evD x ++ [(9, 0), (9, 0)]))) := own_below HIN_8.out (below_alloc _ _)
    go_upto_region 10 with fail
    have HHSZ0 : Hid (w7.heap.size ≤ w8.heap.size) := HS78.out
    obtain ⟨q12, HQNq12⟩ : ∃ q12, Hid (w8.heap.size = q12) := ⟨_, (rfl : w8.heap.size = _)⟩
    have HHSZ : Hid (w7.heap.size ≤ q12) := by show _ ≤ _; have := HHSZ0.out; have := HQNq12.out; omega
    rw [HQNq12.out] at HTA_b ⊢
    obtain ⟨w9, HW9⟩ : ∃ w9, Hid ((w8.alloc (Obj.cells #[.int .i64 pa, .int .i64 ka, .slice oa sa ua] 27)) = w9) := ⟨_, (rfl : (w8.alloc (Obj.cells #[.int .i64 pa, .int .i64 ka, .slice oa sa ua] 27)) = _)⟩
    rw [HW9.out] at HHb HTA_b HLD_b HLU_b HIN_b ⊢
    have HH9 : Hid (Below w.heap.size w w9 ∧ Yh w.heap.size t n ga gm gc p k ao tn cap w9) := HHb.out
    have HTA_9 : Hid (w9.heap[q12]? = some (.cells #[.int .i64 pa, .int .i64 ka, .slice oa sa ua] 27) ∧ Tz w9 (fun b => bD ≤ b ∧ b < q12) (.agg #[.int .i64 pa, .int .i64 ka, .slice oa sa ua]) x) := HTA_b.out
    have HLD_9 : Hid (w9.ownsRow q4 46 2 (.slice b0 dn d0) dn (ecs (evD x))) := HLD_b.out
    have HLU_9 : Hid (w9.ownsRow q5 46 2 (.slice b1 un d1) un (ecs (evU x))) := HLU_b.out
    have HIN_9 : Hid (w9.ownsRow (w6.heap.size + 1) 46 2 (.slice (some ⟨gi, 0, none⟩) (dn + 2) rci) (dn + 2) (ecs (evD x ++ [(9, 0), (9, 0)]))) := HIN_b.out
    have HBQ : Hid (w7.heap.size ≤ q12) := by show _ ≤ _; have := HHSZ.out; omega
    have HSQq12 : Hid (q12 < w9.heap.size) := heap_lt3 HTA_9.out.1
    clear HHb HTA_b HW9 HH8 HLD_b HLD_8 HLU_b HLU_8 HIN_b HIN_8
    clear HTA0
    have k0 := tcell_blk HH9.out.2.1 0
    have k1 := tcell_blk HH9.out.2.1 1
    have k2 := tcell_blk HH9.out.2.1 2
    have l0 := tcell_blk HH9.out.2.2 0
    have l1 := tcell_blk HH9.out.2.2 1
    have l2 := tcell_blk HH9.out.2.2 2
    simp only [List.getElem?_toArray, List.getElem?_cons_zero, List.getElem?_cons_succ] at k0 k1 k2 l0 l1 l2
    have hc := OfUp_any t n (.slice ga gm gc) ps (.slice b1 un d1) (evU x) w9 (HP.out.below HH9.out.1) (evs_of_row HLU_9.out HN1.out (by have := HLEN2.out; omega))
    go_wp2_with fail
    refine hc.mono ?_
    rintro _ w10 ⟨pb, kb, ob, sb, ub, rfl, hb, hq⟩
    have HH10 : Hid (Below w.heap.size w w10 ∧ Yh w.heap.size t n ga gm gc p k ao tn cap w10) := ⟨HH9.out.1.trans (hb.mono HH9.out.1.size), HH9.out.2.next hb⟩
    have HLD_10 : Hid (w10.ownsRow q4 46 2 (.slice b0 dn d0) dn (ecs (evD x))) := own_below HLD_9.out hb
    have HLU_10 : Hid (w10.ownsRow q5 46 2 (.slice b1 un d1) un (ecs (evU x))) := own_below HLU_9.out hb
    have HIN_10 : Hid (w10.ownsRow (w6.heap.size + 1) 46 2 (.slice (some ⟨gi, 0, none⟩) (dn + 2) rci) (dn + 2) (ecs (evD x ++ [(9, 0), (9, 0)]))) := own_below HIN_9.out hb
    have HTA_10 : Hid (w10.heap[q12]? = some (.cells #[.int .i64 pa, .int .i64 ka, .slice oa sa ua] 27) ∧ Tz w10 (fun b => bD ≤ b ∧ b < q12) (.agg #[.int .i64 pa, .int .i64 ka, .slice oa sa ua]) x) := ⟨tbox_next HTA_9.out.1 hb, HTA_9.out.2.bel hb⟩
    rw [HOU.out.1] at hq ⊢
    rw [if_pos rfl, HOU.out.2] at hq
    obtain ⟨xa2, hxs, hxt⟩ := hq
    obtain rfl : x = xa2 := Option.some.inj hxs
    have HTB0 : Hid (Tx w10 (fun b => q12 < b) (.agg #[.int .i64 pb, .int .i64 kb, .slice ob sb ub]) x) := hxt.mono fun b _ hp => by have := HSQq12.out; have hp2 : w9.heap.size ≤ b := hp; omega
    have HS10 : Hid (q12 < w10.heap.size) := by show _ < _; have := HSQq12.out; have := hb.size; omega
    clear hc hb HH9 k0 k1 k2 l0 l1 l2 HLD_9 HLU_9 HIN_9 HTA_9 hxs hxt
    have HHb : Hid (Below w.heap.size w (w10.alloc (Obj.cells #[.int .i64 pb, .int .i64 kb, .slice ob sb ub] 27)) ∧ Yh w.heap.size t n ga gm gc p k ao tn cap (w10.alloc (Obj.cells #[.int .i64 pb, .int .i64 kb, .slice ob sb ub] 27))) := ⟨HH10.out.1.trans ((below_alloc _ _).mono HH10.out.1.size), HH10.out.2.next (below_alloc _ _)⟩
    have HTB_b : Hid ((w10.alloc (Obj.cells #[.int .i64 pb, .int .i64 kb, .slice ob sb ub] 27)).heap[w10.heap.size]? = some (.cells #[.int .i64 pb, .int .i64 kb, .slice ob sb ub] 27) ∧ Tx (w10.alloc (Obj.cells #[.int .i64 pb, .int .i64 kb, .slice ob sb ub] 27)) (fun b => q12 < b) (.agg #[.int .i64 pb, .int .i64 kb, .slice ob sb ub]) x ∧ q12 < w10.heap.size) := ⟨heap_alloc_new _ _, HTB0.out.bel (below_alloc _ _), HS10.out⟩
    have HLD_b : Hid ((w10.alloc (Obj.cells #[.int .i64 pb, .int .i64 kb, .slice ob sb ub] 27)).ownsRow q4 46 2 (.slice b0 dn d0) dn (ecs (evD x))) := own_below HLD_10.out (below_alloc _ _)
    have HLU_b : Hid ((w10.alloc (Obj.cells #[.int .i64 pb, .int .i64 kb, .slice ob sb ub] 27)).ownsRow q5 46 2 (.slice b1 un d1) un (ecs (evU x))) := own_below HLU_10.out (below_alloc _ _)
    have HIN_b : Hid ((w10.alloc (Obj.cells #[.int .i64 pb, .int .i64 kb, .slice ob sb ub] 27)).ownsRow (w6.heap.size + 1) 46 2 (.slice (some ⟨gi, 0, none⟩) (dn + 2) rci) (dn + 2) (ecs (evD x ++ [(9, 0), (9, 0)]))) := own_below HIN_10.out (below_alloc _ _)
    have HTA_b : Hid ((w10.alloc (Obj.cells #[.int .i64 pb, .int .i64 kb, .slice ob sb ub] 27)).heap[q12]? = some (.cells #[.int .i64 pa, .int .i64 ka, .slice oa sa ua] 27) ∧ Tz (w10.alloc (Obj.cells #[.int .i64 pb, .int .i64 kb, .slice ob sb ub] 27)) (fun b => bD ≤ b ∧ b < q12) (.agg #[.int .i64 pa, .int .i64 ka, .slice oa sa ua]) x) := ⟨tbox_next HTA_10.out.1 (below_alloc _ _), HTA_10.out.2.bel (below_alloc _ _)⟩
    go_upto_region 11 with fail
    obtain ⟨q14, HQNq14⟩ : ∃ q14, Hid (w10.heap.size = q14) := ⟨_, (rfl : w10.heap.size = _)⟩
    rw [HQNq14.out] at HTB_b ⊢
    obtain ⟨w11, HW11⟩ : ∃ w11, Hid ((w10.alloc (Obj.cells #[.int .i64 pb, .int .i64 kb, .slice ob sb ub] 27)) = w11) := ⟨_, (rfl : (w10.alloc (Obj.cells #[.int .i64 pb, .int .i64 kb, .slice ob sb ub] 27)) = _)⟩
    rw [HW11.out] at HHb HTB_b HLD_b HLU_b HIN_b HTA_b ⊢
    have HH11 : Hid (Below w.heap.size w w11 ∧ Yh w.heap.size t n ga gm gc p k ao tn cap w11) := HHb.out
    have HTB_11 : Hid (w11.heap[q14]? = some (.cells #[.int .i64 pb, .int .i64 kb, .slice ob sb ub] 27) ∧ Tx w11 (fun b => q12 < b) (.agg #[.int .i64 pb, .int .i64 kb, .slice ob sb ub]) x ∧ q12 < q14) := HTB_b.out
    have HLD_11 : Hid (w11.ownsRow q4 46 2 (.slice b0 dn d0) dn (ecs (evD x))) := HLD_b.out
    have HLU_11 : Hid (w11.ownsRow q5 46 2 (.slice b1 un d1) un (ecs (evU x))) := HLU_b.out
    have HIN_11 : Hid (w11.ownsRow (w6.heap.size + 1) 46 2 (.slice (some ⟨gi, 0, none⟩) (dn + 2) rci) (dn + 2) (ecs (evD x ++ [(9, 0), (9, 0)]))) := HIN_b.out
    have HTA_11 : Hid (w11.heap[q12]? = some (.cells #[.int .i64 pa, .int .i64 ka, .slice oa sa ua] 27) ∧ Tz w11 (fun b => bD ≤ b ∧ b < q12) (.agg #[.int .i64 pa, .int .i64 ka, .slice oa sa ua]) x) := HTA_b.out
    have HSQq14 : Hid (q14 < w11.heap.size) := heap_lt3 HTB_11.out.1
    clear HHb HTB_b HW11 HH10 HLD_b HLD_10 HLU_b HLU_10 HIN_b HIN_10 HTA_b HTA_10
    clear HTB0
    have k0 := tcell_blk HH11.out.2.1 0
    have k1 := tcell_blk HH11.out.2.1 1
    have k2 := tcell_blk HH11.out.2.1 2
    have l0 := tcell_blk HH11.out.2.2 0
    have l1 := tcell_blk HH11.out.2.2 1
    have l2 := tcell_blk HH11.out.2.2 2
    simp only [List.getElem?_toArray, List.getElem?_cons_zero, List.getElem?_cons_succ] at k0 k1 k2 l0 l1 l2
    have hc := equalE_same (.slice (some ⟨gi, 0, none⟩) dn rci) (.slice b0 dn d0) (evD x) w11 (evs_front HIN_11.out HN0.out (by have := HLEN2.out; omega)) (evs_of_row HLD_11.out HN0.out (by have := HLEN2.out; omega))
    go_wp2_with fail
    refine hc.mono ?_
    rintro _ w12 ⟨rfl, hb⟩
    have HH12 : Hid (Below w.heap.size w w12 ∧ Yh w.heap.size t n ga gm gc p k ao tn cap w12) := ⟨HH11.out.1.trans (hb.mono HH11.out.1.size), HH11.out.2.next hb⟩
    have HLD_12 : Hid (w12.ownsRow q4 46 2 (.slice b0 dn d0) dn (ecs (evD x))) := own_below HLD_11.out hb
    have HLU_12 : Hid (w12.ownsRow q5 46 2 (.slice b1 un d1) un (ecs (evU x))) := own_below HLU_11.out hb
    have HIN_12 : Hid (w12.ownsRow (w6.heap.size + 1) 46 2 (.slice (some ⟨gi, 0, none⟩) (dn + 2) rci) (dn + 2) (ecs (evD x ++ [(9, 0), (9, 0)]))) := own_below HIN_11.out hb
    have HTA_12 : Hid (w12.heap[q12]? = some (.cells #[.int .i64 pa, .int .i64 ka, .slice oa sa ua] 27) ∧ Tz w12 (fun b => bD ≤ b ∧ b < q12) (.agg #[.int .i64 pa, .int .i64 ka, .slice oa sa ua]) x) := ⟨tbox_next HTA_11.out.1 hb, HTA_11.out.2.bel hb⟩
    have HTB_12 : Hid (w12.heap[q14]? = some (.cells #[.int .i64 pb, .int .i64 kb, .slice ob sb ub] 27) ∧ Tx w12 (fun b => q12 < b) (.agg #[.int .i64 pb, .int .i64 kb, .slice ob sb ub]) x ∧ q12 < q14) := ⟨tbox_next HTB_11.out.1 hb, HTB_11.out.2.1.bel hb, HTB_11.out.2.2⟩
    clear hc hb HH11 k0 k1 k2 l0 l1 l2 HLD_11 HLU_11 HIN_11 HTA_11 HTB_11
    have k0 := tcell_blk HH12.out.2.1 0
    have k1 := tcell_blk HH12.out.2.1 1
    have k2 := tcell_blk HH12.out.2.1 2
    have l0 := tcell_blk HH12.out.2.2 0
    have l1 := tcell_blk HH12.out.2.2 1
    have l2 := tcell_blk HH12.out.2.2 2
    simp only [List.getElem?_toArray, List.getElem?_cons_zero, List.getElem?_cons_succ] at k0 k1 k2 l0 l1 l2
    have hc := filledE_any 9 0 gi dn rci _ (evD x) w12 HN0.out (by have := HLEN2.out; omega) HIN_12.out
    go_wp2_with fail
    refine hc.mono ?_
    rintro _ w13 ⟨rfl, hb⟩
    have HH13 : Hid (Below w.heap.size w w13 ∧ Yh w.heap.size t n ga gm gc p k ao tn cap w13) := ⟨HH12.out.1.trans (hb.mono HH12.out.1.size), HH12.out.2.next hb⟩
    have HLD_13 : Hid (w13.ownsRow q4 46 2 (.slice b0 dn d0) dn (ecs (evD x))) := own_below HLD_12.out hb
    have HLU_13 : Hid (w13.ownsRow q5 46 2 (.slice b1 un d1) un (ecs (evU x))) := own_below HLU_12.out hb
    have HIN_13 : Hid (w13.ownsRow (w6.heap.size + 1) 46 2 (.slice (some ⟨gi, 0, none⟩) (dn + 2) rci) (dn + 2) (ecs (evD x ++ [(9, 0), (9, 0)]))) := own_below HIN_12.out hb
    have HTA_13 : Hid (w13.heap[q12]? = some (.cells #[.int .i64 pa, .int .i64 ka, .slice oa sa ua] 27) ∧ Tz w13 (fun b => bD ≤ b ∧ b < q12) (.agg #[.int .i64 pa, .int .i64 ka, .slice oa sa ua]) x) := ⟨tbox_next HTA_12.out.1 hb, HTA_12.out.2.bel hb⟩
    have HTB_13 : Hid (w13.heap[q14]? = some (.cells #[.int .i64 pb, .int .i64 kb, .slice ob sb ub] 27) ∧ Tx w13 (fun b => q12 < b) (.agg #[.int .i64 pb, .int .i64 kb, .slice ob sb ub]) x ∧ q12 < q14) := ⟨tbox_next HTB_12.out.1 hb, HTB_12.out.2.1.bel hb, HTB_12.out.2.2⟩
    clear hc hb HH12 k0 k1 k2 l0 l1 l2 HLD_12 HLU_12 HIN_12 HTA_12 HTB_12
    obtain ⟨curi, hci⟩ := own_row HIN_13.out
    have hc := spoilE_row gi dn rci _ hci.2 w13 hci.1
    go_wp2_with fail
    refine hc.mono ?_
    rintro _ w14 ⟨rfl, hg, -⟩
    have HOI : Hid (OwI w t n ga gm gc p k ao tn cap bD q12 q14 (.agg #[.int .i64 pa, .int .i64 ka, .slice oa sa ua]) (.agg #[.int .i64 pb, .int .i64 kb, .slice ob sb ub]) #[.int .i64 pb, .int .i64 kb, .slice ob sb ub] x w14 ∧ w14.heap[q12]? = some (.cells #[.int .i64 pa, .int .i64 ka, .slice oa sa ua] 27)) := by
      have hgi := HGI.out
      have hgb := HGB.out
      have hne : ∀ b, b ≠ gi → b < w13.heap.size → w14.heap[b]? = w13.heap[b]? := fun b hb hl => hg.block b hl (by simpa using hb)
      have hq12 := heap_lt3 HTA_13.out.1
      have hbd : bD ≤ q12 := by have := HBD.out; have := HBQ.out; omega
      refine ⟨⟨HH13.out.1.grown hg HH13.out.1.size (fun k e => by simp at e; omega), ⟨?_, ?_⟩, ?_, ?_, ?_, by omega, HTB_13.out.2.2⟩, ?_⟩
      · rw [hne _ (by omega) (heap_lt3 HH13.out.2.1)]; exact HH13.out.2.1
      · rw [hne _ (by omega) (heap_lt3 HH13.out.2.2)]; exact HH13.out.2.2
      · exact HTA_13.out.2.rm.next fun b hl hp => hne b (by have := hp.1; omega) hl
      · rw [hne _ (by have := HTB_13.out.2.2; omega) (heap_lt3 HTB_13.out.1)]; exact HTB_13.out.1
      · exact HTB_13.out.2.1.next (fun b hl hp => hne b (by have hp2 : q12 < b := hp; omega) hl) hg.size
      · rw [hne _ (by omega) hq12]; exact HTA_13.out.1
    have HSA : Hid (sa ≤ 9223372036854775807) := by
      obtain ⟨_, _, _, _, kk, _, e1, -, hk, -⟩ := HTA_13.out.2.tx.shape
      simp only [Value.agg.injEq, Array.mk.injEq, List.cons.injEq, Value.int.injEq, Value.slice.injEq, true_and, and_true] at e1
      show _ ≤ _
      omega
    clear hc hci hg HTA_13 HTB_13 HIN_13 HLD_13 HLU_13 HH13
    have j2 := tcell_blk HOI.out.2 2
    simp only [List.getElem?_toArray, List.getElem?_cons_zero, List.getElem?_cons_succ] at j2
    go_upto_region 15 with fail
    clear j2
    have HOS : Hid (OwI w t n ga gm gc p k ao tn cap bD q12 q14 (.agg #[.int .i64 pa, .int .i64 ka, .slice oa sa ua]) (.agg #[.int .i64 pb, .int .i64 kb, .slice ob sb ub]) #[.int .i64 pb, .int .i64 kb, .slice ob sb ub] x w14) := HOI.out.1
    clear HOI
    go_loopw [87] (fun z wr => ∃ i : Nat, i ≤ sa ∧ z = .int .i64 (i : Int) ∧ Hid (OwI w t n ga gm gc p k ao tn cap bD q12 q14 (.agg #[.int .i64 pa, .int .i64 ka, .slice oa sa ua]) (.agg #[.int .i64 pb, .int .i64 kb, .slice ob sb ub]) #[.int .i64 pb, .int .i64 kb, .slice ob sb ub] x wr)) (fun z _ => sa - (intOf z).toNat)
    case atStart => exact ⟨0, by omega, rfl, HOS⟩
    case round =>
      obtain ⟨i, hi, rfl, HI⟩ := hrel
      clear HOS
      by_cases hlt : i < sa
      · obtain ⟨rb, rfl, hrb⟩ := HI.out.root (by omega)
        obtain ⟨u, hu1, hu2⟩ := HI.out.rm.2 _ _ _ _ _ rfl i hlt
        obtain ⟨p5, k5, o5, n5, e5, rfl, hroom⟩ := hu1
        have c0 := hu2 0 (by omega)
        have c1 := hu2 1 (by omega)
        have c2 := hu2 2 (by omega)
        simp only [Value.cells, List.getElem?_toArray, List.getElem?_cons_zero, List.getElem?_cons_succ, Nat.add_zero] at c0 c1 c2
        have hk0 : (0 : Int) ≤ (i : Int) := by omega
        have hk1 : (i : Int) < (sa : Int) := by omega
        have hk3 : sa ≤ 9223372036854775807 := HSA.out
        have HBA : Hid (Below wr.heap.size wr (wr.alloc (Obj.cells #[.int .i64 p5, .int .i64 k5, .slice o5 n5 e5] 27))) := below_alloc _ _
        have HI2 : Hid (OwI w t n ga gm gc p k ao tn cap bD q12 q14 (.agg #[.int .i64 pa, .int .i64 ka, .slice (some ⟨rb, 0, none⟩) sa ua]) (.agg #[.int .i64 pb, .int .i64 kb, .slice ob sb ub]) #[.int .i64 pb, .int .i64 kb, .slice ob sb ub] x (wr.alloc (Obj.cells #[.int .i64 p5, .int .i64 k5, .slice o5 n5 e5] 27))) := HI.out.next HBA.out
        have HRO : Hid ((o5 = none ∧ n5 = 0 ∧ e5 = 0) ∨ ∃ b cur, o5 = some ⟨b, 0, none⟩ ∧ ((bD ≤ b ∧ b < q12) ∧ b ≠ rb) ∧ (n5 ≤ e5 ∧ e5 ≤ 9223372036854775807) ∧ wr.heap[b]? = some (.cells cur 27) ∧ cur.size = e5 * 3) := hroom
        have HNB : Hid ((wr.alloc (Obj.cells #[.int .i64 p5, .int .i64 k5, .slice o5 n5 e5] 27)).heap[wr.heap.size]? = some (.cells #[.int .i64 p5, .int .i64 k5, .slice o5 n5 e5] 27)) := heap_alloc_new _ _
        clear hu2 hroom
        go_upto_region 17 with fail
        obtain ⟨nb, HNBN⟩ : ∃ nb, Hid (wr.heap.size = nb) := ⟨_, (rfl : wr.heap.size = _)⟩
        rw [HNBN.out] at HNB ⊢
        have HRO2 : Hid ((o5 = none ∧ n5 = 0 ∧ e5 = 0) ∨ ∃ b cur, o5 = some ⟨b, 0, none⟩ ∧ ((bD ≤ b ∧ b < q12) ∧ b ≠ rb) ∧ (n5 ≤ e5 ∧ e5 ≤ 9223372036854775807) ∧ (wr.alloc (Obj.cells #[.int .i64 p5, .int .i64 k5, .slice o5 n5 e5] 27)).heap[b]? = some (.cells cur 27) ∧ cur.size = e5 * 3) := by
          rcases HRO.out with h | ⟨b, cur, h1, h2, h3, h4, h5⟩
          · exact Or.inl h
          · exact Or.inr ⟨b, cur, h1, h2, h3, tbox_next h4 HBA.out, h5⟩
        generalize wr.alloc (Obj.cells #[.int .i64 p5, .int .i64 k5, .slice o5 n5 e5] 27) = w5r at HI2 HNB HRO2 ⊢
        clear c0 c1 c2 HI HRO HBA HNBN
        have j2 := tcell_blk HNB.out 2
        simp only [List.getElem?_toArray, List.getElem?_cons_zero, List.getElem?_cons_succ] at j2
        rcases HRO2.out with ⟨rfl, rfl, rfl⟩ | ⟨bk, cur, rfl, h2, h3, h4, h5⟩
        · have hc := spoilT_nil w5r
          go_wp2_with fail
          refine hc.mono ?_
          rintro _ w6r ⟨rfl, hb⟩
          have HI3 : Hid (OwI w t n ga gm gc p k ao tn cap bD q12 q14 (.agg #[.int .i64 pa, .int .i64 ka, .slice (some ⟨rb, 0, none⟩) sa ua]) (.agg #[.int .i64 pb, .int .i64 kb, .slice ob sb ub]) #[.int .i64 pb, .int .i64 kb, .slice ob sb ub] x w6r) := HI2.out.next hb
          clear hc hb j2 HI2 HNB HRO2
          go_wp2_with fail
          go_roundw
          case rel => exact ⟨i + 1, by omega, by go_num, HI3⟩
          case measure => simp [intOf]; omega
        · have HE5 : Hid (e5 ≤ 9223372036854775807) := h3.2
          have hc := spoilT_row bk n5 e5 (fun i => cur.getD i undef) HE5.out w5r ⟨cur, h4, h5, fun i hi => by simp [show i < cur.size by omega]⟩
          have H5 : Hid (w5r.heap[bk]? = some (.cells cur 27) ∧ cur.size = e5 * 3 ∧ (bD ≤ bk ∧ bk < q12) ∧ bk ≠ rb) := ⟨h4, h5, h2⟩
          clear h2 h3 h4 h5
          go_wp2_with fail
          refine hc.mono ?_
          rintro _ w6r ⟨rfl, hg, f', hf'⟩
          have HI3 : Hid (OwI w t n ga gm gc p k ao tn cap bD q12 q14 (.agg #[.int .i64 pa, .int .i64 ka, .slice (some ⟨rb, 0, none⟩) sa ua]) (.agg #[.int .i64 pb, .int .i64 kb, .slice ob sb ub]) #[.int .i64 pb, .int .i64 kb, .slice ob sb ub] x w6r) := HI2.out.spoil hg H5.out.1 H5.out.2.1 hf' H5.out.2.2.1 H5.out.2.2.2
          clear hc hg hf' j2 HI2 HNB HRO2
          go_wp2_with fail
          go_roundw
          case rel => exact ⟨i + 1, by omega, by go_num, HI3⟩
          case measure => simp [intOf]; omega
      · have hk1 : ¬ (i : Int) < (sa : Int) := by omega
        have z0 := tcell_blk HI.out.bb 0
        have z1 := tcell_blk HI.out.bb 1
        have z2 := tcell_blk HI.out.bb 2
        have l0 := tcell_blk HI.out.yh.2 0
        have l1 := tcell_blk HI.out.yh.2 1
        have l2 := tcell_blk HI.out.yh.2 2
        simp only [List.getElem?_toArray, List.getElem?_cons_zero, List.getElem?_cons_succ] at z0 z1 z2 l0 l1 l2
        have hc := same_true x (.agg #[.int .i64 pb, .int .i64 kb, .slice ob sb ub]) (.agg #[.int .i64 p, .int .i64 k, .slice ao tn cap]) _ _ wr HI.out.tb (HX.out.bel HI.out.bel)
        go_wp2_with fail
        refine hc.mono ?_
        rintro _ w20 ⟨rfl, hb⟩
        have HI4 : Hid (OwI w t n ga gm gc p k ao tn cap bD q12 q14 (.agg #[.int .i64 pa, .int .i64 ka, .slice oa sa ua]) (.agg #[.int .i64 pb, .int .i64 kb, .slice ob sb ub]) #[.int .i64 pb, .int .i64 kb, .slice ob sb ub] x w20) := HI.out.next hb
        clear hc hb z0 z1 z2 l0 l1 l2 HI
        have k0 := tcell_blk HI4.out.yh.1 0
        have k1 := tcell_blk HI4.out.yh.1 1
        have k2 := tcell_blk HI4.out.yh.1 2
        have l0 := tcell_blk HI4.out.yh.2 0
        have l1 := tcell_blk HI4.out.yh.2 1
        have l2 := tcell_blk HI4.out.yh.2 2
        simp only [List.getElem?_toArray, List.getElem?_cons_zero, List.getElem?_cons_succ] at k0 k1 k2 l0 l1 l2
        have hc := TCheck_any t n (.slice ga gm gc) ps (.agg #[.int .i64 p, .int .i64 k, .slice ao tn cap]) x (fun _ => True) w20 (HP.out.below HI4.out.bel) (HX.out.bel HI4.out.bel)
        rw [HER.out] at hc
        go_wp2_with fail
        refine hc.mono ?_
        rintro _ w21 ⟨rfl, hb⟩
        have HB21 : Hid (Below w.heap.size w w21) := HI4.out.bel.trans (hb.mono HI4.out.bel.size)
        clear hc hb k0 k1 k2 l0 l1 l2 HI4
        go_wp2_with fail
        go_ret
        exact ⟨by simp, HB21.out⟩
  · have HNZ : Hid (¬ er = 0) := hr
    have hb1 : (er != 0) = true := by simp; exact hr
    clear hr
    have hz := HQ1.out
    rw [if_neg HNZ.out] at hq hz
    simp only [Value.slice.injEq] at hq hz
    obtain ⟨rfl, rfl, rfl⟩ := hq
    obtain ⟨rfl, rfl, rfl⟩ := hz
    have hbe : (er == er) = true := by simp
    go_wp2_with fail
    go_ret
    exact ⟨by simp, HH6.out.1⟩

/-! ### What the walk gives, for every argument -/
set_option maxRecDepth 100000 in
theorem contract (H : Type) (enc : TypeId × Value → H) (W : World) (base : Nat) (args : Array Value) (ds gs : List (DataW H)) (before : List MemPlace)
    (hval : ∀ (j : Nat) t v, Try.f4.params[j]? = some t → args[j]? = some v → Value.okWide Try.prog W .any base t v)
    (hW : DataW.Whole enc Try.prog Try.f4.params.toList Rows.treesOwnSpec.vars false W args.toList ds gs before) (hsz : (DataW.weightsEach Try.prog (Try.f4.params.toList ++ Rows.treesOwnSpec.plain.varTypes Try.prog) (ds ++ gs)).all (· ≤ reachBytes) = true) :
    Calls Try.prog 4 args W fun e W' => ∃ v, e = .returned v ∧ Rows.treesOwnSpec.post enc Try.prog Try.f4 false true false false W args v W' := by
  have hW' := hW
  obtain ⟨p, q, hA0, hV, rfl, hfz, hnd⟩ := hW
  have hA : DataW.TrodAll enc Try.prog W 0 (fun _ => true) true Try.f4.params.toList args.toList ds p := hA0
  rw [Try.params4] at hA hval hsz
  obtain ⟨v0, vs0, d0, ds0, p0, q0, hargs, rfl, rfl, h0, r0⟩ := trodAll_cons hA
  obtain ⟨v1, vs1, d1, ds1, p1, q1, rfl, rfl, rfl, h1, r1⟩ := trodAll_cons r0
  obtain ⟨rfl, rfl, rfl⟩ := trodAll_nil r1
  obtain rfl : args = #[v0, v1] := by cases args; simp_all
  obtain ⟨rfl, rfl⟩ := trodVars_none hV
  have k0 := h0
  have lt0 : ∀ x ∈ p0, x.block < W.heap.size := by obtain ⟨m, hm⟩ := k0; exact DataW.trod_lt m _ _ _ hm
  obtain ⟨a0t, a0n, a0s, a0p, rfl, w0s⟩ := open_gram (hval 0 24 v0 rfl rfl) h0
  have k1 := h1
  have lt1 : ∀ x ∈ p1, x.block < W.heap.size := by obtain ⟨m, hm⟩ := k1; exact DataW.trod_lt m _ _ _ hm
  obtain ⟨a1x, w1s⟩ := open_tree (hval 1 27 v1 rfl rfl) h1
  clear hA0
  refine (walk a0t a0n a0s a0p _ a1x W w0s w1s).mono fun e W' ⟨he, bel⟩ => ?_
  subst he
  exact ⟨_, rfl, _, _, _, [], _, [], hW', trodAll_mk1 (shut_bool Try.underlying4 _), (trodAll_cons_mk (Below.trod laidOut (by kernel_rfl) (of_decide_eq_true (by kernel_rfl)) k0 bel lt0) (trodAll_cons_mk (Below.trod laidOut (by kernel_rfl) (of_decide_eq_true (by kernel_rfl)) k1 bel lt1) trodAll_mk0)), rfl, bel.frame _, fun h => by cases h⟩

/-! ### The row's step -/
set_option maxRecDepth 100000 in
theorem lifted (os : Os) (started : os.Started) (H : Type) (enc : TypeId × Value → H) :
    ReturnsInHanded {} Try.checked os 4 .any (Rows.treesOwnSpec.pre6 enc Try.prog Try.f4 Rows.treesOwnRow.domain false) (Rows.treesOwnSpec.post enc Try.prog Try.f4 false true false false) := by
  refine returnsInHanded_of_change_sized (C := Try.checked) own started (by kernel_rfl) Try.func4
    (ChangeSpec.witness6 (enc := enc) (C := Try.checked) false ⟨#[], #[.agg #[.int .i64 0, .int .i64 0, .slice none 0 0], .agg #[.int .i64 0, .int .i64 0, .slice none 0 0]], []⟩ 8 (by kernel_rfl) (by kernel_rfl) (by kernel_rfl) (by kernel_rfl)) ?_
  intro W base args ds gs before hval hW hcnd hsz _
  exact contract H enc W base args ds gs before hval hW hsz

theorem over : Rows.treesOwnRow.holds Try.pinned (OpenSpec.ofChange Rows.treesOwnSpec) :=
  OpenClaim.holds_of_wide 4 Try.f4 rfl rfl rfl rfl rfl rfl rfl ⟨rfl, rfl, rfl, rfl, rfl⟩ rfl rfl rfl rfl rfl (by kernel_rfl) Try.func4 (by kernel_rfl)
    (of_decide_eq_true (by kernel_rfl)) (by unfold Func.isWrapper; first | (rw [if_pos (by decide +kernel)]; kernel_rfl) | (rw [if_neg (by decide +kernel)]; exact ⟨rfl, rfl⟩))
    (fun os started H enc _ => lifted os started H enc)

end Go.Proofs.Ytldfiofgknmcgab.treesOwn
namespace Go.Proofs.Ytldfiofgknmcgab
/-- The given statement. -/
theorem treesOwn_holds : Rows.TreesOwnSaid := treesOwn.over
#print axioms treesOwn_holds
end Go.Proofs.Ytldfiofgknmcgab
