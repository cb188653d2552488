/-
  TreesReads returns true whatever grammar and events are handed in, and changes nothing that it was handed; no condition.
-/
import Derived.Test.YtldfiofgknmcgaaRows
import Derived.WalkKit
import Derived.ProofKit
import Derived.OpenShut
import Derived.ShutString
import Derived.SizedLaws
import Derived.ChangeOld
import Derived.Below
import Derived.Carry
import Derived.WalkLawsBesides
import Derived.WalkSpells
import Derived.Test.YtldfiofgknmcgaaOpens
import Derived.Deep.Cut
import Derived.Test.YtldfiofgknmcgaaTrOfDown
import Derived.Test.YtldfiofgknmcgaaTrSame
import Derived.Test.YtldfiofgknmcgaaTrROf
namespace Go.Proofs.Ytldfiofgknmcgaa.treesReads
open Go.ChangeShapes Go.WideShapes Go.ChangeAt Go.RowKit
open Go.ChangeMaps (open_string shut_string)
open Cg
set_option linter.unusedVariables false

theorem own : ownKnob Try.prog.godebug = none := by kernel_rfl
theorem laidOut : laidOutB Try.prog = true := by kernel_rfl
def ansT (er : Int) (r : Option T) : T := if er = 0 then r.getD (.mk 0 0 []) else .mk 0 0 []
theorem OfQ.tx {w w' : World} {er : Int} {r : Option T} {e : Ending} (h : OfQ w er r e w') : ∃ p k a m c, e = .returned (.tuple #[.agg #[.int .i64 p, .int .i64 k, .slice a m c], .int .i64 er]) ∧ Below w.heap.size w w' ∧ Tx w' (fun _ => True) (.agg #[.int .i64 p, .int .i64 k, .slice a m c]) (ansT er r) := by
  obtain ⟨p, k, a, m, c, h1, h2, h3⟩ := h
  refine ⟨p, k, a, m, c, h1, h2, ?_⟩
  unfold ansT
  by_cases h0 : er = 0
  · rw [if_pos h0] at h3 ⊢
    obtain ⟨x, rfl, hx⟩ := h3
    exact hx.mono fun _ _ _ => trivial
  · rw [if_neg h0] at h3 ⊢
    rw [h3]
    exact tx_leaf _ _ _ _
variable {H : Type} {enc : TypeId × Value → H}
set_option maxRecDepth 20000 in
theorem open_evsv {W : World} {r : Reach} {b0 : Nat} {v : Value} {d : DataW H} {p : List MemPlace} (hv : Value.okWide Try.prog W r b0 34 v) (h : DataW.Trod enc Try.prog W 0 (fun _ => true) true 34 v d p) : ∃ l, Evs W v l := by
  obtain ⟨fuel, hf⟩ := h
  have hc : v.cells = #[v] := by
    obtain ⟨a, n, c, rfl⟩ := okWide_slice Try.underlying34 hv
    rfl
  rw [hc] at hf
  obtain ⟨u, l, e, hl⟩ := open_evs_cells hf
  cases e
  exact ⟨l, hl⟩

/-! ### The walk: the Go text returns true. -/
set_option maxHeartbeats 16000000 in
set_option maxRecDepth 20000 in
theorem walk (a0t : Int) (a0n : Int) (a0s : Value) (a0p : List Pd) (v1 : Value) (a1l : List Ev) (w : World) (w0s : Pds w a0s a0p) (w1s : Evs w v1 a1l) :
    Calls Try.prog 4 #[.agg #[.int .i64 a0t, .int .i64 a0n, a0s], v1] w fun e w' => e = .returned (.bool true) ∧ Below w.heap.size w w' := by
  have HP : Hid (Pds w a0s a0p) := w0s
  have HL : Hid (Evs w v1 a1l) := w1s
  obtain ⟨ga, gc, rfl, -, -⟩ := w0s
  obtain ⟨la, lc, rfl, hlm, -⟩ := w1s
  obtain ⟨gm, HGM⟩ : ∃ gm, Hid (a0p.length = gm) := ⟨_, (rfl : a0p.length = _)⟩
  obtain ⟨ln, HLN⟩ : ∃ ln, Hid (a1l.length = ln) := ⟨_, (rfl : a1l.length = _)⟩
  rw [HGM.out] at HP ⊢
  rw [HLN.out] at HL hlm ⊢
  revert HP HL HGM HLN
  generalize a0t = t
  generalize a0n = n
  generalize a0p = ps
  generalize a1l = l
  intro _ _ _ _
  rename Hid (Pds _ _ _) => HP
  rename Hid (Evs _ _ _) => HL
  rename Hid (l.length = _) => HLN
  obtain ⟨e1, HE1⟩ : ∃ e1, Hid (errO t n ps l (ofD ps l) = e1) := ⟨_, (rfl : errO t n ps l (ofD ps l) = _)⟩
  obtain ⟨e2, HE2⟩ : ∃ e2, Hid (errO t n ps l (built ps l) = e2) := ⟨_, (rfl : errO t n ps l (built ps l) = _)⟩
  obtain ⟨xa, HXxa⟩ : ∃ xa, Hid (ansT e1 (ofD ps l) = xa) := ⟨_, (rfl : ansT e1 (ofD ps l) = _)⟩
  obtain ⟨xb, HXxb⟩ : ∃ xb, Hid (ansT e2 (built ps l) = xb) := ⟨_, (rfl : ansT e2 (built ps l) = _)⟩
  obtain ⟨ce, HCE⟩ : ∃ ce, Hid (chk t n ps = ce) := ⟨_, (rfl : chk t n ps = _)⟩
  have HBAD : Hid (ce ≠ 0 → e1 = ce ∧ e2 = ce ∧ xa = .mk 0 0 [] ∧ xb = .mk 0 0 []) := fun h => by
    have key : ∀ r, errO t n ps l r = ce := fun r => by
      unfold errO errE
      rw [if_neg (show ¬ chk t n ps = 0 by rw [HCE.out]; exact h), HCE.out, if_neg h]
    have k1 : e1 = ce := HE1.out.symm.trans (key _)
    have k2 : e2 = ce := HE2.out.symm.trans (key _)
    refine ⟨k1, k2, ?_, ?_⟩
    · rw [← HXxa.out]; unfold ansT; rw [if_neg (by rw [k1]; exact h)]
    · rw [← HXxb.out]; unfold ansT; rw [if_neg (by rw [k2]; exact h)]
  have hH1 : Hid (Below w.heap.size w (w.alloc (Obj.cells #[.int .i64 t, .int .i64 n, .slice ga gm gc] 24)) ∧ (w.alloc (Obj.cells #[.int .i64 t, .int .i64 n, .slice ga gm gc] 24)).heap[w.heap.size]? = some (.cells #[.int .i64 t, .int .i64 n, .slice ga gm gc] 24)) := ⟨below_alloc _ _, heap_alloc_new _ _⟩
  obtain ⟨w1, HW1⟩ : ∃ w1, Hid (w.alloc (Obj.cells #[.int .i64 t, .int .i64 n, .slice ga gm gc] 24) = w1) := ⟨_, (rfl : w.alloc (Obj.cells #[.int .i64 t, .int .i64 n, .slice ga gm gc] 24) = _)⟩
  go_enter Try.func4, Try.ntmps4
  go_upto_region 1 with fail
  rw [HW1.out] at hH1 ⊢
  have HH1 : Hid (Below w.heap.size w w1 ∧ w1.heap[w.heap.size]? = some (.cells #[.int .i64 t, .int .i64 n, .slice ga gm gc] 24)) := hH1.out
  clear HW1 hH1
  have k0 := tcell_blk HH1.out.2 0
  have k1 := tcell_blk HH1.out.2 1
  have k2 := tcell_blk HH1.out.2 2
  simp only [List.getElem?_toArray, List.getElem?_cons_zero, List.getElem?_cons_succ] at k0 k1 k2
  have hc := (OfDown_any t n (.slice ga gm gc) ps (.slice la ln lc) l w1 (HP.out.below HH1.out.1) (HL.out.below HH1.out.1)).mono fun _ _ h => OfQ.tx h
  go_wp2_with fail
  refine hc.mono ?_
  rintro _ w2 ⟨pa, ka, oa, sa, ua, rfl, hb, hq⟩
  have HH2 : Hid (Below w.heap.size w w2 ∧ w2.heap[w.heap.size]? = some (.cells #[.int .i64 t, .int .i64 n, .slice ga gm gc] 24)) := ⟨HH1.out.1.trans (hb.mono HH1.out.1.size), tbox_next HH1.out.2 hb⟩
  rw [HE1.out] at hq ⊢
  rw [HXxa.out] at hq
  have HTA0 : Hid (Tx w2 (fun _ => True) (.agg #[.int .i64 pa, .int .i64 ka, .slice oa sa ua]) xa) := hq
  clear hc hb HH1 k0 k1 k2 hq
  have HHb : Hid (Below w.heap.size w (w2.alloc (Obj.cells #[.int .i64 pa, .int .i64 ka, .slice oa sa ua] 27)) ∧ (w2.alloc (Obj.cells #[.int .i64 pa, .int .i64 ka, .slice oa sa ua] 27)).heap[w.heap.size]? = some (.cells #[.int .i64 t, .int .i64 n, .slice ga gm gc] 24)) := ⟨HH2.out.1.trans ((below_alloc _ _).mono HH2.out.1.size), tbox_next HH2.out.2 (below_alloc _ _)⟩
  have HTA_b : Hid ((w2.alloc (Obj.cells #[.int .i64 pa, .int .i64 ka, .slice oa sa ua] 27)).heap[w2.heap.size]? = some (.cells #[.int .i64 pa, .int .i64 ka, .slice oa sa ua] 27) ∧ Tx (w2.alloc (Obj.cells #[.int .i64 pa, .int .i64 ka, .slice oa sa ua] 27)) (fun _ => True) (.agg #[.int .i64 pa, .int .i64 ka, .slice oa sa ua]) xa) := ⟨heap_alloc_new _ _, HTA0.out.bel (below_alloc _ _)⟩
  go_upto_region 2 with fail
  obtain ⟨qa, HQNqa⟩ : ∃ qa, Hid (w2.heap.size = qa) := ⟨_, (rfl : w2.heap.size = _)⟩
  rw [HQNqa.out] at HTA_b ⊢
  obtain ⟨w3, HW3⟩ : ∃ w3, Hid ((w2.alloc (Obj.cells #[.int .i64 pa, .int .i64 ka, .slice oa sa ua] 27)) = w3) := ⟨_, (rfl : (w2.alloc (Obj.cells #[.int .i64 pa, .int .i64 ka, .slice oa sa ua] 27)) = _)⟩
  rw [HW3.out] at HHb HTA_b  ⊢
  have HH3 : Hid (Below w.heap.size w w3 ∧ w3.heap[w.heap.size]? = some (.cells #[.int .i64 t, .int .i64 n, .slice ga gm gc] 24)) := HHb.out
  have HTA_3 : Hid (w3.heap[qa]? = some (.cells #[.int .i64 pa, .int .i64 ka, .slice oa sa ua] 27) ∧ Tx w3 (fun _ => True) (.agg #[.int .i64 pa, .int .i64 ka, .slice oa sa ua]) xa) := HTA_b.out
  clear HHb HTA_b HW3 HH2 HTA0 HQNqa
  have k0 := tcell_blk HH3.out.2 0
  have k1 := tcell_blk HH3.out.2 1
  have k2 := tcell_blk HH3.out.2 2
  simp only [List.getElem?_toArray, List.getElem?_cons_zero, List.getElem?_cons_succ] at k0 k1 k2
  have hc := (OfUp_any t n (.slice ga gm gc) ps (.slice la ln lc) l w3 (HP.out.below HH3.out.1) (HL.out.below HH3.out.1)).mono fun _ _ h => OfQ.tx h
  go_wp2_with fail
  refine hc.mono ?_
  rintro _ w4 ⟨pb, kb, ob, sb, ub, rfl, hb, hq⟩
  have HH4 : Hid (Below w.heap.size w w4 ∧ w4.heap[w.heap.size]? = some (.cells #[.int .i64 t, .int .i64 n, .slice ga gm gc] 24)) := ⟨HH3.out.1.trans (hb.mono HH3.out.1.size), tbox_next HH3.out.2 hb⟩
  have HTA_4 : Hid (w4.heap[qa]? = some (.cells #[.int .i64 pa, .int .i64 ka, .slice oa sa ua] 27) ∧ Tx w4 (fun _ => True) (.agg #[.int .i64 pa, .int .i64 ka, .slice oa sa ua]) xa) := ⟨tbox_next HTA_3.out.1 hb, HTA_3.out.2.bel hb⟩
  rw [HE2.out] at hq ⊢
  rw [HXxb.out] at hq
  have HTB0 : Hid (Tx w4 (fun _ => True) (.agg #[.int .i64 pb, .int .i64 kb, .slice ob sb ub]) xb) := hq
  clear hc hb HH3 k0 k1 k2 HTA_3 hq
  have HHb : Hid (Below w.heap.size w (w4.alloc (Obj.cells #[.int .i64 pb, .int .i64 kb, .slice ob sb ub] 27)) ∧ (w4.alloc (Obj.cells #[.int .i64 pb, .int .i64 kb, .slice ob sb ub] 27)).heap[w.heap.size]? = some (.cells #[.int .i64 t, .int .i64 n, .slice ga gm gc] 24)) := ⟨HH4.out.1.trans ((below_alloc _ _).mono HH4.out.1.size), tbox_next HH4.out.2 (below_alloc _ _)⟩
  have HTB_b : Hid ((w4.alloc (Obj.cells #[.int .i64 pb, .int .i64 kb, .slice ob sb ub] 27)).heap[w4.heap.size]? = some (.cells #[.int .i64 pb, .int .i64 kb, .slice ob sb ub] 27) ∧ Tx (w4.alloc (Obj.cells #[.int .i64 pb, .int .i64 kb, .slice ob sb ub] 27)) (fun _ => True) (.agg #[.int .i64 pb, .int .i64 kb, .slice ob sb ub]) xb) := ⟨heap_alloc_new _ _, HTB0.out.bel (below_alloc _ _)⟩
  have HTA_b : Hid ((w4.alloc (Obj.cells #[.int .i64 pb, .int .i64 kb, .slice ob sb ub] 27)).heap[qa]? = some (.cells #[.int .i64 pa, .int .i64 ka, .slice oa sa ua] 27) ∧ Tx (w4.alloc (Obj.cells #[.int .i64 pb, .int .i64 kb, .slice ob sb ub] 27)) (fun _ => True) (.agg #[.int .i64 pa, .int .i64 ka, .slice oa sa ua]) xa) := ⟨tbox_next HTA_4.out.1 (below_alloc _ _), HTA_4.out.2.bel (below_alloc _ _)⟩
  go_upto_region 3 with fail
  obtain ⟨qb, HQNqb⟩ : ∃ qb, Hid (w4.heap.size = qb) := ⟨_, (rfl : w4.heap.size = _)⟩
  rw [HQNqb.out] at HTB_b ⊢
  obtain ⟨w5, HW5⟩ : ∃ w5, Hid ((w4.alloc (Obj.cells #[.int .i64 pb, .int .i64 kb, .slice ob sb ub] 27)) = w5) := ⟨_, (rfl : (w4.alloc (Obj.cells #[.int .i64 pb, .int .i64 kb, .slice ob sb ub] 27)) = _)⟩
  rw [HW5.out] at HHb HTB_b HTA_b ⊢
  have HH5 : Hid (Below w.heap.size w w5 ∧ w5.heap[w.heap.size]? = some (.cells #[.int .i64 t, .int .i64 n, .slice ga gm gc] 24)) := HHb.out
  have HTB_5 : Hid (w5.heap[qb]? = some (.cells #[.int .i64 pb, .int .i64 kb, .slice ob sb ub] 27) ∧ Tx w5 (fun _ => True) (.agg #[.int .i64 pb, .int .i64 kb, .slice ob sb ub]) xb) := HTB_b.out
  have HTA_5 : Hid (w5.heap[qa]? = some (.cells #[.int .i64 pa, .int .i64 ka, .slice oa sa ua] 27) ∧ Tx w5 (fun _ => True) (.agg #[.int .i64 pa, .int .i64 ka, .slice oa sa ua]) xa) := HTA_b.out
  clear HHb HTB_b HTA_b HW5 HH4 HTB0 HQNqb HTA_4
  have k0 := tcell_blk HH5.out.2 0
  have k1 := tcell_blk HH5.out.2 1
  have k2 := tcell_blk HH5.out.2 2
  simp only [List.getElem?_toArray, List.getElem?_cons_zero, List.getElem?_cons_succ] at k0 k1 k2
  have hc := Cfg_any t n (.slice ga gm gc) ps w5 (HP.out.below HH5.out.1)
  go_wp2_with fail
  refine hc.mono ?_
  rintro _ w6 ⟨rfl, hb⟩
  have HH6 : Hid (Below w.heap.size w w6 ∧ w6.heap[w.heap.size]? = some (.cells #[.int .i64 t, .int .i64 n, .slice ga gm gc] 24)) := ⟨HH5.out.1.trans (hb.mono HH5.out.1.size), tbox_next HH5.out.2 hb⟩
  have HTA_6 : Hid (w6.heap[qa]? = some (.cells #[.int .i64 pa, .int .i64 ka, .slice oa sa ua] 27) ∧ Tx w6 (fun _ => True) (.agg #[.int .i64 pa, .int .i64 ka, .slice oa sa ua]) xa) := ⟨tbox_next HTA_5.out.1 hb, HTA_5.out.2.bel hb⟩
  have HTB_6 : Hid (w6.heap[qb]? = some (.cells #[.int .i64 pb, .int .i64 kb, .slice ob sb ub] 27) ∧ Tx w6 (fun _ => True) (.agg #[.int .i64 pb, .int .i64 kb, .slice ob sb ub]) xb) := ⟨tbox_next HTB_5.out.1 hb, HTB_5.out.2.bel hb⟩
  rw [HCE.out]
  clear hc hb HH5 k0 k1 k2 HTA_5 HTB_5
  by_cases hz : ce = 0
  · subst hz
    have HCK : Hid (chk t n ps = 0) := HCE.out
    clear HBAD
    have hb1 : (e1 == e1) = true := by simp
    have hb2 : (e2 == e2) = true := by simp
    have k0 := tcell_blk HH6.out.2 0
    have k1 := tcell_blk HH6.out.2 1
    have k2 := tcell_blk HH6.out.2 2
    simp only [List.getElem?_toArray, List.getElem?_cons_zero, List.getElem?_cons_succ] at k0 k1 k2
    have hc := (ROf_any t n (.slice ga gm gc) ps HCK.out (.slice la ln lc) l true w6 (HP.out.below HH6.out.1) (HL.out.below HH6.out.1)).mono fun _ _ h => OfQ.tx h
    simp only [if_true] at hc
    go_wp2_with fail
    refine hc.mono ?_
    rintro _ w7 ⟨pc, kc, oc, sc, uc, rfl, hb, hq⟩
    have HH7 : Hid (Below w.heap.size w w7 ∧ w7.heap[w.heap.size]? = some (.cells #[.int .i64 t, .int .i64 n, .slice ga gm gc] 24)) := ⟨HH6.out.1.trans (hb.mono HH6.out.1.size), tbox_next HH6.out.2 hb⟩
    have HTA_7 : Hid (w7.heap[qa]? = some (.cells #[.int .i64 pa, .int .i64 ka, .slice oa sa ua] 27) ∧ Tx w7 (fun _ => True) (.agg #[.int .i64 pa, .int .i64 ka, .slice oa sa ua]) xa) := ⟨tbox_next HTA_6.out.1 hb, HTA_6.out.2.bel hb⟩
    have HTB_7 : Hid (w7.heap[qb]? = some (.cells #[.int .i64 pb, .int .i64 kb, .slice ob sb ub] 27) ∧ Tx w7 (fun _ => True) (.agg #[.int .i64 pb, .int .i64 kb, .slice ob sb ub]) xb) := ⟨tbox_next HTB_6.out.1 hb, HTB_6.out.2.bel hb⟩
    rw [HE1.out] at hq ⊢
    rw [HXxa.out] at hq
    have HTC0 : Hid (Tx w7 (fun _ => True) (.agg #[.int .i64 pc, .int .i64 kc, .slice oc sc uc]) xa) := hq
    clear hc hb HH6 k0 k1 k2 HTA_6 HTB_6 hq
    have HHb : Hid (Below w.heap.size w (w7.alloc (Obj.cells #[.int .i64 pc, .int .i64 kc, .slice oc sc uc] 27)) ∧ (w7.alloc (Obj.cells #[.int .i64 pc, .int .i64 kc, .slice oc sc uc] 27)).heap[w.heap.size]? = some (.cells #[.int .i64 t, .int .i64 n, .slice ga gm gc] 24)) := ⟨HH7.out.1.trans ((below_alloc _ _).mono HH7.out.1.size), tbox_next HH7.out.2 (below_alloc _ _)⟩
    have HTC_b : Hid ((w7.alloc (Obj.cells #[.int .i64 pc, .int .i64 kc, .slice oc sc uc] 27)).heap[w7.heap.size]? = some (.cells #[.int .i64 pc, .int .i64 kc, .slice oc sc uc] 27) ∧ Tx (w7.alloc (Obj.cells #[.int .i64 pc, .int .i64 kc, .slice oc sc uc] 27)) (fun _ => True) (.agg #[.int .i64 pc, .int .i64 kc, .slice oc sc uc]) xa) := ⟨heap_alloc_new _ _, HTC0.out.bel (below_alloc _ _)⟩
    have HTA_b : Hid ((w7.alloc (Obj.cells #[.int .i64 pc, .int .i64 kc, .slice oc sc uc] 27)).heap[qa]? = some (.cells #[.int .i64 pa, .int .i64 ka, .slice oa sa ua] 27) ∧ Tx (w7.alloc (Obj.cells #[.int .i64 pc, .int .i64 kc, .slice oc sc uc] 27)) (fun _ => True) (.agg #[.int .i64 pa, .int .i64 ka, .slice oa sa ua]) xa) := ⟨tbox_next HTA_7.out.1 (below_alloc _ _), HTA_7.out.2.bel (below_alloc _ _)⟩
    have HTB_b : Hid ((w7.alloc (Obj.cells #[.int .i64 pc, .int .i64 kc, .slice oc sc uc] 27)).heap[qb]? = some (.cells #[.int .i64 pb, .int .i64 kb, .slice ob sb ub] 27) ∧ Tx (w7.alloc (Obj.cells #[.int .i64 pc, .int .i64 kc, .slice oc sc uc] 27)) (fun _ => True) (.agg #[.int .i64 pb, .int .i64 kb, .slice ob sb ub]) xb) := ⟨tbox_next HTB_7.out.1 (below_alloc _ _), HTB_7.out.2.bel (below_alloc _ _)⟩
    go_upto_region 7 with fail
    obtain ⟨qc, HQNqc⟩ : ∃ qc, Hid (w7.heap.size = qc) := ⟨_, (rfl : w7.heap.size = _)⟩
    rw [HQNqc.out] at HTC_b ⊢
    obtain ⟨w8, HW8⟩ : ∃ w8, Hid ((w7.alloc (Obj.cells #[.int .i64 pc, .int .i64 kc, .slice oc sc uc] 27)) = w8) := ⟨_, (rfl : (w7.alloc (Obj.cells #[.int .i64 pc, .int .i64 kc, .slice oc sc uc] 27)) = _)⟩
    rw [HW8.out] at HHb HTC_b HTA_b HTB_b ⊢
    have HH8 : Hid (Below w.heap.size w w8 ∧ w8.heap[w.heap.size]? = some (.cells #[.int .i64 t, .int .i64 n, .slice ga gm gc] 24)) := HHb.out
    have HTC_8 : Hid (w8.heap[qc]? = some (.cells #[.int .i64 pc, .int .i64 kc, .slice oc sc uc] 27) ∧ Tx w8 (fun _ => True) (.agg #[.int .i64 pc, .int .i64 kc, .slice oc sc uc]) xa) := HTC_b.out
    have HTA_8 : Hid (w8.heap[qa]? = some (.cells #[.int .i64 pa, .int .i64 ka, .slice oa sa ua] 27) ∧ Tx w8 (fun _ => True) (.agg #[.int .i64 pa, .int .i64 ka, .slice oa sa ua]) xa) := HTA_b.out
    have HTB_8 : Hid (w8.heap[qb]? = some (.cells #[.int .i64 pb, .int .i64 kb, .slice ob sb ub] 27) ∧ Tx w8 (fun _ => True) (.agg #[.int .i64 pb, .int .i64 kb, .slice ob sb ub]) xb) := HTB_b.out
    clear HHb HTC_b HTA_b HTB_b HW8 HH7 HTC0 HQNqc HTA_7 HTB_7
    have k0 := tcell_blk HH8.out.2 0
    have k1 := tcell_blk HH8.out.2 1
    have k2 := tcell_blk HH8.out.2 2
    simp only [List.getElem?_toArray, List.getElem?_cons_zero, List.getElem?_cons_succ] at k0 k1 k2
    have hc := (ROf_any t n (.slice ga gm gc) ps HCK.out (.slice la ln lc) l false w8 (HP.out.below HH8.out.1) (HL.out.below HH8.out.1)).mono fun _ _ h => OfQ.tx h
    simp only [Bool.false_eq_true, if_false] at hc
    go_wp2_with fail
    refine hc.mono ?_
    rintro _ w9 ⟨pd, kd, od, sd, ud, rfl, hb, hq⟩
    have HH9 : Hid (Below w.heap.size w w9 ∧ w9.heap[w.heap.size]? = some (.cells #[.int .i64 t, .int .i64 n, .slice ga gm gc] 24)) := ⟨HH8.out.1.trans (hb.mono HH8.out.1.size), tbox_next HH8.out.2 hb⟩
    have HTA_9 : Hid (w9.heap[qa]? = some (.cells #[.int .i64 pa, .int .i64 ka, .slice oa sa ua] 27) ∧ Tx w9 (fun _ => True) (.agg #[.int .i64 pa, .int .i64 ka, .slice oa sa ua]) xa) := ⟨tbox_next HTA_8.out.1 hb, HTA_8.out.2.bel hb⟩
    have HTB_9 : Hid (w9.heap[qb]? = some (.cells #[.int .i64 pb, .int .i64 kb, .slice ob sb ub] 27) ∧ Tx w9 (fun _ => True) (.agg #[.int .i64 pb, .int .i64 kb, .slice ob sb ub]) xb) := ⟨tbox_next HTB_8.out.1 hb, HTB_8.out.2.bel hb⟩
    have HTC_9 : Hid (w9.heap[qc]? = some (.cells #[.int .i64 pc, .int .i64 kc, .slice oc sc uc] 27) ∧ Tx w9 (fun _ => True) (.agg #[.int .i64 pc, .int .i64 kc, .slice oc sc uc]) xa) := ⟨tbox_next HTC_8.out.1 hb, HTC_8.out.2.bel hb⟩
    rw [HE2.out] at hq ⊢
    rw [HXxb.out] at hq
    have HTD0 : Hid (Tx w9 (fun _ => True) (.agg #[.int .i64 pd, .int .i64 kd, .slice od sd ud]) xb) := hq
    clear hc hb HH8 k0 k1 k2 HTA_8 HTB_8 HTC_8 hq
    have HHb : Hid (Below w.heap.size w (w9.alloc (Obj.cells #[.int .i64 pd, .int .i64 kd, .slice od sd ud] 27)) ∧ (w9.alloc (Obj.cells #[.int .i64 pd, .int .i64 kd, .slice od sd ud] 27)).heap[w.heap.size]? = some (.cells #[.int .i64 t, .int .i64 n, .slice ga gm gc] 24)) := ⟨HH9.out.1.trans ((below_alloc _ _).mono HH9.out.1.size), tbox_next HH9.out.2 (below_alloc _ _)⟩
    have HTD_b : Hid ((w9.alloc (Obj.cells #[.int .i64 pd, .int .i64 kd, .slice od sd ud] 27)).heap[w9.heap.size]? = some (.cells #[.int .i64 pd, .int .i64 kd, .slice od sd ud] 27) ∧ Tx (w9.alloc (Obj.cells #[.int .i64 pd, .int .i64 kd, .slice od sd ud] 27)) (fun _ => True) (.agg #[.int .i64 pd, .int .i64 kd, .slice od sd ud]) xb) := ⟨heap_alloc_new _ _, HTD0.out.bel (below_alloc _ _)⟩
    have HTA_b : Hid ((w9.alloc (Obj.cells #[.int .i64 pd, .int .i64 kd, .slice od sd ud] 27)).heap[qa]? = some (.cells #[.int .i64 pa, .int .i64 ka, .slice oa sa ua] 27) ∧ Tx (w9.alloc (Obj.cells #[.int .i64 pd, .int .i64 kd, .slice od sd ud] 27)) (fun _ => True) (.agg #[.int .i64 pa, .int .i64 ka, .slice oa sa ua]) xa) := ⟨tbox_next HTA_9.out.1 (below_alloc _ _), HTA_9.out.2.bel (below_alloc _ _)⟩
    have HTB_b : Hid ((w9.alloc (Obj.cells #[.int .i64 pd, .int .i64 kd, .slice od sd ud] 27)).heap[qb]? = some (.cells #[.int .i64 pb, .int .i64 kb, .slice ob sb ub] 27) ∧ Tx (w9.alloc (Obj.cells #[.int .i64 pd, .int .i64 kd, .slice od sd ud] 27)) (fun _ => True) (.agg #[.int .i64 pb, .int .i64 kb, .slice ob sb ub]) xb) := ⟨tbox_next HTB_9.out.1 (below_alloc _ _), HTB_9.out.2.bel (below_alloc _ _)⟩
    have HTC_b : Hid ((w9.alloc (Obj.cells #[.int .i64 pd, .int .i64 kd, .slice od sd ud] 27)).heap[qc]? = some (.cells #[.int .i64 pc, .int .i64 kc, .slice oc sc uc] 27) ∧ Tx (w9.alloc (Obj.cells #[.int .i64 pd, .int .i64 kd, .slice od sd ud] 27)) (fun _ => True) (.agg #[.int .i64 pc, .int .i64 kc, .slice oc sc uc]) xa) := ⟨tbox_next HTC_9.out.1 (below_alloc _ _), HTC_9.out.2.bel (below_alloc _ _)⟩
    go_upto_region 8 with fail
    obtain ⟨qd, HQNqd⟩ : ∃ qd, Hid (w9.heap.size = qd) := ⟨_, (rfl : w9.heap.size = _)⟩
    rw [HQNqd.out] at HTD_b ⊢
    obtain ⟨w10, HW10⟩ : ∃ w10, Hid ((w9.alloc (Obj.cells #[.int .i64 pd, .int .i64 kd, .slice od sd ud] 27)) = w10) := ⟨_, (rfl : (w9.alloc (Obj.cells #[.int .i64 pd, .int .i64 kd, .slice od sd ud] 27)) = _)⟩
    rw [HW10.out] at HHb HTD_b HTA_b HTB_b HTC_b ⊢
    have HH10 : Hid (Below w.heap.size w w10 ∧ w10.heap[w.heap.size]? = some (.cells #[.int .i64 t, .int .i64 n, .slice ga gm gc] 24)) := HHb.out
    have HTD_10 : Hid (w10.heap[qd]? = some (.cells #[.int .i64 pd, .int .i64 kd, .slice od sd ud] 27) ∧ Tx w10 (fun _ => True) (.agg #[.int .i64 pd, .int .i64 kd, .slice od sd ud]) xb) := HTD_b.out
    have HTA_10 : Hid (w10.heap[qa]? = some (.cells #[.int .i64 pa, .int .i64 ka, .slice oa sa ua] 27) ∧ Tx w10 (fun _ => True) (.agg #[.int .i64 pa, .int .i64 ka, .slice oa sa ua]) xa) := HTA_b.out
    have HTB_10 : Hid (w10.heap[qb]? = some (.cells #[.int .i64 pb, .int .i64 kb, .slice ob sb ub] 27) ∧ Tx w10 (fun _ => True) (.agg #[.int .i64 pb, .int .i64 kb, .slice ob sb ub]) xb) := HTB_b.out
    have HTC_10 : Hid (w10.heap[qc]? = some (.cells #[.int .i64 pc, .int .i64 kc, .slice oc sc uc] 27) ∧ Tx w10 (fun _ => True) (.agg #[.int .i64 pc, .int .i64 kc, .slice oc sc uc]) xa) := HTC_b.out
    clear HHb HTD_b HTA_b HTB_b HTC_b HW10 HH9 HTD0 HQNqd HTA_9 HTB_9 HTC_9
    have x0 := tcell_blk HTA_10.out.1 0
    have x1 := tcell_blk HTA_10.out.1 1
    have x2 := tcell_blk HTA_10.out.1 2
    simp only [List.getElem?_toArray, List.getElem?_cons_zero, List.getElem?_cons_succ] at x0 x1 x2
    have y0 := tcell_blk HTC_10.out.1 0
    have y1 := tcell_blk HTC_10.out.1 1
    have y2 := tcell_blk HTC_10.out.1 2
    simp only [List.getElem?_toArray, List.getElem?_cons_zero, List.getElem?_cons_succ] at y0 y1 y2
    have k0 := tcell_blk HH10.out.2 0
    have k1 := tcell_blk HH10.out.2 1
    have k2 := tcell_blk HH10.out.2 2
    simp only [List.getElem?_toArray, List.getElem?_cons_zero, List.getElem?_cons_succ] at k0 k1 k2
    have hc := same_true xa (.agg #[.int .i64 pa, .int .i64 ka, .slice oa sa ua]) (.agg #[.int .i64 pc, .int .i64 kc, .slice oc sc uc]) (fun _ => True) (fun _ => True) w10 HTA_10.out.2 HTC_10.out.2
    go_wp2_with fail
    refine hc.mono ?_
    rintro _ w11 ⟨rfl, hb⟩
    have HH11 : Hid (Below w.heap.size w w11 ∧ w11.heap[w.heap.size]? = some (.cells #[.int .i64 t, .int .i64 n, .slice ga gm gc] 24)) := ⟨HH10.out.1.trans (hb.mono HH10.out.1.size), tbox_next HH10.out.2 hb⟩
    have HTA_11 : Hid (w11.heap[qa]? = some (.cells #[.int .i64 pa, .int .i64 ka, .slice oa sa ua] 27) ∧ Tx w11 (fun _ => True) (.agg #[.int .i64 pa, .int .i64 ka, .slice oa sa ua]) xa) := ⟨tbox_next HTA_10.out.1 hb, HTA_10.out.2.bel hb⟩
    have HTB_11 : Hid (w11.heap[qb]? = some (.cells #[.int .i64 pb, .int .i64 kb, .slice ob sb ub] 27) ∧ Tx w11 (fun _ => True) (.agg #[.int .i64 pb, .int .i64 kb, .slice ob sb ub]) xb) := ⟨tbox_next HTB_10.out.1 hb, HTB_10.out.2.bel hb⟩
    have HTC_11 : Hid (w11.heap[qc]? = some (.cells #[.int .i64 pc, .int .i64 kc, .slice oc sc uc] 27) ∧ Tx w11 (fun _ => True) (.agg #[.int .i64 pc, .int .i64 kc, .slice oc sc uc]) xa) := ⟨tbox_next HTC_10.out.1 hb, HTC_10.out.2.bel hb⟩
    have HTD_11 : Hid (w11.heap[qd]? = some (.cells #[.int .i64 pd, .int .i64 kd, .slice od sd ud] 27) ∧ Tx w11 (fun _ => True) (.agg #[.int .i64 pd, .int .i64 kd, .slice od sd ud]) xb) := ⟨tbox_next HTD_10.out.1 hb, HTD_10.out.2.bel hb⟩
    clear x0 x1 x2 y0 y1 y2 hc hb HH10 k0 k1 k2 HTA_10 HTB_10 HTC_10 HTD_10
    have x0 := tcell_blk HTB_11.out.1 0
    have x1 := tcell_blk HTB_11.out.1 1
    have x2 := tcell_blk HTB_11.out.1 2
    simp only [List.getElem?_toArray, List.getElem?_cons_zero, List.getElem?_cons_succ] at x0 x1 x2
    have y0 := tcell_blk HTD_11.out.1 0
    have y1 := tcell_blk HTD_11.out.1 1
    have y2 := tcell_blk HTD_11.out.1 2
    simp only [List.getElem?_toArray, List.getElem?_cons_zero, List.getElem?_cons_succ] at y0 y1 y2
    have k0 := tcell_blk HH11.out.2 0
    have k1 := tcell_blk HH11.out.2 1
    have k2 := tcell_blk HH11.out.2 2
    simp only [List.getElem?_toArray, List.getElem?_cons_zero, List.getElem?_cons_succ] at k0 k1 k2
    have hc := same_true xb (.agg #[.int .i64 pb, .int .i64 kb, .slice ob sb ub]) (.agg #[.int .i64 pd, .int .i64 kd, .slice od sd ud]) (fun _ => True) (fun _ => True) w11 HTB_11.out.2 HTD_11.out.2
    go_wp2_with fail
    refine hc.mono ?_
    rintro _ w12 ⟨rfl, hb⟩
    have HH12 : Hid (Below w.heap.size w w12 ∧ w12.heap[w.heap.size]? = some (.cells #[.int .i64 t, .int .i64 n, .slice ga gm gc] 24)) := ⟨HH11.out.1.trans (hb.mono HH11.out.1.size), tbox_next HH11.out.2 hb⟩
    have HTA_12 : Hid (w12.heap[qa]? = some (.cells #[.int .i64 pa, .int .i64 ka, .slice oa sa ua] 27) ∧ Tx w12 (fun _ => True) (.agg #[.int .i64 pa, .int .i64 ka, .slice oa sa ua]) xa) := ⟨tbox_next HTA_11.out.1 hb, HTA_11.out.2.bel hb⟩
    have HTB_12 : Hid (w12.heap[qb]? = some (.cells #[.int .i64 pb, .int .i64 kb, .slice ob sb ub] 27) ∧ Tx w12 (fun _ => True) (.agg #[.int .i64 pb, .int .i64 kb, .slice ob sb ub]) xb) := ⟨tbox_next HTB_11.out.1 hb, HTB_11.out.2.bel hb⟩
    have HTC_12 : Hid (w12.heap[qc]? = some (.cells #[.int .i64 pc, .int .i64 kc, .slice oc sc uc] 27) ∧ Tx w12 (fun _ => True) (.agg #[.int .i64 pc, .int .i64 kc, .slice oc sc uc]) xa) := ⟨tbox_next HTC_11.out.1 hb, HTC_11.out.2.bel hb⟩
    have HTD_12 : Hid (w12.heap[qd]? = some (.cells #[.int .i64 pd, .int .i64 kd, .slice od sd ud] 27) ∧ Tx w12 (fun _ => True) (.agg #[.int .i64 pd, .int .i64 kd, .slice od sd ud]) xb) := ⟨tbox_next HTD_11.out.1 hb, HTD_11.out.2.bel hb⟩
    clear x0 x1 x2 y0 y1 y2 hc hb HH11 k0 k1 k2 HTA_11 HTB_11 HTC_11 HTD_11
    go_wp2_with fail
    go_ret
    exact ⟨by simp, HH12.out.1⟩
  · obtain ⟨h1, h2, h3, h4⟩ := HBAD.out hz
    have HZA : Hid (xa = .mk 0 0 []) := h3
    have HZB : Hid (xb = .mk 0 0 []) := h4
    subst h1
    subst h2
    have hb0 : (e2 != 0) = true := by simp; exact hz
    have hb1 : (e2 == e2) = true := by simp
    clear h3 h4 hz HBAD
    have x0 := tcell_blk HTA_6.out.1 0
    have x1 := tcell_blk HTA_6.out.1 1
    have x2 := tcell_blk HTA_6.out.1 2
    simp only [List.getElem?_toArray, List.getElem?_cons_zero, List.getElem?_cons_succ] at x0 x1 x2
    have k0 := tcell_blk HH6.out.2 0
    have k1 := tcell_blk HH6.out.2 1
    have k2 := tcell_blk HH6.out.2 2
    simp only [List.getElem?_toArray, List.getElem?_cons_zero, List.getElem?_cons_succ] at k0 k1 k2
    have hc := same_true (.mk 0 0 []) (.agg #[.int .i64 pa, .int .i64 ka, .slice oa sa ua]) (.agg #[.int .i64 0, .int .i64 0, .slice none 0 0]) (fun _ => True) (fun _ => True) w6 (by have := HTA_6.out.2; rw [HZA.out] at this; exact this) (tx_leaf _ _ _ _)
    go_wp2_with fail
    refine hc.mono ?_
    rintro _ w7 ⟨rfl, hb⟩
    have HH7 : Hid (Below w.heap.size w w7 ∧ w7.heap[w.heap.size]? = some (.cells #[.int .i64 t, .int .i64 n, .slice ga gm gc] 24)) := ⟨HH6.out.1.trans (hb.mono HH6.out.1.size), tbox_next HH6.out.2 hb⟩
    have HTA_7 : Hid (w7.heap[qa]? = some (.cells #[.int .i64 pa, .int .i64 ka, .slice oa sa ua] 27) ∧ Tx w7 (fun _ => True) (.agg #[.int .i64 pa, .int .i64 ka, .slice oa sa ua]) xa) := ⟨tbox_next HTA_6.out.1 hb, HTA_6.out.2.bel hb⟩
    have HTB_7 : Hid (w7.heap[qb]? = some (.cells #[.int .i64 pb, .int .i64 kb, .slice ob sb ub] 27) ∧ Tx w7 (fun _ => True) (.agg #[.int .i64 pb, .int .i64 kb, .slice ob sb ub]) xb) := ⟨tbox_next HTB_6.out.1 hb, HTB_6.out.2.bel hb⟩
    clear x0 x1 x2 hc hb HH6 k0 k1 k2 HTA_6 HTB_6
    have y0 := tcell_blk HTB_7.out.1 0
    have y1 := tcell_blk HTB_7.out.1 1
    have y2 := tcell_blk HTB_7.out.1 2
    simp only [List.getElem?_toArray, List.getElem?_cons_zero, List.getElem?_cons_succ] at y0 y1 y2
    have k0 := tcell_blk HH7.out.2 0
    have k1 := tcell_blk HH7.out.2 1
    have k2 := tcell_blk HH7.out.2 2
    simp only [List.getElem?_toArray, List.getElem?_cons_zero, List.getElem?_cons_succ] at k0 k1 k2
    have hc := same_true (.mk 0 0 []) (.agg #[.int .i64 pb, .int .i64 kb, .slice ob sb ub]) (.agg #[.int .i64 0, .int .i64 0, .slice none 0 0]) (fun _ => True) (fun _ => True) w7 (by have := HTB_7.out.2; rw [HZB.out] at this; exact this) (tx_leaf _ _ _ _)
    go_wp2_with fail
    refine hc.mono ?_
    rintro _ w8 ⟨rfl, hb⟩
    have HH8 : Hid (Below w.heap.size w w8 ∧ w8.heap[w.heap.size]? = some (.cells #[.int .i64 t, .int .i64 n, .slice ga gm gc] 24)) := ⟨HH7.out.1.trans (hb.mono HH7.out.1.size), tbox_next HH7.out.2 hb⟩
    have HTA_8 : Hid (w8.heap[qa]? = some (.cells #[.int .i64 pa, .int .i64 ka, .slice oa sa ua] 27) ∧ Tx w8 (fun _ => True) (.agg #[.int .i64 pa, .int .i64 ka, .slice oa sa ua]) xa) := ⟨tbox_next HTA_7.out.1 hb, HTA_7.out.2.bel hb⟩
    have HTB_8 : Hid (w8.heap[qb]? = some (.cells #[.int .i64 pb, .int .i64 kb, .slice ob sb ub] 27) ∧ Tx w8 (fun _ => True) (.agg #[.int .i64 pb, .int .i64 kb, .slice ob sb ub]) xb) := ⟨tbox_next HTB_7.out.1 hb, HTB_7.out.2.bel hb⟩
    clear y0 y1 y2 hc hb HH7 k0 k1 k2 HTA_7 HTB_7
    go_wp2_with fail
    go_ret
    exact ⟨by simp, HH8.out.1⟩

/-! ### What the walk gives, for every argument -/
set_option maxRecDepth 100000 in
theorem contract (H : Type) (enc : TypeId × Value → H) (W : World) (base : Nat) (args : Array Value) (ds gs : List (DataW H)) (before : List MemPlace)
    (hval : ∀ (j : Nat) t v, Try.f4.params[j]? = some t → args[j]? = some v → Value.okWide Try.prog W .any base t v)
    (hW : DataW.Whole enc Try.prog Try.f4.params.toList Rows.treesReadsSpec.vars false W args.toList ds gs before) (hsz : (DataW.weightsEach Try.prog (Try.f4.params.toList ++ Rows.treesReadsSpec.plain.varTypes Try.prog) (ds ++ gs)).all (· ≤ reachBytes) = true) :
    Calls Try.prog 4 args W fun e W' => ∃ v, e = .returned v ∧ Rows.treesReadsSpec.post enc Try.prog Try.f4 false true false false W args v W' := by
  have hW' := hW
  obtain ⟨p, q, hA0, hV, rfl, hfz, hnd⟩ := hW
  have hA : DataW.TrodAll enc Try.prog W 0 (fun _ => true) true Try.f4.params.toList args.toList ds p := hA0
  rw [Try.params4] at hA hval hsz
  obtain ⟨v0, vs0, d0, ds0, p0, q0, hargs, rfl, rfl, h0, r0⟩ := trodAll_cons hA
  obtain ⟨v1, vs1, d1, ds1, p1, q1, rfl, rfl, rfl, h1, r1⟩ := trodAll_cons r0
  obtain ⟨rfl, rfl, rfl⟩ := trodAll_nil r1
  obtain rfl : args = #[v0, v1] := by cases args; simp_all
  obtain ⟨rfl, rfl⟩ := trodVars_none hV
  have k0 := h0
  have lt0 : ∀ x ∈ p0, x.block < W.heap.size := by obtain ⟨m, hm⟩ := k0; exact DataW.trod_lt m _ _ _ hm
  obtain ⟨a0t, a0n, a0s, a0p, rfl, w0s⟩ := open_gram (hval 0 24 v0 rfl rfl) h0
  have k1 := h1
  have lt1 : ∀ x ∈ p1, x.block < W.heap.size := by obtain ⟨m, hm⟩ := k1; exact DataW.trod_lt m _ _ _ hm
  obtain ⟨a1l, w1s⟩ := open_evsv (hval 1 34 v1 rfl rfl) h1
  clear hA0
  refine (walk a0t a0n a0s a0p _ a1l W w0s w1s).mono fun e W' ⟨he, bel⟩ => ?_
  subst he
  exact ⟨_, rfl, _, _, _, [], _, [], hW', trodAll_mk1 (shut_bool Try.underlying4 _), (trodAll_cons_mk (Below.trod laidOut (by kernel_rfl) (of_decide_eq_true (by kernel_rfl)) k0 bel lt0) (trodAll_cons_mk (Below.trod laidOut (by kernel_rfl) (of_decide_eq_true (by kernel_rfl)) k1 bel lt1) trodAll_mk0)), rfl, bel.frame _, fun h => by cases h⟩

/-! ### The row's step -/
set_option maxRecDepth 100000 in
theorem lifted (os : Os) (started : os.Started) (H : Type) (enc : TypeId × Value → H) :
    ReturnsInHanded {} Try.checked os 4 .any (Rows.treesReadsSpec.pre6 enc Try.prog Try.f4 Rows.treesReadsRow.domain false) (Rows.treesReadsSpec.post enc Try.prog Try.f4 false true false false) := by
  refine returnsInHanded_of_change_sized (C := Try.checked) own started (by kernel_rfl) Try.func4
    (ChangeSpec.witness6 (enc := enc) (C := Try.checked) false ⟨#[], #[.agg #[.int .i64 0, .int .i64 0, .slice none 0 0], .slice none 0 0], []⟩ 8 (by kernel_rfl) (by kernel_rfl) (by kernel_rfl) (by kernel_rfl)) ?_
  intro W base args ds gs before hval hW hcnd hsz _
  exact contract H enc W base args ds gs before hval hW hsz

theorem over : Rows.treesReadsRow.holds Try.pinned (OpenSpec.ofChange Rows.treesReadsSpec) :=
  OpenClaim.holds_of_wide 4 Try.f4 rfl rfl rfl rfl rfl rfl rfl ⟨rfl, rfl, rfl, rfl, rfl⟩ rfl rfl rfl rfl rfl (by kernel_rfl) Try.func4 (by kernel_rfl)
    (of_decide_eq_true (by kernel_rfl)) (by unfold Func.isWrapper; first | (rw [if_pos (by decide +kernel)]; kernel_rfl) | (rw [if_neg (by decide +kernel)]; exact ⟨rfl, rfl⟩))
    (fun os started H enc _ => lifted os started H enc)

end Go.Proofs.Ytldfiofgknmcgaa.treesReads
namespace Go.Proofs.Ytldfiofgknmcgaa
/-- The given statement. -/
theorem treesReads_holds : Rows.TreesReadsSaid := treesReads.over
#print axioms treesReads_holds
end Go.Proofs.Ytldfiofgknmcgaa
