/-
  The contracts of trees.OfUp and OfDown.
-/
import Derived.Test.YtldfiofgknmcgabTrBuilt
import Derived.Test.YtldfiofgknmcgabTrEq
namespace Go.Proofs.Ytldfiofgknmcgab
open Go.RowKit
open Cg

def BtW (P : Nat → Prop) (r : Option T) (v : Value) (b : Bool) (W : World) : Prop := match r with
  | some t => b = true ∧ Tx W P v t
  | none => b = false ∧ v = .agg #[.int .i64 0, .int .i64 0, .slice none 0 0]
theorem BtW.mono {P Q : Nat → Prop} {r : Option T} {v : Value} {b : Bool} {W : World} (h : BtW P r v b W) (k : ∀ b, b < W.heap.size → P b → Q b) : BtW Q r v b W := by
  cases r with
  | none => exact h
  | some t => exact ⟨h.1, h.2.mono k⟩
theorem BtW.next {P : Nat → Prop} {r : Option T} {v : Value} {b : Bool} {W w' : World} (h : BtW P r v b W) (hb : ∀ b, b < W.heap.size → P b → w'.heap[b]? = W.heap[b]?) (hs : W.heap.size ≤ w'.heap.size) : BtW P r v b w' := by
  cases r with
  | none => exact h
  | some t => exact ⟨h.1, h.2.next hb hs⟩
theorem BtW.bel {P : Nat → Prop} {r : Option T} {v : Value} {b : Bool} {W w' : World} (h : BtW P r v b W) (hb : Below W.heap.size W w') : BtW P r v b w' := h.next (fun b hl _ => hb.block b hl) hb.size
theorem BtW.lt {P : Nat → Prop} {r : Option T} {v : Value} {b : Bool} {W : World} (h : BtW P r v b W) : BtW (fun b => P b ∧ b < W.heap.size) r v b W := h.mono fun _ hb hp => ⟨hp, hb⟩
theorem set3_apart {W : World} {g b : Nat} {x y z : Value} (h : b ≠ g) : (set3 W g x y z).heap[b]? = W.heap[b]? := by
  unfold set3
  rw [Below.heap_setCell _ _ _ _ (by simpa using h), Below.heap_setCell _ _ _ _ (by simpa using h), Below.heap_setCell _ _ _ _ (by simpa using h)]
/-- What is wrong with what was read. -/
def errO (t n : Int) (ps : List Pd) (l : List Ev) (r : Option T) : Int := if errE t n ps l = 0 then (match r with | none => 4 | some x => errT t n ps x) else errE t n ps l
/-- What OfUp and OfDown leave. -/
def OfQ (w : World) (er : Int) (r : Option T) (e : Ending) (w' : World) : Prop := ∃ p k a m c, e = .returned (.tuple #[.agg #[.int .i64 p, .int .i64 k, .slice a m c], .int .i64 er]) ∧ Below w.heap.size w w' ∧ if er = 0 then ∃ x, r = some x ∧ Tx w' (fun b => w.heap.size ≤ b) (.agg #[.int .i64 p, .int .i64 k, .slice a m c]) x else Value.agg #[.int .i64 p, .int .i64 k, .slice a m c] = .agg #[.int .i64 0, .int .i64 0, .slice none 0 0]
theorem OfQ.zero {w w' : World} {er : Int} {r : Option T} (h : er ≠ 0) (hb : Below w.heap.size w w') : OfQ w er r (.returned (.tuple #[.agg #[.int .i64 0, .int .i64 0, .slice none 0 0], .int .i64 er])) w' := ⟨_, _, _, _, _, rfl, hb, by rw [if_neg h]⟩

set_option maxHeartbeats 16000000 in
set_option maxRecDepth 20000 in
theorem OfUp_any (tt n : Int) (pv : Value) (ps : List Pd) (lv : Value) (l : List Ev) (w : World) (hp : Pds w pv ps) (h : Evs w lv l) :
    Calls Try.prog 17 #[.agg #[.int .i64 tt, .int .i64 n, pv], lv] w fun e w' => OfQ w (errO tt n ps l (built ps l)) (built ps l) e w' := by
  have HP : Hid (Pds w pv ps) := hp
  have HL : Hid (Evs w lv l) := h
  obtain ⟨ga, gc, rfl, -, -⟩ := hp
  obtain ⟨la, lc, rfl, hlm, -⟩ := h
  obtain ⟨gm, HGM⟩ : ∃ gm, Hid (ps.length = gm) := ⟨_, (rfl : ps.length = ps.length)⟩
  obtain ⟨ln, HLN⟩ : ∃ ln, Hid (l.length = ln) := ⟨_, (rfl : l.length = _)⟩
  rw [HGM.out] at HP ⊢
  rw [HLN.out] at HL hlm ⊢
  obtain ⟨ee, HEE⟩ : ∃ ee, Hid (errE tt n ps l = ee) := ⟨_, (rfl : errE tt n ps l = _)⟩
  have HERO : Hid (∀ r, errO tt n ps l r = if ee = 0 then (match r with | none => 4 | some x => errT tt n ps x) else ee) := fun r => by unfold errO; rw [HEE.out]; try (cases r <;> rfl)
  have HB1 : Hid (Below w.heap.size w ((w.alloc (Obj.cells #[.int .i64 tt, .int .i64 n, .slice ga gm gc] 24)).alloc (Obj.cells #[.int .i64 0, .int .i64 0, .slice none 0 0] 27))) := below_alloc2 _ _ _
  have HG1 : Hid (((w.alloc (Obj.cells #[.int .i64 tt, .int .i64 n, .slice ga gm gc] 24)).alloc (Obj.cells #[.int .i64 0, .int .i64 0, .slice none 0 0] 27)).heap[w.heap.size]? = some (.cells #[.int .i64 tt, .int .i64 n, .slice ga gm gc] 24) ∧ ((w.alloc (Obj.cells #[.int .i64 tt, .int .i64 n, .slice ga gm gc] 24)).alloc (Obj.cells #[.int .i64 0, .int .i64 0, .slice none 0 0] 27)).heap[w.heap.size + 1]? = some (.cells #[.int .i64 0, .int .i64 0, .slice none 0 0] 27)) := by
    have g1 := heap_alloc_new (w.alloc (Obj.cells #[.int .i64 tt, .int .i64 n, .slice ga gm gc] 24)) (Obj.cells #[.int .i64 0, .int .i64 0, .slice none 0 0] 27)
    rw [show (w.alloc (Obj.cells #[.int .i64 tt, .int .i64 n, .slice ga gm gc] 24)).heap.size = w.heap.size + 1 by simp] at g1
    exact ⟨tbox_next (heap_alloc_new _ _) (below_alloc _ _), g1⟩
  go_enter Try.func17, Try.ntmps17
  go_upto_region 1 with fail
  generalize ((w.alloc (Obj.cells #[.int .i64 tt, .int .i64 n, .slice ga gm gc] 24)).alloc (Obj.cells #[.int .i64 0, .int .i64 0, .slice none 0 0] 27)) = w1 at HB1 HG1 ⊢
  have hc := checkEvents_any tt n _ ps _ l w1 (HP.out.below HB1.out) (HL.out.below HB1.out)
  rw [HEE.out] at hc
  have k0 := tcell_blk HG1.out.1 0
  have k1 := tcell_blk HG1.out.1 1
  have k2 := tcell_blk HG1.out.1 2
  simp only [List.getElem?_toArray, List.getElem?_cons_zero, List.getElem?_cons_succ] at k0 k1 k2
  go_wp2_with fail
  refine hc.mono ?_
  rintro _ w2 ⟨rfl, hb2⟩
  have HB2 : Hid (Below w.heap.size w w2) := HB1.out.trans (hb2.mono HB1.out.size)
  have HG2 : Hid (w2.heap[w.heap.size]? = some (.cells #[.int .i64 tt, .int .i64 n, .slice ga gm gc] 24) ∧ w2.heap[w.heap.size + 1]? = some (.cells #[.int .i64 0, .int .i64 0, .slice none 0 0] 27)) := ⟨tbox_next HG1.out.1 hb2, tbox_next HG1.out.2 hb2⟩
  clear hc hb2 HG1 HB1 k0 k1 k2
  by_cases hz : ee = 0
  · subst hz
    have HLE : Hid (l.length ≤ 2000) := by
      have := HEE.out
      unfold errE at this
      by_cases h1 : chk tt n ps = 0
      · rw [if_pos h1] at this
        by_cases h2 : 2000 < l.length
        · rw [if_pos h2] at this; omega
        · show _ ≤ _; omega
      · rw [if_neg h1] at this; exact absurd this h1
    have HERO2 : Hid (∀ r, errO tt n ps l r = (match r with | none => 4 | some x => errT tt n ps x)) := fun r => by rw [HERO.out, if_pos rfl]
    clear HERO
    have hc := built_any tt n _ ps _ l w2 (HP.out.below HB2.out) (HL.out.below HB2.out) (by have := HLE.out; omega)
    obtain ⟨rr, HRR0⟩ : ∃ rr, Hid (built ps l = rr) := ⟨_, (rfl : built ps l = _)⟩
    rw [HRR0.out] at hc
    have k0 := tcell_blk HG2.out.1 0
    have k1 := tcell_blk HG2.out.1 1
    have k2 := tcell_blk HG2.out.1 2
    simp only [List.getElem?_toArray, List.getElem?_cons_zero, List.getElem?_cons_succ] at k0 k1 k2
    go_wp2_with fail
    refine hc.mono ?_
    rintro _ w3 ⟨tp, tk0, ta, tm, tc, bb, rfl, hb3, hbt⟩
    have HB3 : Hid (Below w.heap.size w (w3.alloc (Obj.cells #[.int .i64 tp, .int .i64 tk0, .slice ta tm tc] 27))) := by
      have := HB2.out.trans (hb3.mono HB2.out.size)
      exact this.trans ((below_alloc _ _).mono this.size)
    have HG3 : Hid ((w3.alloc (Obj.cells #[.int .i64 tp, .int .i64 tk0, .slice ta tm tc] 27)).heap[w.heap.size]? = some (.cells #[.int .i64 tt, .int .i64 n, .slice ga gm gc] 24) ∧ (w3.alloc (Obj.cells #[.int .i64 tp, .int .i64 tk0, .slice ta tm tc] 27)).heap[w.heap.size + 1]? = some (.cells #[.int .i64 0, .int .i64 0, .slice none 0 0] 27)) := ⟨tbox_next (tbox_next HG2.out.1 hb3) (below_alloc _ _), tbox_next (tbox_next HG2.out.2 hb3) (below_alloc _ _)⟩
    have HNB : Hid ((w3.alloc (Obj.cells #[.int .i64 tp, .int .i64 tk0, .slice ta tm tc] 27)).heap[w3.heap.size]? = some (.cells #[.int .i64 tp, .int .i64 tk0, .slice ta tm tc] 27)) := heap_alloc_new _ _
    have HBT : Hid (BtW (fun b => w2.heap.size ≤ b) rr (.agg #[.int .i64 tp, .int .i64 tk0, .slice ta tm tc]) bb (w3.alloc (Obj.cells #[.int .i64 tp, .int .i64 tk0, .slice ta tm tc] 27))) := BtW.bel hbt (below_alloc _ _)
    have HSG : Hid (w.heap.size + 1 < w2.heap.size) := heap_lt3 HG2.out.2
    clear hc hb3 hbt k0 k1 k2
    go_upto_region 5 with fail
    obtain ⟨nb, HNBN⟩ : ∃ nb, Hid (w3.heap.size = nb) := ⟨_, (rfl : w3.heap.size = _)⟩
    rw [HNBN.out] at HNB ⊢
    generalize w3.alloc (Obj.cells #[.int .i64 tp, .int .i64 tk0, .slice ta tm tc] 27) = w4 at HB3 HG3 HNB HBT ⊢
    cases rr with
    | none =>
      obtain ⟨rfl, -⟩ := HBT.out
      have HEO : Hid (errO tt n ps l (built ps l) = 4) := by show _ = _; rw [HRR0.out, HERO2.out]
      have HGR := HG3.out.2
      have HV := set3_blk HGR (.int .i64 0) (.int .i64 0) (.slice none 0 0)
      have HBV : Hid (Below w.heap.size w (set3 w4 (w.heap.size + 1) (.int .i64 0) (.int .i64 0) (.slice none 0 0))) := set3_bel HB3.out (by omega)
      have r0 := tcell_blk HGR 0
      have r1 := tcell_blk HGR 1
      have r2 := tcell_blk HGR 2
      have f0 := tfrozen_blk HGR 0
      have f1 := tfrozen_blk HGR 1
      have f2 := tfrozen_blk HGR 2
      simp only [List.getElem?_toArray, List.getElem?_cons_zero, List.getElem?_cons_succ] at r0 r1 r2
      go_wp2_with fail
      rw [← set3_eq]
      generalize set3 w4 (w.heap.size + 1) (.int .i64 0) (.int .i64 0) (.slice none 0 0) = w9 at *
      have z0 := tcell_blk HV 0
      have z1 := tcell_blk HV 1
      have z2 := tcell_blk HV 2
      simp only [List.getElem?_toArray, List.getElem?_cons_zero, List.getElem?_cons_succ] at z0 z1 z2
      exact bodyPost_ret (v := .tuple #[.agg #[.int .i64 0, .int .i64 0, .slice none 0 0], .int .i64 4]) (by simp [results, Try.results17, go_sem, z0, z1, z2]) rfl (by rw [HEO.out]; exact OfQ.zero (by decide) HBV.out)
    | some x =>
      obtain ⟨hbb, hxt⟩ := HBT.out
      subst hbb
      have HXT : Hid (Tx w4 (fun b => w2.heap.size ≤ b) (.agg #[.int .i64 tp, .int .i64 tk0, .slice ta tm tc]) x) := hxt
      have HRR : Hid (built ps l = some x) := HRR0.out
      clear hxt HBT
      obtain ⟨er, HER⟩ : ∃ er, Hid (errT tt n ps x = er) := ⟨_, (rfl : errT tt n ps x = _)⟩
      have HEO : Hid (errO tt n ps l (built ps l) = er) := by show _ = _; rw [HRR.out, HERO2.out]; exact HER.out
      have hc := checked_any tt n _ ps tp tk0 ta tm tc x _ w4 (HP.out.below HB3.out) HXT.out
      rw [HER.out] at hc
      have k0 := tcell_blk HG3.out.1 0
      have k1 := tcell_blk HG3.out.1 1
      have k2 := tcell_blk HG3.out.1 2
      have l0 := tcell_blk HNB.out 0
      have l1 := tcell_blk HNB.out 1
      have l2 := tcell_blk HNB.out 2
      simp only [List.getElem?_toArray, List.getElem?_cons_zero, List.getElem?_cons_succ] at k0 k1 k2 l0 l1 l2
      by_cases hr : er = 0
      · subst hr
        rw [if_pos rfl] at hc
        go_wp2_with fail
        refine hc.mono ?_
        rintro _ w8 ⟨rfl, hb8⟩
        have HB8 : Hid (Below w.heap.size w w8) := HB3.out.trans (hb8.mono HB3.out.size)
        have HG8 : Hid (w8.heap[w.heap.size + 1]? = some (.cells #[.int .i64 0, .int .i64 0, .slice none 0 0] 27)) := tbox_next HG3.out.2 hb8
        have HX8 : Hid (Tx (set3 w8 (w.heap.size + 1) (.int .i64 tp) (.int .i64 tk0) (.slice ta tm tc)) (fun b => w.heap.size ≤ b) (.agg #[.int .i64 tp, .int .i64 tk0, .slice ta tm tc]) x) := by
          refine ((HXT.out.bel hb8).next (w' := set3 w8 (w.heap.size + 1) (.int .i64 tp) (.int .i64 tk0) (.slice ta tm tc)) (fun b _ hp => set3_apart (by have := HSG.out; omega)) (by simp [set3, World.setCell])).mono fun b _ hp => by have := HSG.out; omega
        clear hc hb8 k0 k1 k2 l0 l1 l2
        have HGR := HG8.out
        have HV := set3_blk HGR (.int .i64 tp) (.int .i64 tk0) (.slice ta tm tc)
        have HBV : Hid (Below w.heap.size w (set3 w8 (w.heap.size + 1) (.int .i64 tp) (.int .i64 tk0) (.slice ta tm tc))) := set3_bel HB8.out (by omega)
        have r0 := tcell_blk HGR 0
        have r1 := tcell_blk HGR 1
        have r2 := tcell_blk HGR 2
        have f0 := tfrozen_blk HGR 0
        have f1 := tfrozen_blk HGR 1
        have f2 := tfrozen_blk HGR 2
        simp only [List.getElem?_toArray, List.getElem?_cons_zero, List.getElem?_cons_succ] at r0 r1 r2
        go_wp2_with fail
        rw [← set3_eq]
        generalize set3 w8 (w.heap.size + 1) (.int .i64 tp) (.int .i64 tk0) (.slice ta tm tc) = w9 at *
        have z0 := tcell_blk HV 0
        have z1 := tcell_blk HV 1
        have z2 := tcell_blk HV 2
        simp only [List.getElem?_toArray, List.getElem?_cons_zero, List.getElem?_cons_succ] at z0 z1 z2
        exact bodyPost_ret (v := .tuple #[.agg #[.int .i64 tp, .int .i64 tk0, .slice ta tm tc], .int .i64 0]) (by simp [results, Try.results17, go_sem, z0, z1, z2]) rfl (by rw [HEO.out]; exact ⟨_, _, _, _, _, rfl, HBV.out, by rw [if_pos rfl]; exact ⟨x, HRR.out, HX8.out⟩⟩)
      · have HNZ : Hid (er ≠ 0) := hr
        rw [if_neg hr] at hc
        clear hr
        go_wp2_with fail
        refine hc.mono ?_
        rintro _ w8 ⟨rfl, hb8⟩
        have HB8 : Hid (Below w.heap.size w w8) := HB3.out.trans (hb8.mono HB3.out.size)
        have HG8 : Hid (w8.heap[w.heap.size + 1]? = some (.cells #[.int .i64 0, .int .i64 0, .slice none 0 0] 27)) := tbox_next HG3.out.2 hb8
        clear hc hb8 k0 k1 k2 l0 l1 l2
        have HGR := HG8.out
        have HV := set3_blk HGR (.int .i64 0) (.int .i64 0) (.slice none 0 0)
        have HBV : Hid (Below w.heap.size w (set3 w8 (w.heap.size + 1) (.int .i64 0) (.int .i64 0) (.slice none 0 0))) := set3_bel HB8.out (by omega)
        have r0 := tcell_blk HGR 0
        have r1 := tcell_blk HGR 1
        have r2 := tcell_blk HGR 2
        have f0 := tfrozen_blk HGR 0
        have f1 := tfrozen_blk HGR 1
        have f2 := tfrozen_blk HGR 2
        simp only [List.getElem?_toArray, List.getElem?_cons_zero, List.getElem?_cons_succ] at r0 r1 r2
        go_wp2_with fail
        rw [← set3_eq]
        generalize set3 w8 (w.heap.size + 1) (.int .i64 0) (.int .i64 0) (.slice none 0 0) = w9 at *
        have z0 := tcell_blk HV 0
        have z1 := tcell_blk HV 1
        have z2 := tcell_blk HV 2
        simp only [List.getElem?_toArray, List.getElem?_cons_zero, List.getElem?_cons_succ] at z0 z1 z2
        exact bodyPost_ret (v := .tuple #[.agg #[.int .i64 0, .int .i64 0, .slice none 0 0], .int .i64 er]) (by simp [results, Try.results17, go_sem, z0, z1, z2]) rfl (by rw [HEO.out]; exact OfQ.zero HNZ.out HBV.out)
  · have hb : (ee != 0) = true := by simp; exact hz
    have HEZ : Hid (ee ≠ 0 ∧ errO tt n ps l (built ps l) = ee) := ⟨hz, by rw [HERO.out, if_neg hz]⟩
    clear hz
    have HGR := HG2.out.2
    have HV := set3_blk HGR (.int .i64 0) (.int .i64 0) (.slice none 0 0)
    have HBV : Hid (Below w.heap.size w (set3 w2 (w.heap.size + 1) (.int .i64 0) (.int .i64 0) (.slice none 0 0))) := set3_bel HB2.out (by omega)
    have r0 := tcell_blk HGR 0
    have r1 := tcell_blk HGR 1
    have r2 := tcell_blk HGR 2
    have f0 := tfrozen_blk HGR 0
    have f1 := tfrozen_blk HGR 1
    have f2 := tfrozen_blk HGR 2
    simp only [List.getElem?_toArray, List.getElem?_cons_zero, List.getElem?_cons_succ] at r0 r1 r2
    go_wp2_with fail
    rw [← set3_eq]
    generalize set3 w2 (w.heap.size + 1) (.int .i64 0) (.int .i64 0) (.slice none 0 0) = w9 at *
    have z0 := tcell_blk HV 0
    have z1 := tcell_blk HV 1
    have z2 := tcell_blk HV 2
    simp only [List.getElem?_toArray, List.getElem?_cons_zero, List.getElem?_cons_succ] at z0 z1 z2
    exact bodyPost_ret (v := .tuple #[.agg #[.int .i64 0, .int .i64 0, .slice none 0 0], .int .i64 ee]) (by simp [results, Try.results17, go_sem, z0, z1, z2]) rfl (by rw [HEZ.out.2]; exact OfQ.zero HEZ.out.1 HBV.out)
end Go.Proofs.Ytldfiofgknmcgab
