/-
  The contract of pushref.OfEvents, of a right grammar.
-/
import Derived.Test.YtldfiofgknmcgaaTrOu
import Derived.Test.YtldfiofgknmcgaaTrOrd
import Derived.Test.YtldfiofgknmcgaaTrOfDown
import Derived.Test.YtldfiofgknmcgaaTrRTree
import Derived.Test.YtldfiofgknmcgaaFcMade
namespace Go.Proofs.Ytldfiofgknmcgaa
open Go.RowKit
open Cg

theorem Cg.body_le {t n : Int} {ps : List Pd} (h : chk t n ps = 0) (z : Nat) : (bodyOf ps (z : Int)).length ≤ 1000 := by
  obtain ⟨h0, h1, h2⟩ := chk_zero h
  unfold bodyOf
  rw [Int.toNat_natCast, List.getD_eq_getElem?_getD]
  by_cases hz : z < ps.length
  · rw [List.getElem?_eq_getElem hz]
    have := (chkP_zero (h2 _ (List.getElem_mem hz))).1
    show (ps[z]).2.length ≤ 1000
    omega
  · rw [List.getElem?_eq_none (by omega)]; simp
theorem ofD_none {ps : List Pd} {l : List Ev} (h : ¬ ord l ∨ NoD ps l (2, 0) 0) : ofD ps l = none := by
  cases e : ofD ps l with
  | none => rfl
  | some t =>
    obtain ⟨⟨h1, h2⟩, h3⟩ := ofD_iff.1 e
    rcases h with h | h
    · exact absurd (by unfold ord; rw [← h3, toks_evD]; exact h2) h
    · exact absurd (by rw [List.drop_zero, List.append_nil]; exact h3.symm) (h t h1 [])
theorem ofD_read {ps : List Pd} {l : List Ev} {t : T} (ho : ord l) (h : RdD ps l (2, 0) 0 t) : ofD ps l = if 0 + (evD t).length = l.length then some t else none := by
  obtain ⟨h1, h2⟩ := h
  rw [List.drop_zero, Nat.zero_add] at h2
  split
  · rename_i hl
    have h3 : l = evD t := by
      rw [h2]
      have : l.drop (evD t).length = [] := List.drop_eq_nil_of_le (by omega)
      rw [this]; simp
    refine ofD_iff.2 ⟨⟨h1, ?_⟩, h3.symm⟩
    unfold ord at ho
    rw [h3, toks_evD] at ho
    exact ho
  · rename_i hl
    cases e : ofD ps l with
    | none => rfl
    | some u =>
      obtain ⟨⟨k1, k2⟩, k3⟩ := ofD_iff.1 e
      have h4 : evD t ++ l.drop (evD t).length = evD u ++ [] := by rw [← h2, k3]; simp
      obtain ⟨rfl, h5⟩ := evD_one h1 k1 h4
      exact absurd (by rw [k3]; omega) hl
theorem built_none {ps : List Pd} {l : List Ev} (h : ¬ ord l ∨ NoU ps l (2, 0) l.length) : built ps l = none := by
  cases e : built ps l with
  | none => rfl
  | some t =>
    obtain ⟨⟨h1, h2⟩, h3⟩ := built_iff.1 e
    rcases h with h | h
    · exact absurd (by unfold ord; rw [← h3, toks_evU]; exact h2) h
    · exact absurd (by rw [List.take_length, List.nil_append]; exact h3.symm) (h t h1 [])
theorem built_read {ps : List Pd} {l : List Ev} {t : T} {a : Nat} (ho : ord l) (h : RdU ps l (2, 0) l.length t a) : built ps l = if a = 0 then some t else none := by
  obtain ⟨h1, h0, h2⟩ := h
  rw [List.take_length] at h2
  split
  · rename_i hl
    subst hl
    rw [List.take_zero, List.nil_append] at h2
    refine built_iff.2 ⟨⟨h1, ?_⟩, h2.symm⟩
    unfold ord at ho
    rw [h2, toks_evU] at ho
    exact ho
  · rename_i hl
    cases e : built ps l with
    | none => rfl
    | some u =>
      obtain ⟨⟨k1, k2⟩, k3⟩ := built_iff.1 e
      have h4 : l.take a ++ evU t = [] ++ evU u := by rw [← h2, k3]; simp
      obtain ⟨rfl, h5⟩ := evU_one t.sz (Nat.le_refl _) h1 k1 h4
      have := congrArg List.length h5
      rw [List.length_take] at this
      have h6 : min a l.length = 0 := by simpa using this
      omega
def ansO (ps : List Pd) (r : Option T) : Int := match r with
  | none => 4
  | some x => ((thr ps x (2, 0) 1 0 []).1 : Int)
theorem errO_right {tt n : Int} {ps : List Pd} {l : List Ev} (h : chk tt n ps = 0) (h2 : ¬ 2000 < l.length) (r : Option T) : errO tt n ps l r = ansO ps r := by
  unfold errO errE
  rw [if_pos h, if_neg h2, if_pos rfl]
  cases r with
  | none => rfl
  | some x => show errT tt n ps x = _; unfold errT; rw [if_pos h]; rfl
/-- The three boxes of OfEvents. -/
def BX3 (g : Nat) (tt n : Int) (ga : Option Addr) (gm gc : Nat) (p k : Int) (a : Option Addr) (m c : Nat) (W : World) : Prop := W.heap[g]? = some (.cells #[.int .i64 tt, .int .i64 n, .slice ga gm gc] 24) ∧ W.heap[g + 1]? = some (.cells #[.int .i64 0, .int .i64 0, .slice none 0 0] 27) ∧ W.heap[g + 2]? = some (.cells #[.int .i64 p, .int .i64 k, .slice a m c] 27)
theorem BX3.next {g : Nat} {tt n : Int} {ga : Option Addr} {gm gc : Nat} {p k : Int} {a : Option Addr} {m c : Nat} {W W' : World} (h : BX3 g tt n ga gm gc p k a m c W) (hb : Below W.heap.size W W') : BX3 g tt n ga gm gc p k a m c W' := ⟨tbox_next h.1 hb, tbox_next h.2.1 hb, tbox_next h.2.2 hb⟩
theorem BX3.put {g : Nat} {tt n : Int} {ga : Option Addr} {gm gc : Nat} {p k : Int} {a : Option Addr} {m c : Nat} {W : World} (h : BX3 g tt n ga gm gc p k a m c W) (p' k' : Int) (a' : Option Addr) (m' c' : Nat) : BX3 g tt n ga gm gc p' k' a' m' c' (set3 W (g + 2) (.int .i64 p') (.int .i64 k') (.slice a' m' c')) := ⟨by rw [set3_apart2 (by omega)]; exact h.1, by rw [set3_apart2 (by omega)]; exact h.2.1, set3_blk h.2.2 _ _ _⟩
set_option maxHeartbeats 16000000 in
set_option maxRecDepth 20000 in
theorem ROf_any (tt n : Int) (pv : Value) (ps : List Pd) (hchk : chk tt n ps = 0) (lv : Value) (l : List Ev) (down : Bool) (w : World) (hp : Pds w pv ps) (h : Evs w lv l) :
    Calls Try.prog 22 #[.agg #[.int .i64 tt, .int .i64 n, pv], lv, .bool down] w fun e w' => OfQ w (errO tt n ps l (if down = true then ofD ps l else built ps l)) (if down = true then ofD ps l else built ps l) e w' := by
  have HP : Hid (Pds w pv ps) := hp
  have HL : Hid (Evs w lv l) := h
  obtain ⟨ga, gc, rfl, -, -⟩ := hp
  obtain ⟨la, lc, rfl, hlm, -⟩ := h
  obtain ⟨gm, HGM⟩ : ∃ gm, Hid (ps.length = gm) := ⟨_, (rfl : ps.length = ps.length)⟩
  obtain ⟨ln, HLN⟩ : ∃ ln, Hid (l.length = ln) := ⟨_, (rfl : l.length = _)⟩
  have HCK : Hid (chk tt n ps = 0) := hchk
  have HBO : Hid (∀ z : Nat, (bodyOf ps (z : Int)).length ≤ 1000) := body_le hchk
  rw [HGM.out] at HP ⊢
  rw [HLN.out] at HL hlm ⊢
  obtain ⟨rr, HRR⟩ : ∃ rr, Hid ((if down = true then ofD ps l else built ps l) = rr) := ⟨_, (rfl : (if down = true then ofD ps l else built ps l) = _)⟩
  rw [HRR.out]
  obtain ⟨er, HER⟩ : ∃ er, Hid (errO tt n ps l rr = er) := ⟨_, (rfl : errO tt n ps l rr = _)⟩
  rw [HER.out]
  clear hchk
  have HB1 : Hid (Below w.heap.size w ((w.alloc (Obj.cells #[.int .i64 tt, .int .i64 n, .slice ga gm gc] 24)).alloc (Obj.cells #[.int .i64 0, .int .i64 0, .slice none 0 0] 27))) := below_alloc2 _ _ _
  have HG1 : Hid (((w.alloc (Obj.cells #[.int .i64 tt, .int .i64 n, .slice ga gm gc] 24)).alloc (Obj.cells #[.int .i64 0, .int .i64 0, .slice none 0 0] 27)).heap[w.heap.size]? = some (.cells #[.int .i64 tt, .int .i64 n, .slice ga gm gc] 24) ∧ ((w.alloc (Obj.cells #[.int .i64 tt, .int .i64 n, .slice ga gm gc] 24)).alloc (Obj.cells #[.int .i64 0, .int .i64 0, .slice none 0 0] 27)).heap[w.heap.size + 1]? = some (.cells #[.int .i64 0, .int .i64 0, .slice none 0 0] 27)) := by
    have g1 := heap_alloc_new (w.alloc (Obj.cells #[.int .i64 tt, .int .i64 n, .slice ga gm gc] 24)) (Obj.cells #[.int .i64 0, .int .i64 0, .slice none 0 0] 27)
    rw [show (w.alloc (Obj.cells #[.int .i64 tt, .int .i64 n, .slice ga gm gc] 24)).heap.size = w.heap.size + 1 by simp] at g1
    exact ⟨tbox_next (heap_alloc_new _ _) (below_alloc _ _), g1⟩
  have HSZ : Hid (((w.alloc (Obj.cells #[.int .i64 tt, .int .i64 n, .slice ga gm gc] 24)).alloc (Obj.cells #[.int .i64 0, .int .i64 0, .slice none 0 0] 27)).heap.size = w.heap.size + 2) := by show _ = _; simp
  go_enter Try.func22, Try.ntmps22
  go_upto_region 1 with fail
  generalize ((w.alloc (Obj.cells #[.int .i64 tt, .int .i64 n, .slice ga gm gc] 24)).alloc (Obj.cells #[.int .i64 0, .int .i64 0, .slice none 0 0] 27)) = w1 at HB1 HG1 HSZ ⊢
  by_cases hl2 : 2000 < ln
  · have hl3 : (2000 : Int) < (ln : Int) := by omega
    have HZ : Hid (er = 2) := by
      show _ = _
      rw [← HER.out]; unfold errO errE
      rw [HCK.out, HLN.out]; simp [hl2]
    obtain rfl := HZ.out
    have HGR := HG1.out.2
    have HV := set3_blk HGR (.int .i64 0) (.int .i64 0) (.slice none 0 0)
    have HBV : Hid (Below w.heap.size w (set3 w1 (w.heap.size + 1) (.int .i64 0) (.int .i64 0) (.slice none 0 0))) := set3_bel HB1.out (by omega)
    have r0 := tcell_blk HGR 0
    have r1 := tcell_blk HGR 1
    have r2 := tcell_blk HGR 2
    have f0 := tfrozen_blk HGR 0
    have f1 := tfrozen_blk HGR 1
    have f2 := tfrozen_blk HGR 2
    simp only [List.getElem?_toArray, List.getElem?_cons_zero, List.getElem?_cons_succ] at r0 r1 r2
    go_wp2_with fail
    rw [← set3_eq]
    generalize set3 w1 (w.heap.size + 1) (.int .i64 0) (.int .i64 0) (.slice none 0 0) = w9 at *
    have z0 := tcell_blk HV 0
    have z1 := tcell_blk HV 1
    have z2 := tcell_blk HV 2
    simp only [List.getElem?_toArray, List.getElem?_cons_zero, List.getElem?_cons_succ] at z0 z1 z2
    exact bodyPost_ret (v := .tuple #[.agg #[.int .i64 0, .int .i64 0, .slice none 0 0], .int .i64 2]) (by simp [results, Try.results22, go_sem, z0, z1, z2]) rfl (OfQ.zero (by decide) HBV.out)
  · have hl3 : ¬ (2000 : Int) < (ln : Int) := by omega
    have HEO : Hid (er = ansO ps rr) := HER.out.symm.trans (errO_right HCK.out (by rw [HLN.out]; exact hl2) rr)
    have hl4 : l.length ≤ 100000 := by rw [HLN.out]; omega
    have HL4 : Hid (l.length ≤ 100000) := hl4
    have HB2 : Hid (Below w.heap.size w (w1.alloc (Obj.cells #[.int .i64 0, .int .i64 0, .slice none 0 0] 27))) := HB1.out.trans ((below_alloc _ _).mono HB1.out.size)
    have HG2 : Hid (BX3 (w.heap.size) tt n ga gm gc 0 0 none 0 0 (w1.alloc (Obj.cells #[.int .i64 0, .int .i64 0, .slice none 0 0] 27))) := by
      refine ⟨tbox_next HG1.out.1 (below_alloc _ _), tbox_next HG1.out.2 (below_alloc _ _), ?_⟩
      rw [← HSZ.out]; exact heap_alloc_new _ _
    go_upto_region 4 with fail
    rw [HSZ.out]
    generalize w1.alloc (Obj.cells #[.int .i64 0, .int .i64 0, .slice none 0 0] 27) = w2 at HB2 HG2 ⊢
    obtain ⟨g, HGG⟩ : ∃ g, Hid (w.heap.size = g) := ⟨_, (rfl : w.heap.size = w.heap.size)⟩
    rw [HGG.out] at HG2 ⊢
    clear HB1 HG1 HSZ hlm
    have hc := inOrder_any _ l w2 (HL.out.below HB2.out) hl4
    go_wp2_with fail
    refine hc.mono ?_
    rintro _ w3 ⟨bo, rfl, HBO2, hb3⟩
    replace HBO2 : Hid (bo = true ↔ ord l) := HBO2
    have HB3 : Hid (Below w.heap.size w w3) := HB2.out.trans (hb3.mono HB2.out.size)
    have HG3 : Hid (BX3 g tt n ga gm gc 0 0 none 0 0 w3) := HG2.out.next hb3
    clear hc hb3 HB2 HG2 hl4
    have HZN : Hid (rr = none → er = 4) := fun e => by rw [HEO.out, e]; rfl
    cases bo with
    | false =>
      have hno : ¬ ord l := fun h => by have := HBO2.out.2 h; cases this
      have HRN : Hid (rr = none) := by
        show _ = _
        rw [← HRR.out]
        split
        · exact ofD_none (Or.inl hno)
        · exact built_none (Or.inl hno)
      have HE4 := HZN.out HRN.out
      subst HE4
      have HGR := HG3.out.2.1
      have HV := set3_blk HGR (.int .i64 0) (.int .i64 0) (.slice none 0 0)
      have HBV : Hid (Below w.heap.size w (set3 w3 (g + 1) (.int .i64 0) (.int .i64 0) (.slice none 0 0))) := set3_bel HB3.out (by have := HGG.out; omega)
      have r0 := tcell_blk HGR 0
      have r1 := tcell_blk HGR 1
      have r2 := tcell_blk HGR 2
      have f0 := tfrozen_blk HGR 0
      have f1 := tfrozen_blk HGR 1
      have f2 := tfrozen_blk HGR 2
      simp only [List.getElem?_toArray, List.getElem?_cons_zero, List.getElem?_cons_succ] at r0 r1 r2
      go_wp2_with fail
      rw [← set3_eq]
      generalize set3 w3 (g + 1) (.int .i64 0) (.int .i64 0) (.slice none 0 0) = w9 at *
      have z0 := tcell_blk HV 0
      have z1 := tcell_blk HV 1
      have z2 := tcell_blk HV 2
      simp only [List.getElem?_toArray, List.getElem?_cons_zero, List.getElem?_cons_succ] at z0 z1 z2
      exact bodyPost_ret (v := .tuple #[.agg #[.int .i64 0, .int .i64 0, .slice none 0 0], .int .i64 4]) (by simp [results, Try.results22, go_sem, z0, z1, z2]) rfl (OfQ.zero (by decide) HBV.out)
    | true =>
      have HORD : Hid (ord l) := HBO2.out.1 rfl
      have k0 := tcell_blk HG3.out.1 0
      have k1 := tcell_blk HG3.out.1 1
      have k2 := tcell_blk HG3.out.1 2
      have t0 := tcell_blk HG3.out.2.2 0
      have t1 := tcell_blk HG3.out.2.2 1
      have t2 := tcell_blk HG3.out.2.2 2
      have ft0 := tfrozen_blk HG3.out.2.2 0
      have ft1 := tfrozen_blk HG3.out.2.2 1
      have ft2 := tfrozen_blk HG3.out.2.2 2
      simp only [List.getElem?_toArray, List.getElem?_cons_zero, List.getElem?_cons_succ] at k0 k1 k2 t0 t1 t2
      cases down with
      | true =>
        have HRD : Hid (ofD ps l = rr) := by show _ = _; have := HRR.out; simpa using this
        have hc := ofDown_all ps l HL4.out tt n (l.length + 1 - 0) 0 (Nat.le_refl _) (Nat.zero_le _) _ _ 2 0 w3 (HP.out.below HB3.out) (HL.out.below HB3.out)
        rw [show ((0 : Nat) : Int) = 0 from rfl] at hc
        go_wp2_with fail
        refine hc.mono ?_
        rintro _ w4 ⟨tp, tk0, ta, tm, tc, r4, rfl, hb4, hq4⟩
        have HB5 : Hid (Below w.heap.size w (set3 w4 (g + 2) (.int .i64 tp) (.int .i64 tk0) (.slice ta tm tc))) := set3_bel (HB3.out.trans (hb4.mono HB3.out.size)) (by have := HGG.out; omega)
        have HG5 : Hid (BX3 g tt n ga gm gc tp tk0 ta tm tc (set3 w4 (g + 2) (.int .i64 tp) (.int .i64 tk0) (.slice ta tm tc))) := (HG3.out.next hb4).put _ _ _ _ _
        have HS3 : Hid (g + 2 < w3.heap.size) := heap_lt3 HG3.out.2.2
        have u0 := tcell_blk (tbox_next HG3.out.2.2 hb4) 0
        have u1 := tcell_blk (tbox_next HG3.out.2.2 hb4) 1
        have u2 := tcell_blk (tbox_next HG3.out.2.2 hb4) 2
        have fu0 := tfrozen_blk (tbox_next HG3.out.2.2 hb4) 0
        have fu1 := tfrozen_blk (tbox_next HG3.out.2.2 hb4) 1
        have fu2 := tfrozen_blk (tbox_next HG3.out.2.2 hb4) 2
        simp only [List.getElem?_toArray, List.getElem?_cons_zero, List.getElem?_cons_succ] at u0 u1 u2
        clear hc k0 k1 k2 t0 t1 t2 ft0 ft1 ft2
        go_upto_region 8 with fail
        rw [← set3_eq]
        clear u0 u1 u2 fu0 fu1 fu2
        rcases hq4 with ⟨x, hrd, rfl, hxt⟩ | ⟨rfl, -, hno⟩
        · have HX5 : Hid (Tx (set3 w4 (g + 2) (.int .i64 tp) (.int .i64 tk0) (.slice ta tm tc)) (fun b => g + 2 < b) (.agg #[.int .i64 tp, .int .i64 tk0, .slice ta tm tc]) x) := (hxt.next (w' := set3 w4 (g + 2) (.int .i64 tp) (.int .i64 tk0) (.slice ta tm tc)) (fun b _ hp => set3_apart2 (by have hp2 : w3.heap.size ≤ b := hp; have := HS3.out; omega)) (by simp [set3, World.setCell])).mono fun b _ hp => by have hp2 : w3.heap.size ≤ b := hp; have := HS3.out; omega
          have hrs := ofD_read HORD.out hrd
          rw [HRD.out, HLN.out] at hrs
          obtain ⟨a, HA⟩ : ∃ a, Hid (0 + (evD x).length = a) := ⟨_, (rfl : 0 + (evD x).length = _)⟩
          rw [HA.out] at hrs ⊢
          generalize set3 w4 (g + 2) (.int .i64 tp) (.int .i64 tk0) (.slice ta tm tc) = w5 at HB5 HG5 HX5 ⊢
          have HXT : Hid (Tx w5 (fun b => g + 2 < b) (.agg #[.int .i64 tp, .int .i64 tk0, .slice ta tm tc]) x) := HX5.out
          clear hxt hrd hb4 HX5
          by_cases ha : a = ln
          · rw [if_pos ha] at hrs
            have HRS : Hid (rr = some x) := hrs
            subst ha
            clear hrs
            have hbq : ((a : Int) == (a : Int)) = true := by simp
            have HEX : Hid (er = ((thr ps x (2, 0) 1 0 []).1 : Int)) := by show _ = _; rw [HEO.out, HRS.out]; rfl
            have hc := RTree_any tt n _ ps (.agg #[.int .i64 tp, .int .i64 tk0, .slice ta tm tc]) x _ w5 (HP.out.below HB5.out) HXT.out
            rw [← HEX.out] at hc
            have k0 := tcell_blk HG5.out.1 0
            have k1 := tcell_blk HG5.out.1 1
            have k2 := tcell_blk HG5.out.1 2
            have t0 := tcell_blk HG5.out.2.2 0
            have t1 := tcell_blk HG5.out.2.2 1
            have t2 := tcell_blk HG5.out.2.2 2
            simp only [List.getElem?_toArray, List.getElem?_cons_zero, List.getElem?_cons_succ] at k0 k1 k2 t0 t1 t2
            go_wp2_with fail
            refine hc.mono ?_
            rintro _ w8 ⟨rfl, hb8⟩
            have HB8 : Hid (Below w.heap.size w w8) := HB5.out.trans (hb8.mono HB5.out.size)
            have HG8 : Hid (BX3 g tt n ga gm gc tp tk0 ta tm tc w8) := HG5.out.next hb8
            have HX8 : Hid (Tx w8 (fun b => g + 2 < b) (.agg #[.int .i64 tp, .int .i64 tk0, .slice ta tm tc]) x) := HXT.out.bel hb8
            clear hc hb8 k0 k1 k2 t0 t1 t2 HB5 HG5 HXT
            have t0 := tcell_blk HG8.out.2.2 0
            have t1 := tcell_blk HG8.out.2.2 1
            have t2 := tcell_blk HG8.out.2.2 2
            simp only [List.getElem?_toArray, List.getElem?_cons_zero, List.getElem?_cons_succ] at t0 t1 t2
            by_cases h0 : er = 0
            · subst h0
              have HX9 : Hid (Tx (set3 w8 (g + 1) (.int .i64 tp) (.int .i64 tk0) (.slice ta tm tc)) (fun b => w.heap.size ≤ b) (.agg #[.int .i64 tp, .int .i64 tk0, .slice ta tm tc]) x) := by
                refine (HX8.out.next (w' := set3 w8 (g + 1) (.int .i64 tp) (.int .i64 tk0) (.slice ta tm tc)) (fun b _ hp => set3_apart2 (by have hp2 : g + 2 < b := hp; omega)) (by simp [set3, World.setCell])).mono fun b _ hp => by have := HGG.out; have hp2 : g + 2 < b := hp; omega
              have HGR := HG8.out.2.1
              have HV := set3_blk HGR (.int .i64 tp) (.int .i64 tk0) (.slice ta tm tc)
              have HBV : Hid (Below w.heap.size w (set3 w8 (g + 1) (.int .i64 tp) (.int .i64 tk0) (.slice ta tm tc))) := set3_bel HB8.out (by have := HGG.out; omega)
              have r0 := tcell_blk HGR 0
              have r1 := tcell_blk HGR 1
              have r2 := tcell_blk HGR 2
              have f0 := tfrozen_blk HGR 0
              have f1 := tfrozen_blk HGR 1
              have f2 := tfrozen_blk HGR 2
              simp only [List.getElem?_toArray, List.getElem?_cons_zero, List.getElem?_cons_succ] at r0 r1 r2
              go_wp2_with fail
              rw [← set3_eq]
              generalize set3 w8 (g + 1) (.int .i64 tp) (.int .i64 tk0) (.slice ta tm tc) = w9 at *
              have z0 := tcell_blk HV 0
              have z1 := tcell_blk HV 1
              have z2 := tcell_blk HV 2
              simp only [List.getElem?_toArray, List.getElem?_cons_zero, List.getElem?_cons_succ] at z0 z1 z2
              exact bodyPost_ret (v := .tuple #[.agg #[.int .i64 tp, .int .i64 tk0, .slice ta tm tc], .int .i64 0]) (by simp [results, Try.results22, go_sem, z0, z1, z2]) rfl ⟨_, _, _, _, _, rfl, HBV.out, by rw [if_pos rfl]; exact ⟨_, HRS.out, HX9.out⟩⟩
            · have HNZ : Hid (er ≠ 0) := h0
              have hb0 : (er != 0) = true := by simp; exact h0
              clear h0
              have HGR := HG8.out.2.1
              have HV := set3_blk HGR (.int .i64 0) (.int .i64 0) (.slice none 0 0)
              have HBV : Hid (Below w.heap.size w (set3 w8 (g + 1) (.int .i64 0) (.int .i64 0) (.slice none 0 0))) := set3_bel HB8.out (by have := HGG.out; omega)
              have r0 := tcell_blk HGR 0
              have r1 := tcell_blk HGR 1
              have r2 := tcell_blk HGR 2
              have f0 := tfrozen_blk HGR 0
              have f1 := tfrozen_blk HGR 1
              have f2 := tfrozen_blk HGR 2
              simp only [List.getElem?_toArray, List.getElem?_cons_zero, List.getElem?_cons_succ] at r0 r1 r2
              go_wp2_with fail
              rw [← set3_eq]
              generalize set3 w8 (g + 1) (.int .i64 0) (.int .i64 0) (.slice none 0 0) = w9 at *
              have z0 := tcell_blk HV 0
              have z1 := tcell_blk HV 1
              have z2 := tcell_blk HV 2
              simp only [List.getElem?_toArray, List.getElem?_cons_zero, List.getElem?_cons_succ] at z0 z1 z2
              exact bodyPost_ret (v := .tuple #[.agg #[.int .i64 0, .int .i64 0, .slice none 0 0], .int .i64 er]) (by simp [results, Try.results22, go_sem, z0, z1, z2]) rfl (OfQ.zero HNZ.out HBV.out)
          · rw [if_neg ha] at hrs
            have HRN : Hid (rr = none) := hrs
            have hbq : ((a : Int) == (ln : Int)) = false := by simp; omega
            clear hrs ha HXT
            have HE4 := HZN.out HRN.out
            subst HE4
            have HGR := HG5.out.2.1
            have HV := set3_blk HGR (.int .i64 0) (.int .i64 0) (.slice none 0 0)
            have HBV : Hid (Below w.heap.size w (set3 w5 (g + 1) (.int .i64 0) (.int .i64 0) (.slice none 0 0))) := set3_bel HB5.out (by have := HGG.out; omega)
            have r0 := tcell_blk HGR 0
            have r1 := tcell_blk HGR 1
            have r2 := tcell_blk HGR 2
            have f0 := tfrozen_blk HGR 0
            have f1 := tfrozen_blk HGR 1
            have f2 := tfrozen_blk HGR 2
            simp only [List.getElem?_toArray, List.getElem?_cons_zero, List.getElem?_cons_succ] at r0 r1 r2
            go_wp2_with fail
            rw [← set3_eq]
            generalize set3 w5 (g + 1) (.int .i64 0) (.int .i64 0) (.slice none 0 0) = w9 at *
            have z0 := tcell_blk HV 0
            have z1 := tcell_blk HV 1
            have z2 := tcell_blk HV 2
            simp only [List.getElem?_toArray, List.getElem?_cons_zero, List.getElem?_cons_succ] at z0 z1 z2
            exact bodyPost_ret (v := .tuple #[.agg #[.int .i64 0, .int .i64 0, .slice none 0 0], .int .i64 4]) (by simp [results, Try.results22, go_sem, z0, z1, z2]) rfl (OfQ.zero (by decide) HBV.out)
        · generalize set3 w4 (g + 2) (.int .i64 tp) (.int .i64 tk0) (.slice ta tm tc) = w5 at HB5 HG5 ⊢
          have HRN : Hid (rr = none) := by show _ = _; rw [← HRD.out]; exact ofD_none (Or.inr hno)
          have hbq : ((-1 : Int) == (ln : Int)) = false := by first | (simp; done) | (simp; omega)
          clear hno hb4
          have HE4 := HZN.out HRN.out
          subst HE4
          have HGR := HG5.out.2.1
          have HV := set3_blk HGR (.int .i64 0) (.int .i64 0) (.slice none 0 0)
          have HBV : Hid (Below w.heap.size w (set3 w5 (g + 1) (.int .i64 0) (.int .i64 0) (.slice none 0 0))) := set3_bel HB5.out (by have := HGG.out; omega)
          have r0 := tcell_blk HGR 0
          have r1 := tcell_blk HGR 1
          have r2 := tcell_blk HGR 2
          have f0 := tfrozen_blk HGR 0
          have f1 := tfrozen_blk HGR 1
          have f2 := tfrozen_blk HGR 2
          simp only [List.getElem?_toArray, List.getElem?_cons_zero, List.getElem?_cons_succ] at r0 r1 r2
          go_wp2_with fail
          rw [← set3_eq]
          generalize set3 w5 (g + 1) (.int .i64 0) (.int .i64 0) (.slice none 0 0) = w9 at *
          have z0 := tcell_blk HV 0
          have z1 := tcell_blk HV 1
          have z2 := tcell_blk HV 2
          simp only [List.getElem?_toArray, List.getElem?_cons_zero, List.getElem?_cons_succ] at z0 z1 z2
          exact bodyPost_ret (v := .tuple #[.agg #[.int .i64 0, .int .i64 0, .slice none 0 0], .int .i64 4]) (by simp [results, Try.results22, go_sem, z0, z1, z2]) rfl (OfQ.zero (by decide) HBV.out)
      | false =>
        have HRD : Hid (built ps l = rr) := by show _ = _; have := HRR.out; simpa using this
        have hc := ofUp_all ps HBO.out l HL4.out tt n l.length l.length (Nat.le_refl _) (Nat.le_refl _) _ _ 2 0 w3 (HP.out.below HB3.out) (HL.out.below HB3.out)
        rw [HLN.out] at hc
        go_wp2_with fail
        refine hc.mono ?_
        rintro _ w4 ⟨tp, tk0, ta, tm, tc, r4, rfl, hb4, hq4⟩
        have HB5 : Hid (Below w.heap.size w (set3 w4 (g + 2) (.int .i64 tp) (.int .i64 tk0) (.slice ta tm tc))) := set3_bel (HB3.out.trans (hb4.mono HB3.out.size)) (by have := HGG.out; omega)
        have HG5 : Hid (BX3 g tt n ga gm gc tp tk0 ta tm tc (set3 w4 (g + 2) (.int .i64 tp) (.int .i64 tk0) (.slice ta tm tc))) := (HG3.out.next hb4).put _ _ _ _ _
        have HS3 : Hid (g + 2 < w3.heap.size) := heap_lt3 HG3.out.2.2
        have u0 := tcell_blk (tbox_next HG3.out.2.2 hb4) 0
        have u1 := tcell_blk (tbox_next HG3.out.2.2 hb4) 1
        have u2 := tcell_blk (tbox_next HG3.out.2.2 hb4) 2
        have fu0 := tfrozen_blk (tbox_next HG3.out.2.2 hb4) 0
        have fu1 := tfrozen_blk (tbox_next HG3.out.2.2 hb4) 1
        have fu2 := tfrozen_blk (tbox_next HG3.out.2.2 hb4) 2
        simp only [List.getElem?_toArray, List.getElem?_cons_zero, List.getElem?_cons_succ] at u0 u1 u2
        clear hc k0 k1 k2 t0 t1 t2 ft0 ft1 ft2
        go_upto_region 12 with fail
        rw [← set3_eq]
        clear u0 u1 u2 fu0 fu1 fu2
        rcases hq4 with ⟨x, a, hrd, rfl, hxt⟩ | ⟨rfl, -, hno⟩
        · have HX5 : Hid (Tx (set3 w4 (g + 2) (.int .i64 tp) (.int .i64 tk0) (.slice ta tm tc)) (fun b => g + 2 < b) (.agg #[.int .i64 tp, .int .i64 tk0, .slice ta tm tc]) x) := (hxt.next (w' := set3 w4 (g + 2) (.int .i64 tp) (.int .i64 tk0) (.slice ta tm tc)) (fun b _ hp => set3_apart2 (by have hp2 : w3.heap.size ≤ b := hp; have := HS3.out; omega)) (by simp [set3, World.setCell])).mono fun b _ hp => by have hp2 : w3.heap.size ≤ b := hp; have := HS3.out; omega
          have hrs := built_read HORD.out (by rw [HLN.out]; exact hrd)
          rw [HRD.out] at hrs
          generalize set3 w4 (g + 2) (.int .i64 tp) (.int .i64 tk0) (.slice ta tm tc) = w5 at HB5 HG5 HX5 ⊢
          have HXT : Hid (Tx w5 (fun b => g + 2 < b) (.agg #[.int .i64 tp, .int .i64 tk0, .slice ta tm tc]) x) := HX5.out
          clear hxt hrd hb4 HX5
          by_cases ha : a = 0
          · rw [if_pos ha] at hrs
            have HRS : Hid (rr = some x) := hrs
            subst ha
            clear hrs
            have hbq : (((0 : Nat) : Int) == 0) = true := by simp
            have HEX : Hid (er = ((thr ps x (2, 0) 1 0 []).1 : Int)) := by show _ = _; rw [HEO.out, HRS.out]; rfl
            have hc := RTree_any tt n _ ps (.agg #[.int .i64 tp, .int .i64 tk0, .slice ta tm tc]) x _ w5 (HP.out.below HB5.out) HXT.out
            rw [← HEX.out] at hc
            have k0 := tcell_blk HG5.out.1 0
            have k1 := tcell_blk HG5.out.1 1
            have k2 := tcell_blk HG5.out.1 2
            have t0 := tcell_blk HG5.out.2.2 0
            have t1 := tcell_blk HG5.out.2.2 1
            have t2 := tcell_blk HG5.out.2.2 2
            simp only [List.getElem?_toArray, List.getElem?_cons_zero, List.getElem?_cons_succ] at k0 k1 k2 t0 t1 t2
            go_wp2_with fail
            refine hc.mono ?_
            rintro _ w8 ⟨rfl, hb8⟩
            have HB8 : Hid (Below w.heap.size w w8) := HB5.out.trans (hb8.mono HB5.out.size)
            have HG8 : Hid (BX3 g tt n ga gm gc tp tk0 ta tm tc w8) := HG5.out.next hb8
            have HX8 : Hid (Tx w8 (fun b => g + 2 < b) (.agg #[.int .i64 tp, .int .i64 tk0, .slice ta tm tc]) x) := HXT.out.bel hb8
            clear hc hb8 k0 k1 k2 t0 t1 t2 HB5 HG5 HXT
            have t0 := tcell_blk HG8.out.2.2 0
            have t1 := tcell_blk HG8.out.2.2 1
            have t2 := tcell_blk HG8.out.2.2 2
            simp only [List.getElem?_toArray, List.getElem?_cons_zero, List.getElem?_cons_succ] at t0 t1 t2
            by_cases h0 : er = 0
            · subst h0
              have HX9 : Hid (Tx (set3 w8 (g + 1) (.int .i64 tp) (.int .i64 tk0) (.slice ta tm tc)) (fun b => w.heap.size ≤ b) (.agg #[.int .i64 tp, .int .i64 tk0, .slice ta tm tc]) x) := by
                refine (HX8.out.next (w' := set3 w8 (g + 1) (.int .i64 tp) (.int .i64 tk0) (.slice ta tm tc)) (fun b _ hp => set3_apart2 (by have hp2 : g + 2 < b := hp; omega)) (by simp [set3, World.setCell])).mono fun b _ hp => by have := HGG.out; have hp2 : g + 2 < b := hp; omega
              have HGR := HG8.out.2.1
              have HV := set3_blk HGR (.int .i64 tp) (.int .i64 tk0) (.slice ta tm tc)
              have HBV : Hid (Below w.heap.size w (set3 w8 (g + 1) (.int .i64 tp) (.int .i64 tk0) (.slice ta tm tc))) := set3_bel HB8.out (by have := HGG.out; omega)
              have r0 := tcell_blk HGR 0
              have r1 := tcell_blk HGR 1
              have r2 := tcell_blk HGR 2
              have f0 := tfrozen_blk HGR 0
              have f1 := tfrozen_blk HGR 1
              have f2 := tfrozen_blk HGR 2
              simp only [List.getElem?_toArray, List.getElem?_cons_zero, List.getElem?_cons_succ] at r0 r1 r2
              go_wp2_with fail
              rw [← set3_eq]
              generalize set3 w8 (g + 1) (.int .i64 tp) (.int .i64 tk0) (.slice ta tm tc) = w9 at *
              have z0 := tcell_blk HV 0
              have z1 := tcell_blk HV 1
              have z2 := tcell_blk HV 2
              simp only [List.getElem?_toArray, List.getElem?_cons_zero, List.getElem?_cons_succ] at z0 z1 z2
              exact bodyPost_ret (v := .tuple #[.agg #[.int .i64 tp, .int .i64 tk0, .slice ta tm tc], .int .i64 0]) (by simp [results, Try.results22, go_sem, z0, z1, z2]) rfl ⟨_, _, _, _, _, rfl, HBV.out, by rw [if_pos rfl]; exact ⟨_, HRS.out, HX9.out⟩⟩
            · have HNZ : Hid (er ≠ 0) := h0
              have hb0 : (er != 0) = true := by simp; exact h0
              clear h0
              have HGR := HG8.out.2.1
              have HV := set3_blk HGR (.int .i64 0) (.int .i64 0) (.slice none 0 0)
              have HBV : Hid (Below w.heap.size w (set3 w8 (g + 1) (.int .i64 0) (.int .i64 0) (.slice none 0 0))) := set3_bel HB8.out (by have := HGG.out; omega)
              have r0 := tcell_blk HGR 0
              have r1 := tcell_blk HGR 1
              have r2 := tcell_blk HGR 2
              have f0 := tfrozen_blk HGR 0
              have f1 := tfrozen_blk HGR 1
              have f2 := tfrozen_blk HGR 2
              simp only [List.getElem?_toArray, List.getElem?_cons_zero, List.getElem?_cons_succ] at r0 r1 r2
              go_wp2_with fail
              rw [← set3_eq]
              generalize set3 w8 (g + 1) (.int .i64 0) (.int .i64 0) (.slice none 0 0) = w9 at *
              have z0 := tcell_blk HV 0
              have z1 := tcell_blk HV 1
              have z2 := tcell_blk HV 2
              simp only [List.getElem?_toArray, List.getElem?_cons_zero, List.getElem?_cons_succ] at z0 z1 z2
              exact bodyPost_ret (v := .tuple #[.agg #[.int .i64 0, .int .i64 0, .slice none 0 0], .int .i64 er]) (by simp [results, Try.results22, go_sem, z0, z1, z2]) rfl (OfQ.zero HNZ.out HBV.out)
          · rw [if_neg ha] at hrs
            have HRN : Hid (rr = none) := hrs
            have hbq : ((a : Int) == 0) = false := by simp; omega
            clear hrs ha HXT
            have HE4 := HZN.out HRN.out
            subst HE4
            have HGR := HG5.out.2.1
            have HV := set3_blk HGR (.int .i64 0) (.int .i64 0) (.slice none 0 0)
            have HBV : Hid (Below w.heap.size w (set3 w5 (g + 1) (.int .i64 0) (.int .i64 0) (.slice none 0 0))) := set3_bel HB5.out (by have := HGG.out; omega)
            have r0 := tcell_blk HGR 0
            have r1 := tcell_blk HGR 1
            have r2 := tcell_blk HGR 2
            have f0 := tfrozen_blk HGR 0
            have f1 := tfrozen_blk HGR 1
            have f2 := tfrozen_blk HGR 2
            simp only [List.getElem?_toArray, List.getElem?_cons_zero, List.getElem?_cons_succ] at r0 r1 r2
            go_wp2_with fail
            rw [← set3_eq]
            generalize set3 w5 (g + 1) (.int .i64 0) (.int .i64 0) (.slice none 0 0) = w9 at *
            have z0 := tcell_blk HV 0
            have z1 := tcell_blk HV 1
            have z2 := tcell_blk HV 2
            simp only [List.getElem?_toArray, List.getElem?_cons_zero, List.getElem?_cons_succ] at z0 z1 z2
            exact bodyPost_ret (v := .tuple #[.agg #[.int .i64 0, .int .i64 0, .slice none 0 0], .int .i64 4]) (by simp [results, Try.results22, go_sem, z0, z1, z2]) rfl (OfQ.zero (by decide) HBV.out)
        · generalize set3 w4 (g + 2) (.int .i64 tp) (.int .i64 tk0) (.slice ta tm tc) = w5 at HB5 HG5 ⊢
          have HRN : Hid (rr = none) := by show _ = _; rw [← HRD.out]; exact built_none (Or.inr (by rw [HLN.out]; exact hno))
          have hbq : ((-1 : Int) == 0) = false := rfl
          clear hno hb4
          have HE4 := HZN.out HRN.out
          subst HE4
          have HGR := HG5.out.2.1
          have HV := set3_blk HGR (.int .i64 0) (.int .i64 0) (.slice none 0 0)
          have HBV : Hid (Below w.heap.size w (set3 w5 (g + 1) (.int .i64 0) (.int .i64 0) (.slice none 0 0))) := set3_bel HB5.out (by have := HGG.out; omega)
          have r0 := tcell_blk HGR 0
          have r1 := tcell_blk HGR 1
          have r2 := tcell_blk HGR 2
          have f0 := tfrozen_blk HGR 0
          have f1 := tfrozen_blk HGR 1
          have f2 := tfrozen_blk HGR 2
          simp only [List.getElem?_toArray, List.getElem?_cons_zero, List.getElem?_cons_succ] at r0 r1 r2
          go_wp2_with fail
          rw [← set3_eq]
          generalize set3 w5 (g + 1) (.int .i64 0) (.int .i64 0) (.slice none 0 0) = w9 at *
          have z0 := tcell_blk HV 0
          have z1 := tcell_blk HV 1
          have z2 := tcell_blk HV 2
          simp only [List.getElem?_toArray, List.getElem?_cons_zero, List.getElem?_cons_succ] at z0 z1 z2
          exact bodyPost_ret (v := .tuple #[.agg #[.int .i64 0, .int .i64 0, .slice none 0 0], .int .i64 4]) (by simp [results, Try.results22, go_sem, z0, z1, z2]) rfl (OfQ.zero (by decide) HBV.out)
end Go.Proofs.Ytldfiofgknmcgaa
