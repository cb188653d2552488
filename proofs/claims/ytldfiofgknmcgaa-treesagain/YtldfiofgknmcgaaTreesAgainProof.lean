/-
  TreesAgain returns true whatever grammar and events are handed in, and changes nothing that it was handed; no condition.
-/
import Derived.Test.YtldfiofgknmcgaaRows
import Derived.WalkKit
import Derived.ProofKit
import Derived.OpenShut
import Derived.ShutString
import Derived.SizedLaws
import Derived.ChangeOld
import Derived.Below
import Derived.Carry
import Derived.WalkLawsBesides
import Derived.WalkSpells
import Derived.Test.YtldfiofgknmcgaaOpens
import Derived.Deep.Cut
import Derived.Test.YtldfiofgknmcgaaTrOfDown
import Derived.Test.YtldfiofgknmcgaaTrSame
import Derived.Test.YtldfiofgknmcgaaFcBrack
import Derived.Test.YtldfiofgknmcgaaTrRYield
namespace Go.Proofs.Ytldfiofgknmcgaa.treesAgain
open Go.ChangeShapes Go.WideShapes Go.ChangeAt Go.RowKit
open Go.ChangeMaps (open_string shut_string)
open Cg
set_option linter.unusedVariables false

theorem own : ownKnob Try.prog.godebug = none := by kernel_rfl
theorem laidOut : laidOutB Try.prog = true := by kernel_rfl
theorem brs_of : errO 2 1 brs [(4, 0)] (built brs [(4, 0)]) = 0 ∧ built brs [(4, 0)] = some (.mk 0 0 []) := by
  have h : built brs [(4, 0)] = some (.mk 0 0 []) := built_iff.2 ⟨⟨by decide +kernel, by decide +kernel⟩, by simp [evU, evUL]⟩
  refine ⟨?_, h⟩
  have hE : errE 2 1 brs [(4, 0)] = 0 := by decide +kernel
  unfold errO
  rw [hE, if_pos rfl, h]
  show errT 2 1 brs (.mk 0 0 []) = 0
  decide +kernel
mutual
theorem evU_kind : ∀ (t : T), ∀ e ∈ evU t, e.1 = 2 ∨ e.1 = 4
  | .mk p k l => by
    rw [evU]
    split
    · intro e he; simp at he; subst he; exact Or.inl rfl
    · intro e he
      rcases List.mem_append.1 he with h | h
      · exact evUL_kind l e h
      · simp at h; subst h; exact Or.inr rfl
theorem evUL_kind : ∀ (l : List T), ∀ e ∈ evUL l, e.1 = 2 ∨ e.1 = 4
  | [] => by intro e he; simp [evUL] at he
  | t :: l => by
    intro e he
    rw [evUL] at he
    rcases List.mem_append.1 he with h | h
    · exact evU_kind t e h
    · exact evUL_kind l e h
end
theorem evs_apart {ps : List Pd} {x y : T} (h : sh ps x (2, 0) = true) (e : evD x = evU y) : False := by
  obtain ⟨p, k, l⟩ := x
  obtain ⟨h1, -⟩ := sh_node h (by decide)
  have := isPr_le h1
  rw [evD, if_neg (by omega)] at e
  have h2 := evU_kind y (1, p) (by rw [← e]; simp)
  simp at h2
variable {H : Type} {enc : TypeId × Value → H}
set_option maxRecDepth 20000 in
theorem open_evsv {W : World} {r : Reach} {b0 : Nat} {v : Value} {d : DataW H} {p : List MemPlace} (hv : Value.okWide Try.prog W r b0 34 v) (h : DataW.Trod enc Try.prog W 0 (fun _ => true) true 34 v d p) : ∃ l, Evs W v l := by
  obtain ⟨fuel, hf⟩ := h
  have hc : v.cells = #[v] := by
    obtain ⟨a, n, c, rfl⟩ := okWide_slice Try.underlying34 hv
    rfl
  rw [hc] at hf
  obtain ⟨u, l, e, hl⟩ := open_evs_cells hf
  cases e
  exact ⟨l, hl⟩

/-! ### The walk: the Go text returns true. -/
set_option maxHeartbeats 16000000 in
set_option maxRecDepth 20000 in
theorem walk (a0t : Int) (a0n : Int) (a0s : Value) (a0p : List Pd) (v1 : Value) (a1l : List Ev) (w : World) (w0s : Pds w a0s a0p) (w1s : Evs w v1 a1l) :
    Calls Try.prog 8 #[.agg #[.int .i64 a0t, .int .i64 a0n, a0s], v1] w fun e w' => e = .returned (.bool true) ∧ Below w.heap.size w w' := by
  have HP : Hid (Pds w a0s a0p) := w0s
  have HL : Hid (Evs w v1 a1l) := w1s
  obtain ⟨ga, gc, rfl, -, -⟩ := w0s
  obtain ⟨la, lc, rfl, hlm, -⟩ := w1s
  obtain ⟨gm, HGM⟩ : ∃ gm, Hid (a0p.length = gm) := ⟨_, (rfl : a0p.length = _)⟩
  obtain ⟨ln, HLN⟩ : ∃ ln, Hid (a1l.length = ln) := ⟨_, (rfl : a1l.length = _)⟩
  rw [HGM.out] at HP ⊢
  rw [HLN.out] at HL hlm ⊢
  revert HP HL HGM HLN
  generalize a0t = t
  generalize a0n = n
  generalize a0p = ps
  generalize a1l = l
  intro _ _ _ _
  rename Hid (Pds _ _ _) => HP
  rename Hid (Evs _ _ _) => HL
  rename Hid (l.length = _) => HLN
  obtain ⟨e1, HE1⟩ : ∃ e1, Hid (errO t n ps l (ofD ps l) = e1) := ⟨_, (rfl : errO t n ps l (ofD ps l) = _)⟩
  obtain ⟨e2, HE2⟩ : ∃ e2, Hid (errO t n ps l (built ps l) = e2) := ⟨_, (rfl : errO t n ps l (built ps l) = _)⟩
  have HZ0 : Hid ((e1 = 0 → errE t n ps l = 0) ∧ (e2 = 0 → errE t n ps l = 0)) := by
    have key : ∀ r, errO t n ps l r = 0 → errE t n ps l = 0 := fun r h => by
      unfold errO at h
      by_cases h2 : errE t n ps l = 0
      · exact h2
      · rw [if_neg h2] at h; exact h
    exact ⟨fun h => key _ (HE1.out.trans h), fun h => key _ (HE2.out.trans h)⟩
  have HLE : Hid (errE t n ps l = 0 → l.length ≤ 2000) := fun h => by
    unfold errE at h
    by_cases h1 : chk t n ps = 0
    · rw [if_pos h1] at h
      by_cases h2 : 2000 < l.length
      · rw [if_pos h2] at h; omega
      · omega
    · rw [if_neg h1] at h; exact absurd h h1
  have hH1 : Hid (Below w.heap.size w (w.alloc (Obj.cells #[.int .i64 t, .int .i64 n, .slice ga gm gc] 24)) ∧ (w.alloc (Obj.cells #[.int .i64 t, .int .i64 n, .slice ga gm gc] 24)).heap[w.heap.size]? = some (.cells #[.int .i64 t, .int .i64 n, .slice ga gm gc] 24)) := ⟨below_alloc _ _, heap_alloc_new _ _⟩
  obtain ⟨w1, HW1⟩ : ∃ w1, Hid (w.alloc (Obj.cells #[.int .i64 t, .int .i64 n, .slice ga gm gc] 24) = w1) := ⟨_, (rfl : w.alloc (Obj.cells #[.int .i64 t, .int .i64 n, .slice ga gm gc] 24) = _)⟩
  go_enter Try.func8, Try.ntmps8
  go_upto_region 1 with fail
  rw [HW1.out] at hH1 ⊢
  have HH1 : Hid (Below w.heap.size w w1 ∧ w1.heap[w.heap.size]? = some (.cells #[.int .i64 t, .int .i64 n, .slice ga gm gc] 24)) := hH1.out
  clear HW1 hH1
  have k0 := tcell_blk HH1.out.2 0
  have k1 := tcell_blk HH1.out.2 1
  have k2 := tcell_blk HH1.out.2 2
  simp only [List.getElem?_toArray, List.getElem?_cons_zero, List.getElem?_cons_succ] at k0 k1 k2
  have hc := brackets_any w1
  go_wp2_with fail
  refine hc.mono ?_
  rintro _ w2 ⟨gb, rfl, hpb, hb⟩
  have HH2 : Hid (Below w.heap.size w w2 ∧ w2.heap[w.heap.size]? = some (.cells #[.int .i64 t, .int .i64 n, .slice ga gm gc] 24)) := ⟨HH1.out.1.trans (hb.mono HH1.out.1.size), tbox_next HH1.out.2 hb⟩
  have HPB : Hid (Pds w2 (.slice (some ⟨gb, 0, none⟩) 2 2) brs) := hpb
  clear hc hb HH1 k0 k1 k2 hpb
  have hce : Evs (w2.alloc (Obj.cells #[.int .i64 4, .int .i64 0] 41)) (.slice (some ⟨w2.heap.size, 0, none⟩) 1 1) [(4, 0)] := by
    refine ⟨some ⟨w2.heap.size, 0, none⟩, 1, rfl, by decide, Or.inr ⟨w2.heap.size, 0, rfl, by simp, fun i hi => ?_⟩⟩
    have hi0 : i = 0 := by simp at hi; omega
    subst hi0
    exact ⟨tcell_blk (heap_alloc_new _ _) 0, tcell_blk (heap_alloc_new _ _) 1⟩
  have hbw := below_alloc w2 (Obj.cells #[.int .i64 4, .int .i64 0] 41)
  have hc := OfUp_any 2 1 _ brs _ [(4, 0)] (w2.alloc (Obj.cells #[.int .i64 4, .int .i64 0] 41)) (HPB.out.below hbw) hce
  rw [brs_of.1, brs_of.2] at hc
  go_wp2_with fail
  refine hc.mono ?_
  rintro _ w3 ⟨pz, kz, oz, sz, uz, rfl, hb, hq⟩
  rw [if_pos rfl] at hq
  obtain ⟨xz, hxs, hxt⟩ := hq
  obtain rfl : T.mk 0 0 [] = xz := Option.some.inj hxs
  obtain ⟨_, _, _, _, kz2, _, e1, e2, -⟩ := hxt.shape
  injection e2 with e3 e4 e5
  subst e3 e4 e5
  simp only [Value.agg.injEq, Array.mk.injEq, List.cons.injEq, Value.int.injEq, true_and, Value.slice.injEq, and_true, List.length_nil] at e1
  obtain ⟨rfl, rfl, rfl, rfl, rfl⟩ := e1
  have HH3 : Hid (Below w.heap.size w w3 ∧ w3.heap[w.heap.size]? = some (.cells #[.int .i64 t, .int .i64 n, .slice ga gm gc] 24)) := ⟨HH2.out.1.trans ((hbw.trans (hb.mono hbw.size)).mono HH2.out.1.size), tbox_next (tbox_next HH2.out.2 hbw) hb⟩
  clear hc hb hce hbw HH2 HPB hxs hxt
  have HHb : Hid (Below w.heap.size w (w3.alloc (Obj.cells #[.int .i64 0, .int .i64 0, .slice oz 0 uz] 27)) ∧ (w3.alloc (Obj.cells #[.int .i64 0, .int .i64 0, .slice oz 0 uz] 27)).heap[w.heap.size]? = some (.cells #[.int .i64 t, .int .i64 n, .slice ga gm gc] 24)) := ⟨HH3.out.1.trans ((below_alloc _ _).mono HH3.out.1.size), tbox_next HH3.out.2 (below_alloc _ _)⟩
  go_upto_region 4 with fail
  obtain ⟨w4, HW4⟩ : ∃ w4, Hid ((w3.alloc (Obj.cells #[.int .i64 0, .int .i64 0, .slice oz 0 uz] 27)) = w4) := ⟨_, (rfl : (w3.alloc (Obj.cells #[.int .i64 0, .int .i64 0, .slice oz 0 uz] 27)) = _)⟩
  rw [HW4.out] at HHb ⊢
  have HH4 : Hid (Below w.heap.size w w4 ∧ w4.heap[w.heap.size]? = some (.cells #[.int .i64 t, .int .i64 n, .slice ga gm gc] 24)) := HHb.out
  clear HHb HW4 HH3
  have k0 := tcell_blk HH4.out.2 0
  have k1 := tcell_blk HH4.out.2 1
  have k2 := tcell_blk HH4.out.2 2
  simp only [List.getElem?_toArray, List.getElem?_cons_zero, List.getElem?_cons_succ] at k0 k1 k2
  have hc := OfDown_any t n (.slice ga gm gc) ps (.slice la ln lc) l w4 (HP.out.below HH4.out.1) (HL.out.below HH4.out.1)
  go_wp2_with fail
  refine hc.mono ?_
  rintro _ w5 ⟨pa, ka, oa, sa, ua, rfl, hb, hq⟩
  have HH5 : Hid (Below w.heap.size w w5 ∧ w5.heap[w.heap.size]? = some (.cells #[.int .i64 t, .int .i64 n, .slice ga gm gc] 24)) := ⟨HH4.out.1.trans (hb.mono HH4.out.1.size), tbox_next HH4.out.2 hb⟩
  rw [HE1.out] at hq ⊢
  have HQ1 : Hid (if e1 = 0 then ∃ x, ofD ps l = some x ∧ Tx w5 (fun b => w4.heap.size ≤ b) (.agg #[.int .i64 pa, .int .i64 ka, .slice oa sa ua]) x else Value.agg #[.int .i64 pa, .int .i64 ka, .slice oa sa ua] = .agg #[.int .i64 0, .int .i64 0, .slice none 0 0]) := hq
  clear hc hb HH4 k0 k1 k2 hq
  have ZK : Hid (∀ r x, errO t n ps l r = 0 → r = some x → errT t n ps x = 0) := fun r x h e => by
    subst e
    unfold errO at h
    by_cases h2 : errE t n ps l = 0
    · rw [if_pos h2] at h; exact h
    · rw [if_neg h2] at h; exact absurd h h2
  by_cases h1 : e1 = 0
  · subst h1
    have HLE1 : Hid (l.length ≤ 2000) := HLE.out (HZ0.out.1 rfl)
    have HZ1 : Hid (∀ x, ofD ps l = some x → errT t n ps x = 0 ∧ evD x = l) := fun x h => ⟨ZK.out _ x HE1.out h, (ofD_iff.1 h).2⟩
    have hnz2 : ¬ e2 = 0 := fun h => by
      subst h
      cases h3 : ofD ps l with
      | none =>
        have h5 := HE1.out
        unfold errO at h5
        rw [if_pos (HZ0.out.1 rfl), h3] at h5
        simp at h5
      | some x =>
        cases h4 : built ps l with
        | none =>
          have h5 := HE2.out
          unfold errO at h5
          rw [if_pos (HZ0.out.1 rfl), h4] at h5
          simp at h5
        | some y => exact evs_apart (ofD_iff.1 h3).1.1 ((ofD_iff.1 h3).2.trans (built_iff.1 h4).2.symm)
    have HNZ2 : Hid (¬ e2 = 0) := hnz2
    have hb2 : (e2 == 0) = false := by simp; exact hnz2
    have hb2' : (e2 != 0) = true := by simp; exact hnz2
    clear hnz2
    have hq := HQ1.out
    rw [if_pos rfl] at hq
    obtain ⟨xa, hxs, hxt⟩ := hq
    have HXA : Hid (ofD ps l = some xa) := hxs
    have HTA0 : Hid (Tx w5 (fun _ => True) (.agg #[.int .i64 pa, .int .i64 ka, .slice oa sa ua]) xa) := hxt.mono fun _ _ _ => trivial
    clear HQ1 hxs hxt
    have HHb : Hid (Below w.heap.size w (w5.alloc (Obj.cells #[.int .i64 pa, .int .i64 ka, .slice oa sa ua] 27)) ∧ (w5.alloc (Obj.cells #[.int .i64 pa, .int .i64 ka, .slice oa sa ua] 27)).heap[w.heap.size]? = some (.cells #[.int .i64 t, .int .i64 n, .slice ga gm gc] 24)) := ⟨HH5.out.1.trans ((below_alloc _ _).mono HH5.out.1.size), tbox_next HH5.out.2 (below_alloc _ _)⟩
    have HTA_b : Hid ((w5.alloc (Obj.cells #[.int .i64 pa, .int .i64 ka, .slice oa sa ua] 27)).heap[w5.heap.size]? = some (.cells #[.int .i64 pa, .int .i64 ka, .slice oa sa ua] 27) ∧ Tx (w5.alloc (Obj.cells #[.int .i64 pa, .int .i64 ka, .slice oa sa ua] 27)) (fun _ => True) (.agg #[.int .i64 pa, .int .i64 ka, .slice oa sa ua]) xa) := ⟨heap_alloc_new _ _, HTA0.out.bel (below_alloc _ _)⟩
    go_upto_region 5 with fail
    obtain ⟨qa, HQNqa⟩ : ∃ qa, Hid (w5.heap.size = qa) := ⟨_, (rfl : w5.heap.size = _)⟩
    rw [HQNqa.out] at HTA_b ⊢
    obtain ⟨w6, HW6⟩ : ∃ w6, Hid ((w5.alloc (Obj.cells #[.int .i64 pa, .int .i64 ka, .slice oa sa ua] 27)) = w6) := ⟨_, (rfl : (w5.alloc (Obj.cells #[.int .i64 pa, .int .i64 ka, .slice oa sa ua] 27)) = _)⟩
    rw [HW6.out] at HHb HTA_b  ⊢
    have HH6 : Hid (Below w.heap.size w w6 ∧ w6.heap[w.heap.size]? = some (.cells #[.int .i64 t, .int .i64 n, .slice ga gm gc] 24)) := HHb.out
    have HTA_6 : Hid (w6.heap[qa]? = some (.cells #[.int .i64 pa, .int .i64 ka, .slice oa sa ua] 27) ∧ Tx w6 (fun _ => True) (.agg #[.int .i64 pa, .int .i64 ka, .slice oa sa ua]) xa) := HTA_b.out
    clear HHb HTA_b HW6 HH5 HTA0 HQNqa
    have k0 := tcell_blk HH6.out.2 0
    have k1 := tcell_blk HH6.out.2 1
    have k2 := tcell_blk HH6.out.2 2
    simp only [List.getElem?_toArray, List.getElem?_cons_zero, List.getElem?_cons_succ] at k0 k1 k2
    have hc := OfUp_any t n (.slice ga gm gc) ps (.slice la ln lc) l w6 (HP.out.below HH6.out.1) (HL.out.below HH6.out.1)
    go_wp2_with fail
    refine hc.mono ?_
    rintro _ w7 ⟨pb, kb, ob, sb, ub, rfl, hb, hq⟩
    have HH7 : Hid (Below w.heap.size w w7 ∧ w7.heap[w.heap.size]? = some (.cells #[.int .i64 t, .int .i64 n, .slice ga gm gc] 24)) := ⟨HH6.out.1.trans (hb.mono HH6.out.1.size), tbox_next HH6.out.2 hb⟩
    have HTA_7 : Hid (w7.heap[qa]? = some (.cells #[.int .i64 pa, .int .i64 ka, .slice oa sa ua] 27) ∧ Tx w7 (fun _ => True) (.agg #[.int .i64 pa, .int .i64 ka, .slice oa sa ua]) xa) := ⟨tbox_next HTA_6.out.1 hb, HTA_6.out.2.bel hb⟩
    rw [HE2.out] at hq ⊢
    have HQ2 : Hid (if e2 = 0 then ∃ x, built ps l = some x ∧ Tx w7 (fun b => w6.heap.size ≤ b) (.agg #[.int .i64 pb, .int .i64 kb, .slice ob sb ub]) x else Value.agg #[.int .i64 pb, .int .i64 kb, .slice ob sb ub] = .agg #[.int .i64 0, .int .i64 0, .slice none 0 0]) := hq
    clear hc hb HH6 k0 k1 k2 HTA_6 hq
    have hq := HQ2.out
    rw [if_neg HNZ2.out] at hq
    simp only [Value.agg.injEq, Array.mk.injEq, List.cons.injEq, Value.int.injEq, true_and, Value.slice.injEq, and_true] at hq
    obtain ⟨rfl, rfl, rfl, rfl, rfl⟩ := hq
    have HTB0 : Hid (Tx w7 (fun _ => True) (.agg #[.int .i64 0, .int .i64 0, .slice none 0 0]) (.mk 0 0 [])) := tx_leaf _ _ _ _
    clear HQ2
    have HHb : Hid (Below w.heap.size w (w7.alloc (Obj.cells #[.int .i64 0, .int .i64 0, .slice none 0 0] 27)) ∧ (w7.alloc (Obj.cells #[.int .i64 0, .int .i64 0, .slice none 0 0] 27)).heap[w.heap.size]? = some (.cells #[.int .i64 t, .int .i64 n, .slice ga gm gc] 24)) := ⟨HH7.out.1.trans ((below_alloc _ _).mono HH7.out.1.size), tbox_next HH7.out.2 (below_alloc _ _)⟩
    have HTB_b : Hid ((w7.alloc (Obj.cells #[.int .i64 0, .int .i64 0, .slice none 0 0] 27)).heap[w7.heap.size]? = some (.cells #[.int .i64 0, .int .i64 0, .slice none 0 0] 27) ∧ Tx (w7.alloc (Obj.cells #[.int .i64 0, .int .i64 0, .slice none 0 0] 27)) (fun _ => True) (.agg #[.int .i64 0, .int .i64 0, .slice none 0 0]) (.mk 0 0 [])) := ⟨heap_alloc_new _ _, HTB0.out.bel (below_alloc _ _)⟩
    have HTA_b : Hid ((w7.alloc (Obj.cells #[.int .i64 0, .int .i64 0, .slice none 0 0] 27)).heap[qa]? = some (.cells #[.int .i64 pa, .int .i64 ka, .slice oa sa ua] 27) ∧ Tx (w7.alloc (Obj.cells #[.int .i64 0, .int .i64 0, .slice none 0 0] 27)) (fun _ => True) (.agg #[.int .i64 pa, .int .i64 ka, .slice oa sa ua]) xa) := ⟨tbox_next HTA_7.out.1 (below_alloc _ _), HTA_7.out.2.bel (below_alloc _ _)⟩
    go_upto_region 6 with fail
    obtain ⟨qb, HQNqb⟩ : ∃ qb, Hid (w7.heap.size = qb) := ⟨_, (rfl : w7.heap.size = _)⟩
    rw [HQNqb.out] at HTB_b ⊢
    obtain ⟨w8, HW8⟩ : ∃ w8, Hid ((w7.alloc (Obj.cells #[.int .i64 0, .int .i64 0, .slice none 0 0] 27)) = w8) := ⟨_, (rfl : (w7.alloc (Obj.cells #[.int .i64 0, .int .i64 0, .slice none 0 0] 27)) = _)⟩
    rw [HW8.out] at HHb HTB_b HTA_b ⊢
    have HH8 : Hid (Below w.heap.size w w8 ∧ w8.heap[w.heap.size]? = some (.cells #[.int .i64 t, .int .i64 n, .slice ga gm gc] 24)) := HHb.out
    have HTB_8 : Hid (w8.heap[qb]? = some (.cells #[.int .i64 0, .int .i64 0, .slice none 0 0] 27) ∧ Tx w8 (fun _ => True) (.agg #[.int .i64 0, .int .i64 0, .slice none 0 0]) (.mk 0 0 [])) := HTB_b.out
    have HTA_8 : Hid (w8.heap[qa]? = some (.cells #[.int .i64 pa, .int .i64 ka, .slice oa sa ua] 27) ∧ Tx w8 (fun _ => True) (.agg #[.int .i64 pa, .int .i64 ka, .slice oa sa ua]) xa) := HTA_b.out
    clear HHb HTB_b HTA_b HW8 HH7 HTB0 HQNqb HTA_7
    have v0 := tcell_blk HTA_8.out.1 0
    have v1 := tcell_blk HTA_8.out.1 1
    have v2 := tcell_blk HTA_8.out.1 2
    simp only [List.getElem?_toArray, List.getElem?_cons_zero, List.getElem?_cons_succ] at v0 v1 v2
    have k0 := tcell_blk HH8.out.2 0
    have k1 := tcell_blk HH8.out.2 1
    have k2 := tcell_blk HH8.out.2 2
    simp only [List.getElem?_toArray, List.getElem?_cons_zero, List.getElem?_cons_succ] at k0 k1 k2
    have hc := Down_any t n (.slice ga gm gc) ps (.agg #[.int .i64 pa, .int .i64 ka, .slice oa sa ua]) xa (fun _ => True) w8 (HP.out.below HH8.out.1) HTA_8.out.2
    go_wp2_with fail
    refine hc.mono ?_
    rintro _ w9 ⟨b0, m0, d0, rfl, hb, hq⟩
    have HH9 : Hid (Below w.heap.size w w9 ∧ w9.heap[w.heap.size]? = some (.cells #[.int .i64 t, .int .i64 n, .slice ga gm gc] 24)) := ⟨HH8.out.1.trans (hb.mono HH8.out.1.size), tbox_next HH8.out.2 hb⟩
    have HTA_9 : Hid (w9.heap[qa]? = some (.cells #[.int .i64 pa, .int .i64 ka, .slice oa sa ua] 27) ∧ Tx w9 (fun _ => True) (.agg #[.int .i64 pa, .int .i64 ka, .slice oa sa ua]) xa) := ⟨tbox_next HTA_8.out.1 hb, HTA_8.out.2.bel hb⟩
    have HTB_9 : Hid (w9.heap[qb]? = some (.cells #[.int .i64 0, .int .i64 0, .slice none 0 0] 27) ∧ Tx w9 (fun _ => True) (.agg #[.int .i64 0, .int .i64 0, .slice none 0 0]) (.mk 0 0 [])) := ⟨tbox_next HTB_8.out.1 hb, HTB_8.out.2.bel hb⟩
    rw [(HZ1.out xa HXA.out).1] at hq ⊢
    rw [if_pos rfl] at hq
    have HEV : Hid (Evs w9 (.slice b0 m0 d0) l) := by
      have h := evs_of_own hq (by rw [(HZ1.out xa HXA.out).2]; have := HLE1.out; omega)
      rw [(HZ1.out xa HXA.out).2] at h
      exact h
    clear hc hb HH8 k0 k1 k2 HTA_8 HTB_8 v0 v1 v2 hq
    have k0 := tcell_blk HH9.out.2 0
    have k1 := tcell_blk HH9.out.2 1
    have k2 := tcell_blk HH9.out.2 2
    simp only [List.getElem?_toArray, List.getElem?_cons_zero, List.getElem?_cons_succ] at k0 k1 k2
    have hc := equalE_same (.slice la ln lc) (.slice b0 m0 d0) l w9 (HL.out.below HH9.out.1) HEV.out
    go_wp2_with fail
    refine hc.mono ?_
    rintro _ w10 ⟨rfl, hb⟩
    have HH10 : Hid (Below w.heap.size w w10 ∧ w10.heap[w.heap.size]? = some (.cells #[.int .i64 t, .int .i64 n, .slice ga gm gc] 24)) := ⟨HH9.out.1.trans (hb.mono HH9.out.1.size), tbox_next HH9.out.2 hb⟩
    have HTA_10 : Hid (w10.heap[qa]? = some (.cells #[.int .i64 pa, .int .i64 ka, .slice oa sa ua] 27) ∧ Tx w10 (fun _ => True) (.agg #[.int .i64 pa, .int .i64 ka, .slice oa sa ua]) xa) := ⟨tbox_next HTA_9.out.1 hb, HTA_9.out.2.bel hb⟩
    have HTB_10 : Hid (w10.heap[qb]? = some (.cells #[.int .i64 0, .int .i64 0, .slice none 0 0] 27) ∧ Tx w10 (fun _ => True) (.agg #[.int .i64 0, .int .i64 0, .slice none 0 0]) (.mk 0 0 [])) := ⟨tbox_next HTB_9.out.1 hb, HTB_9.out.2.bel hb⟩
    clear hc hb HH9 k0 k1 k2 HTA_9 HTB_9 HEV
    have v0 := tcell_blk HTA_10.out.1 0
    have v1 := tcell_blk HTA_10.out.1 1
    have v2 := tcell_blk HTA_10.out.1 2
    simp only [List.getElem?_toArray, List.getElem?_cons_zero, List.getElem?_cons_succ] at v0 v1 v2
    have y0 := tcell_blk HTB_10.out.1 0
    have y1 := tcell_blk HTB_10.out.1 1
    have y2 := tcell_blk HTB_10.out.1 2
    simp only [List.getElem?_toArray, List.getElem?_cons_zero, List.getElem?_cons_succ] at y0 y1 y2
    go_wp2_with fail
    go_ret
    exact ⟨by simp, HH10.out.1⟩
  · have HNZ1 : Hid (¬ e1 = 0) := h1
    have hb1 : (e1 == 0) = false := by simp; exact h1
    have hb1' : (e1 != 0) = true := by simp; exact h1
    clear h1
    by_cases h2 : e2 = 0
    · subst h2
      have HLE1 : Hid (l.length ≤ 2000) := HLE.out (HZ0.out.2 rfl)
      have HZ2 : Hid (∀ x, built ps l = some x → errT t n ps x = 0 ∧ evU x = l) := fun x h => ⟨ZK.out _ x HE2.out h, (built_iff.1 h).2⟩
      have hq := HQ1.out
      rw [if_neg HNZ1.out] at hq
      simp only [Value.agg.injEq, Array.mk.injEq, List.cons.injEq, Value.int.injEq, true_and, Value.slice.injEq, and_true] at hq
      obtain ⟨rfl, rfl, rfl, rfl, rfl⟩ := hq
      have HTA0 : Hid (Tx w5 (fun _ => True) (.agg #[.int .i64 0, .int .i64 0, .slice none 0 0]) (.mk 0 0 [])) := tx_leaf _ _ _ _
      clear HQ1
      have HHb : Hid (Below w.heap.size w (w5.alloc (Obj.cells #[.int .i64 0, .int .i64 0, .slice none 0 0] 27)) ∧ (w5.alloc (Obj.cells #[.int .i64 0, .int .i64 0, .slice none 0 0] 27)).heap[w.heap.size]? = some (.cells #[.int .i64 t, .int .i64 n, .slice ga gm gc] 24)) := ⟨HH5.out.1.trans ((below_alloc _ _).mono HH5.out.1.size), tbox_next HH5.out.2 (below_alloc _ _)⟩
      have HTA_b : Hid ((w5.alloc (Obj.cells #[.int .i64 0, .int .i64 0, .slice none 0 0] 27)).heap[w5.heap.size]? = some (.cells #[.int .i64 0, .int .i64 0, .slice none 0 0] 27) ∧ Tx (w5.alloc (Obj.cells #[.int .i64 0, .int .i64 0, .slice none 0 0] 27)) (fun _ => True) (.agg #[.int .i64 0, .int .i64 0, .slice none 0 0]) (.mk 0 0 [])) := ⟨heap_alloc_new _ _, HTA0.out.bel (below_alloc _ _)⟩
      go_upto_region 5 with fail
      obtain ⟨qa, HQNqa⟩ : ∃ qa, Hid (w5.heap.size = qa) := ⟨_, (rfl : w5.heap.size = _)⟩
      rw [HQNqa.out] at HTA_b ⊢
      obtain ⟨w6, HW6⟩ : ∃ w6, Hid ((w5.alloc (Obj.cells #[.int .i64 0, .int .i64 0, .slice none 0 0] 27)) = w6) := ⟨_, (rfl : (w5.alloc (Obj.cells #[.int .i64 0, .int .i64 0, .slice none 0 0] 27)) = _)⟩
      rw [HW6.out] at HHb HTA_b  ⊢
      have HH6 : Hid (Below w.heap.size w w6 ∧ w6.heap[w.heap.size]? = some (.cells #[.int .i64 t, .int .i64 n, .slice ga gm gc] 24)) := HHb.out
      have HTA_6 : Hid (w6.heap[qa]? = some (.cells #[.int .i64 0, .int .i64 0, .slice none 0 0] 27) ∧ Tx w6 (fun _ => True) (.agg #[.int .i64 0, .int .i64 0, .slice none 0 0]) (.mk 0 0 [])) := HTA_b.out
      clear HHb HTA_b HW6 HH5 HTA0 HQNqa
      have k0 := tcell_blk HH6.out.2 0
      have k1 := tcell_blk HH6.out.2 1
      have k2 := tcell_blk HH6.out.2 2
      simp only [List.getElem?_toArray, List.getElem?_cons_zero, List.getElem?_cons_succ] at k0 k1 k2
      have hc := OfUp_any t n (.slice ga gm gc) ps (.slice la ln lc) l w6 (HP.out.below HH6.out.1) (HL.out.below HH6.out.1)
      go_wp2_with fail
      refine hc.mono ?_
      rintro _ w7 ⟨pb, kb, ob, sb, ub, rfl, hb, hq⟩
      have HH7 : Hid (Below w.heap.size w w7 ∧ w7.heap[w.heap.size]? = some (.cells #[.int .i64 t, .int .i64 n, .slice ga gm gc] 24)) := ⟨HH6.out.1.trans (hb.mono HH6.out.1.size), tbox_next HH6.out.2 hb⟩
      have HTA_7 : Hid (w7.heap[qa]? = some (.cells #[.int .i64 0, .int .i64 0, .slice none 0 0] 27) ∧ Tx w7 (fun _ => True) (.agg #[.int .i64 0, .int .i64 0, .slice none 0 0]) (.mk 0 0 [])) := ⟨tbox_next HTA_6.out.1 hb, HTA_6.out.2.bel hb⟩
      rw [HE2.out] at hq ⊢
      have HQ2 : Hid (if (0 : Int) = 0 then ∃ x, built ps l = some x ∧ Tx w7 (fun b => w6.heap.size ≤ b) (.agg #[.int .i64 pb, .int .i64 kb, .slice ob sb ub]) x else Value.agg #[.int .i64 pb, .int .i64 kb, .slice ob sb ub] = .agg #[.int .i64 0, .int .i64 0, .slice none 0 0]) := hq
      clear hc hb HH6 k0 k1 k2 HTA_6 hq
      have hq := HQ2.out
      rw [if_pos rfl] at hq
      obtain ⟨xb, hxs, hxt⟩ := hq
      have HXB : Hid (built ps l = some xb) := hxs
      have HTB0 : Hid (Tx w7 (fun _ => True) (.agg #[.int .i64 pb, .int .i64 kb, .slice ob sb ub]) xb) := hxt.mono fun _ _ _ => trivial
      clear HQ2 hxs hxt
      have HHb : Hid (Below w.heap.size w (w7.alloc (Obj.cells #[.int .i64 pb, .int .i64 kb, .slice ob sb ub] 27)) ∧ (w7.alloc (Obj.cells #[.int .i64 pb, .int .i64 kb, .slice ob sb ub] 27)).heap[w.heap.size]? = some (.cells #[.int .i64 t, .int .i64 n, .slice ga gm gc] 24)) := ⟨HH7.out.1.trans ((below_alloc _ _).mono HH7.out.1.size), tbox_next HH7.out.2 (below_alloc _ _)⟩
      have HTB_b : Hid ((w7.alloc (Obj.cells #[.int .i64 pb, .int .i64 kb, .slice ob sb ub] 27)).heap[w7.heap.size]? = some (.cells #[.int .i64 pb, .int .i64 kb, .slice ob sb ub] 27) ∧ Tx (w7.alloc (Obj.cells #[.int .i64 pb, .int .i64 kb, .slice ob sb ub] 27)) (fun _ => True) (.agg #[.int .i64 pb, .int .i64 kb, .slice ob sb ub]) xb) := ⟨heap_alloc_new _ _, HTB0.out.bel (below_alloc _ _)⟩
      have HTA_b : Hid ((w7.alloc (Obj.cells #[.int .i64 pb, .int .i64 kb, .slice ob sb ub] 27)).heap[qa]? = some (.cells #[.int .i64 0, .int .i64 0, .slice none 0 0] 27) ∧ Tx (w7.alloc (Obj.cells #[.int .i64 pb, .int .i64 kb, .slice ob sb ub] 27)) (fun _ => True) (.agg #[.int .i64 0, .int .i64 0, .slice none 0 0]) (.mk 0 0 [])) := ⟨tbox_next HTA_7.out.1 (below_alloc _ _), HTA_7.out.2.bel (below_alloc _ _)⟩
      go_upto_region 6 with fail
      obtain ⟨qb, HQNqb⟩ : ∃ qb, Hid (w7.heap.size = qb) := ⟨_, (rfl : w7.heap.size = _)⟩
      rw [HQNqb.out] at HTB_b ⊢
      obtain ⟨w8, HW8⟩ : ∃ w8, Hid ((w7.alloc (Obj.cells #[.int .i64 pb, .int .i64 kb, .slice ob sb ub] 27)) = w8) := ⟨_, (rfl : (w7.alloc (Obj.cells #[.int .i64 pb, .int .i64 kb, .slice ob sb ub] 27)) = _)⟩
      rw [HW8.out] at HHb HTB_b HTA_b ⊢
      have HH8 : Hid (Below w.heap.size w w8 ∧ w8.heap[w.heap.size]? = some (.cells #[.int .i64 t, .int .i64 n, .slice ga gm gc] 24)) := HHb.out
      have HTB_8 : Hid (w8.heap[qb]? = some (.cells #[.int .i64 pb, .int .i64 kb, .slice ob sb ub] 27) ∧ Tx w8 (fun _ => True) (.agg #[.int .i64 pb, .int .i64 kb, .slice ob sb ub]) xb) := HTB_b.out
      have HTA_8 : Hid (w8.heap[qa]? = some (.cells #[.int .i64 0, .int .i64 0, .slice none 0 0] 27) ∧ Tx w8 (fun _ => True) (.agg #[.int .i64 0, .int .i64 0, .slice none 0 0]) (.mk 0 0 [])) := HTA_b.out
      clear HHb HTB_b HTA_b HW8 HH7 HTB0 HQNqb HTA_7
      have v0 := tcell_blk HTB_8.out.1 0
      have v1 := tcell_blk HTB_8.out.1 1
      have v2 := tcell_blk HTB_8.out.1 2
      simp only [List.getElem?_toArray, List.getElem?_cons_zero, List.getElem?_cons_succ] at v0 v1 v2
      have k0 := tcell_blk HH8.out.2 0
      have k1 := tcell_blk HH8.out.2 1
      have k2 := tcell_blk HH8.out.2 2
      simp only [List.getElem?_toArray, List.getElem?_cons_zero, List.getElem?_cons_succ] at k0 k1 k2
      have hc := Up_any t n (.slice ga gm gc) ps (.agg #[.int .i64 pb, .int .i64 kb, .slice ob sb ub]) xb (fun _ => True) w8 (HP.out.below HH8.out.1) HTB_8.out.2
      go_wp2_with fail
      refine hc.mono ?_
      rintro _ w9 ⟨b1, m1, d1, rfl, hb, hq⟩
      have HH9 : Hid (Below w.heap.size w w9 ∧ w9.heap[w.heap.size]? = some (.cells #[.int .i64 t, .int .i64 n, .slice ga gm gc] 24)) := ⟨HH8.out.1.trans (hb.mono HH8.out.1.size), tbox_next HH8.out.2 hb⟩
      have HTA_9 : Hid (w9.heap[qa]? = some (.cells #[.int .i64 0, .int .i64 0, .slice none 0 0] 27) ∧ Tx w9 (fun _ => True) (.agg #[.int .i64 0, .int .i64 0, .slice none 0 0]) (.mk 0 0 [])) := ⟨tbox_next HTA_8.out.1 hb, HTA_8.out.2.bel hb⟩
      have HTB_9 : Hid (w9.heap[qb]? = some (.cells #[.int .i64 pb, .int .i64 kb, .slice ob sb ub] 27) ∧ Tx w9 (fun _ => True) (.agg #[.int .i64 pb, .int .i64 kb, .slice ob sb ub]) xb) := ⟨tbox_next HTB_8.out.1 hb, HTB_8.out.2.bel hb⟩
      rw [(HZ2.out xb HXB.out).1] at hq ⊢
      rw [if_pos rfl] at hq
      have HEV : Hid (Evs w9 (.slice b1 m1 d1) l) := by
        have h := evs_of_own hq (by rw [(HZ2.out xb HXB.out).2]; have := HLE1.out; omega)
        rw [(HZ2.out xb HXB.out).2] at h
        exact h
      clear hc hb HH8 k0 k1 k2 HTA_8 HTB_8 v0 v1 v2 hq
      have k0 := tcell_blk HH9.out.2 0
      have k1 := tcell_blk HH9.out.2 1
      have k2 := tcell_blk HH9.out.2 2
      simp only [List.getElem?_toArray, List.getElem?_cons_zero, List.getElem?_cons_succ] at k0 k1 k2
      have hc := equalE_same (.slice la ln lc) (.slice b1 m1 d1) l w9 (HL.out.below HH9.out.1) HEV.out
      go_wp2_with fail
      refine hc.mono ?_
      rintro _ w10 ⟨rfl, hb⟩
      have HH10 : Hid (Below w.heap.size w w10 ∧ w10.heap[w.heap.size]? = some (.cells #[.int .i64 t, .int .i64 n, .slice ga gm gc] 24)) := ⟨HH9.out.1.trans (hb.mono HH9.out.1.size), tbox_next HH9.out.2 hb⟩
      have HTA_10 : Hid (w10.heap[qa]? = some (.cells #[.int .i64 0, .int .i64 0, .slice none 0 0] 27) ∧ Tx w10 (fun _ => True) (.agg #[.int .i64 0, .int .i64 0, .slice none 0 0]) (.mk 0 0 [])) := ⟨tbox_next HTA_9.out.1 hb, HTA_9.out.2.bel hb⟩
      have HTB_10 : Hid (w10.heap[qb]? = some (.cells #[.int .i64 pb, .int .i64 kb, .slice ob sb ub] 27) ∧ Tx w10 (fun _ => True) (.agg #[.int .i64 pb, .int .i64 kb, .slice ob sb ub]) xb) := ⟨tbox_next HTB_9.out.1 hb, HTB_9.out.2.bel hb⟩
      clear hc hb HH9 k0 k1 k2 HTA_9 HTB_9 HEV
      have v0 := tcell_blk HTA_10.out.1 0
      have v1 := tcell_blk HTA_10.out.1 1
      have v2 := tcell_blk HTA_10.out.1 2
      simp only [List.getElem?_toArray, List.getElem?_cons_zero, List.getElem?_cons_succ] at v0 v1 v2
      have y0 := tcell_blk HTB_10.out.1 0
      have y1 := tcell_blk HTB_10.out.1 1
      have y2 := tcell_blk HTB_10.out.1 2
      simp only [List.getElem?_toArray, List.getElem?_cons_zero, List.getElem?_cons_succ] at y0 y1 y2
      go_wp2_with fail
      go_ret
      exact ⟨by simp, HH10.out.1⟩
    · have HNZ2 : Hid (¬ e2 = 0) := h2
      have hb2 : (e2 == 0) = false := by simp; exact h2
      have hb2' : (e2 != 0) = true := by simp; exact h2
      clear h2
      have hq := HQ1.out
      rw [if_neg HNZ1.out] at hq
      simp only [Value.agg.injEq, Array.mk.injEq, List.cons.injEq, Value.int.injEq, true_and, Value.slice.injEq, and_true] at hq
      obtain ⟨rfl, rfl, rfl, rfl, rfl⟩ := hq
      have HTA0 : Hid (Tx w5 (fun _ => True) (.agg #[.int .i64 0, .int .i64 0, .slice none 0 0]) (.mk 0 0 [])) := tx_leaf _ _ _ _
      clear HQ1
      have HHb : Hid (Below w.heap.size w (w5.alloc (Obj.cells #[.int .i64 0, .int .i64 0, .slice none 0 0] 27)) ∧ (w5.alloc (Obj.cells #[.int .i64 0, .int .i64 0, .slice none 0 0] 27)).heap[w.heap.size]? = some (.cells #[.int .i64 t, .int .i64 n, .slice ga gm gc] 24)) := ⟨HH5.out.1.trans ((below_alloc _ _).mono HH5.out.1.size), tbox_next HH5.out.2 (below_alloc _ _)⟩
      have HTA_b : Hid ((w5.alloc (Obj.cells #[.int .i64 0, .int .i64 0, .slice none 0 0] 27)).heap[w5.heap.size]? = some (.cells #[.int .i64 0, .int .i64 0, .slice none 0 0] 27) ∧ Tx (w5.alloc (Obj.cells #[.int .i64 0, .int .i64 0, .slice none 0 0] 27)) (fun _ => True) (.agg #[.int .i64 0, .int .i64 0, .slice none 0 0]) (.mk 0 0 [])) := ⟨heap_alloc_new _ _, HTA0.out.bel (below_alloc _ _)⟩
      go_upto_region 5 with fail
      obtain ⟨qa, HQNqa⟩ : ∃ qa, Hid (w5.heap.size = qa) := ⟨_, (rfl : w5.heap.size = _)⟩
      rw [HQNqa.out] at HTA_b ⊢
      obtain ⟨w6, HW6⟩ : ∃ w6, Hid ((w5.alloc (Obj.cells #[.int .i64 0, .int .i64 0, .slice none 0 0] 27)) = w6) := ⟨_, (rfl : (w5.alloc (Obj.cells #[.int .i64 0, .int .i64 0, .slice none 0 0] 27)) = _)⟩
      rw [HW6.out] at HHb HTA_b  ⊢
      have HH6 : Hid (Below w.heap.size w w6 ∧ w6.heap[w.heap.size]? = some (.cells #[.int .i64 t, .int .i64 n, .slice ga gm gc] 24)) := HHb.out
      have HTA_6 : Hid (w6.heap[qa]? = some (.cells #[.int .i64 0, .int .i64 0, .slice none 0 0] 27) ∧ Tx w6 (fun _ => True) (.agg #[.int .i64 0, .int .i64 0, .slice none 0 0]) (.mk 0 0 [])) := HTA_b.out
      clear HHb HTA_b HW6 HH5 HTA0 HQNqa
      have k0 := tcell_blk HH6.out.2 0
      have k1 := tcell_blk HH6.out.2 1
      have k2 := tcell_blk HH6.out.2 2
      simp only [List.getElem?_toArray, List.getElem?_cons_zero, List.getElem?_cons_succ] at k0 k1 k2
      have hc := OfUp_any t n (.slice ga gm gc) ps (.slice la ln lc) l w6 (HP.out.below HH6.out.1) (HL.out.below HH6.out.1)
      go_wp2_with fail
      refine hc.mono ?_
      rintro _ w7 ⟨pb, kb, ob, sb, ub, rfl, hb, hq⟩
      have HH7 : Hid (Below w.heap.size w w7 ∧ w7.heap[w.heap.size]? = some (.cells #[.int .i64 t, .int .i64 n, .slice ga gm gc] 24)) := ⟨HH6.out.1.trans (hb.mono HH6.out.1.size), tbox_next HH6.out.2 hb⟩
      have HTA_7 : Hid (w7.heap[qa]? = some (.cells #[.int .i64 0, .int .i64 0, .slice none 0 0] 27) ∧ Tx w7 (fun _ => True) (.agg #[.int .i64 0, .int .i64 0, .slice none 0 0]) (.mk 0 0 [])) := ⟨tbox_next HTA_6.out.1 hb, HTA_6.out.2.bel hb⟩
      rw [HE2.out] at hq ⊢
      have HQ2 : Hid (if e2 = 0 then ∃ x, built ps l = some x ∧ Tx w7 (fun b => w6.heap.size ≤ b) (.agg #[.int .i64 pb, .int .i64 kb, .slice ob sb ub]) x else Value.agg #[.int .i64 pb, .int .i64 kb, .slice ob sb ub] = .agg #[.int .i64 0, .int .i64 0, .slice none 0 0]) := hq
      clear hc hb HH6 k0 k1 k2 HTA_6 hq
      have hq := HQ2.out
      rw [if_neg HNZ2.out] at hq
      simp only [Value.agg.injEq, Array.mk.injEq, List.cons.injEq, Value.int.injEq, true_and, Value.slice.injEq, and_true] at hq
      obtain ⟨rfl, rfl, rfl, rfl, rfl⟩ := hq
      have HTB0 : Hid (Tx w7 (fun _ => True) (.agg #[.int .i64 0, .int .i64 0, .slice none 0 0]) (.mk 0 0 [])) := tx_leaf _ _ _ _
      clear HQ2
      have HHb : Hid (Below w.heap.size w (w7.alloc (Obj.cells #[.int .i64 0, .int .i64 0, .slice none 0 0] 27)) ∧ (w7.alloc (Obj.cells #[.int .i64 0, .int .i64 0, .slice none 0 0] 27)).heap[w.heap.size]? = some (.cells #[.int .i64 t, .int .i64 n, .slice ga gm gc] 24)) := ⟨HH7.out.1.trans ((below_alloc _ _).mono HH7.out.1.size), tbox_next HH7.out.2 (below_alloc _ _)⟩
      have HTB_b : Hid ((w7.alloc (Obj.cells #[.int .i64 0, .int .i64 0, .slice none 0 0] 27)).heap[w7.heap.size]? = some (.cells #[.int .i64 0, .int .i64 0, .slice none 0 0] 27) ∧ Tx (w7.alloc (Obj.cells #[.int .i64 0, .int .i64 0, .slice none 0 0] 27)) (fun _ => True) (.agg #[.int .i64 0, .int .i64 0, .slice none 0 0]) (.mk 0 0 [])) := ⟨heap_alloc_new _ _, HTB0.out.bel (below_alloc _ _)⟩
      have HTA_b : Hid ((w7.alloc (Obj.cells #[.int .i64 0, .int .i64 0, .slice none 0 0] 27)).heap[qa]? = some (.cells #[.int .i64 0, .int .i64 0, .slice none 0 0] 27) ∧ Tx (w7.alloc (Obj.cells #[.int .i64 0, .int .i64 0, .slice none 0 0] 27)) (fun _ => True) (.agg #[.int .i64 0, .int .i64 0, .slice none 0 0]) (.mk 0 0 [])) := ⟨tbox_next HTA_7.out.1 (below_alloc _ _), HTA_7.out.2.bel (below_alloc _ _)⟩
      go_upto_region 6 with fail
      obtain ⟨qb, HQNqb⟩ : ∃ qb, Hid (w7.heap.size = qb) := ⟨_, (rfl : w7.heap.size = _)⟩
      rw [HQNqb.out] at HTB_b ⊢
      obtain ⟨w8, HW8⟩ : ∃ w8, Hid ((w7.alloc (Obj.cells #[.int .i64 0, .int .i64 0, .slice none 0 0] 27)) = w8) := ⟨_, (rfl : (w7.alloc (Obj.cells #[.int .i64 0, .int .i64 0, .slice none 0 0] 27)) = _)⟩
      rw [HW8.out] at HHb HTB_b HTA_b ⊢
      have HH8 : Hid (Below w.heap.size w w8 ∧ w8.heap[w.heap.size]? = some (.cells #[.int .i64 t, .int .i64 n, .slice ga gm gc] 24)) := HHb.out
      have HTB_8 : Hid (w8.heap[qb]? = some (.cells #[.int .i64 0, .int .i64 0, .slice none 0 0] 27) ∧ Tx w8 (fun _ => True) (.agg #[.int .i64 0, .int .i64 0, .slice none 0 0]) (.mk 0 0 [])) := HTB_b.out
      have HTA_8 : Hid (w8.heap[qa]? = some (.cells #[.int .i64 0, .int .i64 0, .slice none 0 0] 27) ∧ Tx w8 (fun _ => True) (.agg #[.int .i64 0, .int .i64 0, .slice none 0 0]) (.mk 0 0 [])) := HTA_b.out
      clear HHb HTB_b HTA_b HW8 HH7 HTB0 HQNqb HTA_7
      have v0 := tcell_blk HTA_8.out.1 0
      have v1 := tcell_blk HTA_8.out.1 1
      have v2 := tcell_blk HTA_8.out.1 2
      simp only [List.getElem?_toArray, List.getElem?_cons_zero, List.getElem?_cons_succ] at v0 v1 v2
      have y0 := tcell_blk HTB_8.out.1 0
      have y1 := tcell_blk HTB_8.out.1 1
      have y2 := tcell_blk HTB_8.out.1 2
      simp only [List.getElem?_toArray, List.getElem?_cons_zero, List.getElem?_cons_succ] at y0 y1 y2
      go_wp2_with fail
      go_ret
      exact ⟨by simp, HH8.out.1⟩

/-! ### What the walk gives, for every argument -/
set_option maxRecDepth 100000 in
theorem contract (H : Type) (enc : TypeId × Value → H) (W : World) (base : Nat) (args : Array Value) (ds gs : List (DataW H)) (before : List MemPlace)
    (hval : ∀ (j : Nat) t v, Try.f8.params[j]? = some t → args[j]? = some v → Value.okWide Try.prog W .any base t v)
    (hW : DataW.Whole enc Try.prog Try.f8.params.toList Rows.treesAgainSpec.vars false W args.toList ds gs before) (hsz : (DataW.weightsEach Try.prog (Try.f8.params.toList ++ Rows.treesAgainSpec.plain.varTypes Try.prog) (ds ++ gs)).all (· ≤ reachBytes) = true) :
    Calls Try.prog 8 args W fun e W' => ∃ v, e = .returned v ∧ Rows.treesAgainSpec.post enc Try.prog Try.f8 false true false false W args v W' := by
  have hW' := hW
  obtain ⟨p, q, hA0, hV, rfl, hfz, hnd⟩ := hW
  have hA : DataW.TrodAll enc Try.prog W 0 (fun _ => true) true Try.f8.params.toList args.toList ds p := hA0
  rw [Try.params8] at hA hval hsz
  obtain ⟨v0, vs0, d0, ds0, p0, q0, hargs, rfl, rfl, h0, r0⟩ := trodAll_cons hA
  obtain ⟨v1, vs1, d1, ds1, p1, q1, rfl, rfl, rfl, h1, r1⟩ := trodAll_cons r0
  obtain ⟨rfl, rfl, rfl⟩ := trodAll_nil r1
  obtain rfl : args = #[v0, v1] := by cases args; simp_all
  obtain ⟨rfl, rfl⟩ := trodVars_none hV
  have k0 := h0
  have lt0 : ∀ x ∈ p0, x.block < W.heap.size := by obtain ⟨m, hm⟩ := k0; exact DataW.trod_lt m _ _ _ hm
  obtain ⟨a0t, a0n, a0s, a0p, rfl, w0s⟩ := open_gram (hval 0 24 v0 rfl rfl) h0
  have k1 := h1
  have lt1 : ∀ x ∈ p1, x.block < W.heap.size := by obtain ⟨m, hm⟩ := k1; exact DataW.trod_lt m _ _ _ hm
  obtain ⟨a1l, w1s⟩ := open_evsv (hval 1 34 v1 rfl rfl) h1
  clear hA0
  refine (walk a0t a0n a0s a0p _ a1l W w0s w1s).mono fun e W' ⟨he, bel⟩ => ?_
  subst he
  exact ⟨_, rfl, _, _, _, [], _, [], hW', trodAll_mk1 (shut_bool Try.underlying4 _), (trodAll_cons_mk (Below.trod laidOut (by kernel_rfl) (of_decide_eq_true (by kernel_rfl)) k0 bel lt0) (trodAll_cons_mk (Below.trod laidOut (by kernel_rfl) (of_decide_eq_true (by kernel_rfl)) k1 bel lt1) trodAll_mk0)), rfl, bel.frame _, fun h => by cases h⟩

/-! ### The row's step -/
set_option maxRecDepth 100000 in
theorem lifted (os : Os) (started : os.Started) (H : Type) (enc : TypeId × Value → H) :
    ReturnsInHanded {} Try.checked os 8 .any (Rows.treesAgainSpec.pre6 enc Try.prog Try.f8 Rows.treesAgainRow.domain false) (Rows.treesAgainSpec.post enc Try.prog Try.f8 false true false false) := by
  refine returnsInHanded_of_change_sized (C := Try.checked) own started (by kernel_rfl) Try.func8
    (ChangeSpec.witness6 (enc := enc) (C := Try.checked) false ⟨#[], #[.agg #[.int .i64 0, .int .i64 0, .slice none 0 0], .slice none 0 0], []⟩ 8 (by kernel_rfl) (by kernel_rfl) (by kernel_rfl) (by kernel_rfl)) ?_
  intro W base args ds gs before hval hW hcnd hsz _
  exact contract H enc W base args ds gs before hval hW hsz

theorem over : Rows.treesAgainRow.holds Try.pinned (OpenSpec.ofChange Rows.treesAgainSpec) :=
  OpenClaim.holds_of_wide 8 Try.f8 rfl rfl rfl rfl rfl rfl rfl ⟨rfl, rfl, rfl, rfl, rfl⟩ rfl rfl rfl rfl rfl (by kernel_rfl) Try.func8 (by kernel_rfl)
    (of_decide_eq_true (by kernel_rfl)) (by unfold Func.isWrapper; first | (rw [if_pos (by decide +kernel)]; kernel_rfl) | (rw [if_neg (by decide +kernel)]; exact ⟨rfl, rfl⟩))
    (fun os started H enc _ => lifted os started H enc)

end Go.Proofs.Ytldfiofgknmcgaa.treesAgain
namespace Go.Proofs.Ytldfiofgknmcgaa
/-- The given statement. -/
theorem treesAgain_holds : Rows.TreesAgainSaid := treesAgain.over
#print axioms treesAgain_holds
end Go.Proofs.Ytldfiofgknmcgaa
