/-
  FactsWord returns true whatever grammar and word are handed in, and changes nothing that it was handed; no condition.
-/
import Derived.Test.YtmcmidfpglhnmaaRows
import Derived.WalkKit
import Derived.ProofKit
import Derived.OpenShut
import Derived.ShutString
import Derived.SizedLaws
import Derived.ChangeOld
import Derived.Below
import Derived.Carry
import Derived.WalkLawsBesides
import Derived.WalkSpells
import Derived.Test.YtmcmidfpglhnmaaOpens
import Derived.Deep.Cut
import Derived.Test.YtmcmidfpglhnmaaBrCnt
import Derived.Test.YtmcmidfpglhnmaaBrFacts
import Derived.Test.YtmcmidfpglhnmaaCtLaws
namespace Go.Proofs.Ytmcmidfpglhnmaa.factsWord
open Go.ChangeShapes Go.WideShapes Go.ChangeAt Go.RowKit
open Go.ChangeMaps (open_string shut_string)
open Cg
set_option linter.unusedVariables false

theorem own : ownKnob Try.prog.godebug = none := by kernel_rfl
theorem laidOut : laidOutB Try.prog = true := by kernel_rfl
theorem wd_div (x : Wd) (k : Nat) : ((x.toNat : Int) / 2 ^ k) = ((x.toNat / 2 ^ k : Nat) : Int) := by simp
theorem wdb (x : Wd) (k : Nat) : x.getLsbD k = decide (x.toNat / 2 ^ k % 2 = 1) := by
  rw [BitVec.getLsbD, Nat.testBit_eq_decide_div_mod_eq]
theorem and_wd1 (x : Wd) (k : Nat) : (bits .and .u64 ((x.toNat : Int) / 2 ^ k) 1 == 1) = x.getLsbD k := by
  have h1 := x.isLt
  have h2 : x.toNat / 2 ^ k ≤ x.toNat := Nat.div_le_self _ _
  rw [wd_div]
  have := u64_and_nat (x.toNat / 2 ^ k) 1 (by omega) (by omega)
  rw [show ((1 : Nat) : Int) = 1 from rfl] at this
  rw [this, Nat.and_one_is_mod, wdb]
  generalize x.toNat / 2 ^ k = n
  have : n % 2 = 0 ∨ n % 2 = 1 := by omega
  rcases this with h | h <;> rw [h] <;> rfl

theorem bgn_nil {ps : List Pd} {E : Nat → Bool} {F V : Nat → Wd} {R M : Nat → Bool} (h : Fa ps E F V R M) (hk2 : ∀ p ∈ ps, (∀ s ∈ p.2, s.1 = 1 ∨ (s.1 = 2 ∧ 0 ≤ s.2)) ∧ 0 ≤ p.1) : Bgn ps [] (2, 0) 0 ↔ M 0 = true := by
  constructor
  · rintro ⟨t, h1, -⟩
    exact made_sh h.m.cl h1 (by show (2 : Int) ≠ 1; decide)
  · intro hm
    obtain ⟨w, hw⟩ := (some_word h.m hk2 0).2 hm
    obtain ⟨t, ht⟩ := cc_some.1 hw
    exact ⟨t, ht.s0, by simp⟩
theorem ckW_nil {t n : Int} {ps : List Pd} (h : chk t n ps = 0) : ckW t n ps [] = 0 := by
  unfold ckW; rw [if_pos h]; rfl
theorem kd2 {t : Int} {n : Nat} {ps : List Pd} (h : Rg t n ps) : ∀ p ∈ ps, (∀ s ∈ p.2, s.1 = 1 ∨ (s.1 = 2 ∧ 0 ≤ s.2)) ∧ 0 ≤ p.1 := fun p hp => by
  obtain ⟨q, hq, rfl⟩ := List.getElem_of_mem hp
  obtain ⟨m, e1, e2, e3⟩ := h.hd q hq
  refine ⟨fun s hs => ?_, by omega⟩
  rcases h.ok q hq s hs with h | h
  · exact Or.inl h.1
  · exact Or.inr ⟨h.1, h.2.1⟩
theorem word_first {t : Int} {ps : List Pd} {n : Nat} {E : Nat → Bool} {F V : Nat → Wd} {R M : Nat → Bool} (h : Fa ps E F V R M) {ws : List Int} (hw : ∀ x ∈ ws, 0 ≤ x ∧ x < t) (ht : t ≤ 30) (hc : 1 ≤ cnt ps ws 0 0 ws.length) : M 0 = true ∧ ∀ x r, ws = x :: r → (F 0).getLsbD x.toNat = true := by
  obtain ⟨u, hu⟩ := cc_some.1 hc
  obtain ⟨h1, -, h3⟩ := sp_whole.1 hu
  refine ⟨made_sh h.m.cl h1 (by show (2 : Int) ≠ 1; decide), fun x r e => ?_⟩
  have h4 := first_sh h.m.cl h.e.cl h.f.cl h1 (by show (2 : Int) ≠ 1; decide) (h3.trans e)
  have := hw x (by rw [e]; simp)
  exact le_bits.1 h4 x.toNat (by
    have : x.toNat < 64 := by omega
    simp [this])

/-! ### The walk: the Go text returns true. -/
set_option maxHeartbeats 16000000 in
set_option maxRecDepth 20000 in
theorem walk (a0t : Int) (a0n : Int) (a0s : Value) (a0p : List Pd) (v1 : Value) (a1l : List Int) (w : World) (w0s : Pds w a0s a0p) (w1s : Ints w v1 a1l) :
    Calls Try.prog 4 #[.agg #[.int .i64 a0t, .int .i64 a0n, a0s], v1] w fun e w' => e = .returned (.bool true) ∧ Below w.heap.size w w' := by
  have HP : Hid (Pds w a0s a0p) := w0s
  obtain ⟨ga, gc, rfl, -, -⟩ := w0s
  obtain ⟨gm, HGM⟩ : ∃ gm, Hid (a0p.length = gm) := ⟨_, (rfl : a0p.length = _)⟩
  rw [HGM.out] at HP ⊢
  revert HP HGM
  generalize a0t = t
  generalize a0n = n
  generalize a0p = ps
  intro HP HGM
  have HI : Hid (Ints w v1 a1l) := w1s
  obtain ⟨la, lc, rfl, hlm, -⟩ := w1s
  obtain ⟨ln, HLN⟩ : ∃ ln, Hid (a1l.length = ln) := ⟨_, (rfl : a1l.length = _)⟩
  rw [HLN.out] at HI ⊢
  revert HI HLN
  generalize a1l = ws
  intro HI HLN
  have hH1 : Hid (Below w.heap.size w (w.alloc (Obj.cells #[.int .i64 t, .int .i64 n, .slice ga gm gc] 24)) ∧ (w.alloc (Obj.cells #[.int .i64 t, .int .i64 n, .slice ga gm gc] 24)).heap[w.heap.size]? = some (Obj.cells #[.int .i64 t, .int .i64 n, .slice ga gm gc] 24)) := ⟨below_alloc _ _, heap_alloc_new _ _⟩
  obtain ⟨ce, HCE⟩ : ∃ ce, Hid (chk t n ps = ce) := ⟨_, (rfl : chk t n ps = _)⟩
  go_enter Try.func4, Try.ntmps4
  go_upto_region 1 with fail
  generalize w.alloc (Obj.cells #[.int .i64 t, .int .i64 n, .slice ga gm gc] 24) = w1 at hH1 ⊢
  have HH1 : Hid (Below w.heap.size w w1 ∧ w1.heap[w.heap.size]? = some (Obj.cells #[.int .i64 t, .int .i64 n, .slice ga gm gc] 24)) := hH1.out
  clear hH1
  go_wp2_with fail
  refine (brackets_any w1).mono ?_
  rintro _ w2 ⟨gb, rfl, hpb, hb⟩
  have HH2 : Hid (Below w.heap.size w w2 ∧ w2.heap[w.heap.size]? = some (Obj.cells #[.int .i64 t, .int .i64 n, .slice ga gm gc] 24)) := ⟨HH1.out.1.trans (hb.mono HH1.out.1.size), tbox_next HH1.out.2 hb⟩
  have HPB : Hid (Pds w2 (.slice (some ⟨gb, 0, none⟩) 2 2) brs) := hpb
  clear hpb hb HH1
  have hc := Of_ok 2 1 _ brs w2 HPB.out (by decide)
  rw [show ((1 : Nat) : Int) = 1 from rfl] at hc
  go_wp2_with fail
  refine hc.mono ?_
  rintro _ w3 ⟨be, bf, bw, br, bm, rfl, hb, E, F, V, R, M, hfx, hfa⟩
  have HH3 : Hid (Below w.heap.size w w3 ∧ w3.heap[w.heap.size]? = some (Obj.cells #[.int .i64 t, .int .i64 n, .slice ga gm gc] 24)) := ⟨HH2.out.1.trans (hb.mono HH2.out.1.size), tbox_next HH2.out.2 hb⟩
  have hv := brs_val hfa
  have HFX3 : Hid (Fx 1 be bf bw br bm E F V R M w3) := hfx
  clear hc hb HH2 HPB hfx
  have hb := below_alloc w3 (Obj.cells #[.slice (some ⟨be, 0, none⟩) 1 1, .slice (some ⟨bf, 0, none⟩) 1 1, .slice (some ⟨bw, 0, none⟩) 1 1, .slice (some ⟨br, 0, none⟩) 1 1, .slice (some ⟨bm, 0, none⟩) 1 1] 43)
  have hbx := heap_alloc_new w3 (Obj.cells #[.slice (some ⟨be, 0, none⟩) 1 1, .slice (some ⟨bf, 0, none⟩) 1 1, .slice (some ⟨bw, 0, none⟩) 1 1, .slice (some ⟨br, 0, none⟩) 1 1, .slice (some ⟨bm, 0, none⟩) 1 1] 43)
  go_upto_region 2 with fail
  obtain ⟨w4, HW4⟩ : ∃ w4, Hid (w3.alloc (Obj.cells #[.slice (some ⟨be, 0, none⟩) 1 1, .slice (some ⟨bf, 0, none⟩) 1 1, .slice (some ⟨bw, 0, none⟩) 1 1, .slice (some ⟨br, 0, none⟩) 1 1, .slice (some ⟨bm, 0, none⟩) 1 1] 43) = w4) := ⟨_, (rfl : w3.alloc (Obj.cells #[.slice (some ⟨be, 0, none⟩) 1 1, .slice (some ⟨bf, 0, none⟩) 1 1, .slice (some ⟨bw, 0, none⟩) 1 1, .slice (some ⟨br, 0, none⟩) 1 1, .slice (some ⟨bm, 0, none⟩) 1 1] 43) = _)⟩
  rw [HW4.out] at hb hbx ⊢
  have HH4 : Hid (Below w.heap.size w w4 ∧ w4.heap[w.heap.size]? = some (Obj.cells #[.int .i64 t, .int .i64 n, .slice ga gm gc] 24)) := ⟨HH3.out.1.trans (hb.mono HH3.out.1.size), tbox_next HH3.out.2 hb⟩
  have HFX4 : Hid (Fx 1 be bf bw br bm E F V R M w4) := HFX3.out.next hb
  have y0 := tcell_blk hbx 0
  have y1 := tcell_blk hbx 1
  have y2 := tcell_blk hbx 2
  simp only [List.getElem?_toArray, List.getElem?_cons_zero, List.getElem?_cons_succ] at y0 y1 y2
  have z0 := HFX4.out.e.cell (i := 0) (by omega)
  have z1 := HFX4.out.f.cell (i := 0) (by omega)
  have z2 := HFX4.out.v.cell (i := 0) (by omega)
  rw [hv.1] at z0
  rw [hv.2.2.1] at z1
  rw [hv.2.2.2] at z2
  clear hb hbx HW4 HH3 HFX3 hv hfa
  go_upto_region 4 with fail
  clear y0 y1 y2 z0 z1 z2 HFX4
  have k0 := tcell_blk HH4.out.2 0
  have k1 := tcell_blk HH4.out.2 1
  have k2 := tcell_blk HH4.out.2 2
  simp only [List.getElem?_toArray, List.getElem?_cons_zero, List.getElem?_cons_succ] at k0 k1 k2
  by_cases hz : ce = 0
  · subst hz
    obtain ⟨nn, rfl⟩ : ∃ nn : Nat, n = (nn : Int) := ⟨n.toNat, by have := okTN_le (chk_zero HCE.out).1; omega⟩
    have hc := Of_ok t nn _ ps w4 (HP.out.below HH4.out.1) HCE.out
    go_wp2_with fail
    refine hc.mono ?_
    rintro _ w5 ⟨be, bf, bw, br, bm, rfl, hb, E, F, V, R, M, hfx, hfa⟩
    have HH5 : Hid (Below w.heap.size w w5 ∧ w5.heap[w.heap.size]? = some (Obj.cells #[.int .i64 t, .int .i64 nn, .slice ga gm gc] 24)) := ⟨HH4.out.1.trans (hb.mono HH4.out.1.size), tbox_next HH4.out.2 hb⟩
    have HFX5 : Hid (Fx nn be bf bw br bm E F V R M w5) := hfx
    have HFA : Hid (Fa ps E F V R M) := hfa
    have HRG : Hid (Rg t nn ps) := rg_of HCE.out
    clear hc hb HH4 k0 k1 k2 hfx hfa
    have hb := below_alloc w5 (Obj.cells #[.slice (some ⟨be, 0, none⟩) nn nn, .slice (some ⟨bf, 0, none⟩) nn nn, .slice (some ⟨bw, 0, none⟩) nn nn, .slice (some ⟨br, 0, none⟩) nn nn, .slice (some ⟨bm, 0, none⟩) nn nn] 43)
    have hbx := heap_alloc_new w5 (Obj.cells #[.slice (some ⟨be, 0, none⟩) nn nn, .slice (some ⟨bf, 0, none⟩) nn nn, .slice (some ⟨bw, 0, none⟩) nn nn, .slice (some ⟨br, 0, none⟩) nn nn, .slice (some ⟨bm, 0, none⟩) nn nn] 43)
    go_upto_region 5 with fail
    obtain ⟨w6, HW6⟩ : ∃ w6, Hid (w5.alloc (Obj.cells #[.slice (some ⟨be, 0, none⟩) nn nn, .slice (some ⟨bf, 0, none⟩) nn nn, .slice (some ⟨bw, 0, none⟩) nn nn, .slice (some ⟨br, 0, none⟩) nn nn, .slice (some ⟨bm, 0, none⟩) nn nn] 43) = w6) := ⟨_, (rfl : w5.alloc (Obj.cells #[.slice (some ⟨be, 0, none⟩) nn nn, .slice (some ⟨bf, 0, none⟩) nn nn, .slice (some ⟨bw, 0, none⟩) nn nn, .slice (some ⟨br, 0, none⟩) nn nn, .slice (some ⟨bm, 0, none⟩) nn nn] 43) = _)⟩
    obtain ⟨fb, HFB⟩ : ∃ fb, Hid (w5.heap.size = fb) := ⟨_, (rfl : w5.heap.size = _)⟩
    rw [HW6.out] at hb hbx ⊢
    have HH6 : Hid (Below w.heap.size w w6 ∧ w6.heap[w.heap.size]? = some (Obj.cells #[.int .i64 t, .int .i64 nn, .slice ga gm gc] 24)) := ⟨HH5.out.1.trans (hb.mono HH5.out.1.size), tbox_next HH5.out.2 hb⟩
    rw [HFB.out] at hbx ⊢
    have HBX6 : Hid (w6.heap[fb]? = some (Obj.cells #[.slice (some ⟨be, 0, none⟩) nn nn, .slice (some ⟨bf, 0, none⟩) nn nn, .slice (some ⟨bw, 0, none⟩) nn nn, .slice (some ⟨br, 0, none⟩) nn nn, .slice (some ⟨bm, 0, none⟩) nn nn] 43)) := hbx
    have HFX6 : Hid (Fx nn be bf bw br bm E F V R M w6) := HFX5.out.next hb
    clear hb hbx HW6 HFB HH5 HFX5
    have k0 := tcell_blk HH6.out.2 0
    have k1 := tcell_blk HH6.out.2 1
    have k2 := tcell_blk HH6.out.2 2
    simp only [List.getElem?_toArray, List.getElem?_cons_zero, List.getElem?_cons_succ] at k0 k1 k2
    have hc := CTrees_any t nn _ _ ps ws w6 (HP.out.below HH6.out.1) (HI.out.below HH6.out.1)
    obtain ⟨x, HX⟩ : ∃ x, Hid (cTr t nn ps ws = x) := ⟨_, (rfl : cTr t nn ps ws = _)⟩
    obtain ⟨cw, HCW⟩ : ∃ cw, Hid (ckW t nn ps ws = cw) := ⟨_, (rfl : ckW t nn ps ws = _)⟩
    rw [HX.out, HCW.out] at hc
    go_wp2_with fail
    refine hc.mono ?_
    rintro _ w7 ⟨rfl, hb⟩
    have HH7 : Hid (Below w.heap.size w w7 ∧ w7.heap[w.heap.size]? = some (Obj.cells #[.int .i64 t, .int .i64 nn, .slice ga gm gc] 24)) := ⟨HH6.out.1.trans (hb.mono HH6.out.1.size), tbox_next HH6.out.2 hb⟩
    have HBX7 : Hid (w7.heap[fb]? = some (Obj.cells #[.slice (some ⟨be, 0, none⟩) nn nn, .slice (some ⟨bf, 0, none⟩) nn nn, .slice (some ⟨bw, 0, none⟩) nn nn, .slice (some ⟨br, 0, none⟩) nn nn, .slice (some ⟨bm, 0, none⟩) nn nn] 43)) := tbox_next HBX6.out hb
    have HFX7 : Hid (Fx nn be bf bw br bm E F V R M w7) := HFX6.out.next hb
    clear hc hb HH6 k0 k1 k2 HBX6 HFX6
    by_cases hw : cw = 0
    · subst hw
      have k0 := tcell_blk HH7.out.2 0
      have k1 := tcell_blk HH7.out.2 1
      have k2 := tcell_blk HH7.out.2 2
      simp only [List.getElem?_toArray, List.getElem?_cons_zero, List.getElem?_cons_succ] at k0 k1 k2
      have hc := CTrees_any t nn _ _ ps [] w7 (HP.out.below HH7.out.1) (ints_nil _)
      rw [ckW_nil HCE.out] at hc
      obtain ⟨x0, HX0⟩ : ∃ x0, Hid (cTr t nn ps [] = x0) := ⟨_, (rfl : cTr t nn ps [] = _)⟩
      rw [HX0.out] at hc
      have HE0 : Hid (decide ((0 : Int) < (x0 : Int)) = E 0) := by
        show _ = _
        have h1 := cnt_empty HFA.out.e (kd2 HRG.out)
        have h2 : x0 = cnt ps [] 0 0 0 := by rw [← HX0.out]; unfold cTr; rw [if_pos (ckW_nil HCE.out)]; rfl
        cases e : E 0 with
        | true => have := h1.2 e; simp; omega
        | false => have : ¬ 1 ≤ cnt ps [] 0 0 0 := fun h => by rw [h1.1 h] at e; cases e
                   simp; omega
      have HM0 : Hid (cBg t nn ps [] = M 0) := by
        show _ = _
        unfold cBg
        have h1 := bgn_nil HFA.out (kd2 HRG.out)
        cases e : M 0 with
        | true => simp [ckW_nil HCE.out, h1.2 e]
        | false => have : ¬ Bgn ps [] (2, 0) 0 := fun h => by rw [h1.1 h] at e; cases e
                   simp [this]
      go_wp2_with fail
      refine hc.mono ?_
      rintro _ w8 ⟨rfl, hb⟩
      have HH8 : Hid (Below w.heap.size w w8 ∧ w8.heap[w.heap.size]? = some (Obj.cells #[.int .i64 t, .int .i64 nn, .slice ga gm gc] 24)) := ⟨HH7.out.1.trans (hb.mono HH7.out.1.size), tbox_next HH7.out.2 hb⟩
      have HBX8 : Hid (w8.heap[fb]? = some (Obj.cells #[.slice (some ⟨be, 0, none⟩) nn nn, .slice (some ⟨bf, 0, none⟩) nn nn, .slice (some ⟨bw, 0, none⟩) nn nn, .slice (some ⟨br, 0, none⟩) nn nn, .slice (some ⟨bm, 0, none⟩) nn nn] 43)) := tbox_next HBX7.out hb
      have HFX8 : Hid (Fx nn be bf bw br bm E F V R M w8) := HFX7.out.next hb
      clear hc hb HH7 k0 k1 k2 HBX7 HFX7
      have k0 := tcell_blk HH8.out.2 0
      have k1 := tcell_blk HH8.out.2 1
      have k2 := tcell_blk HH8.out.2 2
      simp only [List.getElem?_toArray, List.getElem?_cons_zero, List.getElem?_cons_succ] at k0 k1 k2
      have hc := CBegins_any t nn _ _ ps [] w8 (HP.out.below HH8.out.1) (ints_nil _)
      rw [ckW_nil HCE.out, HM0.out] at hc
      go_wp2_with fail
      refine hc.mono ?_
      rintro _ w9 ⟨rfl, hb⟩
      have HH9 : Hid (Below w.heap.size w w9 ∧ w9.heap[w.heap.size]? = some (Obj.cells #[.int .i64 t, .int .i64 nn, .slice ga gm gc] 24)) := ⟨HH8.out.1.trans (hb.mono HH8.out.1.size), tbox_next HH8.out.2 hb⟩
      have HBX9 : Hid (w9.heap[fb]? = some (Obj.cells #[.slice (some ⟨be, 0, none⟩) nn nn, .slice (some ⟨bf, 0, none⟩) nn nn, .slice (some ⟨bw, 0, none⟩) nn nn, .slice (some ⟨br, 0, none⟩) nn nn, .slice (some ⟨bm, 0, none⟩) nn nn] 43)) := tbox_next HBX8.out hb
      have HFX9 : Hid (Fx nn be bf bw br bm E F V R M w9) := HFX8.out.next hb
      clear hc hb HH8 k0 k1 k2 HBX8 HFX8
      have hnn : 0 < nn := HRG.out.n1
      have y0 := tcell_blk HBX9.out 0
      have y1 := tcell_blk HBX9.out 1
      have y2 := tcell_blk HBX9.out 2
      have y3 := tcell_blk HBX9.out 3
      have y4 := tcell_blk HBX9.out 4
      simp only [List.getElem?_toArray, List.getElem?_cons_zero, List.getElem?_cons_succ] at y0 y1 y2 y3 y4
      have z0 := HFX9.out.e.cell hnn
      have z1 := HFX9.out.f.cell hnn
      have z3 := HFX9.out.r.cell hnn
      have z4 := HFX9.out.m.cell hnn
      rw [HFA.out.r.cl.z] at z3
      have hnn2 : (0 : Int) < (nn : Int) := by omega
      have he0 := HE0.out
      have he1 : (E 0 != E 0) = false := by simp
      have he2 : (M 0 != M 0) = false := by simp
      have HWF : Hid (0 < x → M 0 = true ∧ ∀ y r, ws = y :: r → (F 0).getLsbD y.toNat = true) := fun h => by
        have h1 := ckW_zero HCW.out
        have h2 : x = cnt ps ws 0 0 ws.length := by rw [← HX.out]; unfold cTr; rw [if_pos HCW.out]
        exact word_first (n := nn) HFA.out h1.2.2 HRG.out.t2 (by omega)
      clear HE0 HM0 he1 he2
      cases hE : E 0 with
      | true =>
        rw [hE] at z0 he0
        have hq : (0 : Int) < (x0 : Int) := by simpa using he0
        clear he0
        rcases Nat.eq_zero_or_pos x with hx | hx
        · cases hm : M 0 with
          | true =>
            rw [hm] at z4
            obtain rfl : x = 0 := by omega
            go_wp2_with (go_quiet (fail))
            go_ret
            exact ⟨by simp, HH9.out.1.trans ⟨rfl, rfl, rfl, Nat.le_refl _, fun _ _ => rfl⟩⟩
          | false =>
            rw [hm] at z4
            obtain rfl : x = 0 := by omega
            go_wp2_with (go_quiet (fail))
            go_ret
            exact ⟨by simp, HH9.out.1.trans ⟨rfl, rfl, rfl, Nat.le_refl _, fun _ _ => rfl⟩⟩
        · obtain ⟨hm, hbt⟩ := HWF.out hx
          have HBT : Hid (∀ y r, ws = y :: r → (F 0).getLsbD y.toNat = true) := hbt
          rw [hm] at z4 ⊢
          clear hm hbt
          have hxb : ((x : Int) == 0) = false := by simp; omega
          by_cases hl : ln = 0
          · subst hl
            go_wp2_with (go_quiet (fail))
            go_ret
            exact ⟨by simp, HH9.out.1.trans ⟨rfl, rfl, rfl, Nat.le_refl _, fun _ _ => rfl⟩⟩
          · have hlb : ((ln : Int) == 0) = false := by simp; omega
            have hwl : 0 < ws.length := by rw [HLN.out]; omega
            have HI9 : Hid (Ints w9 (.slice la ws.length lc) ws) := by show Ints _ _ _; rw [HLN.out]; exact HI.out.below HH9.out.1
            obtain ⟨b, o, rfl, -, hcw⟩ := HI9.out.cell hwl
            rw [Nat.add_zero] at hcw
            obtain ⟨y, r, hy⟩ := List.exists_cons_of_ne_nil (List.ne_nil_of_length_pos hwl)
            have hbit := HBT.out y r hy
            have hyr := (ckW_zero HCW.out).2.2 y (by rw [hy]; simp)
            have hge : ws[0] = y := by simp [hy]
            rw [hge] at hcw
            obtain ⟨yn, rfl⟩ : ∃ yn : Nat, y = (yn : Int) := ⟨y.toNat, by omega⟩
            rw [Int.toNat_natCast] at hbit
            have hy30 : (yn : Int) < 30 := by have := HRG.out.t2; omega
            have hbt := and_wd1 (F 0) yn
            rw [hbit] at hbt
            generalize (F 0).toNat = f0 at z1 hbt
            have hl0 : (0 : Int) < (ln : Int) := by omega
            clear hy hge hyr hbit HBT HWF hwl HI9
            go_wp2_with (go_quiet (fail))
            go_ret
            exact ⟨by simp, HH9.out.1.trans ⟨rfl, rfl, rfl, Nat.le_refl _, fun _ _ => rfl⟩⟩
      | false =>
        rw [hE] at z0 he0
        have hq : ¬ ((0 : Int) < (x0 : Int)) := by simpa using he0
        clear he0
        rcases Nat.eq_zero_or_pos x with hx | hx
        · cases hm : M 0 with
          | true =>
            rw [hm] at z4
            obtain rfl : x = 0 := by omega
            go_wp2_with (go_quiet (fail))
            go_ret
            exact ⟨by simp, HH9.out.1.trans ⟨rfl, rfl, rfl, Nat.le_refl _, fun _ _ => rfl⟩⟩
          | false =>
            rw [hm] at z4
            obtain rfl : x = 0 := by omega
            go_wp2_with (go_quiet (fail))
            go_ret
            exact ⟨by simp, HH9.out.1.trans ⟨rfl, rfl, rfl, Nat.le_refl _, fun _ _ => rfl⟩⟩
        · obtain ⟨hm, hbt⟩ := HWF.out hx
          have HBT : Hid (∀ y r, ws = y :: r → (F 0).getLsbD y.toNat = true) := hbt
          rw [hm] at z4 ⊢
          clear hm hbt
          have hxb : ((x : Int) == 0) = false := by simp; omega
          by_cases hl : ln = 0
          · subst hl
            go_wp2_with (go_quiet (fail))
            go_ret
            exact ⟨by simp, HH9.out.1.trans ⟨rfl, rfl, rfl, Nat.le_refl _, fun _ _ => rfl⟩⟩
          · have hlb : ((ln : Int) == 0) = false := by simp; omega
            have hwl : 0 < ws.length := by rw [HLN.out]; omega
            have HI9 : Hid (Ints w9 (.slice la ws.length lc) ws) := by show Ints _ _ _; rw [HLN.out]; exact HI.out.below HH9.out.1
            obtain ⟨b, o, rfl, -, hcw⟩ := HI9.out.cell hwl
            rw [Nat.add_zero] at hcw
            obtain ⟨y, r, hy⟩ := List.exists_cons_of_ne_nil (List.ne_nil_of_length_pos hwl)
            have hbit := HBT.out y r hy
            have hyr := (ckW_zero HCW.out).2.2 y (by rw [hy]; simp)
            have hge : ws[0] = y := by simp [hy]
            rw [hge] at hcw
            obtain ⟨yn, rfl⟩ : ∃ yn : Nat, y = (yn : Int) := ⟨y.toNat, by omega⟩
            rw [Int.toNat_natCast] at hbit
            have hy30 : (yn : Int) < 30 := by have := HRG.out.t2; omega
            have hbt := and_wd1 (F 0) yn
            rw [hbit] at hbt
            generalize (F 0).toNat = f0 at z1 hbt
            have hl0 : (0 : Int) < (ln : Int) := by omega
            clear hy hge hyr hbit HBT HWF hwl HI9
            go_wp2_with (go_quiet (fail))
            go_ret
            exact ⟨by simp, HH9.out.1.trans ⟨rfl, rfl, rfl, Nat.le_refl _, fun _ _ => rfl⟩⟩
    · have hb0 : (cw != 0) = true := by simp; exact hw
      go_wp2_with fail
      go_ret
      exact ⟨by simp, HH7.out.1⟩
  · have hc := Of_bad t n _ ps w4 (HP.out.below HH4.out.1) (by rw [HCE.out]; exact hz)
    rw [HCE.out] at hc
    go_wp2_with fail
    refine hc.mono ?_
    rintro _ w5 ⟨rfl, hb⟩
    have HH5 : Hid (Below w.heap.size w w5 ∧ w5.heap[w.heap.size]? = some (Obj.cells #[.int .i64 t, .int .i64 n, .slice ga gm gc] 24)) := ⟨HH4.out.1.trans (hb.mono HH4.out.1.size), tbox_next HH4.out.2 hb⟩
    clear hc hb HH4 k0 k1 k2
    have hb := below_alloc w5 (Obj.cells #[.slice none 0 0, .slice none 0 0, .slice none 0 0, .slice none 0 0, .slice none 0 0] 43)
    go_upto_region 5 with fail
    obtain ⟨w6, HW6⟩ : ∃ w6, Hid (w5.alloc (Obj.cells #[.slice none 0 0, .slice none 0 0, .slice none 0 0, .slice none 0 0, .slice none 0 0] 43) = w6) := ⟨_, (rfl : w5.alloc (Obj.cells #[.slice none 0 0, .slice none 0 0, .slice none 0 0, .slice none 0 0, .slice none 0 0] 43) = _)⟩
    rw [HW6.out] at hb ⊢
    have HH6 : Hid (Below w.heap.size w w6 ∧ w6.heap[w.heap.size]? = some (Obj.cells #[.int .i64 t, .int .i64 n, .slice ga gm gc] 24)) := ⟨HH5.out.1.trans (hb.mono HH5.out.1.size), tbox_next HH5.out.2 hb⟩
    clear hb HW6 HH5
    have k0 := tcell_blk HH6.out.2 0
    have k1 := tcell_blk HH6.out.2 1
    have k2 := tcell_blk HH6.out.2 2
    simp only [List.getElem?_toArray, List.getElem?_cons_zero, List.getElem?_cons_succ] at k0 k1 k2
    have hc := CTrees_any t n _ _ ps ws w6 (HP.out.below HH6.out.1) (HI.out.below HH6.out.1)
    generalize cTr t n ps ws = x at hc
    generalize ckW t n ps ws = cw at hc
    go_wp2_with fail
    refine hc.mono ?_
    rintro _ w7 ⟨rfl, hb⟩
    have HH7 : Hid (Below w.heap.size w w7 ∧ w7.heap[w.heap.size]? = some (Obj.cells #[.int .i64 t, .int .i64 n, .slice ga gm gc] 24)) := ⟨HH6.out.1.trans (hb.mono HH6.out.1.size), tbox_next HH6.out.2 hb⟩
    clear hc hb HH6 k0 k1 k2
    have hb0 : (ce != 0) = true := by simp; exact hz
    go_wp2_with fail
    go_ret
    exact ⟨by simp, HH7.out.1⟩

/-! ### What the walk gives, for every argument -/
set_option maxRecDepth 100000 in
theorem contract (H : Type) (enc : TypeId × Value → H) (W : World) (base : Nat) (args : Array Value) (ds gs : List (DataW H)) (before : List MemPlace)
    (hval : ∀ (j : Nat) t v, Try.f4.params[j]? = some t → args[j]? = some v → Value.okWide Try.prog W .any base t v)
    (hW : DataW.Whole enc Try.prog Try.f4.params.toList Rows.factsWordSpec.vars false W args.toList ds gs before) (hsz : (DataW.weightsEach Try.prog (Try.f4.params.toList ++ Rows.factsWordSpec.plain.varTypes Try.prog) (ds ++ gs)).all (· ≤ reachBytes) = true) :
    Calls Try.prog 4 args W fun e W' => ∃ v, e = .returned v ∧ Rows.factsWordSpec.post enc Try.prog Try.f4 false true false false W args v W' := by
  have hW' := hW
  obtain ⟨p, q, hA0, hV, rfl, hfz, hnd⟩ := hW
  have hA : DataW.TrodAll enc Try.prog W 0 (fun _ => true) true Try.f4.params.toList args.toList ds p := hA0
  rw [Try.params4] at hA hval hsz
  obtain ⟨v0, vs0, d0, ds0, p0, q0, hargs, rfl, rfl, h0, r0⟩ := trodAll_cons hA
  obtain ⟨v1, vs1, d1, ds1, p1, q1, rfl, rfl, rfl, h1, r1⟩ := trodAll_cons r0
  obtain ⟨rfl, rfl, rfl⟩ := trodAll_nil r1
  obtain rfl : args = #[v0, v1] := by cases args; simp_all
  obtain ⟨rfl, rfl⟩ := trodVars_none hV
  have k0 := h0
  have lt0 : ∀ x ∈ p0, x.block < W.heap.size := by obtain ⟨m, hm⟩ := k0; exact DataW.trod_lt m _ _ _ hm
  obtain ⟨a0t, a0n, a0s, a0p, rfl, w0s⟩ := open_gram (hval 0 24 v0 rfl rfl) h0
  have k1 := h1
  have lt1 : ∀ x ∈ p1, x.block < W.heap.size := by obtain ⟨m, hm⟩ := k1; exact DataW.trod_lt m _ _ _ hm
  obtain ⟨a1l, w1s⟩ := open_intsv (hval 1 25 v1 rfl rfl) h1
  clear hA0
  refine (walk a0t a0n a0s a0p _ a1l W w0s w1s).mono fun e W' ⟨he, bel⟩ => ?_
  subst he
  exact ⟨_, rfl, _, _, _, [], _, [], hW', trodAll_mk1 (shut_bool Try.underlying4 _), (trodAll_cons_mk (Below.trod laidOut (by kernel_rfl) (of_decide_eq_true (by kernel_rfl)) k0 bel lt0) (trodAll_cons_mk (Below.trod laidOut (by kernel_rfl) (of_decide_eq_true (by kernel_rfl)) k1 bel lt1) trodAll_mk0)), rfl, bel.frame _, fun h => by cases h⟩

/-! ### The row's step -/
set_option maxRecDepth 100000 in
theorem lifted (os : Os) (started : os.Started) (H : Type) (enc : TypeId × Value → H) :
    ReturnsInHanded {} Try.checked os 4 .any (Rows.factsWordSpec.pre6 enc Try.prog Try.f4 Rows.factsWordRow.domain false) (Rows.factsWordSpec.post enc Try.prog Try.f4 false true false false) := by
  refine returnsInHanded_of_change_sized (C := Try.checked) own started (by kernel_rfl) Try.func4
    (ChangeSpec.witness6 (enc := enc) (C := Try.checked) false ⟨#[], #[.agg #[.int .i64 0, .int .i64 0, .slice none 0 0], .slice none 0 0], []⟩ 8 (by kernel_rfl) (by kernel_rfl) (by kernel_rfl) (by kernel_rfl)) ?_
  intro W base args ds gs before hval hW hcnd hsz _
  exact contract H enc W base args ds gs before hval hW hsz

theorem over : Rows.factsWordRow.holds Try.pinned (OpenSpec.ofChange Rows.factsWordSpec) :=
  OpenClaim.holds_of_wide 4 Try.f4 rfl rfl rfl rfl rfl rfl rfl ⟨rfl, rfl, rfl, rfl, rfl⟩ rfl rfl rfl rfl rfl (by kernel_rfl) Try.func4 (by kernel_rfl)
    (of_decide_eq_true (by kernel_rfl)) (by unfold Func.isWrapper; first | (rw [if_pos (by decide +kernel)]; kernel_rfl) | (rw [if_neg (by decide +kernel)]; exact ⟨rfl, rfl⟩))
    (fun os started H enc _ => lifted os started H enc)

end Go.Proofs.Ytmcmidfpglhnmaa.factsWord
namespace Go.Proofs.Ytmcmidfpglhnmaa
/-- The given statement. -/
theorem factsWord_holds : Rows.FactsWordSaid := factsWord.over
#print axioms factsWord_holds
end Go.Proofs.Ytmcmidfpglhnmaa
