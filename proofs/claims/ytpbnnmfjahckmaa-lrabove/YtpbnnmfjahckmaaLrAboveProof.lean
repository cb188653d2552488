/-
  LrAbove returns true whatever grammar is handed in, and changes nothing that it was handed; no condition.
-/
import Derived.Test.YtpbnnmfjahckmaaRows
import Derived.WalkKit
import Derived.ProofKit
import Derived.OpenShut
import Derived.ShutString
import Derived.SizedLaws
import Derived.ChangeOld
import Derived.Below
import Derived.Carry
import Derived.WalkLawsBesides
import Derived.WalkSpells
import Derived.Test.YtpbnnmfjahckmaaGrA
import Derived.Deep.Cut
import Derived.Test.YtpbnnmfjahckmaaLrCalm
import Derived.Test.YtpbnnmfjahckmaaTrAble
import Derived.Test.YtpbnnmfjahckmaaLrAbove3
import Derived.Test.YtpbnnmfjahckmaaLrHave
namespace Go.Proofs.Ytpbnnmfjahckmaa.lrAbove
open Go.ChangeShapes Go.WideShapes Go.ChangeAt Go.RowKit
open Go.ChangeMaps (open_string shut_string)
open Cg
set_option linter.unusedVariables false

theorem own : ownKnob Try.prog.godebug = none := by kernel_rfl
theorem laidOut : laidOutB Try.prog = true := by kernel_rfl

theorem chk_brsA : chk 2 1 brs = 0 := by decide
set_option maxHeartbeats 16000000 in
set_option maxRecDepth 20000 in
theorem walk (a0t : Int) (a0n : Int) (a0s : Value) (a0p : List Pd) (w : World) (w0s : Pds w a0s a0p) :
    Calls Try.prog 5 #[.agg #[.int .i64 a0t, .int .i64 a0n, a0s]] w fun e w' => e = .returned (.bool true) ∧ Below w.heap.size w w' := by
  have HP : Hid (Pds w a0s a0p) := w0s
  obtain ⟨ga, gc0, rfl, -, -⟩ := w0s
  obtain ⟨gm, HGM⟩ : ∃ gm, Hid (a0p.length = gm) := ⟨_, (rfl : a0p.length = _)⟩
  rw [HGM.out] at HP ⊢
  revert HP HGM
  generalize a0t = t
  generalize a0n = n
  generalize a0p = ps
  intro HP HGM
  have hH1 : Hid (Below w.heap.size w (w.alloc (Obj.cells #[.int .i64 t, .int .i64 n, .slice ga gm gc0] 24)) ∧ (w.alloc (Obj.cells #[.int .i64 t, .int .i64 n, .slice ga gm gc0] 24)).heap[w.heap.size]? = some (Obj.cells #[.int .i64 t, .int .i64 n, .slice ga gm gc0] 24)) := ⟨below_alloc _ _, heap_alloc_new _ _⟩
  obtain ⟨ce, HCE⟩ : ∃ ce, Hid (chk t n ps = ce) := ⟨_, (rfl : chk t n ps = _)⟩
  go_enter Try.func5, Try.ntmps5
  go_upto_region 1 with fail
  generalize w.alloc (Obj.cells #[.int .i64 t, .int .i64 n, .slice ga gm gc0] 24) = w1 at hH1 ⊢
  have HH1 : Hid (Below w.heap.size w w1 ∧ w1.heap[w.heap.size]? = some (Obj.cells #[.int .i64 t, .int .i64 n, .slice ga gm gc0] 24)) := hH1.out
  clear hH1
  go_wp2_with fail
  refine (brackets_any w1).mono ?_
  rintro _ w2 ⟨gb, rfl, hpb, hb⟩
  have HH2 : Hid (Below w.heap.size w w2 ∧ w2.heap[w.heap.size]? = some (Obj.cells #[.int .i64 t, .int .i64 n, .slice ga gm gc0] 24)) := ⟨HH1.out.1.trans (hb.mono HH1.out.1.size), mbox_next HH1.out.2 hb⟩
  have HPB : Hid (Pds w2 (.slice (some ⟨gb, 0, none⟩) 2 2) brs) := hpb
  clear hpb hb HH1
  have hc := calm_ok 2 1 _ brs w2 HPB.out chk_brsA
  go_wp2_with fail
  refine hc.mono ?_
  rintro e3 w3 ⟨hb3, E, F, V0, R, M, ks, ss, nx, hfa, hau, hcase⟩
  obtain ⟨hle, hnx, av, gv, rfl, har, hrw⟩ : ks.length ≤ 200 ∧ nx.length = ks.length ∧ ∃ av gv, e3 = .returned (.tuple #[.agg #[av, gv], .bool (decide (ftN 2 brs ss nx ks.length = []))]) ∧ ArsF w2.heap.size w3 av (actsT 2 ks.length brs ss nx) ∧ RwsF w2.heap.size w3 gv (gotoT 2 ks.length nx) := by
    rcases hcase with ⟨h200, -⟩ | h
    · exact absurd (br_few hau.st) (by omega)
    · exact h
  have hAu : Au 2 1 brs E F ks ss nx := ⟨hau, hnx, chk_brsA⟩
  rw [show decide (ftN 2 brs ss nx ks.length = []) = true by rw [br_calm hAu]; rfl]
  have h2 := br_two hAu
  have hA := har.ars
  have hG := hrw.rws
  have hal : (actsT 2 ks.length brs ss nx).length = ks.length := by simp [actsT]
  generalize actsT 2 ks.length brs ss nx = al at hA hal
  generalize gotoT 2 ks.length nx = gl at hG
  obtain ⟨ao, ac, rfl⟩ : ∃ ao ac, av = .slice ao al.length ac := by obtain ⟨ao, c, e, -⟩ := hA; exact ⟨ao, c, e⟩
  obtain ⟨go, gc, rfl⟩ : ∃ go gc, gv = .slice go gl.length gc := by obtain ⟨ao, c, e, -⟩ := hG; exact ⟨ao, c, e⟩
  have HA3 : Hid (Ars w3 (.slice ao al.length ac) al) := hA
  have HG3 : Hid (Rws w3 (.slice go gl.length gc) gl) := hG
  obtain ⟨an, HANE⟩ : ∃ an, Hid (al.length = an) := ⟨_, (rfl : al.length = _)⟩
  obtain ⟨gn, HGNE⟩ : ∃ gn, Hid (gl.length = gn) := ⟨_, (rfl : gl.length = _)⟩
  have HAN2 : Hid (2 ≤ an) := by have := HANE.out; show _ ≤ _; omega
  rw [HANE.out, HGNE.out]
  have HH3 : Hid (Below w.heap.size w w3 ∧ w3.heap[w.heap.size]? = some (Obj.cells #[.int .i64 t, .int .i64 n, .slice ga gm gc0] 24)) := ⟨HH2.out.1.trans (hb3.mono HH2.out.1.size), mbox_next HH2.out.2 hb3⟩
  have hab := below_alloc w3 (Obj.cells #[.slice ao an ac, .slice go gn gc] 28)
  have HH4 : Hid (Below w.heap.size w (w3.alloc (Obj.cells #[.slice ao an ac, .slice go gn gc] 28)) ∧ (w3.alloc (Obj.cells #[.slice ao an ac, .slice go gn gc] 28)).heap[w.heap.size]? = some (Obj.cells #[.int .i64 t, .int .i64 n, .slice ga gm gc0] 24)) := ⟨HH3.out.1.trans (hab.mono HH3.out.1.size), mbox_next HH3.out.2 hab⟩
  have HTB : Hid (_) := heap_alloc_new w3 (Obj.cells #[.slice ao an ac, .slice go gn gc] 28)
  clear hc hcase hb3 hfa hau hAu har hrw h2 hA hG hal HH2 HH3 HA3 HG3 hab hnx hle HPB
  go_upto_region 2 with fail
  obtain ⟨tb, HTBE⟩ : ∃ z, Hid (w3.heap.size = z) := ⟨_, (rfl : w3.heap.size = _)⟩
  obtain ⟨w4, HW4⟩ : ∃ z, Hid (w3.alloc (Obj.cells #[.slice ao an ac, .slice go gn gc] 28) = z) := ⟨_, (rfl : w3.alloc _ = _)⟩
  rw [HW4.out] at HH4 HTB ⊢
  rw [HTBE.out] at HTB ⊢
  have t0 := mcell_blk HTB.out 0
  simp only [List.getElem?_toArray, List.getElem?_cons_zero] at t0
  have hd1 : ¬ ((an : Int) < 2) := by have := HAN2.out; omega
  have hd2 : decide ((an : Int) < 2) = false := by simpa using hd1
  have hd4 : 2 ≤ an := HAN2.out
  have k0 := mcell_blk HH4.out.2 0
  have k1 := mcell_blk HH4.out.2 1
  have k2 := mcell_blk HH4.out.2 2
  simp only [List.getElem?_toArray, List.getElem?_cons_zero, List.getElem?_cons_succ] at k0 k1 k2
  clear HW4 HTBE HTB HANE HGNE
  by_cases hz : ce = 0
  · subst hz
    obtain ⟨nn, rfl⟩ : ∃ nn : Nat, n = (nn : Int) := ⟨n.toNat, by have := okTN_le (chk_zero HCE.out).1; omega⟩
    obtain ⟨tt, rfl⟩ : ∃ tt : Nat, t = (tt : Int) := ⟨t.toNat, by have := okTN_le (chk_zero HCE.out).1; omega⟩
    have HNN : Hid (nn ≤ 100000) := by have := okTN_le (chk_zero HCE.out).1; show _ ≤ _; omega
    have hc := Of_ok tt nn _ ps w4 (HP.out.below HH4.out.1) HCE.out
    go_wp2_with fail
    refine hc.mono ?_
    rintro _ w5 ⟨be, bf, bw, br, bm, rfl, hb5, E, F, V, R, M, hx, hfa⟩
    have HFA : Hid (Fa ps E F V R M) := hfa
    have hab := below_alloc w5 (Obj.cells #[.slice (some ⟨be, 0, none⟩) nn nn, .slice (some ⟨bf, 0, none⟩) nn nn, .slice (some ⟨bw, 0, none⟩) nn nn, .slice (some ⟨br, 0, none⟩) nn nn, .slice (some ⟨bm, 0, none⟩) nn nn] 52)
    have HX : Hid (Fx nn be bf bw br bm E F V R M (w5.alloc (Obj.cells #[.slice (some ⟨be, 0, none⟩) nn nn, .slice (some ⟨bf, 0, none⟩) nn nn, .slice (some ⟨bw, 0, none⟩) nn nn, .slice (some ⟨br, 0, none⟩) nn nn, .slice (some ⟨bm, 0, none⟩) nn nn] 52))) := hx.next hab
    have HH5 : Hid (Below w.heap.size w (w5.alloc (Obj.cells #[.slice (some ⟨be, 0, none⟩) nn nn, .slice (some ⟨bf, 0, none⟩) nn nn, .slice (some ⟨bw, 0, none⟩) nn nn, .slice (some ⟨br, 0, none⟩) nn nn, .slice (some ⟨bm, 0, none⟩) nn nn] 52)) ∧ (w5.alloc (Obj.cells #[.slice (some ⟨be, 0, none⟩) nn nn, .slice (some ⟨bf, 0, none⟩) nn nn, .slice (some ⟨bw, 0, none⟩) nn nn, .slice (some ⟨br, 0, none⟩) nn nn, .slice (some ⟨bm, 0, none⟩) nn nn] 52)).heap[w.heap.size]? = some (Obj.cells #[.int .i64 tt, .int .i64 nn, .slice ga gm gc0] 24)) := ⟨HH4.out.1.trans ((hb5.trans (hab.mono hb5.size)).mono HH4.out.1.size), mbox_next HH4.out.2 (hb5.trans (hab.mono hb5.size))⟩
    have HCB : Hid ((w5.alloc (Obj.cells #[.slice (some ⟨be, 0, none⟩) nn nn, .slice (some ⟨bf, 0, none⟩) nn nn, .slice (some ⟨bw, 0, none⟩) nn nn, .slice (some ⟨br, 0, none⟩) nn nn, .slice (some ⟨bm, 0, none⟩) nn nn] 52)).heap[w5.heap.size]? = some (Obj.cells #[.slice (some ⟨be, 0, none⟩) nn nn, .slice (some ⟨bf, 0, none⟩) nn nn, .slice (some ⟨bw, 0, none⟩) nn nn, .slice (some ⟨br, 0, none⟩) nn nn, .slice (some ⟨bm, 0, none⟩) nn nn] 52)) := heap_alloc_new _ _
    clear hc hb5 hx hfa hab HH4 k0 k1 k2 t0
    go_upto_region 5 with fail
    obtain ⟨cb, HCBE⟩ : ∃ z, Hid (w5.heap.size = z) := ⟨_, (rfl : w5.heap.size = _)⟩
    obtain ⟨w6, HW6⟩ : ∃ z, Hid (w5.alloc (Obj.cells #[.slice (some ⟨be, 0, none⟩) nn nn, .slice (some ⟨bf, 0, none⟩) nn nn, .slice (some ⟨bw, 0, none⟩) nn nn, .slice (some ⟨br, 0, none⟩) nn nn, .slice (some ⟨bm, 0, none⟩) nn nn] 52) = z) := ⟨_, (rfl : w5.alloc _ = _)⟩
    rw [HW6.out] at HX HH5 HCB ⊢
    rw [HCBE.out] at HCB ⊢
    clear HW6 HCBE
    have k0 := mcell_blk HH5.out.2 0
    have k1 := mcell_blk HH5.out.2 1
    have k2 := mcell_blk HH5.out.2 2
    simp only [List.getElem?_toArray, List.getElem?_cons_zero, List.getElem?_cons_succ] at k0 k1 k2
    have hc := able_ok tt nn _ ps w6 (HP.out.below HH5.out.1) HCE.out
    go_wp2_with fail
    refine hc.mono ?_
    rintro _ w7 ⟨ra, rn, rc, S, rfl, htk, -, hb7⟩
    have HH7 : Hid (Below w.heap.size w w7 ∧ w7.heap[w.heap.size]? = some (Obj.cells #[.int .i64 tt, .int .i64 nn, .slice ga gm gc0] 24)) := ⟨HH5.out.1.trans (hb7.mono HH5.out.1.size), mbox_next HH5.out.2 hb7⟩
    have HX7 : Hid (Fx nn be bf bw br bm E F V R M w7) := HX.out.next hb7
    have HCB7 : Hid (w7.heap[cb]? = some (Obj.cells #[.slice (some ⟨be, 0, none⟩) nn nn, .slice (some ⟨bf, 0, none⟩) nn nn, .slice (some ⟨bw, 0, none⟩) nn nn, .slice (some ⟨br, 0, none⟩) nn nn, .slice (some ⟨bm, 0, none⟩) nn nn] 52)) := mbox_next HCB.out hb7
    have HN0 : Hid (clsN ps S tt nn = [] → cont nn M = false → Nf tt ps E F) := fun h1 h2 => by
      obtain ⟨E2, F2, V2, R2, M2, hfa2, rfl⟩ := htk
      obtain ⟨rfl, rfl, rfl, rfl, rfl⟩ := HFA.out.uniq hfa2
      have hrg := rg_of HCE.out
      exact ll_nf ⟨hfa2, h1, by have := hrg.t2; omega, hrg⟩ (cont_false h2)
    clear hc hb7 htk HX HH5 HCB k0 k1 k2
    by_cases hcl : clsN ps S tt nn = []
    · have hd5 : decide (clsN ps S tt nn = []) = true := by simp [hcl]
      rw [hd5]
      obtain ⟨q1, HQ1⟩ : ∃ q, Hid (cont nn R = q) := ⟨_, (rfl : cont nn R = _)⟩
      obtain ⟨q2, HQ2⟩ : ∃ q, Hid (cont nn M = q) := ⟨_, (rfl : cont nn M = _)⟩
      have HN1 : Hid (q2 = false → Nf tt ps E F) := fun h => HN0.out hcl (HQ2.out.trans h)
      have t3 := mcell_blk HCB7.out 3
      have t4 := mcell_blk HCB7.out 4
      simp only [List.getElem?_toArray, List.getElem?_cons_zero, List.getElem?_cons_succ] at t3 t4
      have HT3 : Hid (cb < w7.heap.size ∧ w7.cell? ⟨cb, 3, none⟩ = some (.slice (some ⟨br, 0, none⟩) nn nn)) := ⟨mheap_lt HCB7.out, t3⟩
      have HT4 : Hid (cb < w7.heap.size ∧ w7.cell? ⟨cb, 4, none⟩ = some (.slice (some ⟨bm, 0, none⟩) nn nn)) := ⟨mheap_lt HCB7.out, t4⟩
      clear HN0 hd5 hcl HCB7
      cases q1 with
      | true =>
        clear HN1
        have hc := containsB_any br nn HNN.out R w7 HX7.out.r
        rw [HQ1.out] at hc
        go_wp2_with fail
        refine hc.mono ?_
        rintro _ w8 ⟨rfl, hb8⟩
        have HB8 : Hid (Below w.heap.size w w8) := HH7.out.1.trans (hb8.mono HH7.out.1.size)
        clear hc hb8
        go_wp2_with fail
        go_ret
        exact ⟨by simp, HB8.out⟩
      | false =>
        have hc := containsB_any br nn HNN.out R w7 HX7.out.r
        rw [HQ1.out] at hc
        go_wp2_with fail
        refine hc.mono ?_
        rintro _ w7b ⟨rfl, hb8⟩
        have HB7 : Hid (Below w7.heap.size w7 w7b) := hb8
        have t4b := (HB7.out.cell (p := ⟨cb, 4, none⟩) HT4.out.1).trans HT4.out.2
        have hc2 := containsB_any bm nn HNN.out M w7b (HX7.out.m.next hb8)
        rw [HQ2.out] at hc2
        clear hc hb8 t3 t4
        go_wp2_with fail
        refine hc2.mono ?_
        rintro _ w8 ⟨rfl, hb9⟩
        have HB8 : Hid (Below w7.heap.size w7 w8) := HB7.out.trans (hb9.mono HB7.out.size)
        clear hc2 hb9 t4b HB7
        by_cases hq : q2 = true
        · subst hq
          clear HN1
          go_wp2_with fail
          go_ret
          exact ⟨by simp, HH7.out.1.trans (HB8.out.mono HH7.out.1.size)⟩
        · obtain rfl : q2 = false := by simpa using hq
          have HH8 : Hid (Below w.heap.size w w8 ∧ w8.heap[w.heap.size]? = some (Obj.cells #[.int .i64 tt, .int .i64 nn, .slice ga gm gc0] 24)) := ⟨HH7.out.1.trans (HB8.out.mono HH7.out.1.size), mbox_next HH7.out.2 HB8.out⟩
          clear HB8 HH7
          have k0 := mcell_blk HH8.out.2 0
          have k1 := mcell_blk HH8.out.2 1
          have k2 := mcell_blk HH8.out.2 2
          simp only [List.getElem?_toArray, List.getElem?_cons_zero, List.getElem?_cons_succ] at k0 k1 k2
          have hc := LrMake_ok tt nn _ ps w8 (HP.out.below HH8.out.1) HCE.out
          go_wp2_with fail
          refine hc.mono ?_
          rintro e9 w9 ⟨hb9, E9, F9, V9, R9, M9, ks, ss, nx, hfa, hau, hcase⟩
          have HB9 : Hid (Below w.heap.size w w9) := HH8.out.1.trans (hb9.mono HH8.out.1.size)
          rcases hcase with ⟨-, rfl⟩ | ⟨hle, hnx, av2, gv2, fo, fc, rfl, ⟨x1, z1, rfl, -⟩, ⟨x2, z2, rfl, -⟩, -⟩
          · clear hc hb9 hfa hau HH8 k0 k1 k2 HN1
            go_wp2_with fail
            go_ret
            exact ⟨by simp, HB9.out.trans ((below_alloc _ _).mono HB9.out.size)⟩
          · obtain ⟨rfl, rfl, rfl, rfl, rfl⟩ := HFA.out.uniq hfa
            have h0 : ftN tt ps ss nx ks.length = [] := of_nf ⟨hau, hnx, HCE.out⟩ (HN1.out (by simp))
            rw [h0]
            generalize (actsT tt ks.length ps ss nx).length = y1
            generalize (gotoT tt ks.length nx).length = y2
            clear hc hb9 hfa hau HH8 k0 k1 k2 HN1 h0 hle hnx
            go_wp2_with fail
            go_ret
            exact ⟨by simp, HB9.out.trans ((below_alloc _ _).mono HB9.out.size)⟩
    · have hd5 : decide (clsN ps S tt nn = []) = false := by simp [hcl]
      rw [hd5]
      clear hcl hd5 HN0
      go_wp2_with fail
      go_ret
      exact ⟨by simp, HH7.out.1⟩
  · have hc := Of_bad t n _ ps w4 (HP.out.below HH4.out.1) (by rw [HCE.out]; exact hz)
    rw [HCE.out] at hc
    have hb0 : (ce != 0) = true := by simp; exact hz
    go_wp2_with fail
    refine hc.mono ?_
    rintro _ w5 ⟨rfl, hb5⟩
    have hab := below_alloc w5 (Obj.cells #[.slice none 0 0, .slice none 0 0, .slice none 0 0, .slice none 0 0, .slice none 0 0] 52)
    have HH5 : Hid (Below w.heap.size w (w5.alloc (Obj.cells #[.slice none 0 0, .slice none 0 0, .slice none 0 0, .slice none 0 0, .slice none 0 0] 52)) ∧ (w5.alloc (Obj.cells #[.slice none 0 0, .slice none 0 0, .slice none 0 0, .slice none 0 0, .slice none 0 0] 52)).heap[w.heap.size]? = some (Obj.cells #[.int .i64 t, .int .i64 n, .slice ga gm gc0] 24)) := ⟨HH4.out.1.trans ((hb5.trans (hab.mono hb5.size)).mono HH4.out.1.size), mbox_next HH4.out.2 (hb5.trans (hab.mono hb5.size))⟩
    clear hc hb5 hab HH4 k0 k1 k2 t0
    go_upto_region 5 with fail
    generalize w5.alloc (Obj.cells #[.slice none 0 0, .slice none 0 0, .slice none 0 0, .slice none 0 0, .slice none 0 0] 52) = w6 at HH5 ⊢
    have k0 := mcell_blk HH5.out.2 0
    have k1 := mcell_blk HH5.out.2 1
    have k2 := mcell_blk HH5.out.2 2
    simp only [List.getElem?_toArray, List.getElem?_cons_zero, List.getElem?_cons_succ] at k0 k1 k2
    have hc := able_bad t n _ ps w6 (HP.out.below HH5.out.1) (by rw [HCE.out]; exact hz)
    go_wp2_with fail
    refine hc.mono ?_
    rintro _ w7 ⟨rfl, hb7⟩
    have HB7 : Hid (Below w.heap.size w w7) := HH5.out.1.trans (hb7.mono HH5.out.1.size)
    clear hc hb7 HH5 k0 k1 k2
    go_wp2_with fail
    go_ret
    exact ⟨by simp, HB7.out⟩

/-! ### What the walk gives, for every argument -/
set_option maxRecDepth 100000 in
theorem contract (H : Type) (enc : TypeId × Value → H) (W : World) (base : Nat) (args : Array Value) (ds gs : List (DataW H)) (before : List MemPlace)
    (hval : ∀ (j : Nat) t v, Try.f5.params[j]? = some t → args[j]? = some v → Value.okWide Try.prog W .any base t v)
    (hW : DataW.Whole enc Try.prog Try.f5.params.toList Rows.lrAboveSpec.vars false W args.toList ds gs before) (hsz : (DataW.weightsEach Try.prog (Try.f5.params.toList ++ Rows.lrAboveSpec.plain.varTypes Try.prog) (ds ++ gs)).all (· ≤ reachBytes) = true) :
    Calls Try.prog 5 args W fun e W' => ∃ v, e = .returned v ∧ Rows.lrAboveSpec.post enc Try.prog Try.f5 false true false false W args v W' := by
  have hW' := hW
  obtain ⟨p, q, hA0, hV, rfl, hfz, hnd⟩ := hW
  have hA : DataW.TrodAll enc Try.prog W 0 (fun _ => true) true Try.f5.params.toList args.toList ds p := hA0
  rw [Try.params5] at hA hval hsz
  obtain ⟨v0, vs0, d0, ds0, p0, q0, hargs, rfl, rfl, h0, r0⟩ := trodAll_cons hA
  obtain ⟨rfl, rfl, rfl⟩ := trodAll_nil r0
  obtain rfl : args = #[v0] := by cases args; simp_all
  obtain ⟨rfl, rfl⟩ := trodVars_none hV
  have k0 := h0
  have lt0 : ∀ x ∈ p0, x.block < W.heap.size := by obtain ⟨m, hm⟩ := k0; exact DataW.trod_lt m _ _ _ hm
  obtain ⟨a0t, a0n, a0s, a0p, rfl, w0s⟩ := open_gram (hval 0 24 v0 rfl rfl) h0
  clear hA0
  refine (walk a0t a0n a0s a0p W w0s).mono fun e W' ⟨he, bel⟩ => ?_
  subst he
  exact ⟨_, rfl, _, _, _, [], _, [], hW', trodAll_mk1 (shut_bool Try.underlying4 _), (trodAll_cons_mk (Below.trod laidOut (by kernel_rfl) (of_decide_eq_true (by kernel_rfl)) k0 bel lt0) trodAll_mk0), rfl, bel.frame _, fun h => by cases h⟩

/-! ### The row's step -/
set_option maxRecDepth 100000 in
theorem lifted (os : Os) (started : os.Started) (H : Type) (enc : TypeId × Value → H) :
    ReturnsInHanded {} Try.checked os 5 .any (Rows.lrAboveSpec.pre6 enc Try.prog Try.f5 Rows.lrAboveRow.domain false) (Rows.lrAboveSpec.post enc Try.prog Try.f5 false true false false) := by
  refine returnsInHanded_of_change_sized (C := Try.checked) own started (by kernel_rfl) Try.func5
    (ChangeSpec.witness6 (enc := enc) (C := Try.checked) false ⟨#[], #[.agg #[.int .i64 0, .int .i64 0, .slice none 0 0]], []⟩ 8 (by kernel_rfl) (by kernel_rfl) (by kernel_rfl) (by kernel_rfl)) ?_
  intro W base args ds gs before hval hW hcnd hsz _
  exact contract H enc W base args ds gs before hval hW hsz

theorem over : Rows.lrAboveRow.holds Try.pinned (OpenSpec.ofChange Rows.lrAboveSpec) :=
  OpenClaim.holds_of_wide 5 Try.f5 rfl rfl rfl rfl rfl rfl rfl ⟨rfl, rfl, rfl, rfl, rfl⟩ rfl rfl rfl rfl rfl (by kernel_rfl) Try.func5 (by kernel_rfl)
    (of_decide_eq_true (by kernel_rfl)) (by unfold Func.isWrapper; first | (rw [if_pos (by decide +kernel)]; kernel_rfl) | (rw [if_neg (by decide +kernel)]; exact ⟨rfl, rfl⟩))
    (fun os started H enc _ => lifted os started H enc)

end Go.Proofs.Ytpbnnmfjahckmaa.lrAbove
namespace Go.Proofs.Ytpbnnmfjahckmaa
/-- The given statement. -/
theorem lrAbove_holds : Rows.LrAboveSaid := lrAbove.over
#print axioms lrAbove_holds
end Go.Proofs.Ytpbnnmfjahckmaa
