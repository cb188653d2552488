/-
  The contract of cfg.Read.
-/
import Derived.Test.YtgoafahglajfmaaDoorAddLine
import Derived.Test.YtgoafahglajfmaaDoorTxRead
namespace Go.Proofs.YtgoafahglajfmaaDoor
open Go.RowKit
open Cg
def strLen : Value → Nat
  | .string s => s.size
  | _ => 0
theorem zst_parts {t n : Int} {ps : List Pd} (h : (⟨t, n, ps⟩ : St) = zst) : t = 0 ∧ n = 0 ∧ ps = [] := by
  unfold zst at h; cases h; exact ⟨rfl, rfl, rfl⟩
set_option maxHeartbeats 8000000 in
set_option maxRecDepth 20000 in
theorem Read_any (s : ByteArray) (w : World) (hm : Mx w) (rt rn : Int) (rps : List Pd) (line err : Int) (hr : readR s.data.toList = (⟨rt, rn, rps⟩, line, err)) :
    Calls Tryd.prog 9 #[.string s] w fun e w' => ∃ a c, e = .returned (.tuple #[.agg #[.int .i64 rt, .int .i64 rn, .slice a rps.length c], .int .i64 line, .int .i64 err]) ∧ Pds w' (.slice a rps.length c) rps ∧ Below w.heap.size w w' := by
  have HRE : Hid ((⟨rt, rn, rps⟩, line, err) = if 4096 < s.data.toList.length then (zst, (0 : Int), (2 : Int)) else
  if (rdR 1 zst (sp 10 s.data.toList)).2.2 = true then (if chk (rdR 1 zst (sp 10 s.data.toList)).1.t (rdR 1 zst (sp 10 s.data.toList)).1.n (rdR 1 zst (sp 10 s.data.toList)).1.ps = 0 then ((rdR 1 zst (sp 10 s.data.toList)).1, 0, 0) else (zst, 0, chk (rdR 1 zst (sp 10 s.data.toList)).1.t (rdR 1 zst (sp 10 s.data.toList)).1.n (rdR 1 zst (sp 10 s.data.toList)).1.ps)) else (zst, ((rdR 1 zst (sp 10 s.data.toList)).2.1 : Int), 6)) := hr.symm
  clear hr
  by_cases hl : 4096 < s.size
  · have b0 : decide ((4096 : Int) < (s.size : Int)) = true := by simp; omega
    have hre := HRE.out
    rw [if_pos (by rw [data_size]; exact hl)] at hre
    simp only [Prod.mk.injEq] at hre
    obtain ⟨hre1, rfl, rfl⟩ := hre
    obtain ⟨rfl, rfl, rfl⟩ := zst_parts hre1
    clear hre1
    go_enter Tryd.func9, Tryd.ntmps9
    go_wp2_with fail
    exact bodyPost_ret (v := .tuple #[.agg #[.int .i64 0, .int .i64 0, .slice none 0 0], .int .i64 0, .int .i64 2]) (by simp [results, Tryd.results9, go_sem]) rfl ⟨none, 0, rfl, pds_nil _, below_alloc _ _⟩
  · have b0 : decide ((4096 : Int) < (s.size : Int)) = false := by simp; omega
    have HL : Hid (¬ 4096 < s.data.toList.length) := by show ¬ _; rw [data_size]; exact hl
    have HMX : Hid (Mx w) := hm
    have HRB : Hid (((w.alloc (Obj.cells #[.int .i64 0, .int .i64 0, .slice none 0 0] 24)).alloc (Obj.cells #[.int .i64 0, .int .i64 0, .slice none 0 0] 24)).heap[w.heap.size]? = some (Obj.cells #[.int .i64 0, .int .i64 0, .slice none 0 0] 24)) := by
      rw [(below_alloc (w.alloc (Obj.cells #[.int .i64 0, .int .i64 0, .slice none 0 0] 24)) _).block _ (by simp)]; exact heap_alloc_new _ _
    have HGS0 : Hid (((w.alloc (Obj.cells #[.int .i64 0, .int .i64 0, .slice none 0 0] 24)).alloc (Obj.cells #[.int .i64 0, .int .i64 0, .slice none 0 0] 24)).heap[w.heap.size + 1]? = some (.cells #[.int .i64 0, .int .i64 0, .slice none 0 0] 24) ∧ (Rw (w.heap.size + 2) ((w.alloc (Obj.cells #[.int .i64 0, .int .i64 0, .slice none 0 0] 24)).alloc (Obj.cells #[.int .i64 0, .int .i64 0, .slice none 0 0] 24)) (.slice none 0 0) [] ∧ w.heap.size + 2 ≤ ((w.alloc (Obj.cells #[.int .i64 0, .int .i64 0, .slice none 0 0] 24)).alloc (Obj.cells #[.int .i64 0, .int .i64 0, .slice none 0 0] 24)).heap.size) ∧ w.heap.size < ((w.alloc (Obj.cells #[.int .i64 0, .int .i64 0, .slice none 0 0] 24)).alloc (Obj.cells #[.int .i64 0, .int .i64 0, .slice none 0 0] 24)).heap.size ∧ Mx ((w.alloc (Obj.cells #[.int .i64 0, .int .i64 0, .slice none 0 0] 24)).alloc (Obj.cells #[.int .i64 0, .int .i64 0, .slice none 0 0] 24))) := by
      refine ⟨?_, ⟨Rw.nil _ _, by simp⟩, by simp; omega, hm.below (below_alloc2 w _ _)⟩
      have := heap_alloc_new (w.alloc (Obj.cells #[.int .i64 0, .int .i64 0, .slice none 0 0] 24)) (Obj.cells #[.int .i64 0, .int .i64 0, .slice none 0 0] 24)
      rw [show (w.alloc (Obj.cells #[.int .i64 0, .int .i64 0, .slice none 0 0] 24)).heap.size = w.heap.size + 1 by simp] at this
      exact this
    have HB0 : Hid (Below w.heap.size w ((w.alloc (Obj.cells #[.int .i64 0, .int .i64 0, .slice none 0 0] 24)).alloc (Obj.cells #[.int .i64 0, .int .i64 0, .slice none 0 0] 24))) := below_alloc2 w _ _
    have hl4 : s.size ≤ 4096 := by omega
    clear hm hl
    go_enter Tryd.func9, Tryd.ntmps9
    go_wp2_with fail
    clear b0
    generalize (w.alloc (Obj.cells #[.int .i64 0, .int .i64 0, .slice none 0 0] 24)).alloc (Obj.cells #[.int .i64 0, .int .i64 0, .slice none 0 0] 24) = W0 at HRB HGS0 HB0 ⊢
    go_loopw [6, 7] (fun i r wr => ∃ (k : Nat) (g : St) (v : Value) (sr : ByteArray), i = .int .i64 (k : Int) ∧ r = .string sr ∧ 1 ≤ k ∧ k + sr.size ≤ 4097 ∧ g.ps.length ≤ k ∧ Hid (rdR 1 zst (sp 10 s.data.toList) = rdR k g (sp 10 sr.data.toList)) ∧
        Hid (wr.heap[w.heap.size + 1]? = some (.cells #[.int .i64 g.t, .int .i64 g.n, v] 24) ∧ (Rw (w.heap.size + 2) wr v g.ps ∧ w.heap.size + 2 ≤ wr.heap.size) ∧ w.heap.size < wr.heap.size ∧ Mx wr) ∧ Hid (wr.heap[w.heap.size]? = W0.heap[w.heap.size]? ∧ Below w.heap.size w wr)) (fun _ r _ => strLen r)
    case atStart => exact ⟨1, zst, .slice none 0 0, s, rfl, rfl, by omega, by omega, by simp [zst], rfl, HGS0, rfl, HB0.out⟩
    case round =>
      obtain ⟨k, g, v, sr, rfl, rfl, hk1, hks, hgl, HRD, HGS, HKB⟩ := hrel
      clear HGS0 HB0
      by_cases hkk : k = 1
      · have HNB : Hid (¬ (k ≠ 1 ∧ sr.size = 0)) := fun h => h.1 hkk
        have hkb : ((k : Int) == 1) = true := by simp; omega
        clear hkk
        obtain ⟨a, b, f, HC⟩ : ∃ a b f, Hid (cutC 10 sr.data.toList = (a, b, f)) := ⟨_, _, _, (rfl : cutC 10 sr.data.toList = cutC 10 sr.data.toList)⟩
        have hc := cut_any sr 10 a b f HC.out (by omega) wr HGS.out.2.2.2
        go_wp2_with fail
        refine hc.mono ?_
        rintro _ w1 ⟨rfl, hb⟩
        have HB1 : Hid (Below wr.heap.size wr w1) := hb
        clear hc hb
        cases hsp : sp 10 sr.data.toList with
        | nil => exact absurd hsp (sp_ne _ _)
        | cons p tl =>
          cases tl with
          | nil =>
            have hcc := cutC_one 10 sr.data.toList p hsp
            rw [HC.out] at hcc
            simp only [Prod.mk.injEq] at hcc
            obtain ⟨rfl, rfl, rfl⟩ := hcc
            have HF : Hid (rdR k g (sp 10 sr.data.toList) = (g, k, false)) := by
              show _ = _
              rw [hsp]; unfold rdR; rw [if_neg (fun h => HNB.out ⟨h.2, by rw [← data_size, ← join_sp 10 sr.data.toList, hsp]; simp [joinC, h.1]⟩)]
            rw [HF.out] at HRD
            have hre := HRE.out
            rw [if_neg HL.out, HRD.out] at hre
            simp only [Bool.false_eq_true, if_false, Prod.mk.injEq] at hre
            obtain ⟨hre1, rfl, rfl⟩ := hre
            obtain ⟨rfl, rfl, rfl⟩ := zst_parts hre1
            have hrb : w1.heap[w.heap.size]? = some (Obj.cells #[.int .i64 0, .int .i64 0, .slice none 0 0] 24) := (HB1.out.block _ HGS.out.2.2.1).trans (HKB.out.1.trans HRB.out)
            have HBB : Hid (Below w.heap.size w w1) := HKB.out.2.trans (HB1.out.mono HKB.out.2.size)
            clear hre1 hsp
            have r1 := block_store (i := 0) hrb (.int .i64 0)
            have r2 := block_store (i := 1) r1 (.int .i64 0)
            have r3 := block_store (i := 2) r2 (.slice none 0 0)
            simp only [List.setIfInBounds_toArray, List.set_cons_zero, List.set_cons_succ] at r1 r2 r3
            have y0 := cell_blk hrb 0
            have y1 := cell_blk r1 1
            have y2 := cell_blk r2 2
            have v0 := cell_blk r3 0
            have v1 := cell_blk r3 1
            have v2 := cell_blk r3 2
            have f0 := frozen_blk hrb 0
            have f1 := frozen_blk r1 1
            have f2 := frozen_blk r2 2
            simp only [List.getElem?_toArray, List.getElem?_cons_zero, List.getElem?_cons_succ] at y0 y1 y2 v0 v1 v2
            have HFIN : Hid (Below w.heap.size w (((w1.setCell ⟨w.heap.size, 0, none⟩ (.int .i64 0)).setCell ⟨w.heap.size, 1, none⟩ (.int .i64 0)).setCell ⟨w.heap.size, 2, none⟩ (.slice none 0 0))) := ((HBB.out.setCell (p := ⟨w.heap.size, 0, none⟩) (Nat.le_refl _) _).setCell (p := ⟨w.heap.size, 1, none⟩) (Nat.le_refl _) _).setCell (p := ⟨w.heap.size, 2, none⟩) (Nat.le_refl _) _
            clear hrb r1 r2 r3
            go_wp2_with fail
            exact bodyPost_ret (v := .tuple #[.agg #[.int .i64 0, .int .i64 0, .slice none 0 0], .int .i64 (k : Int), .int .i64 6]) (by simp [results, Tryd.results9, go_sem, v0, v1, v2]) rfl ⟨none, 0, rfl, pds_nil _, HFIN.out⟩
          | cons q r =>
            obtain ⟨hc1, hc2⟩ := cutC_sp 10 sr.data.toList p q r hsp
            have hlt := cutC_less 10 sr.data.toList (by rw [hc1])
            have hla := (cutC_len 10 sr.data.toList).1
            rw [HC.out] at hc1 hc2 hlt hla
            simp only [Prod.mk.injEq] at hc1
            obtain ⟨rfl, -, rfl⟩ := hc1
            simp only [] at hc2 hlt hla
            rw [data_size] at hlt hla
            have HRN : Hid (rdR k g (sp 10 sr.data.toList) = if (addR k g a).2 = true then rdR (k + 1) (addR k g a).1 (sp 10 b) else (g, k, false)) := by
              show _ = _
              rw [hsp, hc2]; rfl
            have hcl := addLine_any (w.heap.size + 2) (w.heap.size + 1) g v k ⟨a.toArray⟩ w1 (by omega) (by omega) (Nat.le_trans HGS.out.2.1.2 HB1.out.size) (box_next HGS.out.1 HB1.out) (HGS.out.2.1.1.same (fun j _ h3 => HB1.out.block j h3) HB1.out.size) (by omega) (by rw [size_list]; omega) (HGS.out.2.2.2.below HB1.out)
            simp only [] at hcl
            obtain ⟨g', ok, HAD⟩ : ∃ g' ok, Hid (addR k g a = (g', ok)) := ⟨_, _, (rfl : addR k g a = addR k g a)⟩
            have HPL : Hid (g'.ps.length ≤ k + 1) := by
              show _ ≤ _
              have := HAD.out
              unfold addR at this
              split at this
              · have e := (Prod.mk.inj this).1; rw [← e]; show g.ps.length ≤ _; omega
              · have e := (Prod.mk.inj this).1; rw [← e]; show (g.ps ++ [_]).length ≤ _; simp; omega
            rw [HAD.out] at hcl HRN
            have HSZ : Hid (b.length < sr.size ∧ k + sr.size ≤ 4097 ∧ 1 ≤ k) := ⟨hlt, hks, hk1⟩
            clear hsp hla hlt
            go_wp2_with fail
            refine hcl.mono ?_
            rintro _ w2 ⟨rfl, hfin⟩
            have HFI : Hid (Fin2 (w.heap.size + 2) (w.heap.size + 1) g'.t g'.n g'.ps w1 w2) := hfin
            clear hcl hfin
            have HK2 : Hid (w2.heap[w.heap.size]? = some (Obj.cells #[.int .i64 0, .int .i64 0, .slice none 0 0] 24) ∧ Below w.heap.size w w2 ∧ Kb (w.heap.size + 2) (w.heap.size + 1) wr w2) := by
              obtain ⟨v', -, -, hkb⟩ := HFI.out
              have hk3 : Kb (w.heap.size + 2) (w.heap.size + 1) wr w2 := (Kb.of_below HB1.out HGS.out.2.1.2).trans hkb
              refine ⟨(hk3.block _ (by omega) (by omega)).trans (HKB.out.1.trans HRB.out), ?_, hk3⟩
              exact ⟨hk3.os.trans HKB.out.2.os, hk3.tape.trans HKB.out.2.tape, hk3.output.trans HKB.out.2.output, Nat.le_trans HKB.out.2.size hk3.size, fun j hj => (hk3.block j (by omega) (by omega)).trans (HKB.out.2.block j hj)⟩
            cases ok with
            | false =>
              rw [HRN.out] at HRD
              simp only [Bool.false_eq_true, if_false] at HRD
              have hre := HRE.out
              rw [if_neg HL.out, HRD.out] at hre
              simp only [Bool.false_eq_true, if_false, Prod.mk.injEq] at hre
              obtain ⟨hre1, rfl, rfl⟩ := hre
              obtain ⟨rfl, rfl, rfl⟩ := zst_parts hre1
              have hrb : w2.heap[w.heap.size]? = some (Obj.cells #[.int .i64 0, .int .i64 0, .slice none 0 0] 24) := HK2.out.1
              clear hre1
              have r1 := block_store (i := 0) hrb (.int .i64 0)
              have r2 := block_store (i := 1) r1 (.int .i64 0)
              have r3 := block_store (i := 2) r2 (.slice none 0 0)
              simp only [List.setIfInBounds_toArray, List.set_cons_zero, List.set_cons_succ] at r1 r2 r3
              have y0 := cell_blk hrb 0
              have y1 := cell_blk r1 1
              have y2 := cell_blk r2 2
              have v0 := cell_blk r3 0
              have v1 := cell_blk r3 1
              have v2 := cell_blk r3 2
              have f0 := frozen_blk hrb 0
              have f1 := frozen_blk r1 1
              have f2 := frozen_blk r2 2
              simp only [List.getElem?_toArray, List.getElem?_cons_zero, List.getElem?_cons_succ] at y0 y1 y2 v0 v1 v2
              have HFIN : Hid (Below w.heap.size w (((w2.setCell ⟨w.heap.size, 0, none⟩ (.int .i64 0)).setCell ⟨w.heap.size, 1, none⟩ (.int .i64 0)).setCell ⟨w.heap.size, 2, none⟩ (.slice none 0 0))) := ((HK2.out.2.1.setCell (p := ⟨w.heap.size, 0, none⟩) (Nat.le_refl _) _).setCell (p := ⟨w.heap.size, 1, none⟩) (Nat.le_refl _) _).setCell (p := ⟨w.heap.size, 2, none⟩) (Nat.le_refl _) _
              clear hrb r1 r2 r3
              go_wp2_with fail
              exact bodyPost_ret (v := .tuple #[.agg #[.int .i64 0, .int .i64 0, .slice none 0 0], .int .i64 (k : Int), .int .i64 6]) (by simp [results, Tryd.results9, go_sem, v0, v1, v2]) rfl ⟨none, 0, rfl, pds_nil _, HFIN.out⟩
            | true =>
              rw [HRN.out] at HRD
              simp only [if_true] at HRD
              obtain ⟨v', hbx', hrw', hkb'⟩ := HFI.out
              have HNX : Hid (w2.heap[w.heap.size + 1]? = some (.cells #[.int .i64 g'.t, .int .i64 g'.n, v'] 24) ∧ (Rw (w.heap.size + 2) w2 v' g'.ps ∧ w.heap.size + 2 ≤ w2.heap.size) ∧ w.heap.size < w2.heap.size ∧ Mx w2) :=
                ⟨hbx', ⟨hrw', Nat.le_trans HGS.out.2.1.2 HK2.out.2.2.size⟩, heap_lt HK2.out.1, HMX.out.below HK2.out.2.1⟩
              have HKN : Hid (w2.heap[w.heap.size]? = W0.heap[w.heap.size]? ∧ Below w.heap.size w w2) := ⟨HK2.out.1.trans HRB.out.symm, HK2.out.2.1⟩
              clear hbx' hrw' hkb' HFI HGS HKB HB1 HK2
              have hsz := HSZ.out
              go_wp2_with fail
              go_roundw
              case rel => exact ⟨k + 1, g', v', ⟨b.toArray⟩, by go_num, rfl, by omega, by rw [size_list]; omega, HPL.out, HRD, HNX, HKN⟩
              case measure => simp only [strLen, size_list]; exact HSZ.out.1
      · have hkb : ((k : Int) == 1) = false := by simp; omega
        by_cases hse : sr.size = 0
        · have be : sr.toList.isEmpty = true := by rw [empty_is]; simpa using hse
          have HSE : Hid (sp 10 sr.data.toList = [[]]) := by
            show _ = _
            have e : sr.data.toList = [] := List.length_eq_zero_iff.1 (by rw [data_size]; exact hse)
            rw [e]; rfl
          rw [HSE.out] at HRD
          have HF : Hid (rdR k g [[]] = (g, k, true)) := by show _ = _; unfold rdR; rw [if_pos ⟨rfl, hkk⟩]
          rw [HF.out] at HRD
          have hre := HRE.out
          rw [if_neg HL.out, HRD.out] at hre
          simp only [if_true] at hre
          obtain ⟨va, vc, rfl⟩ := HGS.out.2.1.1.form
          have HPD : Hid (Pds wr (.slice va g.ps.length vc) g.ps) := HGS.out.2.1.1.pds (by omega)
          have c0 := cell_blk HGS.out.1 0
          have c1 := cell_blk HGS.out.1 1
          have c2 := cell_blk HGS.out.1 2
          simp only [List.getElem?_toArray, List.getElem?_cons_zero, List.getElem?_cons_succ] at c0 c1 c2
          obtain ⟨ch, HCH⟩ : ∃ ch, Hid (chk g.t g.n g.ps = ch) := ⟨_, (rfl : chk g.t g.n g.ps = chk g.t g.n g.ps)⟩
          rw [HCH.out] at hre
          have HRE2 : Hid ((⟨rt, rn, rps⟩, line, err) = if ch = 0 then (g, (0 : Int), (0 : Int)) else (zst, 0, ch)) := hre
          clear hre HRE hse hkk
          go_wp2_with fail
          have hcc := Check_any g.t g.n _ g.ps wr HPD.out
          rw [HCH.out] at hcc
          refine hcc.mono ?_
          rintro _ w2 ⟨rfl, hb⟩
          have hrb : w2.heap[w.heap.size]? = some (Obj.cells #[.int .i64 0, .int .i64 0, .slice none 0 0] 24) := (hb.block _ HGS.out.2.2.1).trans (HKB.out.1.trans HRB.out)
          have HBB : Hid (Below w.heap.size w w2) := HKB.out.2.trans (hb.mono HKB.out.2.size)
          have hbx := box_next HGS.out.1 hb
          have e0 := cell_blk hbx 0
          have e1 := cell_blk hbx 1
          have e2 := cell_blk hbx 2
          simp only [List.getElem?_toArray, List.getElem?_cons_zero, List.getElem?_cons_succ] at e0 e1 e2
          have HR2 : Hid (Rw (w.heap.size + 2) w2 (.slice va g.ps.length vc) g.ps) := HGS.out.2.1.1.same (fun j _ h3 => hb.block j h3) hb.size
          clear hcc hb hbx c0 c1 c2
          by_cases hch : ch = 0
          · subst hch
            have he := HRE2.out
            simp only [if_true, Prod.mk.injEq] at he
            obtain ⟨rfl, rfl, rfl⟩ := he
            have r1 := block_store (i := 0) hrb (.int .i64 rt)
            have r2 := block_store (i := 1) r1 (.int .i64 rn)
            have r3 := block_store (i := 2) r2 (.slice va rps.length vc)
            simp only [List.setIfInBounds_toArray, List.set_cons_zero, List.set_cons_succ] at r1 r2 r3
            have y0 := cell_blk hrb 0
            have y1 := cell_blk r1 1
            have y2 := cell_blk r2 2
            have v0 := cell_blk r3 0
            have v1 := cell_blk r3 1
            have v2 := cell_blk r3 2
            have f0 := frozen_blk hrb 0
            have f1 := frozen_blk r1 1
            have f2 := frozen_blk r2 2
            simp only [List.getElem?_toArray, List.getElem?_cons_zero, List.getElem?_cons_succ] at y0 y1 y2 v0 v1 v2
            have HFIN : Hid (Pds (((w2.setCell ⟨w.heap.size, 0, none⟩ (.int .i64 rt)).setCell ⟨w.heap.size, 1, none⟩ (.int .i64 rn)).setCell ⟨w.heap.size, 2, none⟩ (.slice va rps.length vc)) (.slice va rps.length vc) rps ∧ Below w.heap.size w (((w2.setCell ⟨w.heap.size, 0, none⟩ (.int .i64 rt)).setCell ⟨w.heap.size, 1, none⟩ (.int .i64 rn)).setCell ⟨w.heap.size, 2, none⟩ (.slice va rps.length vc))) := by
              refine ⟨(HR2.out.same (fun j h2 _ => ?_) (by simp [World.setCell])).pds (by have := hgl; simp only [] at this; omega), ((HBB.out.setCell (p := ⟨w.heap.size, 0, none⟩) (Nat.le_refl _) _).setCell (p := ⟨w.heap.size, 1, none⟩) (Nat.le_refl _) _).setCell (p := ⟨w.heap.size, 2, none⟩) (Nat.le_refl _) _⟩
              rw [Below.heap_setCell _ _ _ _ (by simp; omega), Below.heap_setCell _ _ _ _ (by simp; omega), Below.heap_setCell _ _ _ _ (by simp; omega)]
            clear hrb r1 r2 r3
            go_wp2_with fail
            exact bodyPost_ret (v := .tuple #[.agg #[.int .i64 rt, .int .i64 rn, .slice va rps.length vc], .int .i64 0, .int .i64 0]) (by simp [results, Tryd.results9, go_sem, v0, v1, v2]) rfl ⟨va, vc, rfl, HFIN.out.1, HFIN.out.2⟩
          · have hcb : (ch != 0) = true := by simp; exact hch
            have he := HRE2.out
            rw [if_neg hch] at he
            simp only [Prod.mk.injEq] at he
            obtain ⟨he1, rfl, rfl⟩ := he
            obtain ⟨rfl, rfl, rfl⟩ := zst_parts he1
            clear he1 hch
            have r1 := block_store (i := 0) hrb (.int .i64 0)
            have r2 := block_store (i := 1) r1 (.int .i64 0)
            have r3 := block_store (i := 2) r2 (.slice none 0 0)
            simp only [List.setIfInBounds_toArray, List.set_cons_zero, List.set_cons_succ] at r1 r2 r3
            have y0 := cell_blk hrb 0
            have y1 := cell_blk r1 1
            have y2 := cell_blk r2 2
            have v0 := cell_blk r3 0
            have v1 := cell_blk r3 1
            have v2 := cell_blk r3 2
            have f0 := frozen_blk hrb 0
            have f1 := frozen_blk r1 1
            have f2 := frozen_blk r2 2
            simp only [List.getElem?_toArray, List.getElem?_cons_zero, List.getElem?_cons_succ] at y0 y1 y2 v0 v1 v2
            have HFIN : Hid (Below w.heap.size w (((w2.setCell ⟨w.heap.size, 0, none⟩ (.int .i64 0)).setCell ⟨w.heap.size, 1, none⟩ (.int .i64 0)).setCell ⟨w.heap.size, 2, none⟩ (.slice none 0 0))) := ((HBB.out.setCell (p := ⟨w.heap.size, 0, none⟩) (Nat.le_refl _) _).setCell (p := ⟨w.heap.size, 1, none⟩) (Nat.le_refl _) _).setCell (p := ⟨w.heap.size, 2, none⟩) (Nat.le_refl _) _
            clear hrb r1 r2 r3
            go_wp2_with fail
            exact bodyPost_ret (v := .tuple #[.agg #[.int .i64 0, .int .i64 0, .slice none 0 0], .int .i64 0, .int .i64 err]) (by simp [results, Tryd.results9, go_sem, v0, v1, v2]) rfl ⟨none, 0, rfl, pds_nil _, HFIN.out⟩
        · have be : sr.toList.isEmpty = false := by rw [empty_is]; simpa using hse
          have HNB : Hid (¬ (k ≠ 1 ∧ sr.size = 0)) := fun h => hse h.2
          clear hkk hse
          obtain ⟨a, b, f, HC⟩ : ∃ a b f, Hid (cutC 10 sr.data.toList = (a, b, f)) := ⟨_, _, _, (rfl : cutC 10 sr.data.toList = cutC 10 sr.data.toList)⟩
          have hc := cut_any sr 10 a b f HC.out (by omega) wr HGS.out.2.2.2
          go_wp2_with fail
          refine hc.mono ?_
          rintro _ w1 ⟨rfl, hb⟩
          have HB1 : Hid (Below wr.heap.size wr w1) := hb
          clear hc hb
          cases hsp : sp 10 sr.data.toList with
          | nil => exact absurd hsp (sp_ne _ _)
          | cons p tl =>
            cases tl with
            | nil =>
              have hcc := cutC_one 10 sr.data.toList p hsp
              rw [HC.out] at hcc
              simp only [Prod.mk.injEq] at hcc
              obtain ⟨rfl, rfl, rfl⟩ := hcc
              have HF : Hid (rdR k g (sp 10 sr.data.toList) = (g, k, false)) := by
                show _ = _
                rw [hsp]; unfold rdR; rw [if_neg (fun h => HNB.out ⟨h.2, by rw [← data_size, ← join_sp 10 sr.data.toList, hsp]; simp [joinC, h.1]⟩)]
              rw [HF.out] at HRD
              have hre := HRE.out
              rw [if_neg HL.out, HRD.out] at hre
              simp only [Bool.false_eq_true, if_false, Prod.mk.injEq] at hre
              obtain ⟨hre1, rfl, rfl⟩ := hre
              obtain ⟨rfl, rfl, rfl⟩ := zst_parts hre1
              have hrb : w1.heap[w.heap.size]? = some (Obj.cells #[.int .i64 0, .int .i64 0, .slice none 0 0] 24) := (HB1.out.block _ HGS.out.2.2.1).trans (HKB.out.1.trans HRB.out)
              have HBB : Hid (Below w.heap.size w w1) := HKB.out.2.trans (HB1.out.mono HKB.out.2.size)
              clear hre1 hsp
              have r1 := block_store (i := 0) hrb (.int .i64 0)
              have r2 := block_store (i := 1) r1 (.int .i64 0)
              have r3 := block_store (i := 2) r2 (.slice none 0 0)
              simp only [List.setIfInBounds_toArray, List.set_cons_zero, List.set_cons_succ] at r1 r2 r3
              have y0 := cell_blk hrb 0
              have y1 := cell_blk r1 1
              have y2 := cell_blk r2 2
              have v0 := cell_blk r3 0
              have v1 := cell_blk r3 1
              have v2 := cell_blk r3 2
              have f0 := frozen_blk hrb 0
              have f1 := frozen_blk r1 1
              have f2 := frozen_blk r2 2
              simp only [List.getElem?_toArray, List.getElem?_cons_zero, List.getElem?_cons_succ] at y0 y1 y2 v0 v1 v2
              have HFIN : Hid (Below w.heap.size w (((w1.setCell ⟨w.heap.size, 0, none⟩ (.int .i64 0)).setCell ⟨w.heap.size, 1, none⟩ (.int .i64 0)).setCell ⟨w.heap.size, 2, none⟩ (.slice none 0 0))) := ((HBB.out.setCell (p := ⟨w.heap.size, 0, none⟩) (Nat.le_refl _) _).setCell (p := ⟨w.heap.size, 1, none⟩) (Nat.le_refl _) _).setCell (p := ⟨w.heap.size, 2, none⟩) (Nat.le_refl _) _
              clear hrb r1 r2 r3
              go_wp2_with fail
              exact bodyPost_ret (v := .tuple #[.agg #[.int .i64 0, .int .i64 0, .slice none 0 0], .int .i64 (k : Int), .int .i64 6]) (by simp [results, Tryd.results9, go_sem, v0, v1, v2]) rfl ⟨none, 0, rfl, pds_nil _, HFIN.out⟩
            | cons q r =>
              obtain ⟨hc1, hc2⟩ := cutC_sp 10 sr.data.toList p q r hsp
              have hlt := cutC_less 10 sr.data.toList (by rw [hc1])
              have hla := (cutC_len 10 sr.data.toList).1
              rw [HC.out] at hc1 hc2 hlt hla
              simp only [Prod.mk.injEq] at hc1
              obtain ⟨rfl, -, rfl⟩ := hc1
              simp only [] at hc2 hlt hla
              rw [data_size] at hlt hla
              have HRN : Hid (rdR k g (sp 10 sr.data.toList) = if (addR k g a).2 = true then rdR (k + 1) (addR k g a).1 (sp 10 b) else (g, k, false)) := by
                show _ = _
                rw [hsp, hc2]; rfl
              have hcl := addLine_any (w.heap.size + 2) (w.heap.size + 1) g v k ⟨a.toArray⟩ w1 (by omega) (by omega) (Nat.le_trans HGS.out.2.1.2 HB1.out.size) (box_next HGS.out.1 HB1.out) (HGS.out.2.1.1.same (fun j _ h3 => HB1.out.block j h3) HB1.out.size) (by omega) (by rw [size_list]; omega) (HGS.out.2.2.2.below HB1.out)
              simp only [] at hcl
              obtain ⟨g', ok, HAD⟩ : ∃ g' ok, Hid (addR k g a = (g', ok)) := ⟨_, _, (rfl : addR k g a = addR k g a)⟩
              have HPL : Hid (g'.ps.length ≤ k + 1) := by
                show _ ≤ _
                have := HAD.out
                unfold addR at this
                split at this
                · have e := (Prod.mk.inj this).1; rw [← e]; show g.ps.length ≤ _; omega
                · have e := (Prod.mk.inj this).1; rw [← e]; show (g.ps ++ [_]).length ≤ _; simp; omega
              rw [HAD.out] at hcl HRN
              have HSZ : Hid (b.length < sr.size ∧ k + sr.size ≤ 4097 ∧ 1 ≤ k) := ⟨hlt, hks, hk1⟩
              clear hsp hla hlt
              go_wp2_with fail
              refine hcl.mono ?_
              rintro _ w2 ⟨rfl, hfin⟩
              have HFI : Hid (Fin2 (w.heap.size + 2) (w.heap.size + 1) g'.t g'.n g'.ps w1 w2) := hfin
              clear hcl hfin
              have HK2 : Hid (w2.heap[w.heap.size]? = some (Obj.cells #[.int .i64 0, .int .i64 0, .slice none 0 0] 24) ∧ Below w.heap.size w w2 ∧ Kb (w.heap.size + 2) (w.heap.size + 1) wr w2) := by
                obtain ⟨v', -, -, hkb⟩ := HFI.out
                have hk3 : Kb (w.heap.size + 2) (w.heap.size + 1) wr w2 := (Kb.of_below HB1.out HGS.out.2.1.2).trans hkb
                refine ⟨(hk3.block _ (by omega) (by omega)).trans (HKB.out.1.trans HRB.out), ?_, hk3⟩
                exact ⟨hk3.os.trans HKB.out.2.os, hk3.tape.trans HKB.out.2.tape, hk3.output.trans HKB.out.2.output, Nat.le_trans HKB.out.2.size hk3.size, fun j hj => (hk3.block j (by omega) (by omega)).trans (HKB.out.2.block j hj)⟩
              cases ok with
              | false =>
                rw [HRN.out] at HRD
                simp only [Bool.false_eq_true, if_false] at HRD
                have hre := HRE.out
                rw [if_neg HL.out, HRD.out] at hre
                simp only [Bool.false_eq_true, if_false, Prod.mk.injEq] at hre
                obtain ⟨hre1, rfl, rfl⟩ := hre
                obtain ⟨rfl, rfl, rfl⟩ := zst_parts hre1
                have hrb : w2.heap[w.heap.size]? = some (Obj.cells #[.int .i64 0, .int .i64 0, .slice none 0 0] 24) := HK2.out.1
                clear hre1
                have r1 := block_store (i := 0) hrb (.int .i64 0)
                have r2 := block_store (i := 1) r1 (.int .i64 0)
                have r3 := block_store (i := 2) r2 (.slice none 0 0)
                simp only [List.setIfInBounds_toArray, List.set_cons_zero, List.set_cons_succ] at r1 r2 r3
                have y0 := cell_blk hrb 0
                have y1 := cell_blk r1 1
                have y2 := cell_blk r2 2
                have v0 := cell_blk r3 0
                have v1 := cell_blk r3 1
                have v2 := cell_blk r3 2
                have f0 := frozen_blk hrb 0
                have f1 := frozen_blk r1 1
                have f2 := frozen_blk r2 2
                simp only [List.getElem?_toArray, List.getElem?_cons_zero, List.getElem?_cons_succ] at y0 y1 y2 v0 v1 v2
                have HFIN : Hid (Below w.heap.size w (((w2.setCell ⟨w.heap.size, 0, none⟩ (.int .i64 0)).setCell ⟨w.heap.size, 1, none⟩ (.int .i64 0)).setCell ⟨w.heap.size, 2, none⟩ (.slice none 0 0))) := ((HK2.out.2.1.setCell (p := ⟨w.heap.size, 0, none⟩) (Nat.le_refl _) _).setCell (p := ⟨w.heap.size, 1, none⟩) (Nat.le_refl _) _).setCell (p := ⟨w.heap.size, 2, none⟩) (Nat.le_refl _) _
                clear hrb r1 r2 r3
                go_wp2_with fail
                exact bodyPost_ret (v := .tuple #[.agg #[.int .i64 0, .int .i64 0, .slice none 0 0], .int .i64 (k : Int), .int .i64 6]) (by simp [results, Tryd.results9, go_sem, v0, v1, v2]) rfl ⟨none, 0, rfl, pds_nil _, HFIN.out⟩
              | true =>
                rw [HRN.out] at HRD
                simp only [if_true] at HRD
                obtain ⟨v', hbx', hrw', hkb'⟩ := HFI.out
                have HNX : Hid (w2.heap[w.heap.size + 1]? = some (.cells #[.int .i64 g'.t, .int .i64 g'.n, v'] 24) ∧ (Rw (w.heap.size + 2) w2 v' g'.ps ∧ w.heap.size + 2 ≤ w2.heap.size) ∧ w.heap.size < w2.heap.size ∧ Mx w2) :=
                  ⟨hbx', ⟨hrw', Nat.le_trans HGS.out.2.1.2 HK2.out.2.2.size⟩, heap_lt HK2.out.1, HMX.out.below HK2.out.2.1⟩
                have HKN : Hid (w2.heap[w.heap.size]? = W0.heap[w.heap.size]? ∧ Below w.heap.size w w2) := ⟨HK2.out.1.trans HRB.out.symm, HK2.out.2.1⟩
                clear hbx' hrw' hkb' HFI HGS HKB HB1 HK2
                have hsz := HSZ.out
                go_wp2_with fail
                go_roundw
                case rel => exact ⟨k + 1, g', v', ⟨b.toArray⟩, by go_num, rfl, by omega, by rw [size_list]; omega, HPL.out, HRD, HNX, HKN⟩
                case measure => simp only [strLen, size_list]; exact HSZ.out.1

end Go.Proofs.YtgoafahglajfmaaDoor
