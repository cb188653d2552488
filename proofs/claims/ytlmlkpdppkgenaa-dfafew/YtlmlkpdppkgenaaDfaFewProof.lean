/-
  DfaFew returns true whatever rules, number and text are handed in, and changes nothing that it was handed; no condition.
-/
import Derived.Test.YtlmlkpdppkgenaaRows
import Derived.WalkKit
import Derived.ProofKit
import Derived.OpenShut
import Derived.ShutString
import Derived.SizedLaws
import Derived.ChangeOld
import Derived.Below
import Derived.Carry
import Derived.WalkLawsBesides
import Derived.WalkSpells
import Derived.Test.YtlmlkpdppkgenaaOpens
import Derived.Test.YtlmlkpdppkgenaaWMad
import Derived.Test.YtlmlkpdppkgenaaDmFew
namespace Go.Proofs.Ytlmlkpdppkgenaa.dfaFew
open Go.ChangeShapes Go.WideShapes Go.ChangeAt Go.RowKit
open Go.ChangeMaps (open_string shut_string)
open Cls Po Rex Dm
set_option linter.unusedVariables false

theorem own : ownKnob Try.prog.godebug = none := by kernel_rfl
theorem laidOut : laidOutB Try.prog = true := by kernel_rfl

/-! ### The walk: the Go text returns true. -/
set_option maxHeartbeats 16000000 in
set_option maxRecDepth 20000 in
theorem walk (v0 : Value) (a0l : List T) (a1 : Int) (a2 : ByteArray) (w : World) (w0s : Rxs w w.heap.size v0 a0l) (w0c : ∃ ao cap, v0 = .slice ao a0l.length cap ∧ a0l.length ≤ cap) (w0z : a0l.length ≤ 4398046510976) (w1 : (Lit.int .i64 a1).wf = true) (w2 : a2.size ≤ 140737488351232) :
    Calls Try.prog 5 #[v0, .int .i64 a1, .string a2] w fun e w' => e = .returned (.bool true) ∧ Below w.heap.size w w' := by
  have HTS : Hid (Rxs w w.heap.size v0 a0l) := w0s
  obtain ⟨ao, cap, hv, hcap⟩ := w0c
  have hm : a0l.length ≤ 9223372036854775807 := by omega
  subst hv
  obtain ⟨ts, rfl⟩ : ∃ z, z = a0l := ⟨_, rfl⟩
  obtain ⟨s, rfl⟩ : ∃ z, z = a2 := ⟨_, rfl⟩
  obtain ⟨kz, rfl⟩ : ∃ z, z = a1 := ⟨_, rfl⟩
  have HWF : Hid ((Lit.int .i64 kz).wf = true) := w1
  have HSZ : Hid (s.size ≤ 9223372036854775807) := (by omega : s.size ≤ 9223372036854775807)
  clear w0s w1 w2
  obtain ⟨xs, HXS⟩ : ∃ xs, Hid (mkErr ts = 0 → Pm.Rts ts xs) := by
    by_cases h : mkErr ts = 0
    · obtain ⟨xs, hx⟩ := Pm.rts_of (mkErr_len h).2.2
      exact ⟨xs, fun _ => hx⟩
    · exact ⟨[], fun e => absurd e h⟩
  have hlt := letter_any 97 (by omega) (by omega) w
  go_enter Try.func5, Try.ntmps5
  go_wp2_with fail
  refine hlt.mono ?_
  rintro _ w1 ⟨lv, rfl, hrx, hb1⟩
  obtain ⟨k, c, a9, p6, kids, vals9, rfl, hte, -⟩ := hrx.shape
  obtain ⟨n6, HN6⟩ : ∃ n6, Hid (kids.length = n6) := ⟨_, (rfl : kids.length = kids.length)⟩
  rw [HN6.out] at hrx ⊢
  have hro := rxs_one w1 w1.heap.size k c a9 n6 p6 _ hrx (Nat.le_refl _)
  have hba := below_alloc1 w1 (Obj.cells #[.int .i64 k, .int .u64 (c.1.toNat : Int), .int .u64 (c.2.1.toNat : Int), .int .u64 (c.2.2.1.toNat : Int), .int .u64 (c.2.2.2.toNat : Int), .slice a9 n6 p6] 44)
  have hsz2 : (w1.alloc (Obj.cells #[.int .i64 k, .int .u64 (c.1.toNat : Int), .int .u64 (c.2.1.toNat : Int), .int .u64 (c.2.2.1.toNat : Int), .int .u64 (c.2.2.2.toNat : Int), .slice a9 n6 p6] 44)).heap.size = w1.heap.size + 1 := by simp
  rw [← hsz2] at hro
  have hcm := made_letter _ _ hro
  obtain ⟨w2, HW2⟩ : ∃ w2, Hid (w1.alloc (Obj.cells #[.int .i64 k, .int .u64 (c.1.toNat : Int), .int .u64 (c.2.1.toNat : Int), .int .u64 (c.2.2.1.toNat : Int), .int .u64 (c.2.2.2.toNat : Int), .slice a9 n6 p6] 44) = w2) := ⟨_, (rfl : _ = _)⟩
  rw [HW2.out] at hcm hba
  have HB2 : Hid (Below w.heap.size w w2) := hb1.trans (hba.mono hb1.size)
  clear hlt hrx hb1 hro hba hsz2 hte HN6
  go_wp2_with fail
  rw [HW2.out]
  clear HW2
  refine hcm.mono ?_
  rintro _ w3 ⟨rb0, rc0, tb0, tc0, rfl, ht0, ht1, htb, hb3⟩
  have HB3 : Hid (Below w.heap.size w w3) := HB2.out.trans (hb3.mono HB2.out.size)
  have hbz := below_alloc1 w3 (Obj.cells #[.slice (some ⟨rb0, 0, none⟩) 2 rc0, .slice (some ⟨tb0, 0, none⟩) 2 tc0] 30)
  have y0 := (hbz.cell (p := ⟨tb0, 0, none⟩) htb).trans ht0
  have y1 := (hbz.cell (p := ⟨tb0, 1, none⟩) htb).trans ht1
  obtain ⟨w3b, HW3⟩ : ∃ z, Hid (w3.alloc (Obj.cells #[.slice (some ⟨rb0, 0, none⟩) 2 rc0, .slice (some ⟨tb0, 0, none⟩) 2 tc0] 30) = z) := ⟨_, (rfl : _ = _)⟩
  have y2 : w3b.cell? ⟨w3.heap.size, 0, none⟩ = some (.slice (some ⟨rb0, 0, none⟩) 2 rc0) := by rw [← HW3.out]; simp
  have y3 : w3b.cell? ⟨w3.heap.size, 1, none⟩ = some (.slice (some ⟨tb0, 0, none⟩) 2 tc0) := by rw [← HW3.out]; simp
  rw [HW3.out] at hbz y0 y1
  have HB4 : Hid (Below w.heap.size w w3b) := HB3.out.trans (hbz.mono HB3.out.size)
  clear hcm hbz ht0 ht1 htb hb3 HB2 HB3
  have hmd := made_any (.slice ao ts.length cap) ts xs w3b ((HTS.out.next HB4.out).wide HB4.out.size) HXS.out
  go_upto_region 2 with fail
  rw [HW3.out]
  go_wp2_with fail
  clear y0 y1 y2 y3 HW3
  refine hmd.mono ?_
  rintro _ w4 ⟨hb4, ⟨rfl, -⟩ | ⟨han, kk, rb, rc, tb, tc, hall, hk2, rfl, hrw, hts⟩⟩
  · have HB5 : Hid (Below w.heap.size w (w4.alloc (Obj.cells #[.slice none 0 0, .slice none 0 0] 30))) := HB4.out.trans ((hb4.trans ((below_alloc1 w4 _).mono hb4.size)).mono HB4.out.size)
    clear hmd hb4
    obtain ⟨w5, HW5⟩ : ∃ z, Hid (w4.alloc (Obj.cells #[.slice none 0 0, .slice none 0 0] 30) = z) := ⟨_, (rfl : _ = _)⟩
    rw [HW5.out] at HB5
    go_upto_region 5 with fail
    rw [HW5.out]
    clear HW5
    have hre := drest_any kz ((ts.length : Int) + 1) (ts.length + 1) w5 (by omega) (by omega) (by omega)
    go_wp2_with fail
    refine hre.mono ?_
    rintro _ wr ⟨⟨r, hr, rfl⟩, hbr⟩
    have HBR : Hid (Below w.heap.size w wr) := HB5.out.trans (hbr.mono HB5.out.size)
    clear hre hbr
    go_wp2_with fail
    go_ret
    exact ⟨by simp, HBR.out⟩
  · have HRT : Hid (Pm.Rts ts xs) := HXS.out (mkAns_fine han).1
    have HLN : Hid (1 ≤ ts.length ∧ ts.length ≤ 20 ∧ Pm.errL ts = 0) := mkErr_len (mkAns_fine han).1
    have hbz := below_alloc1 w4 (Obj.cells #[.slice (some ⟨rb, 0, none⟩) kk rc, .slice (some ⟨tb, 0, none⟩) kk tc] 30)
    have hb45 := HB4.out.trans ((hb4.trans (hbz.mono hb4.size)).mono HB4.out.size)
    have hrw5 := hrw.below hbz (Nat.le_refl _)
    have hts5 := hts.below hbz (Nat.le_refl _)
    obtain ⟨w5, HW5⟩ : ∃ z, Hid (w4.alloc (Obj.cells #[.slice (some ⟨rb, 0, none⟩) kk rc, .slice (some ⟨tb, 0, none⟩) kk tc] 30) = z) := ⟨_, (rfl : _ = _)⟩
    have hz0 : w5.cell? ⟨w4.heap.size, 0, none⟩ = some (.slice (some ⟨rb, 0, none⟩) kk rc) := by rw [← HW5.out]; simp
    have hz1 : w5.cell? ⟨w4.heap.size, 1, none⟩ = some (.slice (some ⟨tb, 0, none⟩) kk tc) := by rw [← HW5.out]; simp
    have hz2 : w4.heap.size < w5.heap.size := by rw [← HW5.out]; simp
    rw [HW5.out] at hb45 hrw5 hts5
    obtain ⟨gb, HGB⟩ : ∃ gb, Hid (w4.heap.size = gb) := ⟨_, (rfl : w4.heap.size = w4.heap.size)⟩
    rw [HGB.out] at hz0 hz1 hz2
    have HBX : Hid (w5.cell? ⟨gb, 0, none⟩ = some (.slice (some ⟨rb, 0, none⟩) kk rc) ∧ w5.cell? ⟨gb, 1, none⟩ = some (.slice (some ⟨tb, 0, none⟩) kk tc) ∧ gb < w5.heap.size) := ⟨hz0, hz1, hz2⟩
    have HB5 : Hid (Below w.heap.size w w5) := hb45
    obtain ⟨P0, HP0⟩ : ∃ P0, Hid (posX xs = P0) := ⟨_, (rfl : _ = _)⟩
    rw [HP0.out] at hall hrw5 hts5
    have HALL : Hid (All P0 kk ∧ kk ≤ 200) := ⟨hall, hk2⟩
    have HRW : Hid (Df.Rw w5 (.slice (some ⟨rb, 0, none⟩) kk rc) kk (rowF P0 (G P0 kk))) := hrw5
    have HTG : Hid (Df.Ts w5 (.slice (some ⟨tb, 0, none⟩) kk tc) kk (tagF P0 (G P0 kk))) := hts5
    have HRI : Hid (Pm.RI xs xs.length P0) := by rw [← HP0.out]; exact Pm.ri_all xs
    have HEL : Hid (P0.empty.length = ts.length) := by rw [← HP0.out]; exact made_el HRT.out
    clear hmd hb4 hrw hts hrw5 hts5 hbz hb45 hz0 hz1 hz2 hall hk2 han HB4
    go_upto_region 5 with fail
    rw [HW5.out, HGB.out]
    clear HW5 HGB
    have hre := drest_any kz ((ts.length : Int) + 1) (ts.length + 1) w5 (by omega) (by omega) (by omega)
    go_wp2_with fail
    refine hre.mono ?_
    rintro _ wr ⟨⟨r, hr, rfl⟩, hbr⟩
    have HBR : Hid (Below w.heap.size w wr) := HB5.out.trans (hbr.mono HB5.out.size)
    have HBX5 : Hid (wr.cell? ⟨gb, 0, none⟩ = some (.slice (some ⟨rb, 0, none⟩) kk rc) ∧ wr.cell? ⟨gb, 1, none⟩ = some (.slice (some ⟨tb, 0, none⟩) kk tc) ∧ gb < wr.heap.size) := ⟨(hbr.cell HBX.out.2.2).trans HBX.out.1, (hbr.cell HBX.out.2.2).trans HBX.out.2.1, Nat.lt_of_lt_of_le HBX.out.2.2 hbr.size⟩
    have HRW5 : Hid (Df.Rw wr (.slice (some ⟨rb, 0, none⟩) kk rc) kk (rowF P0 (G P0 kk))) := HRW.out.below hbr (Nat.le_refl _)
    have HTG5 : Hid (Df.Ts wr (.slice (some ⟨tb, 0, none⟩) kk tc) kk (tagF P0 (G P0 kk))) := HTG.out.below hbr (Nat.le_refl _)
    clear hre hbr HBX HRW HTG HB5
    by_cases h0 : r = 0
    · subst h0
      go_wp2_with fail
      go_ret
      exact ⟨by simp, HBR.out⟩
    · have br0 : ((r : Int) == 0) = false := by simp; omega
      have hr1 : (0 : Int) ≤ (r : Int) := by omega
      have hr2 : (r : Int) ≤ (cap : Int) := by omega
      have hr3 : r ≤ cap := by omega
      have hrl : r ≤ ts.length := by omega
      have HR : Hid (0 < r ∧ r ≤ ts.length) := ⟨by omega, hrl⟩
      have hmd := made_any (.slice ao r r) (ts.take r) (xs.take r) wr (((HTS.out.next HBR.out).wide HBR.out.size).take HR.out.1 HR.out.2 r) (fun _ => rts_take HRT.out r)
      go_upto_region 8 with fail
      go_wp2_with fail
      refine hmd.mono ?_
      rintro _ w6 ⟨hb6, ⟨rfl, -⟩ | ⟨han, k6, rb6, rc6, tb6, tc6, hall6, hk6, rfl, hrw6, hts6⟩⟩
      · have HB7 : Hid (Below w.heap.size w (w6.alloc (Obj.cells #[.slice none 0 0, .slice none 0 0] 30))) := HBR.out.trans ((hb6.trans ((below_alloc1 w6 _).mono hb6.size)).mono HBR.out.size)
        clear hmd hb6
        go_wp2_with fail
        go_ret
        exact ⟨by simp, HB7.out⟩
      · have hbz := below_alloc1 w6 (Obj.cells #[.slice (some ⟨rb6, 0, none⟩) k6 rc6, .slice (some ⟨tb6, 0, none⟩) k6 tc6] 30)
        have hb67 := hb6.trans (hbz.mono hb6.size)
        have hrw7 := hrw6.below hbz (Nat.le_refl _)
        have hts7 := hts6.below hbz (Nat.le_refl _)
        obtain ⟨w7, HW7⟩ : ∃ z, Hid (w6.alloc (Obj.cells #[.slice (some ⟨rb6, 0, none⟩) k6 rc6, .slice (some ⟨tb6, 0, none⟩) k6 tc6] 30) = z) := ⟨_, (rfl : _ = _)⟩
        have hz0 : w7.cell? ⟨w6.heap.size, 0, none⟩ = some (.slice (some ⟨rb6, 0, none⟩) k6 rc6) := by rw [← HW7.out]; simp
        have hz1 : w7.cell? ⟨w6.heap.size, 1, none⟩ = some (.slice (some ⟨tb6, 0, none⟩) k6 tc6) := by rw [← HW7.out]; simp
        have hz2 : w6.heap.size < w7.heap.size := by rw [← HW7.out]; simp
        rw [HW7.out] at hb67 hrw7 hts7
        obtain ⟨gc, HGC⟩ : ∃ gc, Hid (w6.heap.size = gc) := ⟨_, (rfl : w6.heap.size = w6.heap.size)⟩
        rw [HGC.out] at hz0 hz1 hz2
        obtain ⟨P6, HP6⟩ : ∃ P6, Hid (posX (xs.take r) = P6) := ⟨_, (rfl : _ = _)⟩
        rw [HP6.out] at hall6 hrw7 hts7
        have HB7 : Hid (Below w.heap.size w w7) := HBR.out.trans (hb67.mono HBR.out.size)
        have HBX7 : Hid (w7.cell? ⟨gb, 0, none⟩ = some (.slice (some ⟨rb, 0, none⟩) kk rc) ∧ w7.cell? ⟨gb, 1, none⟩ = some (.slice (some ⟨tb, 0, none⟩) kk tc) ∧ w7.cell? ⟨gc, 0, none⟩ = some (.slice (some ⟨rb6, 0, none⟩) k6 rc6) ∧ w7.cell? ⟨gc, 1, none⟩ = some (.slice (some ⟨tb6, 0, none⟩) k6 tc6) ∧ gc < w7.heap.size) := ⟨(hb67.cell HBX5.out.2.2).trans HBX5.out.1, (hb67.cell HBX5.out.2.2).trans HBX5.out.2.1, hz0, hz1, hz2⟩
        have HRI6 : Hid (Pm.RI (xs.take r) (xs.take r).length P6) := by rw [← HP6.out]; exact Pm.ri_all _
        have HEL6 : Hid (P6.empty.length = r) := by
          show _ = _
          rw [← HP6.out, made_el (rts_take HRT.out r), List.length_take]
          exact Nat.min_eq_left HR.out.2
        have HFEW : Hid (firstR P6.empty.length (doneB P6 s.data.toList) = if (r : Int) ≤ firstR P0.empty.length (doneB P0 s.data.toList) then -1 else firstR P0.empty.length (doneB P0 s.data.toList)) := by
          show _ = _
          rw [HEL6.out]
          refine few_first (by rw [HEL.out]; exact HR.out.2) fun i hi => ?_
          have hxl : xs.length = ts.length := HRT.out.len
          have hi1 : i < xs.length := by have := HR.out.2; omega
          have hi2 : i < (xs.take r).length := by rw [List.length_take]; omega
          have e1 := Pm.done_iff HRI.out s.data.toList i hi1
          have e2 := Pm.done_iff HRI6.out s.data.toList i hi2
          rw [List.getElem_take] at e2
          exact Bool.eq_iff_iff.2 (e1.trans e2.symm)
        have htg := tag_rules _ _ P0 kk s w7 HALL.out.1 HALL.out.2 (HRW5.out.below hb67 (Nat.le_refl _)) (HTG5.out.below hb67 (Nat.le_refl _)) HSZ.out
        obtain ⟨fa, HFA⟩ : ∃ z, Hid (firstR P0.empty.length (doneB P0 s.data.toList) = z) := ⟨_, (rfl : _ = _)⟩
        obtain ⟨fb, HFB⟩ : ∃ z, Hid (firstR P6.empty.length (doneB P6 s.data.toList) = z) := ⟨_, (rfl : _ = _)⟩
        rw [HFA.out] at htg HFEW
        rw [HFB.out] at HFEW
        have HRT7 : Hid (All P6 k6 ∧ k6 ≤ 200 ∧ Df.Rw w7 (.slice (some ⟨rb6, 0, none⟩) k6 rc6) k6 (rowF P6 (G P6 k6)) ∧ Df.Ts w7 (.slice (some ⟨tb6, 0, none⟩) k6 tc6) k6 (tagF P6 (G P6 k6))) := ⟨hall6, hk6, hrw7, hts7⟩
        clear hmd hb6 hbz hb67 hrw6 hts6 hrw7 hts7 hz0 hz1 hz2 hall6 hk6 han HBR HRW5 HTG5 HBX5
        go_upto_region 11 with fail
        rw [HW7.out, HGC.out]
        clear HW7 HGC
        have y0 := HBX7.out.1
        have y1 := HBX7.out.2.1
        go_wp2_with fail
        clear y0 y1
        refine htg.mono ?_
        rintro _ w8 ⟨rfl, hb8⟩
        have HB8 : Hid (Below w.heap.size w w8) := HB7.out.trans (hb8.mono HB7.out.size)
        have htg2 := tag_rules _ _ P6 k6 s w8 HRT7.out.1 HRT7.out.2.1 (HRT7.out.2.2.1.below hb8 (Nat.le_refl _)) (HRT7.out.2.2.2.below hb8 (Nat.le_refl _)) HSZ.out
        rw [HFB.out] at htg2
        have y0 := (hb8.cell (p := ⟨gc, 0, none⟩) HBX7.out.2.2.2.2).trans HBX7.out.2.2.1
        have y1 := (hb8.cell (p := ⟨gc, 1, none⟩) HBX7.out.2.2.2.2).trans HBX7.out.2.2.2.1
        clear htg hb8
        go_wp2_with fail
        clear y0 y1
        refine htg2.mono ?_
        rintro _ w9 ⟨rfl, hb9⟩
        have HB9 : Hid (Below w.heap.size w w9) := HB8.out.trans (hb9.mono HB8.out.size)
        clear htg2 hb9
        by_cases hge : (r : Int) ≤ fa
        · have HF : Hid (fb = -1) := by show _ = _; rw [HFEW.out, if_pos hge]
          have bge : decide ((r : Int) ≤ fa) = true := decide_eq_true hge
          have bf : ((-1 : Int) == fb) = true := by rw [HF.out]; rfl
          clear hge
          go_wp2_with fail
          go_ret
          exact ⟨by simp [HF.out], HB9.out⟩
        · have HF : Hid (fb = fa) := by show _ = _; rw [HFEW.out, if_neg hge]
          have bge : decide ((r : Int) ≤ fa) = false := decide_eq_false hge
          have bf : (fa == fb) = true := by rw [HF.out]; simp
          clear hge
          go_wp2_with fail
          go_ret
          exact ⟨by simp [HF.out], HB9.out⟩

/-! ### What the walk gives, for every argument -/
set_option maxRecDepth 100000 in
theorem contract (H : Type) (enc : TypeId × Value → H) (W : World) (base : Nat) (args : Array Value) (ds gs : List (DataW H)) (before : List MemPlace)
    (hval : ∀ (j : Nat) t v, Try.f5.params[j]? = some t → args[j]? = some v → Value.okWide Try.prog W .any base t v)
    (hW : DataW.Whole enc Try.prog Try.f5.params.toList Rows.dfaFewSpec.vars false W args.toList ds gs before) (hsz : (DataW.weightsEach Try.prog (Try.f5.params.toList ++ Rows.dfaFewSpec.plain.varTypes Try.prog) (ds ++ gs)).all (· ≤ reachBytes) = true) :
    Calls Try.prog 5 args W fun e W' => ∃ v, e = .returned v ∧ Rows.dfaFewSpec.post enc Try.prog Try.f5 false true false false W args v W' := by
  have hW' := hW
  obtain ⟨p, q, hA0, hV, rfl, hfz, hnd⟩ := hW
  have hA : DataW.TrodAll enc Try.prog W 0 (fun _ => true) true Try.f5.params.toList args.toList ds p := hA0
  rw [Try.params5] at hA hval hsz
  obtain ⟨v0, vs0, d0, ds0, p0, q0, hargs, rfl, rfl, h0, r0⟩ := trodAll_cons hA
  obtain ⟨v1, vs1, d1, ds1, p1, q1, rfl, rfl, rfl, h1, r1⟩ := trodAll_cons r0
  obtain ⟨v2, vs2, d2, ds2, p2, q2, rfl, rfl, rfl, h2, r2⟩ := trodAll_cons r1
  obtain ⟨rfl, rfl, rfl⟩ := trodAll_nil r2
  obtain rfl : args = #[v0, v1, v2] := by cases args; simp_all
  obtain ⟨rfl, rfl⟩ := trodVars_none hV
  have k0 := h0
  have lt0 : ∀ x ∈ p0, x.block < W.heap.size := by obtain ⟨m, hm⟩ := k0; exact DataW.trod_lt m _ _ _ hm
  obtain ⟨a0l, w0s, w0c, w0y⟩ := open_rxs_wide (hval 0 37 v0 rfl rfl) h0
  obtain ⟨a1, rfl, rfl, rfl, w1⟩ := open_int Try.underlying3 (hval 1 3 v1 rfl rfl) h1
  obtain ⟨a2, rfl, rfl, rfl, w2⟩ := open_string Try.underlying9 (hval 2 9 v2 rfl rfl) h2
  have r0z : a0l.length ≤ 4398046510976 := by
    rcases w0y with h | ⟨el, sp, rfl, h⟩
    · rw [h]; simp
    · have := sized_slice hsz (j := 0) (t := 37) (e := 44) rfl rfl Try.underlying37
      rw [bytes44] at this
      simp only [reachBytes] at this
      omega
  have r2z : a2.size ≤ 140737488351232 := by have := sized_string hsz (j := 2) (t := 9) rfl rfl; simpa [reachBytes] using this
  clear hA0
  refine (walk _ a0l a1 a2 W w0s w0c r0z w1 r2z).mono fun e W' ⟨he, bel⟩ => ?_
  subst he
  exact ⟨_, rfl, _, _, _, [], _, [], hW', trodAll_mk1 (shut_bool Try.underlying4 _), (trodAll_cons_mk (Below.trod laidOut (by kernel_rfl) (of_decide_eq_true (by kernel_rfl)) k0 bel lt0) (trodAll_cons_mk (shut_int Try.underlying3 w1) (trodAll_cons_mk (shut_string Try.underlying9 w2) trodAll_mk0))), rfl, bel.frame _, fun h => by cases h⟩

/-! ### The row's step -/
set_option maxRecDepth 100000 in
theorem lifted (os : Os) (started : os.Started) (H : Type) (enc : TypeId × Value → H) :
    ReturnsInHanded {} Try.checked os 5 .any (Rows.dfaFewSpec.pre6 enc Try.prog Try.f5 Rows.dfaFewRow.domain false) (Rows.dfaFewSpec.post enc Try.prog Try.f5 false true false false) := by
  refine returnsInHanded_of_change_sized (C := Try.checked) own started (by kernel_rfl) Try.func5
    (ChangeSpec.witness6 (enc := enc) (C := Try.checked) false ⟨#[], #[.slice none 0 0, .int .i64 0, .string .empty], []⟩ 8 (by kernel_rfl) (by kernel_rfl) (by kernel_rfl) (by kernel_rfl)) ?_
  intro W base args ds gs before hval hW hcnd hsz _
  exact contract H enc W base args ds gs before hval hW hsz

theorem over : Rows.dfaFewRow.holds Try.pinned (OpenSpec.ofChange Rows.dfaFewSpec) :=
  OpenClaim.holds_of_wide 5 Try.f5 rfl rfl rfl rfl rfl rfl rfl ⟨rfl, rfl, rfl, rfl, rfl⟩ rfl rfl rfl rfl rfl (by kernel_rfl) Try.func5 (by kernel_rfl)
    (of_decide_eq_true (by kernel_rfl)) (by unfold Func.isWrapper; first | (rw [if_pos (by decide +kernel)]; kernel_rfl) | (rw [if_neg (by decide +kernel)]; exact ⟨rfl, rfl⟩))
    (fun os started H enc _ => lifted os started H enc)

end Go.Proofs.Ytlmlkpdppkgenaa.dfaFew
namespace Go.Proofs.Ytlmlkpdppkgenaa
/-- The given statement. -/
theorem dfaFew_holds : Rows.DfaFewSaid := dfaFew.over
#print axioms dfaFew_holds
end Go.Proofs.Ytlmlkpdppkgenaa
