/-
  The contract of rex.parser's cat.
-/
import Derived.Test.YthloedfiomfnbaaPaEnds
namespace Go.Proofs.Ythloedfiomfnbaa
open Go.RowKit
open Cls Txt Rex

set_option maxHeartbeats 8000000 in
set_option maxRecDepth 20000 in
theorem cat_any (s : ByteArray) (hs : s.size ≤ 300) (k : Value) (R : Nat → Res) (hG : Goes s R) (hC : PC 52 s k R) : PC 35 s k (catR s R) := by
  intro g i w hP hi
  have hlt := hP.lt
  have hne : w.heap.size ≠ g := by omega
  obtain ⟨n, HN⟩ : ∃ n, Hid (w.heap.size = n) := ⟨_, (rfl : w.heap.size = w.heap.size)⟩
  obtain ⟨W0, HW⟩ : ∃ W0, Hid (w.alloc (.cells #[.int .i64 0, .int .u64 0, .int .u64 0, .int .u64 0, .int .u64 0, .slice none 0 0] 27) = W0) := ⟨_, (rfl : w.alloc (.cells #[.int .i64 0, .int .u64 0, .int .u64 0, .int .u64 0, .int .u64 0, .slice none 0 0] 27) = w.alloc (.cells #[.int .i64 0, .int .u64 0, .int .u64 0, .int .u64 0, .int .u64 0, .slice none 0 0] 27))⟩
  have hB0 : Below w.heap.size w W0 := HW.out ▸ (Below.refl _ w).alloc (Nat.le_refl _) _
  have hP0 : Ps g s i k W0 := hP.next hB0
  have hG0 : w.grownBy W0 (some g) := grown_below hB0 _
  have hC0 : W0.heap[n]? = some (.cells #[.int .i64 0, .int .u64 0, .int .u64 0, .int .u64 0, .int .u64 0, .slice none 0 0] 27) := by rw [← HW.out, ← HN.out]; exact block_new w _
  have hnw : w.heap.size ≤ n := by rw [HN.out]; exact Nat.le_refl _
  rw [HN.out] at hne
  have hfirst := hC g i W0 hP0 hi
  have hgi := hG i hi
  obtain ⟨x0, HX0⟩ : ∃ x0, Hid (R i = x0) := ⟨_, (rfl : R i = R i)⟩
  rw [HX0.out] at hfirst hgi
  have HFN : Hid (catR s R i = catL s R (s.size + 2) x0) := by show _ = _; unfold catR; rw [HX0.out]
  have HG : Hid (Goes s R) := hG
  have HPC : Hid (PC 52 s k R) := hC
  rw [HFN.out]
  obtain ⟨rr, HRR⟩ : ∃ rr, Hid (catL s R (s.size + 2) x0 = rr) := ⟨_, (rfl : catL s R (s.size + 2) x0 = catL s R (s.size + 2) x0)⟩
  rw [HRR.out]
  clear hP hB0 hG hC
  go_enter Try.func35, Try.ntmps35
  go_upto_region 1 with fail
  rw [HN.out, HW.out]
  go_upto_region 2 with (go_at_call 52; refine hfirst.mono ?_; rintro _ w1 ⟨q0, rfl, hy1, hp1, hg1⟩)
  obtain ⟨m, HM⟩ : ∃ m, Hid (w1.heap.size = m) := ⟨_, (rfl : w1.heap.size = w1.heap.size)⟩
  obtain ⟨W2, HW2⟩ : ∃ W2, Hid (w1.alloc (.cells #[.int .i64 q0.1, .int .u64 (q0.2.1.1.toNat : Int), .int .u64 (q0.2.1.2.1.toNat : Int), .int .u64 (q0.2.1.2.2.1.toNat : Int), .int .u64 (q0.2.1.2.2.2.toNat : Int), .slice q0.2.2.1 q0.2.2.2.1 q0.2.2.2.2] 27) = W2) := ⟨_, (rfl : w1.alloc (.cells #[.int .i64 q0.1, .int .u64 (q0.2.1.1.toNat : Int), .int .u64 (q0.2.1.2.1.toNat : Int), .int .u64 (q0.2.1.2.2.1.toNat : Int), .int .u64 (q0.2.1.2.2.2.toNat : Int), .slice q0.2.2.1 q0.2.2.2.1 q0.2.2.2.2] 27) = w1.alloc (.cells #[.int .i64 q0.1, .int .u64 (q0.2.1.1.toNat : Int), .int .u64 (q0.2.1.2.1.toNat : Int), .int .u64 (q0.2.1.2.2.1.toNat : Int), .int .u64 (q0.2.1.2.2.2.toNat : Int), .slice q0.2.2.1 q0.2.2.2.1 q0.2.2.2.2] 27))⟩
  have hB2 : Below w1.heap.size w1 W2 := HW2.out ▸ (Below.refl _ w1).alloc (Nat.le_refl _) _
  have hn0 := in_heap hC0
  have hs1 := hg1.size
  have hbn1 := kept27 hC0 hg1 hne
  have hgl := hp1.lt
  have hw0 := hG0.size
  have hnm : n ≠ m := by have := in_heap hbn1; rw [HM.out] at this; omega
  have hmg : m ≠ g := by rw [HM.out] at hgl; omega
  have hmw : w.heap.size ≤ m := by rw [HM.out] at hs1; omega
  have HL : Hid (LT g s k w n m x0 q0 W2) := by
    refine ⟨hp1.next hB2, grown_trans (grown_trans hG0 hg1) (grown_below hB2 _), kept27 hbn1 (grown_below hB2 (some g)) hne, (by rw [← HW2.out, ← HM.out]; exact block_new w1 _), ?_⟩
    refine hy1.move (fun b hb => ⟨by omega, by omega, by rw [HM.out] at hb; omega, Nat.lt_of_lt_of_le hb.2 hB2.size⟩) (fun b hb => hB2.block b hb.2)
  rw [HM.out, HW2.out]
  clear hB2 hg1 hp1 hy1 hC0 hG0 hP0 hfirst hn0 hs1 hbn1 hgl hw0
  go_loopw [5] (fun v5 wr => ∃ (x : Res) (q : R6), v5 = .int .i64 (x.2.2 : Int) ∧ x.2.1 ≤ s.size ∧ Hid (LT g s k w n m x q wr ∧ rr = catL s R (s.size + 2) x)) (fun v5 wr => restOf g s v5 wr)
  case atStart => exact ⟨x0, q0, rfl, hgi.2.1, HL.out, HRR.out.symm⟩
  case round =>
    clear HL
    obtain ⟨x, q, rfl, hx, HL⟩ := hrel
    by_cases he : x.2.2 = 0
    · have hend := catEnds_any g s x.2.1 k wr HL.out.1.ps hx
      have HE : Hid (x.2.2 = 0) := he
      have heb : ((x.2.2 : Int) == 0) = true := by simp [he]
      cases hb : catEnd s x.2.1 with
      | false =>
        rw [hb] at hend
        have HF : Hid (rr = catL s R (s.size + 1) (.mk 4 empty [x.1, (R x.2.1).1], (R x.2.1).2)) := by
          show _ = _
          rw [HL.out.2]
          conv => lhs; unfold catL
          rw [if_neg (by simp [he]), if_neg (by rw [hb]; simp)]
        clear hb he
        go_upto_region 3 with (go_at_call 53; refine hend.mono ?_; rintro _ wa ⟨rfl, hba⟩)
        have hpa := HL.out.1.ps.next hba
        have hga : wr.grownBy wa (some g) := grown_below hba _
        have hposle : x.2.1 ≤ s.size := hx
        have hpass := hend
        clear hend hba
        have HA : Hid (LT g s k w n m (x.1, x.2.1, x.2.2) q wa) := HL.out.1.kept hpa hga hlt hnw hmw
        have HMEA : Hid (restOf g s (.int .i64 (x.2.2 : Int)) wr = rest s x) := restOf_eq HL.out.1.ps
        obtain ⟨p, HPP⟩ : ∃ p, Hid (wa.heap.size = p) := ⟨_, (rfl : wa.heap.size = wa.heap.size)⟩
        obtain ⟨wb, HB⟩ : ∃ wb, Hid (wa.alloc (.cells #[.int .i64 0, .int .u64 0, .int .u64 0, .int .u64 0, .int .u64 0, .slice none 0 0] 27) = wb) := ⟨_, (rfl : wa.alloc (.cells #[.int .i64 0, .int .u64 0, .int .u64 0, .int .u64 0, .int .u64 0, .slice none 0 0] 27) = wa.alloc (.cells #[.int .i64 0, .int .u64 0, .int .u64 0, .int .u64 0, .int .u64 0, .slice none 0 0] 27))⟩
        have hBb : Below wa.heap.size wa wb := HB.out ▸ (Below.refl _ wa).alloc (Nat.le_refl _) _
        have hsec := HPC.out g x.2.1 wb (hpa.next hBb) hposle
        have hgy := HG.out x.2.1 hposle
        obtain ⟨y, HY⟩ : ∃ y, Hid (R x.2.1 = y) := ⟨_, (rfl : R x.2.1 = R x.2.1)⟩
        rw [HY.out] at hsec hgy HF
        have hbp : wb.heap[p]? = some (.cells #[.int .i64 0, .int .u64 0, .int .u64 0, .int .u64 0, .int .u64 0, .slice none 0 0] 27) := by rw [← HB.out, ← HPP.out]; exact block_new wa _
        have hpg : p ≠ g := by have := hpa.lt; rw [HPP.out] at this; omega
        have hbm := HA.out.bm
        have hpm : m ≠ p := by have := in_heap hbm; rw [HPP.out] at this; omega
        have hbmb := kept27 hbm (grown_below hBb (some g)) hmg
        clear hpass hpa hga HL hBb hbm
        go_upto_region 4 with fail
        rw [HPP.out, HB.out]
        go_wp2_with fail
        refine hsec.mono ?_
        rintro _ wc ⟨u, rfl, hyc, hpc, hgc⟩
        have hbpc := kept27 hbp hgc hpg
        have hbmc := kept27 hbmb hgc hmg
        obtain ⟨⟨z0, z1, z2, z3, z4, z5⟩, y0, y1, y2, y3, y4, y5⟩ := block6 hbpc
        have HYC : Hid (Ry wc (fun b => wb.heap.size ≤ b ∧ b < wc.heap.size) (v6 u) y.1 ∧ Ps g s y.2.1 k wc ∧ wb.grownBy wc (some g)) := ⟨hyc, hpc, hgc⟩
        clear hsec hyc hpc hgc hbp hbmb
        go_upto_region 5 with fail
        obtain ⟨wd, HD⟩ : ∃ wd, Hid (((((((wc.setCell ⟨p, 0, none⟩ (.int .i64 u.1)).setCell ⟨p, 1, none⟩ (.int .u64 (u.2.1.1.toNat : Int))).setCell ⟨p, 2, none⟩ (.int .u64 (u.2.1.2.1.toNat : Int))).setCell ⟨p, 3, none⟩ (.int .u64 (u.2.1.2.2.1.toNat : Int))).setCell ⟨p, 4, none⟩ (.int .u64 (u.2.1.2.2.2.toNat : Int))).setCell ⟨p, 5, none⟩ (.slice u.2.2.1 u.2.2.2.1 u.2.2.2.2)) = wd) := ⟨_, (rfl : ((((((wc.setCell ⟨p, 0, none⟩ (.int .i64 u.1)).setCell ⟨p, 1, none⟩ (.int .u64 (u.2.1.1.toNat : Int))).setCell ⟨p, 2, none⟩ (.int .u64 (u.2.1.2.1.toNat : Int))).setCell ⟨p, 3, none⟩ (.int .u64 (u.2.1.2.2.1.toNat : Int))).setCell ⟨p, 4, none⟩ (.int .u64 (u.2.1.2.2.2.toNat : Int))).setCell ⟨p, 5, none⟩ (.slice u.2.2.1 u.2.2.2.1 u.2.2.2.2)) = ((((((wc.setCell ⟨p, 0, none⟩ (.int .i64 u.1)).setCell ⟨p, 1, none⟩ (.int .u64 (u.2.1.1.toNat : Int))).setCell ⟨p, 2, none⟩ (.int .u64 (u.2.1.2.1.toNat : Int))).setCell ⟨p, 3, none⟩ (.int .u64 (u.2.1.2.2.1.toNat : Int))).setCell ⟨p, 4, none⟩ (.int .u64 (u.2.1.2.2.2.toNat : Int))).setCell ⟨p, 5, none⟩ (.slice u.2.2.1 u.2.2.2.1 u.2.2.2.2)))⟩
        rw [HD.out]
        have hbpd : wd.heap[p]? = some (.cells #[.int .i64 u.1, .int .u64 (u.2.1.1.toNat : Int), .int .u64 (u.2.1.2.1.toNat : Int), .int .u64 (u.2.1.2.2.1.toNat : Int), .int .u64 (u.2.1.2.2.2.toNat : Int), .slice u.2.2.1 u.2.2.2.1 u.2.2.2.2] 27) := HD.out ▸ put6_at hbpc _ _ _ _ _ _
        have hbmd : wd.heap[m]? = some (.cells #[.int .i64 q.1, .int .u64 (q.2.1.1.toNat : Int), .int .u64 (q.2.1.2.1.toNat : Int), .int .u64 (q.2.1.2.2.1.toNat : Int), .int .u64 (q.2.1.2.2.2.toNat : Int), .slice q.2.2.1 q.2.2.2.1 q.2.2.2.2] 27) := HD.out ▸ (put6_other wc p _ _ _ _ _ _ m hpm).trans hbmc
        clear hbpc hbmc z0 z1 z2 z3 z4 z5 y0 y1 y2 y3 y4 y5
        obtain ⟨⟨z0, z1, z2, z3, z4, z5⟩, y0, y1, y2, y3, y4, y5⟩ := block6 hbpd
        obtain ⟨⟨b0, b1, b2, b3, b4, b5⟩, d0, d1, d2, d3, d4, d5⟩ := block6 hbmd
        go_wp2_with fail
        obtain ⟨we, HWE⟩ : ∃ we, Hid (wd.alloc (.cells #[.int .i64 q.1, .int .u64 (q.2.1.1.toNat : Int), .int .u64 (q.2.1.2.1.toNat : Int), .int .u64 (q.2.1.2.2.1.toNat : Int), .int .u64 (q.2.1.2.2.2.toNat : Int), .slice q.2.2.1 q.2.2.2.1 q.2.2.2.2, .int .i64 u.1, .int .u64 (u.2.1.1.toNat : Int), .int .u64 (u.2.1.2.1.toNat : Int), .int .u64 (u.2.1.2.2.1.toNat : Int), .int .u64 (u.2.1.2.2.2.toNat : Int), .slice u.2.2.1 u.2.2.2.1 u.2.2.2.2] 27) = we) := ⟨_, (rfl : wd.alloc (.cells #[.int .i64 q.1, .int .u64 (q.2.1.1.toNat : Int), .int .u64 (q.2.1.2.1.toNat : Int), .int .u64 (q.2.1.2.2.1.toNat : Int), .int .u64 (q.2.1.2.2.2.toNat : Int), .slice q.2.2.1 q.2.2.2.1 q.2.2.2.2, .int .i64 u.1, .int .u64 (u.2.1.1.toNat : Int), .int .u64 (u.2.1.2.1.toNat : Int), .int .u64 (u.2.1.2.2.1.toNat : Int), .int .u64 (u.2.1.2.2.2.toNat : Int), .slice u.2.2.1 u.2.2.2.1 u.2.2.2.2] 27) = wd.alloc (.cells #[.int .i64 q.1, .int .u64 (q.2.1.1.toNat : Int), .int .u64 (q.2.1.2.1.toNat : Int), .int .u64 (q.2.1.2.2.1.toNat : Int), .int .u64 (q.2.1.2.2.2.toNat : Int), .slice q.2.2.1 q.2.2.2.1 q.2.2.2.2, .int .i64 u.1, .int .u64 (u.2.1.1.toNat : Int), .int .u64 (u.2.1.2.1.toNat : Int), .int .u64 (u.2.1.2.2.1.toNat : Int), .int .u64 (u.2.1.2.2.2.toNat : Int), .slice u.2.2.1 u.2.2.2.1 u.2.2.2.2] 27))⟩
        rw [HWE.out]
        refine (node_any 4 (some ⟨wd.heap.size, 0, none⟩) 2 2 _).mono ?_
        rintro _ wf ⟨rfl, hbf⟩
        have hBe : Below wd.heap.size wd we := HWE.out ▸ (Below.refl _ wd).alloc (Nat.le_refl _) _
        have hbmf : wf.heap[m]? = some (.cells #[.int .i64 q.1, .int .u64 (q.2.1.1.toNat : Int), .int .u64 (q.2.1.2.1.toNat : Int), .int .u64 (q.2.1.2.2.1.toNat : Int), .int .u64 (q.2.1.2.2.2.toNat : Int), .slice q.2.2.1 q.2.2.2.1 q.2.2.2.2] 27) := (hbf.block m (Nat.lt_of_lt_of_le (in_heap hbmd) hBe.size)).trans ((hBe.block m (in_heap hbmd)).trans hbmd)
        have HST := LT.step 4 (by omega) y.2.2 HA.out hlt hnw hmw hnm HB.out HYC.out.1 HYC.out.2.1 HYC.out.2.2 (by rw [HPP.out]; exact HD.out) HWE.out hbf
        have HST2 : Hid (LT g s k w n m (.mk 4 empty [x.1, y.1], y.2) (4, empty, some ⟨wd.heap.size, 0, none⟩, 2, 2) (put6 wf m (.int .i64 4) (.int .u64 0) (.int .u64 0) (.int .u64 0) (.int .u64 0) (.slice (some ⟨wd.heap.size, 0, none⟩) 2 2))) := HST
        clear HST hbf hBe hbpd hbmd z0 z1 z2 z3 z4 z5 y0 y1 y2 y3 y4 y5 b0 b1 b2 b3 b4 b5 d0 d1 d2 d3 d4 d5
        obtain ⟨⟨b0, b1, b2, b3, b4, b5⟩, d0, d1, d2, d3, d4, d5⟩ := block6 hbmf
        go_wp2_with fail
        have hrest : rest s (T.mk 4 empty [x.1, y.1], y.2) < rest s x := by
          unfold rest
          rw [if_pos HE.out]
          simp only
          split
          · rename_i e; have := hgy.2.2 e; omega
          · omega
        refine ⟨⟨(.mk 4 empty [x.1, y.1], y.2), (4, empty, some ⟨wd.heap.size, 0, none⟩, 2, 2), rfl, hgy.2.1, HST2.out, ?_⟩, ?_⟩
        · rw [HF.out]
          refine catL_more s R HG.out (s.size + 1) (s.size + 2) _ hgy.2.1 ?_ ?_
          · have : rest s x ≤ s.size + 1 := by unfold rest; split <;> omega
            omega
          · have : rest s x ≤ s.size + 1 := by unfold rest; split <;> omega
            omega
        · have h2 := restOf_eq (x := (.mk 4 empty [x.1, y.1], y.2)) HST2.out.ps
          refine Nat.lt_of_le_of_lt (Nat.le_of_eq h2) ?_
          rw [HMEA.out]; exact hrest
      | true =>
        rw [hb] at hend
        have HF : Hid (rr = x) := by show _ = _; rw [HL.out.2]; unfold catL; rw [if_neg (by simp [he]), if_pos hb]
        clear hb he
        go_upto_region 6 with (go_at_call 53; refine hend.mono ?_; rintro _ wa ⟨rfl, hba⟩)
        have hpa := HL.out.1.ps.next hba
        have hga : wr.grownBy wa (some g) := grown_below hba _
        have HA : Hid (LT g s k w n m x q wa) := HL.out.1.kept hpa hga hlt hnw hmw
        have hps := HA.out.ps
        have hbn := HA.out.bn
        have hbm := HA.out.bm
        have HRY : Hid (Ry wa (fun b => w.heap.size ≤ b ∧ b ≠ n ∧ b ≠ m ∧ b < wa.heap.size) (v6 q) x.1) := HA.out.ry
        have HGR : Hid (w.grownBy wa (some g)) := HA.out.gr
        clear hpa hga hend HL hba
        obtain ⟨⟨b0, b1, b2, b3, b4, b5⟩, d0, d1, d2, d3, d4, d5⟩ := block6 hbm
        obtain ⟨⟨z0, z1, z2, z3, z4, z5⟩, y0, y1, y2, y3, y4, y5⟩ := block6 hbn
        go_wp2_with fail
        refine bodyPost_ret (v := .tuple #[.agg #[.int .i64 q.1, .int .u64 (q.2.1.1.toNat : Int), .int .u64 (q.2.1.2.1.toNat : Int), .int .u64 (q.2.1.2.2.1.toNat : Int), .int .u64 (q.2.1.2.2.2.toNat : Int), .slice q.2.2.1 q.2.2.2.1 q.2.2.2.2], .int .i64 (x.2.2 : Int)]) (by simp [results, Try.results35, go_sem, z0, z1, z2, z3, z4, z5]) rfl ⟨q, by rw [HF.out], ?_, ?_, ?_⟩
        · rw [HF.out]
          exact HRY.out.move (fun b hb => ⟨hb.1, by show b < (put6 _ n _ _ _ _ _ _).heap.size; rw [put6_size]; exact hb.2.2.2⟩) (fun b hb => put6_other _ n _ _ _ _ _ _ b hb.2.1)
        · rw [HF.out]
          exact put6_ps hps n hne _ _ _ _ _ _
        · exact put6_grown HGR.out n hnw _ _ _ _ _ _
    · have HF : Hid (rr = x) := by show _ = _; rw [HL.out.2]; unfold catL; rw [if_pos he]
      have heb : ((x.2.2 : Int) == 0) = false := by simp; omega
      clear he
      have hps := HL.out.1.ps
      have hbn := HL.out.1.bn
      have hbm := HL.out.1.bm
      have HRY : Hid (Ry wr (fun b => w.heap.size ≤ b ∧ b ≠ n ∧ b ≠ m ∧ b < wr.heap.size) (v6 q) x.1) := HL.out.1.ry
      have HGR : Hid (w.grownBy wr (some g)) := HL.out.1.gr
      obtain ⟨⟨b0, b1, b2, b3, b4, b5⟩, d0, d1, d2, d3, d4, d5⟩ := block6 hbm
      obtain ⟨⟨z0, z1, z2, z3, z4, z5⟩, y0, y1, y2, y3, y4, y5⟩ := block6 hbn
      go_wp2_with fail
      refine bodyPost_ret (v := .tuple #[.agg #[.int .i64 q.1, .int .u64 (q.2.1.1.toNat : Int), .int .u64 (q.2.1.2.1.toNat : Int), .int .u64 (q.2.1.2.2.1.toNat : Int), .int .u64 (q.2.1.2.2.2.toNat : Int), .slice q.2.2.1 q.2.2.2.1 q.2.2.2.2], .int .i64 (x.2.2 : Int)]) (by simp [results, Try.results35, go_sem, z0, z1, z2, z3, z4, z5]) rfl ⟨q, by rw [HF.out], ?_, ?_, ?_⟩
      · rw [HF.out]
        exact HRY.out.move (fun b hb => ⟨hb.1, by show b < (put6 _ n _ _ _ _ _ _).heap.size; rw [put6_size]; exact hb.2.2.2⟩) (fun b hb => put6_other _ n _ _ _ _ _ _ b hb.2.1)
      · rw [HF.out]
        exact put6_ps hps n hne _ _ _ _ _ _
      · exact put6_grown HGR.out n hnw _ _ _ _ _ _
end Go.Proofs.Ythloedfiomfnbaa
