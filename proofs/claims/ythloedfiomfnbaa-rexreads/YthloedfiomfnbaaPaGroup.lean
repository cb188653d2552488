/-
  The contract of rex.parser's group.
-/
import Derived.Test.YthloedfiomfnbaaPaCat
namespace Go.Proofs.Ythloedfiomfnbaa
open Go.RowKit
open Cls Txt Rex

def groupR (s : ByteArray) (kn : Nat) (A : Nat → Res) (i : Nat) : Res :=
  if kn = 30 then (.mk 0 empty [], i, 7) else if bt s (i + 1) = 41 then (.mk 2 empty [], i + 2, 0) else if (A (i + 1)).2.2 ≠ 0 then A (i + 1) else if bt s (A (i + 1)).2.1 = 41 then ((A (i + 1)).1, (A (i + 1)).2.1 + 1, 0) else ((A (i + 1)).1, (A (i + 1)).2.1, 6)
/-- What group is to do, at a bracket. -/
def GC (s : ByteArray) (k : Value) (R : Nat → Res) : Prop := ∀ (g i : Nat) (w : World), Ps g s i k w → i < s.size → Calls Try.prog 72 #[.pointer (some ⟨g, 0, none⟩)] w fun e w' => ∃ q : R6, e = .returned (.tuple #[.agg #[.int .i64 q.1, .int .u64 (q.2.1.1.toNat : Int), .int .u64 (q.2.1.2.1.toNat : Int), .int .u64 (q.2.1.2.2.1.toNat : Int), .int .u64 (q.2.1.2.2.2.toNat : Int), .slice q.2.2.1 q.2.2.2.1 q.2.2.2.2], .int .i64 ((R i).2.2 : Int)]) ∧ Ry w' (fun b => w.heap.size ≤ b ∧ b < w'.heap.size) (v6 q) (R i).1 ∧ Ps g s (R i).2.1 k w' ∧ w.grownBy w' (some g)

set_option maxHeartbeats 8000000 in
set_option maxRecDepth 20000 in
theorem group_any (s : ByteArray) (hs : s.size ≤ 300) (kn : Nat) (hkn : kn ≤ 30) (A : Nat → Res) (hG : Goes s A) (hA : kn < 30 → PC 26 s (.int .i64 ((kn : Int) + 1)) A) : GC s (.int .i64 (kn : Int)) (groupR s kn A) := by
  intro g i w hP hi
  have hlt := hP.lt
  have hne : w.heap.size ≠ g := by omega
  obtain ⟨n, HN⟩ : ∃ n, Hid (w.heap.size = n) := ⟨_, (rfl : w.heap.size = w.heap.size)⟩
  obtain ⟨W0, HW⟩ : ∃ W0, Hid (w.alloc (.cells #[.int .i64 0, .int .u64 0, .int .u64 0, .int .u64 0, .int .u64 0, .slice none 0 0] 27) = W0) := ⟨_, (rfl : w.alloc (.cells #[.int .i64 0, .int .u64 0, .int .u64 0, .int .u64 0, .int .u64 0, .slice none 0 0] 27) = w.alloc (.cells #[.int .i64 0, .int .u64 0, .int .u64 0, .int .u64 0, .int .u64 0, .slice none 0 0] 27))⟩
  have hB0 : Below w.heap.size w W0 := HW.out ▸ (Below.refl _ w).alloc (Nat.le_refl _) _
  have hP0 : Ps g s i (.int .i64 (kn : Int)) W0 := hP.next hB0
  have HG0 : Hid (w.grownBy W0 (some g)) := grown_below hB0 _
  have hC0 : W0.heap[n]? = some (.cells #[.int .i64 0, .int .u64 0, .int .u64 0, .int .u64 0, .int .u64 0, .slice none 0 0] 27) := by rw [← HW.out, ← HN.out]; exact block_new w _
  have hnw : w.heap.size ≤ n := by rw [HN.out]; exact Nat.le_refl _
  rw [HN.out] at hne
  obtain ⟨⟨_, c1, c2⟩, _, f1, f2⟩ := hP0.cells
  clear hP hB0
  obtain ⟨rr, HRR⟩ : ∃ rr, Hid (groupR s kn A i = rr) := ⟨_, (rfl : groupR s kn A i = groupR s kn A i)⟩
  rw [HRR.out]
  by_cases h30 : kn = 30
  · have HF : Hid (rr = (.mk 0 empty [], i, 7)) := by show _ = _; rw [← HRR.out]; unfold groupR; rw [if_pos h30]
    have hb : ((kn : Int) == 30) = true := by simp [h30]
    clear h30 hG hA hkn
    go_enter Try.func72, Try.ntmps72
    go_upto_region 1 with fail
    rw [HN.out, HW.out]
    go_upto_region 2 with fail
    obtain ⟨⟨z0, z1, z2, z3, z4, z5⟩, y0, y1, y2, y3, y4, y5⟩ := block6 hC0
    go_wp2_with fail
    refine bodyPost_ret (v := .tuple #[.agg #[.int .i64 0, .int .u64 0, .int .u64 0, .int .u64 0, .int .u64 0, .slice none 0 0], .int .i64 7]) (by simp [results, Try.results72, go_sem, z0, z1, z2, z3, z4, z5]) rfl ⟨(0, empty, none, 0, 0), by rw [HF.out]; rfl, ?_, ?_, ?_⟩
    · rw [HF.out]; exact Ry.leaf 0 empty (by omega)
    · rw [HF.out]; exact put6_ps hP0 n hne _ _ _ _ _ _
    · exact put6_grown HG0.out n hnw _ _ _ _ _ _
  · have hb : ((kn : Int) == 30) = false := by simp; omega
    have HA : Hid (PC 26 s (.int .i64 ((kn : Int) + 1)) A) := hA (by omega)
    have hP1 : Ps g s (i + 1) (.int .i64 (kn : Int)) (W0.setCell ⟨g, 1, none⟩ (.int .i64 ((i : Int) + 1))) := by have := hP0.set1 (i + 1); simpa using this
    have hC1 := kept27 hC0 (grown_set W0 ⟨g, 1, none⟩ (.int .i64 ((i : Int) + 1))) hne
    have HG1 : Hid (w.grownBy (W0.setCell ⟨g, 1, none⟩ (.int .i64 ((i : Int) + 1))) (some g)) := grown_trans HG0.out (grown_set _ _ _)
    go_enter Try.func72, Try.ntmps72
    go_upto_region 1 with fail
    rw [HN.out, HW.out]
    go_upto_region 4 with fail
    generalize W0.setCell ⟨g, 1, none⟩ (.int .i64 ((i : Int) + 1)) = w1 at *
    clear c1 c2 f1 f2 hA hP0 hC0 HG0
    have hpass := pass_any g s (i + 1) (.int .i64 (kn : Int)) 41 w1 hP1 hi hs
    rw [show ((41 : Nat) : Int) = 41 from rfl] at hpass
    by_cases h41 : bt s (i + 1) = 41
    · have HF : Hid (rr = (.mk 2 empty [], i + 2, 0)) := by show _ = _; rw [← HRR.out]; unfold groupR; rw [if_neg h30, if_pos h41]
      rw [if_pos h41, decide_eq_true h41] at hpass
      clear h41 h30
      go_upto_region 5 with (go_at_call 36; refine hpass.mono ?_; rintro _ w2 ⟨rfl, hP2, hg2⟩)
      have hC2 := kept27 hC1 hg2 hne
      have HG2 : Hid (w.grownBy w2 (some g)) := grown_trans HG1.out hg2
      clear hpass hg2
      go_wp2_with fail
      refine (node_any 2 none 0 0 _).mono ?_
      rintro _ w3 ⟨rfl, hb3⟩
      have hC3 := kept27 hC2 (grown_below hb3 (some g)) hne
      have hP3 := hP2.next hb3
      have HG3 : Hid (w.grownBy w3 (some g)) := grown_trans HG2.out (grown_below hb3 _)
      clear hb3
      obtain ⟨⟨z0, z1, z2, z3, z4, z5⟩, y0, y1, y2, y3, y4, y5⟩ := block6 hC3
      go_wp2_with fail
      refine bodyPost_ret (v := .tuple #[.agg #[.int .i64 2, .int .u64 0, .int .u64 0, .int .u64 0, .int .u64 0, .slice none 0 0], .int .i64 0]) (by simp [results, Try.results72, go_sem, z0, z1, z2, z3, z4, z5]) rfl ⟨(2, empty, none, 0, 0), by rw [HF.out]; rfl, ?_, ?_, ?_⟩
      · rw [HF.out]; exact Ry.leaf 2 empty (by omega)
      · rw [HF.out]; exact put6_ps hP3 n hne _ _ _ _ _ _
      · exact put6_grown HG3.out n hnw _ _ _ _ _ _
    · rw [if_neg h41, decide_eq_false h41] at hpass
      have HF0 : Hid (rr = if (A (i + 1)).2.2 ≠ 0 then A (i + 1) else if bt s (A (i + 1)).2.1 = 41 then ((A (i + 1)).1, (A (i + 1)).2.1 + 1, 0) else ((A (i + 1)).1, (A (i + 1)).2.1, 6)) := by show _ = _; rw [← HRR.out]; unfold groupR; rw [if_neg h30, if_neg h41]
      clear h41 h30
      go_upto_region 6 with (go_at_call 36; refine hpass.mono ?_; rintro _ w2 ⟨rfl, hP2, hg2⟩)
      have hC2 := kept27 hC1 hg2 hne
      have HG2 : Hid (w.grownBy w2 (some g)) := grown_trans HG1.out hg2
      clear hpass hg2 hC1 HG1 hP1
      obtain ⟨⟨_, c1, c2⟩, _, f1, f2⟩ := hP2.cells
      have hP3 := hP2.set2 (.int .i64 ((kn : Int) + 1))
      have hC3 := kept27 hC2 (grown_set w2 ⟨g, 2, none⟩ (.int .i64 ((kn : Int) + 1))) hne
      have HG3 : Hid (w.grownBy (w2.setCell ⟨g, 2, none⟩ (.int .i64 ((kn : Int) + 1))) (some g)) := grown_trans HG2.out (grown_set _ _ _)
      go_upto_region 7 with fail
      generalize w2.setCell ⟨g, 2, none⟩ (.int .i64 ((kn : Int) + 1)) = w3 at *
      clear c1 c2 f1 f2 hP2 hC2 HG2
      have halt := HA.out g (i + 1) w3 hP3 hi
      have hgy := hG (i + 1) hi
      obtain ⟨x, HX⟩ : ∃ x, Hid (A (i + 1) = x) := ⟨_, (rfl : A (i + 1) = A (i + 1))⟩
      rw [HX.out] at halt hgy HF0
      go_upto_region 8 with (go_at_call 26; refine halt.mono ?_; rintro _ w4 ⟨q, rfl, hy4, hP4, hg4⟩)
      obtain ⟨m, HM⟩ : ∃ m, Hid (w4.heap.size = m) := ⟨_, (rfl : w4.heap.size = w4.heap.size)⟩
      obtain ⟨w5, HW5⟩ : ∃ w5, Hid (w4.alloc (.cells #[.int .i64 q.1, .int .u64 (q.2.1.1.toNat : Int), .int .u64 (q.2.1.2.1.toNat : Int), .int .u64 (q.2.1.2.2.1.toNat : Int), .int .u64 (q.2.1.2.2.2.toNat : Int), .slice q.2.2.1 q.2.2.2.1 q.2.2.2.2] 27) = w5) := ⟨_, (rfl : w4.alloc (.cells #[.int .i64 q.1, .int .u64 (q.2.1.1.toNat : Int), .int .u64 (q.2.1.2.1.toNat : Int), .int .u64 (q.2.1.2.2.1.toNat : Int), .int .u64 (q.2.1.2.2.2.toNat : Int), .slice q.2.2.1 q.2.2.2.1 q.2.2.2.2] 27) = w4.alloc (.cells #[.int .i64 q.1, .int .u64 (q.2.1.1.toNat : Int), .int .u64 (q.2.1.2.1.toNat : Int), .int .u64 (q.2.1.2.2.1.toNat : Int), .int .u64 (q.2.1.2.2.2.toNat : Int), .slice q.2.2.1 q.2.2.2.1 q.2.2.2.2] 27))⟩
      have hB5 : Below w4.heap.size w4 w5 := HW5.out ▸ (Below.refl _ w4).alloc (Nat.le_refl _) _
      have hm5 : w5.heap[m]? = some (.cells #[.int .i64 q.1, .int .u64 (q.2.1.1.toNat : Int), .int .u64 (q.2.1.2.1.toNat : Int), .int .u64 (q.2.1.2.2.1.toNat : Int), .int .u64 (q.2.1.2.2.2.toNat : Int), .slice q.2.2.1 q.2.2.2.1 q.2.2.2.2] 27) := by rw [← HW5.out, ← HM.out]; exact block_new w4 _
      have hP5 := hP4.next hB5
      have hmg : m ≠ g := by have := hP4.lt; rw [HM.out] at this; omega
      have hln := in_heap hC3
      have hs3 := HG3.out.size
      have hC5 := kept27 (kept27 hC3 hg4 hne) (grown_below hB5 (some g)) hne
      have HG5 : Hid (w.grownBy w5 (some g)) := grown_trans (grown_trans HG3.out hg4) (grown_below hB5 _)
      have HY5 : Hid (Ry w5 (fun b => w.heap.size ≤ b ∧ b ≠ n ∧ b < w5.heap.size) (v6 q) x.1) := hy4.move (fun b hb => ⟨by omega, by omega, Nat.lt_of_lt_of_le hb.2 hB5.size⟩) (fun b hb => hB5.block b hb.2)
      rw [HM.out, HW5.out]
      clear halt hy4 hg4 hP4 hB5 hC3 hP3
      obtain ⟨⟨_, c1, c2⟩, _, f1, f2⟩ := hP5.cells
      have hP6 : Ps g s x.2.1 (.int .i64 (kn : Int)) (w5.setCell ⟨g, 2, none⟩ (.int .i64 (kn : Int))) := hP5.set2 _
      have hC6 := kept27 hC5 (grown_set w5 ⟨g, 2, none⟩ (.int .i64 (kn : Int))) hne
      have hm6 := kept27 hm5 (grown_set w5 ⟨g, 2, none⟩ (.int .i64 (kn : Int))) hmg
      have HG6 : Hid (w.grownBy (w5.setCell ⟨g, 2, none⟩ (.int .i64 (kn : Int))) (some g)) := grown_trans HG5.out (grown_set _ _ _)
      have HY6 : Hid (Ry (w5.setCell ⟨g, 2, none⟩ (.int .i64 (kn : Int))) (fun b => w.heap.size ≤ b ∧ b ≠ n ∧ b < (w5.setCell ⟨g, 2, none⟩ (.int .i64 (kn : Int))).heap.size) (v6 q) x.1) := HY5.out.move (fun b hb => ⟨hb.1, hb.2.1, by simpa using hb.2.2⟩) (fun b hb => Below.heap_setCell _ _ _ _ (by show b ≠ g; omega))
      go_upto_region 9 with fail
      have hsub : (kn : Int) + 1 - 1 = (kn : Int) := by omega
      try rw [hsub]
      generalize w5.setCell ⟨g, 2, none⟩ (.int .i64 (kn : Int)) = w6 at *
      clear c1 c2 f1 f2 hP5 hC5 hm5 HG5 HY5 hsub
      by_cases he : x.2.2 = 0
      · have heb : ((x.2.2 : Int) == 0) = true := by simp [he]
        have hpass := pass_any g s x.2.1 (.int .i64 (kn : Int)) 41 w6 hP6 hgy.2.1 hs
        rw [show ((41 : Nat) : Int) = 41 from rfl] at hpass
        by_cases h41 : bt s x.2.1 = 41
        · have HF : Hid (rr = (x.1, x.2.1 + 1, 0)) := by show _ = _; rw [HF0.out, if_neg (by simp [he]), if_pos h41]
          rw [if_pos h41, decide_eq_true h41] at hpass
          have hx0 : (x.2.2 : Int) = 0 := by simp [he]
          clear h41 he
          go_upto_region 11 with (go_at_call 36; refine hpass.mono ?_; rintro _ w7 ⟨rfl, hP7, hg7⟩)
          have hC7 := kept27 hC6 hg7 hne
          have hm7 := kept27 hm6 hg7 hmg
          have HG7 : Hid (w.grownBy w7 (some g)) := grown_trans HG6.out hg7
          have HY7 : Hid (Ry w7 (fun b => w.heap.size ≤ b ∧ b ≠ n ∧ b < w7.heap.size) (v6 q) x.1) := HY6.out.move (fun b hb => ⟨hb.1, hb.2.1, Nat.lt_of_lt_of_le hb.2.2 hg7.size⟩) (fun b hb => hg7.block b hb.2.2 (fun e => by cases e; omega))
          clear hg7 hpass
          obtain ⟨⟨b0, b1, b2, b3, b4, b5⟩, d0, d1, d2, d3, d4, d5⟩ := block6 hm7
          obtain ⟨⟨z0, z1, z2, z3, z4, z5⟩, y0, y1, y2, y3, y4, y5⟩ := block6 hC7
          go_wp2_with fail
          refine bodyPost_ret (v := .tuple #[.agg #[.int .i64 q.1, .int .u64 (q.2.1.1.toNat : Int), .int .u64 (q.2.1.2.1.toNat : Int), .int .u64 (q.2.1.2.2.1.toNat : Int), .int .u64 (q.2.1.2.2.2.toNat : Int), .slice q.2.2.1 q.2.2.2.1 q.2.2.2.2], .int .i64 0]) (by simp [results, Try.results72, go_sem, z0, z1, z2, z3, z4, z5]) rfl ⟨q, by rw [HF.out]; rfl, ?_, ?_, ?_⟩
          · rw [HF.out]
            exact HY7.out.move (fun b hb => ⟨hb.1, by show b < (put6 _ n _ _ _ _ _ _).heap.size; rw [put6_size]; exact hb.2.2⟩) (fun b hb => put6_other _ n _ _ _ _ _ _ b hb.2.1)
          · rw [HF.out]; exact put6_ps hP7 n hne _ _ _ _ _ _
          · exact put6_grown HG7.out n hnw _ _ _ _ _ _
        · have HF : Hid (rr = (x.1, x.2.1, 6)) := by show _ = _; rw [HF0.out, if_neg (by simp [he]), if_neg h41]
          rw [if_neg h41, decide_eq_false h41] at hpass
          clear h41 he
          go_upto_region 11 with (go_at_call 36; refine hpass.mono ?_; rintro _ w7 ⟨rfl, hP7, hg7⟩)
          have hC7 := kept27 hC6 hg7 hne
          have hm7 := kept27 hm6 hg7 hmg
          have HG7 : Hid (w.grownBy w7 (some g)) := grown_trans HG6.out hg7
          have HY7 : Hid (Ry w7 (fun b => w.heap.size ≤ b ∧ b ≠ n ∧ b < w7.heap.size) (v6 q) x.1) := HY6.out.move (fun b hb => ⟨hb.1, hb.2.1, Nat.lt_of_lt_of_le hb.2.2 hg7.size⟩) (fun b hb => hg7.block b hb.2.2 (fun e => by cases e; omega))
          clear hg7 hpass
          obtain ⟨⟨b0, b1, b2, b3, b4, b5⟩, d0, d1, d2, d3, d4, d5⟩ := block6 hm7
          obtain ⟨⟨z0, z1, z2, z3, z4, z5⟩, y0, y1, y2, y3, y4, y5⟩ := block6 hC7
          go_wp2_with fail
          refine bodyPost_ret (v := .tuple #[.agg #[.int .i64 q.1, .int .u64 (q.2.1.1.toNat : Int), .int .u64 (q.2.1.2.1.toNat : Int), .int .u64 (q.2.1.2.2.1.toNat : Int), .int .u64 (q.2.1.2.2.2.toNat : Int), .slice q.2.2.1 q.2.2.2.1 q.2.2.2.2], .int .i64 6]) (by simp [results, Try.results72, go_sem, z0, z1, z2, z3, z4, z5]) rfl ⟨q, by rw [HF.out]; rfl, ?_, ?_, ?_⟩
          · rw [HF.out]
            exact HY7.out.move (fun b hb => ⟨hb.1, by show b < (put6 _ n _ _ _ _ _ _).heap.size; rw [put6_size]; exact hb.2.2⟩) (fun b hb => put6_other _ n _ _ _ _ _ _ b hb.2.1)
          · rw [HF.out]; exact put6_ps hP7 n hne _ _ _ _ _ _
          · exact put6_grown HG7.out n hnw _ _ _ _ _ _
      · have HF : Hid (rr = x) := by show _ = _; rw [HF0.out, if_pos he]
        have heb : ((x.2.2 : Int) == 0) = false := by simp; omega
        clear he
        go_upto_region 11 with fail
        obtain ⟨⟨b0, b1, b2, b3, b4, b5⟩, d0, d1, d2, d3, d4, d5⟩ := block6 hm6
        obtain ⟨⟨z0, z1, z2, z3, z4, z5⟩, y0, y1, y2, y3, y4, y5⟩ := block6 hC6
        go_wp2_with fail
        refine bodyPost_ret (v := .tuple #[.agg #[.int .i64 q.1, .int .u64 (q.2.1.1.toNat : Int), .int .u64 (q.2.1.2.1.toNat : Int), .int .u64 (q.2.1.2.2.1.toNat : Int), .int .u64 (q.2.1.2.2.2.toNat : Int), .slice q.2.2.1 q.2.2.2.1 q.2.2.2.2], .int .i64 (x.2.2 : Int)]) (by simp [results, Try.results72, go_sem, z0, z1, z2, z3, z4, z5]) rfl ⟨q, by rw [HF.out], ?_, ?_, ?_⟩
        · rw [HF.out]
          exact HY6.out.move (fun b hb => ⟨hb.1, by show b < (put6 _ n _ _ _ _ _ _).heap.size; rw [put6_size]; exact hb.2.2⟩) (fun b hb => put6_other _ n _ _ _ _ _ _ b hb.2.1)
        · rw [HF.out]; exact put6_ps hP6 n hne _ _ _ _ _ _
        · exact put6_grown HG6.out n hnw _ _ _ _ _ _
end Go.Proofs.Ythloedfiomfnbaa
