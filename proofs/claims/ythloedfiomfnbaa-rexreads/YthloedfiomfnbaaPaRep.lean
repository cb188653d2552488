/-
  The contract of rex.parser's rep.
-/
import Derived.Test.YthloedfiomfnbaaPaGoes
import Derived.Test.YthloedfiomfnbaaFree
namespace Go.Proofs.Ythloedfiomfnbaa
open Go.RowKit
open Cls Txt Rex

theorem repL_more (s : ByteArray) : ∀ n m r i, i ≤ s.size → s.size - i < n → s.size - i < m → repL s n r i = repL s m r i
  | 0, _, _, _, _, h, _ => by omega
  | _, 0, _, _, _, _, h => by omega
  | n + 1, m + 1, r, i, hi, h1, h2 => by
    unfold repL
    split
    · rename_i h
      have := bt_is h (by decide)
      exact repL_more s n m _ _ this (by omega) (by omega)
    · split
      · rename_i h
        have := bt_is h (by decide)
        exact repL_more s n m _ _ this (by omega) (by omega)
      · split
        · rename_i h
          have := bt_is h (by decide)
          exact repL_more s n m _ _ this (by omega) (by omega)
        · rfl
theorem put6_own (W : World) (m : Nat) (v0 v1 v2 v3 v4 v5 : Value) : W.grownBy (put6 W m v0 v1 v2 v3 v4 v5) (some m) :=
  grown_trans (grown_trans (grown_trans (grown_trans (grown_trans (grown_set W ⟨m, 0, none⟩ v0) (grown_set _ ⟨m, 1, none⟩ v1)) (grown_set _ ⟨m, 2, none⟩ v2)) (grown_set _ ⟨m, 3, none⟩ v3)) (grown_set _ ⟨m, 4, none⟩ v4)) (grown_set _ ⟨m, 5, none⟩ v5)
theorem LT.old {g : Nat} {s : ByteArray} {k : Value} {w : World} {n m : Nat} {x : Res} {q : R6} {wv W : World} (h : LT g s k w n m x q wv) (hg : wv.grownBy W (some m)) : Ry W (fun b => w.heap.size ≤ b ∧ b ≠ n ∧ b ≠ m ∧ b < W.heap.size) (v6 q) x.1 :=
  h.ry.move (fun b hb => ⟨hb.1, hb.2.1, hb.2.2.1, Nat.lt_of_lt_of_le hb.2.2.2 hg.size⟩) (fun b hb => hg.block b hb.2.2.2 (fun e => hb.2.2.1 (by cases e; rfl)))
theorem LT.turn {g : Nat} {s : ByteArray} {k : Value} {w : World} {n m : Nat} {x : Res} {q q' : R6} {wv W : World} {t : T} (h : LT g s k w n m x q wv) (hg : wv.grownBy W (some m)) (hlt : g < w.heap.size) (hmw : w.heap.size ≤ m) (hnm : n ≠ m) (hbm : W.heap[m]? = some (.cells #[.int .i64 q'.1, .int .u64 (q'.2.1.1.toNat : Int), .int .u64 (q'.2.1.2.1.toNat : Int), .int .u64 (q'.2.1.2.2.1.toNat : Int), .int .u64 (q'.2.1.2.2.2.toNat : Int), .slice q'.2.2.1 q'.2.2.2.1 q'.2.2.2.2] 27)) (hry : Ry W (fun b => w.heap.size ≤ b ∧ b ≠ n ∧ b ≠ m ∧ b < W.heap.size) (v6 q') t) : LT g s k w n m (t, x.2) q' W := by
  have hw := h.gr.size
  have hne : some g ≠ some m := fun e => by cases e; omega
  refine ⟨(hg.block g h.ps.lt hne).trans h.ps, ⟨hg.os.trans h.gr.os, hg.tape.trans h.gr.tape, hg.output.trans h.gr.output, Nat.le_trans hw hg.size, fun i hi hn => (hg.block i (by omega) (fun e => by cases e; omega)).trans (h.gr.block i hi hn)⟩, (hg.block n (in_heap h.bn) (fun e => hnm (by cases e; rfl))).trans h.bn, hbm, hry⟩

structure QR (wv : World) (m : Nat) (q : R6) (rb : Nat) (d : Nat → Bool) (x32 x33 x34 x35 : Value) (W : World) : Prop where
  f0 : d 0 = true → x32 = (.agg #[.int .i64 q.1, .int .u64 (q.2.1.1.toNat : Int), .int .u64 (q.2.1.2.1.toNat : Int), .int .u64 (q.2.1.2.2.1.toNat : Int), .int .u64 (q.2.1.2.2.2.toNat : Int), .slice q.2.2.1 q.2.2.2.1 q.2.2.2.2])
  f1 : d 1 = true → x33 = (.agg #[.int .i64 2, .int .u64 0, .int .u64 0, .int .u64 0, .int .u64 0, .slice none 0 0])
  f2 : d 2 = true → x34 = (.slice (some ⟨rb, 0, none⟩) 2 2)
  f3 : d 3 = true → x35 = (.agg #[.int .i64 5, .int .u64 0, .int .u64 0, .int .u64 0, .int .u64 0, .slice (some ⟨rb, 0, none⟩) 2 2])
  f4 : d 4 = true → True
  gr : wv.grownBy W (some m)
  bm0 : d 4 = false → W.heap[m]? = some (.cells #[.int .i64 q.1, .int .u64 (q.2.1.1.toNat : Int), .int .u64 (q.2.1.2.1.toNat : Int), .int .u64 (q.2.1.2.2.1.toNat : Int), .int .u64 (q.2.1.2.2.2.toNat : Int), .slice q.2.2.1 q.2.2.2.1 q.2.2.2.2] 27)
  bm1 : d 4 = true → W.heap[m]? = some (.cells #[.int .i64 5, .int .u64 0, .int .u64 0, .int .u64 0, .int .u64 0, .slice (some ⟨rb, 0, none⟩) 2 2] 27)
  rowrb : d 2 = true → W.heap[rb]? = some (.cells #[.int .i64 q.1, .int .u64 (q.2.1.1.toNat : Int), .int .u64 (q.2.1.2.1.toNat : Int), .int .u64 (q.2.1.2.2.1.toNat : Int), .int .u64 (q.2.1.2.2.2.toNat : Int), .slice q.2.2.1 q.2.2.2.1 q.2.2.2.2, .int .i64 2, .int .u64 0, .int .u64 0, .int .u64 0, .int .u64 0, .slice none 0 0] 27) ∧ wv.heap.size ≤ rb ∧ rb ≠ m
  c4_3 : d 4 = true → d 3 = true
  c3_2 : d 3 = true → d 2 = true
  c2_0 : d 2 = true → d 0 = true
structure PR (wv : World) (m : Nat) (q : R6) (ra : Nat) (rb : Nat) (d : Nat → Bool) (x23 x24 x25 x26 x27 x28 : Value) (W : World) : Prop where
  f0 : d 0 = true → x23 = (.agg #[.int .i64 q.1, .int .u64 (q.2.1.1.toNat : Int), .int .u64 (q.2.1.2.1.toNat : Int), .int .u64 (q.2.1.2.2.1.toNat : Int), .int .u64 (q.2.1.2.2.2.toNat : Int), .slice q.2.2.1 q.2.2.2.1 q.2.2.2.2])
  f1 : d 1 = true → x24 = (.agg #[.int .i64 q.1, .int .u64 (q.2.1.1.toNat : Int), .int .u64 (q.2.1.2.1.toNat : Int), .int .u64 (q.2.1.2.2.1.toNat : Int), .int .u64 (q.2.1.2.2.2.toNat : Int), .slice q.2.2.1 q.2.2.2.1 q.2.2.2.2])
  f2 : d 2 = true → x25 = (.slice (some ⟨ra, 0, none⟩) 1 1)
  f3 : d 3 = true → x26 = (.agg #[.int .i64 6, .int .u64 0, .int .u64 0, .int .u64 0, .int .u64 0, .slice (some ⟨ra, 0, none⟩) 1 1])
  f4 : d 4 = true → x27 = (.slice (some ⟨rb, 0, none⟩) 2 2)
  f5 : d 5 = true → x28 = (.agg #[.int .i64 4, .int .u64 0, .int .u64 0, .int .u64 0, .int .u64 0, .slice (some ⟨rb, 0, none⟩) 2 2])
  f6 : d 6 = true → True
  gr : wv.grownBy W (some m)
  bm0 : d 6 = false → W.heap[m]? = some (.cells #[.int .i64 q.1, .int .u64 (q.2.1.1.toNat : Int), .int .u64 (q.2.1.2.1.toNat : Int), .int .u64 (q.2.1.2.2.1.toNat : Int), .int .u64 (q.2.1.2.2.2.toNat : Int), .slice q.2.2.1 q.2.2.2.1 q.2.2.2.2] 27)
  bm1 : d 6 = true → W.heap[m]? = some (.cells #[.int .i64 4, .int .u64 0, .int .u64 0, .int .u64 0, .int .u64 0, .slice (some ⟨rb, 0, none⟩) 2 2] 27)
  rowra : d 2 = true → W.heap[ra]? = some (.cells #[.int .i64 q.1, .int .u64 (q.2.1.1.toNat : Int), .int .u64 (q.2.1.2.1.toNat : Int), .int .u64 (q.2.1.2.2.1.toNat : Int), .int .u64 (q.2.1.2.2.2.toNat : Int), .slice q.2.2.1 q.2.2.2.1 q.2.2.2.2] 27) ∧ wv.heap.size ≤ ra ∧ ra ≠ m
  rowrb : d 4 = true → W.heap[rb]? = some (.cells #[.int .i64 q.1, .int .u64 (q.2.1.1.toNat : Int), .int .u64 (q.2.1.2.1.toNat : Int), .int .u64 (q.2.1.2.2.1.toNat : Int), .int .u64 (q.2.1.2.2.2.toNat : Int), .slice q.2.2.1 q.2.2.2.1 q.2.2.2.2, .int .i64 6, .int .u64 0, .int .u64 0, .int .u64 0, .int .u64 0, .slice (some ⟨ra, 0, none⟩) 1 1] 27) ∧ wv.heap.size ≤ rb ∧ rb ≠ m
  c6_5 : d 6 = true → d 5 = true
  c5_4 : d 5 = true → d 4 = true
  c4_0 : d 4 = true → d 0 = true
  c4_3 : d 4 = true → d 3 = true
  c3_2 : d 3 = true → d 2 = true
  c2_1 : d 2 = true → d 1 = true
set_option maxHeartbeats 4000000 in
set_option maxRecDepth 20000 in
theorem rep_any (s : ByteArray) (hs : s.size ≤ 300) (k : Value) (A : Nat → Res) (hG : Goes s A) (hC : PC 67 s k A) : PC 52 s k (repR s A) := by
  intro g i w hP hi
  have hlt := hP.lt
  have hne : w.heap.size ≠ g := by omega
  obtain ⟨n, HN⟩ : ∃ n, Hid (w.heap.size = n) := ⟨_, (rfl : w.heap.size = w.heap.size)⟩
  obtain ⟨W0, HW⟩ : ∃ W0, Hid (w.alloc (.cells #[.int .i64 0, .int .u64 0, .int .u64 0, .int .u64 0, .int .u64 0, .slice none 0 0] 27) = W0) := ⟨_, (rfl : w.alloc (.cells #[.int .i64 0, .int .u64 0, .int .u64 0, .int .u64 0, .int .u64 0, .slice none 0 0] 27) = w.alloc (.cells #[.int .i64 0, .int .u64 0, .int .u64 0, .int .u64 0, .int .u64 0, .slice none 0 0] 27))⟩
  have hB0 : Below w.heap.size w W0 := HW.out ▸ (Below.refl _ w).alloc (Nat.le_refl _) _
  have hP0 : Ps g s i k W0 := hP.next hB0
  have hG0 : w.grownBy W0 (some g) := grown_below hB0 _
  have hC0 : W0.heap[n]? = some (.cells #[.int .i64 0, .int .u64 0, .int .u64 0, .int .u64 0, .int .u64 0, .slice none 0 0] 27) := by rw [← HW.out, ← HN.out]; exact block_new w _
  have hnw : w.heap.size ≤ n := by rw [HN.out]; exact Nat.le_refl _
  rw [HN.out] at hne
  have hfirst := hC g i W0 hP0 hi
  have hgi := hG i hi
  obtain ⟨x0, HX0⟩ : ∃ x0, Hid (A i = x0) := ⟨_, (rfl : A i = A i)⟩
  rw [HX0.out] at hfirst hgi
  have HFN : Hid (repR s A i = if x0.2.2 ≠ 0 then x0 else repL s (s.size + 1) x0.1 x0.2.1) := by show _ = _; unfold repR; rw [HX0.out]
  obtain ⟨rr, HRR⟩ : ∃ rr, Hid (repR s A i = rr) := ⟨_, (rfl : repR s A i = repR s A i)⟩
  rw [HRR.out] at HFN ⊢
  obtain ⟨t0, j0, e⟩ := x0
  simp only at hgi hfirst
  clear hP hB0 hG hC
  go_enter Try.func52, Try.ntmps52
  go_upto_region 1 with fail
  rw [HN.out, HW.out]
  go_upto_region 2 with (go_at_call 67; refine hfirst.mono ?_; rintro _ w1 ⟨q0, rfl, hy1, hp1, hg1⟩)
  obtain ⟨m, HM⟩ : ∃ m, Hid (w1.heap.size = m) := ⟨_, (rfl : w1.heap.size = w1.heap.size)⟩
  obtain ⟨W2, HW2⟩ : ∃ W2, Hid (w1.alloc (.cells #[.int .i64 q0.1, .int .u64 (q0.2.1.1.toNat : Int), .int .u64 (q0.2.1.2.1.toNat : Int), .int .u64 (q0.2.1.2.2.1.toNat : Int), .int .u64 (q0.2.1.2.2.2.toNat : Int), .slice q0.2.2.1 q0.2.2.2.1 q0.2.2.2.2] 27) = W2) := ⟨_, (rfl : w1.alloc (.cells #[.int .i64 q0.1, .int .u64 (q0.2.1.1.toNat : Int), .int .u64 (q0.2.1.2.1.toNat : Int), .int .u64 (q0.2.1.2.2.1.toNat : Int), .int .u64 (q0.2.1.2.2.2.toNat : Int), .slice q0.2.2.1 q0.2.2.2.1 q0.2.2.2.2] 27) = w1.alloc (.cells #[.int .i64 q0.1, .int .u64 (q0.2.1.1.toNat : Int), .int .u64 (q0.2.1.2.1.toNat : Int), .int .u64 (q0.2.1.2.2.1.toNat : Int), .int .u64 (q0.2.1.2.2.2.toNat : Int), .slice q0.2.2.1 q0.2.2.2.1 q0.2.2.2.2] 27))⟩
  have hB2 : Below w1.heap.size w1 W2 := HW2.out ▸ (Below.refl _ w1).alloc (Nat.le_refl _) _
  have hn0 := in_heap hC0
  have hs1 := hg1.size
  have hbn1 := kept27 hC0 hg1 hne
  have hgl := hp1.lt
  have hw0 := hG0.size
  have hnm : n ≠ m := by have := in_heap hbn1; rw [HM.out] at this; omega
  have hmg : m ≠ g := by rw [HM.out] at hgl; omega
  have hmw : w.heap.size ≤ m := by rw [HM.out] at hs1; omega
  have HL : Hid (LT g s k w n m (t0, j0, e) q0 W2) := by
    refine ⟨hp1.next hB2, grown_trans (grown_trans hG0 hg1) (grown_below hB2 _), kept27 hbn1 (grown_below hB2 (some g)) hne, (by rw [← HW2.out, ← HM.out]; exact block_new w1 _), ?_⟩
    refine hy1.move (fun b hb => ⟨by omega, by omega, by rw [HM.out] at hb; omega, Nat.lt_of_lt_of_le hb.2 hB2.size⟩) (fun b hb => hB2.block b hb.2)
  rw [HM.out, HW2.out]
  clear hB2 hg1 hp1 hy1 hC0 hG0 hP0 hfirst hn0 hs1 hbn1 hgl hw0
  go_loopw [] (fun wr => ∃ (t : T) (j : Nat) (q : R6), j ≤ s.size ∧ Hid (LT g s k w n m (t, j, e) q wr ∧ rr = if e ≠ 0 then (t, j, e) else repL s (s.size + 1) t j)) (fun wr => s.size - posOf g wr)
  case atStart => exact ⟨t0, j0, q0, hgi.2.1, HL.out, HFN.out⟩
  case round =>
    clear HL HFN hgi HRR
    obtain ⟨t, j, q, hj, HL⟩ := hrel
    by_cases he : e = 0
    · have HE : Hid (e = 0) := he
      have heb : ((e : Int) == 0) = true := by simp [he]
      have HPOS : Hid (posOf g wr = j) := HL.out.1.ps.pos
      have hrr : rr = repL s (s.size + 1) t j := by rw [HL.out.2, if_neg (by simp [he])]
      unfold repL at hrr
      clear he
      have hp42 := pass_any g s j k 42 wr HL.out.1.ps hj hs
      rw [show ((42 : Nat) : Int) = 42 from rfl] at hp42
      by_cases h42 : bt s j = 42
      · rw [if_pos h42] at hrr
        have HF : Hid (rr = repL s s.size (.mk 6 empty [t]) (j + 1)) := hrr
        rw [if_pos h42, decide_eq_true h42] at hp42
        have hj1 : j + 1 ≤ s.size := bt_is h42 (by decide)
        clear hrr h42
        go_upto_region 5 with (go_at_call 36; refine hp42.mono ?_; rintro _ wa ⟨rfl, hpa, hga⟩)
        have HA : Hid (LT g s k w n m (t, j + 1, e) q wa) := HL.out.1.kept hpa hga hlt hnw hmw
        have hbm := HA.out.bm
        obtain ⟨⟨b0, b1, b2, b3, b4, b5⟩, d0, d1, d2, d3, d4, d5⟩ := block6 hbm
        clear hpa hga hp42 HL
        go_wp2_with fail
        obtain ⟨we, HWE⟩ : ∃ we, Hid (wa.alloc (.cells #[.int .i64 q.1, .int .u64 (q.2.1.1.toNat : Int), .int .u64 (q.2.1.2.1.toNat : Int), .int .u64 (q.2.1.2.2.1.toNat : Int), .int .u64 (q.2.1.2.2.2.toNat : Int), .slice q.2.2.1 q.2.2.2.1 q.2.2.2.2] 27) = we) := ⟨_, (rfl : wa.alloc (.cells #[.int .i64 q.1, .int .u64 (q.2.1.1.toNat : Int), .int .u64 (q.2.1.2.1.toNat : Int), .int .u64 (q.2.1.2.2.1.toNat : Int), .int .u64 (q.2.1.2.2.2.toNat : Int), .slice q.2.2.1 q.2.2.2.1 q.2.2.2.2] 27) = wa.alloc (.cells #[.int .i64 q.1, .int .u64 (q.2.1.1.toNat : Int), .int .u64 (q.2.1.2.1.toNat : Int), .int .u64 (q.2.1.2.2.1.toNat : Int), .int .u64 (q.2.1.2.2.2.toNat : Int), .slice q.2.2.1 q.2.2.2.1 q.2.2.2.2] 27))⟩
        rw [HWE.out]
        refine (node_any 6 (some ⟨wa.heap.size, 0, none⟩) 1 1 _).mono ?_
        rintro _ wf ⟨rfl, hbf⟩
        have hBe : Below wa.heap.size wa we := HWE.out ▸ (Below.refl _ wa).alloc (Nat.le_refl _) _
        have se : wa.heap.size < we.heap.size := by rw [← HWE.out]; simp
        have hlm := in_heap hbm
        have hbmf : wf.heap[m]? = some (.cells #[.int .i64 q.1, .int .u64 (q.2.1.1.toNat : Int), .int .u64 (q.2.1.2.1.toNat : Int), .int .u64 (q.2.1.2.2.1.toNat : Int), .int .u64 (q.2.1.2.2.2.toNat : Int), .slice q.2.2.1 q.2.2.2.1 q.2.2.2.2] 27) := (hbf.block m (by omega)).trans ((hBe.block m hlm).trans hbm)
        have hrow : wf.heap[wa.heap.size]? = some (.cells #[.int .i64 q.1, .int .u64 (q.2.1.1.toNat : Int), .int .u64 (q.2.1.2.1.toNat : Int), .int .u64 (q.2.1.2.2.1.toNat : Int), .int .u64 (q.2.1.2.2.2.toNat : Int), .slice q.2.2.1 q.2.2.2.1 q.2.2.2.2] 27) := by rw [hbf.block _ se, ← HWE.out]; exact block_new wa _
        have hgf : wa.grownBy wf (some m) := grown_trans (grown_below hBe _) (grown_below hbf _)
        have hgall := grown_trans hgf (put6_own wf m (.int .i64 6) (.int .u64 0) (.int .u64 0) (.int .u64 0) (.int .u64 0) (.slice (some ⟨wa.heap.size, 0, none⟩) 1 1))
        have hsz := hbf.size
        have hln := in_heap HA.out.bn
        have hww := HA.out.gr.size
        have HST : Hid (LT g s k w n m (.mk 6 empty [t], j + 1, e) (6, empty, some ⟨wa.heap.size, 0, none⟩, 1, 1) (put6 wf m (.int .i64 6) (.int .u64 0) (.int .u64 0) (.int .u64 0) (.int .u64 0) (.slice (some ⟨wa.heap.size, 0, none⟩) 1 1))) :=
          HA.out.turn hgall hlt hmw hnm (put6_at hbmf _ _ _ _ _ _) (Ry.one 6 (by omega) ((put6_other wf m _ _ _ _ _ _ _ (by omega)).trans hrow) ⟨by omega, by omega, by omega, by rw [put6_size]; omega⟩ (HA.out.old hgall))
        clear hbf hBe hgf hgall hrow b0 b1 b2 b3 b4 b5 d0 d1 d2 d3 d4 d5
        obtain ⟨⟨b0, b1, b2, b3, b4, b5⟩, d0, d1, d2, d3, d4, d5⟩ := block6 hbmf
        go_wp2_with fail
        refine ⟨⟨.mk 6 empty [t], j + 1, (6, empty, some ⟨wa.heap.size, 0, none⟩, 1, 1), hj1, HST.out, ?_⟩, ?_⟩
        · rw [if_neg (by simp [HE.out]), HF.out]
          exact repL_more s s.size (s.size + 1) _ _ hj1 (by omega) (by omega)
        · refine Nat.lt_of_le_of_lt (Nat.le_of_eq (congrArg (s.size - ·) (LT.ps HST.out).pos)) ?_
          rw [HPOS.out]; simp only; omega
      rw [if_neg h42] at hrr
      rw [if_neg h42, decide_eq_false h42] at hp42
      go_upto_region 6 with (go_at_call 36; refine hp42.mono ?_; rintro _ wa ⟨rfl, hpa, hga⟩)
      have HA : Hid (LT g s k w n m (t, j, e) q wa) := HL.out.1.kept hpa hga hlt hnw hmw
      have hp43 := pass_any g s j k 43 wa hpa hj hs
      rw [show ((43 : Nat) : Int) = 43 from rfl] at hp43
      clear hpa hga hp42 HL
      by_cases h43 : bt s j = 43
      · rw [if_pos h43] at hrr
        have HF : Hid (rr = repL s s.size (.mk 4 empty [t, .mk 6 empty [t]]) (j + 1)) := hrr
        rw [if_pos h43, decide_eq_true h43] at hp43
        have hj1 : j + 1 ≤ s.size := bt_is h43 (by decide)
        clear hrr h42 h43
        go_upto_region 7 with (go_at_call 36; refine hp43.mono ?_; rintro _ wc ⟨rfl, hpc, hgc⟩)
        have HD : Hid (LT g s k w n m (t, j + 1, e) q wc) := HA.out.kept hpc hgc hlt hnw hmw
        have hbmv := HD.out.bm
        clear hpc hgc hp43 HA
        refine wp_region_free mixed (fun a0 d a W => ∃ (ra : Nat) (rb : Nat) (x23 x24 x25 x26 x27 x28 : Value), a = ((((((a0.put (some 23) x23).put (some 24) x24).put (some 25) x25).put (some 26) x26).put (some 27) x27).put (some 28) x28) ∧ Hid (PR wc m q ra rb d x23 x24 x25 x26 x27 x28 W)) (by kernel_rfl) ⟨0, 0, u23, u24, u25, u26, u27, u28, by simp only [Act.put, List.setIfInBounds_toArray, List.set_cons_zero, List.set_cons_succ], ?_⟩ ?_ ?_
        · exact ⟨fun h => no_way h, fun h => no_way h, fun h => no_way h, fun h => no_way h, fun h => no_way h, fun h => no_way h, fun _ => trivial, grown_below (Below.refl _ _).drew _, fun _ => hbmv, fun h => no_way h, fun h => no_way h, fun h => no_way h, fun h => no_way h, fun h => no_way h, fun h => no_way h, fun h => no_way h, fun h => no_way h, fun h => no_way h⟩
        · simp only [StepAll, and_true]
          refine ⟨?_, ?_, ?_, ?_, ?_, ?_, ?_⟩
          · intro d a W hI hd hdep
            obtain ⟨ra, rb, x23, x24, x25, x26, x27, x28, rfl, hF⟩ := hI
            have h6 : d 6 = false := by
              cases e6 : d 6 with
              | false => rfl
              | true => rw [(hF.out.c4_0 (hF.out.c5_4 (hF.out.c6_5 e6)))] at hd; cases hd
            obtain ⟨⟨s0, s1, s2, s3, s4, s5⟩, -⟩ := block6 (hF.out.bm0 h6)
            clear hdep hd
            intro K hK
            simp only [Act.put, List.setIfInBounds_toArray, List.set_cons_zero, List.set_cons_succ]
            go_simp
            refine hK.out _ _ ⟨ra, rb, (.agg #[.int .i64 q.1, .int .u64 (q.2.1.1.toNat : Int), .int .u64 (q.2.1.2.1.toNat : Int), .int .u64 (q.2.1.2.2.1.toNat : Int), .int .u64 (q.2.1.2.2.2.toNat : Int), .slice q.2.2.1 q.2.2.2.1 q.2.2.2.2]), x24, x25, x26, x27, x28, by simp only [Act.put, List.setIfInBounds_toArray, List.set_cons_zero, List.set_cons_succ], ?_⟩
            exact ⟨fun _ => rfl, fun h => hF.out.f1 (by simpa using h), fun h => hF.out.f2 (by simpa using h), fun h => hF.out.f3 (by simpa using h), fun h => hF.out.f4 (by simpa using h), fun h => hF.out.f5 (by simpa using h), fun h => hF.out.f6 (by simpa using h), hF.out.gr, fun h => hF.out.bm0 (by simpa using h), fun h => hF.out.bm1 (by simpa using h), fun h => hF.out.rowra (by simpa using h), fun h => hF.out.rowrb (by simpa using h), fun h => by simpa using hF.out.c6_5 (by simpa using h), fun h => by simpa using hF.out.c5_4 (by simpa using h), fun _ => by simp, fun h => by simpa using hF.out.c4_3 (by simpa using h), fun h => by simpa using hF.out.c3_2 (by simpa using h), fun h => by simpa using hF.out.c2_1 (by simpa using h)⟩
          · intro d a W hI hd hdep
            obtain ⟨ra, rb, x23, x24, x25, x26, x27, x28, rfl, hF⟩ := hI
            have h6 : d 6 = false := by
              cases e6 : d 6 with
              | false => rfl
              | true => rw [(hF.out.c2_1 (hF.out.c3_2 (hF.out.c4_3 (hF.out.c5_4 (hF.out.c6_5 e6)))))] at hd; cases hd
            obtain ⟨⟨s0, s1, s2, s3, s4, s5⟩, -⟩ := block6 (hF.out.bm0 h6)
            clear hdep hd
            intro K hK
            simp only [Act.put, List.setIfInBounds_toArray, List.set_cons_zero, List.set_cons_succ]
            go_simp
            refine hK.out _ _ ⟨ra, rb, x23, (.agg #[.int .i64 q.1, .int .u64 (q.2.1.1.toNat : Int), .int .u64 (q.2.1.2.1.toNat : Int), .int .u64 (q.2.1.2.2.1.toNat : Int), .int .u64 (q.2.1.2.2.2.toNat : Int), .slice q.2.2.1 q.2.2.2.1 q.2.2.2.2]), x25, x26, x27, x28, by simp only [Act.put, List.setIfInBounds_toArray, List.set_cons_zero, List.set_cons_succ], ?_⟩
            exact ⟨fun h => hF.out.f0 (by simpa using h), fun _ => rfl, fun h => hF.out.f2 (by simpa using h), fun h => hF.out.f3 (by simpa using h), fun h => hF.out.f4 (by simpa using h), fun h => hF.out.f5 (by simpa using h), fun h => hF.out.f6 (by simpa using h), hF.out.gr, fun h => hF.out.bm0 (by simpa using h), fun h => hF.out.bm1 (by simpa using h), fun h => hF.out.rowra (by simpa using h), fun h => hF.out.rowrb (by simpa using h), fun h => by simpa using hF.out.c6_5 (by simpa using h), fun h => by simpa using hF.out.c5_4 (by simpa using h), fun h => by simpa using hF.out.c4_0 (by simpa using h), fun h => by simpa using hF.out.c4_3 (by simpa using h), fun h => by simpa using hF.out.c3_2 (by simpa using h), fun _ => by simp⟩
          · intro d a W hI hd hdep
            obtain ⟨ra, rb, x23, x24, x25, x26, x27, x28, rfl, hF⟩ := hI
            have hd1 : d 1 = true := dep_of hdep 1 (by kernel_rfl)
            obtain rfl := hF.out.f1 hd1
            have h6 : d 6 = false := by
              cases e6 : d 6 with
              | false => rfl
              | true => rw [(hF.out.c3_2 (hF.out.c4_3 (hF.out.c5_4 (hF.out.c6_5 e6))))] at hd; cases hd
            have h4 : d 4 = false := by
              cases e6 : d 4 with
              | false => rfl
              | true => rw [(hF.out.c3_2 (hF.out.c4_3 e6))] at hd; cases hd
            have hmlt := in_heap (hF.out.bm0 h6)
            have k1 := hd1
            have hdn := hd
            clear hdep hd hd1
            intro K hK
            simp only [Act.put, List.setIfInBounds_toArray, List.set_cons_zero, List.set_cons_succ]
            go_simp
            refine hK.out _ _ ⟨W.heap.size, rb, x23, (.agg #[.int .i64 q.1, .int .u64 (q.2.1.1.toNat : Int), .int .u64 (q.2.1.2.1.toNat : Int), .int .u64 (q.2.1.2.2.1.toNat : Int), .int .u64 (q.2.1.2.2.2.toNat : Int), .slice q.2.2.1 q.2.2.2.1 q.2.2.2.2]), (.slice (some ⟨W.heap.size, 0, none⟩) 1 1), x26, x27, x28, by simp only [Act.put, List.setIfInBounds_toArray, List.set_cons_zero, List.set_cons_succ], ?_⟩
            exact ⟨fun h => hF.out.f0 (by simpa using h), fun h => hF.out.f1 (by simpa using h), fun _ => rfl, fun h => absurd (hF.out.c3_2 (by simpa using h)) (by rw [hdn]; simp), fun h => hF.out.f4 (by simpa using h), fun h => hF.out.f5 (by simpa using h), fun h => hF.out.f6 (by simpa using h), grown_trans hF.out.gr (grown_below ((Below.refl _ _).alloc (Nat.le_refl _) _) _), fun h => blk_next ((Below.refl _ _).alloc (Nat.le_refl _) _) (hF.out.bm0 (by simpa using h)), fun h => absurd (by simpa using h) (by rw [h6]; simp), fun _ => ⟨block_new W _, hF.out.gr.size, by omega⟩, fun h => absurd (by simpa using h) (by rw [h4]; simp), fun h => by simpa using hF.out.c6_5 (by simpa using h), fun h => by simpa using hF.out.c5_4 (by simpa using h), fun h => by simpa using hF.out.c4_0 (by simpa using h), fun h => by simpa using hF.out.c4_3 (by simpa using h), fun _ => by simp, fun _ => by simpa using k1⟩
          · intro d a W hI hd hdep
            obtain ⟨ra, rb, x23, x24, x25, x26, x27, x28, rfl, hF⟩ := hI
            have hd2 : d 2 = true := dep_of hdep 2 (by kernel_rfl)
            obtain rfl := hF.out.f2 hd2
            have hcl := node_any 6 (some ⟨ra, 0, none⟩) 1 1 W
            have k2 := hd2
            clear hdep hd hd2
            intro K hK
            simp only [Act.put, List.setIfInBounds_toArray, List.set_cons_zero, List.set_cons_succ]
            go_simp
            refine hcl.mono ?_
            rintro _ W1 ⟨rfl, hb1⟩
            go_simp
            refine hK.out _ _ ⟨ra, rb, x23, x24, (.slice (some ⟨ra, 0, none⟩) 1 1), (.agg #[.int .i64 6, .int .u64 0, .int .u64 0, .int .u64 0, .int .u64 0, .slice (some ⟨ra, 0, none⟩) 1 1]), x27, x28, by simp only [Act.put, List.setIfInBounds_toArray, List.set_cons_zero, List.set_cons_succ], ?_⟩
            exact ⟨fun h => hF.out.f0 (by simpa using h), fun h => hF.out.f1 (by simpa using h), fun h => hF.out.f2 (by simpa using h), fun _ => rfl, fun h => hF.out.f4 (by simpa using h), fun h => hF.out.f5 (by simpa using h), fun h => hF.out.f6 (by simpa using h), grown_trans hF.out.gr (grown_below hb1 _), fun h => blk_next hb1 (hF.out.bm0 (by simpa using h)), fun h => blk_next hb1 (hF.out.bm1 (by simpa using h)), fun h => ⟨blk_next hb1 (hF.out.rowra (by simpa using h)).1, (hF.out.rowra (by simpa using h)).2⟩, fun h => ⟨blk_next hb1 (hF.out.rowrb (by simpa using h)).1, (hF.out.rowrb (by simpa using h)).2⟩, fun h => by simpa using hF.out.c6_5 (by simpa using h), fun h => by simpa using hF.out.c5_4 (by simpa using h), fun h => by simpa using hF.out.c4_0 (by simpa using h), fun _ => by simp, fun _ => by simpa using k2, fun h => by simpa using hF.out.c2_1 (by simpa using h)⟩
          · intro d a W hI hd hdep
            obtain ⟨ra, rb, x23, x24, x25, x26, x27, x28, rfl, hF⟩ := hI
            have hd0 : d 0 = true := dep_of hdep 0 (by kernel_rfl)
            have hd3 : d 3 = true := dep_of hdep 3 (by kernel_rfl)
            obtain rfl := hF.out.f0 hd0
            obtain rfl := hF.out.f3 hd3
            have h6 : d 6 = false := by
              cases e6 : d 6 with
              | false => rfl
              | true => rw [(hF.out.c5_4 (hF.out.c6_5 e6))] at hd; cases hd
            have hmlt := in_heap (hF.out.bm0 h6)
            have k0 := hd0
            have k3 := hd3
            have hdn := hd
            clear hdep hd hd0 hd3
            intro K hK
            simp only [Act.put, List.setIfInBounds_toArray, List.set_cons_zero, List.set_cons_succ]
            go_simp
            refine hK.out _ _ ⟨ra, W.heap.size, (.agg #[.int .i64 q.1, .int .u64 (q.2.1.1.toNat : Int), .int .u64 (q.2.1.2.1.toNat : Int), .int .u64 (q.2.1.2.2.1.toNat : Int), .int .u64 (q.2.1.2.2.2.toNat : Int), .slice q.2.2.1 q.2.2.2.1 q.2.2.2.2]), x24, x25, (.agg #[.int .i64 6, .int .u64 0, .int .u64 0, .int .u64 0, .int .u64 0, .slice (some ⟨ra, 0, none⟩) 1 1]), (.slice (some ⟨W.heap.size, 0, none⟩) 2 2), x28, by simp only [Act.put, List.setIfInBounds_toArray, List.set_cons_zero, List.set_cons_succ], ?_⟩
            exact ⟨fun h => hF.out.f0 (by simpa using h), fun h => hF.out.f1 (by simpa using h), fun h => hF.out.f2 (by simpa using h), fun h => hF.out.f3 (by simpa using h), fun _ => rfl, fun h => absurd (hF.out.c5_4 (by simpa using h)) (by rw [hdn]; simp), fun h => hF.out.f6 (by simpa using h), grown_trans hF.out.gr (grown_below ((Below.refl _ _).alloc (Nat.le_refl _) _) _), fun h => blk_next ((Below.refl _ _).alloc (Nat.le_refl _) _) (hF.out.bm0 (by simpa using h)), fun h => absurd (by simpa using h) (by rw [h6]; simp), fun h => ⟨blk_next ((Below.refl _ _).alloc (Nat.le_refl _) _) (hF.out.rowra (by simpa using h)).1, (hF.out.rowra (by simpa using h)).2⟩, fun _ => ⟨block_new W _, hF.out.gr.size, by omega⟩, fun h => by simpa using hF.out.c6_5 (by simpa using h), fun _ => by simp, fun _ => by simpa using k0, fun _ => by simpa using k3, fun h => by simpa using hF.out.c3_2 (by simpa using h), fun h => by simpa using hF.out.c2_1 (by simpa using h)⟩
          · intro d a W hI hd hdep
            obtain ⟨ra, rb, x23, x24, x25, x26, x27, x28, rfl, hF⟩ := hI
            have hd4 : d 4 = true := dep_of hdep 4 (by kernel_rfl)
            obtain rfl := hF.out.f4 hd4
            have hcl := node_any 4 (some ⟨rb, 0, none⟩) 2 2 W
            have k4 := hd4
            clear hdep hd hd4
            intro K hK
            simp only [Act.put, List.setIfInBounds_toArray, List.set_cons_zero, List.set_cons_succ]
            go_simp
            refine hcl.mono ?_
            rintro _ W1 ⟨rfl, hb1⟩
            go_simp
            refine hK.out _ _ ⟨ra, rb, x23, x24, x25, x26, (.slice (some ⟨rb, 0, none⟩) 2 2), (.agg #[.int .i64 4, .int .u64 0, .int .u64 0, .int .u64 0, .int .u64 0, .slice (some ⟨rb, 0, none⟩) 2 2]), by simp only [Act.put, List.setIfInBounds_toArray, List.set_cons_zero, List.set_cons_succ], ?_⟩
            exact ⟨fun h => hF.out.f0 (by simpa using h), fun h => hF.out.f1 (by simpa using h), fun h => hF.out.f2 (by simpa using h), fun h => hF.out.f3 (by simpa using h), fun h => hF.out.f4 (by simpa using h), fun _ => rfl, fun h => hF.out.f6 (by simpa using h), grown_trans hF.out.gr (grown_below hb1 _), fun h => blk_next hb1 (hF.out.bm0 (by simpa using h)), fun h => blk_next hb1 (hF.out.bm1 (by simpa using h)), fun h => ⟨blk_next hb1 (hF.out.rowra (by simpa using h)).1, (hF.out.rowra (by simpa using h)).2⟩, fun h => ⟨blk_next hb1 (hF.out.rowrb (by simpa using h)).1, (hF.out.rowrb (by simpa using h)).2⟩, fun _ => by simp, fun _ => by simpa using k4, fun h => by simpa using hF.out.c4_0 (by simpa using h), fun h => by simpa using hF.out.c4_3 (by simpa using h), fun h => by simpa using hF.out.c3_2 (by simpa using h), fun h => by simpa using hF.out.c2_1 (by simpa using h)⟩
          · intro d a W hI hd hdep
            obtain ⟨ra, rb, x23, x24, x25, x26, x27, x28, rfl, hF⟩ := hI
            have hd5 : d 5 = true := dep_of hdep 5 (by kernel_rfl)
            obtain rfl := hF.out.f5 hd5
            have hbm6 := hF.out.bm0 hd
            obtain ⟨⟨s0, s1, s2, s3, s4, s5⟩, u0, u1, u2, u3, u4, u5⟩ := block6 hbm6
            have k5 := hd5
            clear hdep hd hd5
            intro K hK
            simp only [Act.put, List.setIfInBounds_toArray, List.set_cons_zero, List.set_cons_succ]
            go_simp
            refine hK.out _ _ ⟨ra, rb, x23, x24, x25, x26, x27, (.agg #[.int .i64 4, .int .u64 0, .int .u64 0, .int .u64 0, .int .u64 0, .slice (some ⟨rb, 0, none⟩) 2 2]), by simp only [Act.put, List.setIfInBounds_toArray, List.set_cons_zero, List.set_cons_succ], ?_⟩
            exact ⟨fun h => hF.out.f0 (by simpa using h), fun h => hF.out.f1 (by simpa using h), fun h => hF.out.f2 (by simpa using h), fun h => hF.out.f3 (by simpa using h), fun h => hF.out.f4 (by simpa using h), fun h => hF.out.f5 (by simpa using h), fun _ => trivial, grown_trans hF.out.gr (put6_own W m _ _ _ _ _ _), fun h => by simp at h, fun _ => put6_at hbm6 _ _ _ _ _ _, fun h => ⟨(put6_other W m _ _ _ _ _ _ ra (hF.out.rowra (by simpa using h)).2.2).trans (hF.out.rowra (by simpa using h)).1, (hF.out.rowra (by simpa using h)).2⟩, fun h => ⟨(put6_other W m _ _ _ _ _ _ rb (hF.out.rowrb (by simpa using h)).2.2).trans (hF.out.rowrb (by simpa using h)).1, (hF.out.rowrb (by simpa using h)).2⟩, fun _ => by simpa using k5, fun h => by simpa using hF.out.c5_4 (by simpa using h), fun h => by simpa using hF.out.c4_0 (by simpa using h), fun h => by simpa using hF.out.c4_3 (by simpa using h), fun h => by simpa using hF.out.c3_2 (by simpa using h), fun h => by simpa using hF.out.c2_1 (by simpa using h)⟩
        · intro d a W hI hall
          obtain ⟨ra, rb, x23, x24, x25, x26, x27, x28, rfl, hF⟩ := hI
          simp only [List.length_cons, List.length_nil] at hall
          obtain rfl := hF.out.f0 (hall 0 (by omega))
          obtain rfl := hF.out.f1 (hall 1 (by omega))
          obtain rfl := hF.out.f2 (hall 2 (by omega))
          obtain rfl := hF.out.f3 (hall 3 (by omega))
          obtain rfl := hF.out.f4 (hall 4 (by omega))
          obtain rfl := hF.out.f5 (hall 5 (by omega))
          have hgr := hF.out.gr
          have hbm1 := hF.out.bm1 (hall 6 (by omega))
          have hrow := hF.out.rowrb (hall 4 (by omega))
          have hrowa := hF.out.rowra (hall 2 (by omega))
          have hln := in_heap HD.out.bn
          have hww := HD.out.gr.size
          have hold := HD.out.old hgr
          have hry : Ry W (fun b => w.heap.size ≤ b ∧ b ≠ n ∧ b ≠ m ∧ b < W.heap.size) (v6 (4, empty, some ⟨rb, 0, none⟩, 2, 2)) (.mk 4 empty [t, .mk 6 empty [t]]) := Ry.two (p := (6, empty, some ⟨ra, 0, none⟩, 1, 1)) 4 (by omega) hrow.1 ⟨by omega, by omega, hrow.2.2, in_heap hrow.1⟩ hold (Ry.one 6 (by omega) hrowa.1 ⟨by omega, by omega, hrowa.2.2, in_heap hrowa.1⟩ hold)
          clear hrow hrowa hold
          have HST : Hid (LT g s k w n m (.mk 4 empty [t, .mk 6 empty [t]], j + 1, e) (4, empty, some ⟨rb, 0, none⟩, 2, 2) W) := HD.out.turn hgr hlt hmw hnm hbm1 hry
          clear hF hgr hbm1 hry
          go_wp2_with fail
          refine ⟨⟨.mk 4 empty [t, .mk 6 empty [t]], j + 1, hj1, 4, 0#64, 0#64, 0#64, 0#64, some ⟨rb, 0, none⟩, 2, 2, HST.out, ?_⟩, ?_⟩
          · rw [HF.out]
            exact repL_more s s.size (s.size + 1) _ _ hj1 (by omega) (by omega)
          · refine Nat.lt_of_le_of_lt (Nat.le_of_eq (congrArg (s.size - ·) (LT.ps HST.out).pos)) ?_
            rw [HPOS.out]; simp only; omega
      rw [if_neg h43] at hrr
      rw [if_neg h43, decide_eq_false h43] at hp43
      go_upto_region 8 with (go_at_call 36; refine hp43.mono ?_; rintro _ wb ⟨rfl, hpb, hgb⟩)
      have HB : Hid (LT g s k w n m (t, j, e) q wb) := HA.out.kept hpb hgb hlt hnw hmw
      have hp63 := pass_any g s j k 63 wb hpb hj hs
      rw [show ((63 : Nat) : Int) = 63 from rfl] at hp63
      clear hpb hgb hp43 HA
      by_cases h63 : bt s j = 63
      · rw [if_pos h63] at hrr
        have HF : Hid (rr = repL s s.size (.mk 5 empty [t, .mk 2 empty []]) (j + 1)) := hrr
        rw [if_pos h63, decide_eq_true h63] at hp63
        have hj1 : j + 1 ≤ s.size := bt_is h63 (by decide)
        clear hrr h42 h43 h63
        go_upto_region 9 with (go_at_call 36; refine hp63.mono ?_; rintro _ wc ⟨rfl, hpc, hgc⟩)
        have HD : Hid (LT g s k w n m (t, j + 1, e) q wc) := HB.out.kept hpc hgc hlt hnw hmw
        have hbmv := HD.out.bm
        clear hpc hgc hp63 HB
        refine wp_region_free mixed (fun a0 d a W => ∃ (rb : Nat) (x32 x33 x34 x35 : Value), a = ((((a0.put (some 32) x32).put (some 33) x33).put (some 34) x34).put (some 35) x35) ∧ Hid (QR wc m q rb d x32 x33 x34 x35 W)) (by kernel_rfl) ⟨0, u32, u33, u34, u35, by simp only [Act.put, List.setIfInBounds_toArray, List.set_cons_zero, List.set_cons_succ], ?_⟩ ?_ ?_
        · exact ⟨fun h => no_way h, fun h => no_way h, fun h => no_way h, fun h => no_way h, fun _ => trivial, grown_below (Below.refl _ _).drew _, fun _ => hbmv, fun h => no_way h, fun h => no_way h, fun h => no_way h, fun h => no_way h, fun h => no_way h⟩
        · simp only [StepAll, and_true]
          refine ⟨?_, ?_, ?_, ?_, ?_⟩
          · intro d a W hI hd hdep
            obtain ⟨rb, x32, x33, x34, x35, rfl, hF⟩ := hI
            have h6 : d 4 = false := by
              cases e6 : d 4 with
              | false => rfl
              | true => rw [(hF.out.c2_0 (hF.out.c3_2 (hF.out.c4_3 e6)))] at hd; cases hd
            obtain ⟨⟨s0, s1, s2, s3, s4, s5⟩, -⟩ := block6 (hF.out.bm0 h6)
            clear hdep hd
            intro K hK
            simp only [Act.put, List.setIfInBounds_toArray, List.set_cons_zero, List.set_cons_succ]
            go_simp
            refine hK.out _ _ ⟨rb, (.agg #[.int .i64 q.1, .int .u64 (q.2.1.1.toNat : Int), .int .u64 (q.2.1.2.1.toNat : Int), .int .u64 (q.2.1.2.2.1.toNat : Int), .int .u64 (q.2.1.2.2.2.toNat : Int), .slice q.2.2.1 q.2.2.2.1 q.2.2.2.2]), x33, x34, x35, by simp only [Act.put, List.setIfInBounds_toArray, List.set_cons_zero, List.set_cons_succ], ?_⟩
            exact ⟨fun _ => rfl, fun h => hF.out.f1 (by simpa using h), fun h => hF.out.f2 (by simpa using h), fun h => hF.out.f3 (by simpa using h), fun h => hF.out.f4 (by simpa using h), hF.out.gr, fun h => hF.out.bm0 (by simpa using h), fun h => hF.out.bm1 (by simpa using h), fun h => hF.out.rowrb (by simpa using h), fun h => by simpa using hF.out.c4_3 (by simpa using h), fun h => by simpa using hF.out.c3_2 (by simpa using h), fun _ => by simp⟩
          · intro d a W hI hd hdep
            obtain ⟨rb, x32, x33, x34, x35, rfl, hF⟩ := hI
            have hcl := node_any 2 none 0 0 W
            clear hdep hd
            intro K hK
            simp only [Act.put, List.setIfInBounds_toArray, List.set_cons_zero, List.set_cons_succ]
            go_simp
            refine hcl.mono ?_
            rintro _ W1 ⟨rfl, hb1⟩
            go_simp
            refine hK.out _ _ ⟨rb, x32, (.agg #[.int .i64 2, .int .u64 0, .int .u64 0, .int .u64 0, .int .u64 0, .slice none 0 0]), x34, x35, by simp only [Act.put, List.setIfInBounds_toArray, List.set_cons_zero, List.set_cons_succ], ?_⟩
            exact ⟨fun h => hF.out.f0 (by simpa using h), fun _ => rfl, fun h => hF.out.f2 (by simpa using h), fun h => hF.out.f3 (by simpa using h), fun h => hF.out.f4 (by simpa using h), grown_trans hF.out.gr (grown_below hb1 _), fun h => blk_next hb1 (hF.out.bm0 (by simpa using h)), fun h => blk_next hb1 (hF.out.bm1 (by simpa using h)), fun h => ⟨blk_next hb1 (hF.out.rowrb (by simpa using h)).1, (hF.out.rowrb (by simpa using h)).2⟩, fun h => by simpa using hF.out.c4_3 (by simpa using h), fun h => by simpa using hF.out.c3_2 (by simpa using h), fun h => by simpa using hF.out.c2_0 (by simpa using h)⟩
          · intro d a W hI hd hdep
            obtain ⟨rb, x32, x33, x34, x35, rfl, hF⟩ := hI
            have hd0 : d 0 = true := dep_of hdep 0 (by kernel_rfl)
            have hd1 : d 1 = true := dep_of hdep 1 (by kernel_rfl)
            obtain rfl := hF.out.f0 hd0
            obtain rfl := hF.out.f1 hd1
            have h6 : d 4 = false := by
              cases e6 : d 4 with
              | false => rfl
              | true => rw [(hF.out.c3_2 (hF.out.c4_3 e6))] at hd; cases hd
            have hmlt := in_heap (hF.out.bm0 h6)
            have k0 := hd0
            have hdn := hd
            clear hdep hd hd0 hd1
            intro K hK
            simp only [Act.put, List.setIfInBounds_toArray, List.set_cons_zero, List.set_cons_succ]
            go_simp
            refine hK.out _ _ ⟨W.heap.size, (.agg #[.int .i64 q.1, .int .u64 (q.2.1.1.toNat : Int), .int .u64 (q.2.1.2.1.toNat : Int), .int .u64 (q.2.1.2.2.1.toNat : Int), .int .u64 (q.2.1.2.2.2.toNat : Int), .slice q.2.2.1 q.2.2.2.1 q.2.2.2.2]), (.agg #[.int .i64 2, .int .u64 0, .int .u64 0, .int .u64 0, .int .u64 0, .slice none 0 0]), (.slice (some ⟨W.heap.size, 0, none⟩) 2 2), x35, by simp only [Act.put, List.setIfInBounds_toArray, List.set_cons_zero, List.set_cons_succ], ?_⟩
            exact ⟨fun h => hF.out.f0 (by simpa using h), fun h => hF.out.f1 (by simpa using h), fun _ => rfl, fun h => absurd (hF.out.c3_2 (by simpa using h)) (by rw [hdn]; simp), fun h => hF.out.f4 (by simpa using h), grown_trans hF.out.gr (grown_below ((Below.refl _ _).alloc (Nat.le_refl _) _) _), fun h => blk_next ((Below.refl _ _).alloc (Nat.le_refl _) _) (hF.out.bm0 (by simpa using h)), fun h => absurd (by simpa using h) (by rw [h6]; simp), fun _ => ⟨block_new W _, hF.out.gr.size, by omega⟩, fun h => by simpa using hF.out.c4_3 (by simpa using h), fun _ => by simp, fun _ => by simpa using k0⟩
          · intro d a W hI hd hdep
            obtain ⟨rb, x32, x33, x34, x35, rfl, hF⟩ := hI
            have hd2 : d 2 = true := dep_of hdep 2 (by kernel_rfl)
            obtain rfl := hF.out.f2 hd2
            have hcl := node_any 5 (some ⟨rb, 0, none⟩) 2 2 W
            have k2 := hd2
            clear hdep hd hd2
            intro K hK
            simp only [Act.put, List.setIfInBounds_toArray, List.set_cons_zero, List.set_cons_succ]
            go_simp
            refine hcl.mono ?_
            rintro _ W1 ⟨rfl, hb1⟩
            go_simp
            refine hK.out _ _ ⟨rb, x32, x33, (.slice (some ⟨rb, 0, none⟩) 2 2), (.agg #[.int .i64 5, .int .u64 0, .int .u64 0, .int .u64 0, .int .u64 0, .slice (some ⟨rb, 0, none⟩) 2 2]), by simp only [Act.put, List.setIfInBounds_toArray, List.set_cons_zero, List.set_cons_succ], ?_⟩
            exact ⟨fun h => hF.out.f0 (by simpa using h), fun h => hF.out.f1 (by simpa using h), fun h => hF.out.f2 (by simpa using h), fun _ => rfl, fun h => hF.out.f4 (by simpa using h), grown_trans hF.out.gr (grown_below hb1 _), fun h => blk_next hb1 (hF.out.bm0 (by simpa using h)), fun h => blk_next hb1 (hF.out.bm1 (by simpa using h)), fun h => ⟨blk_next hb1 (hF.out.rowrb (by simpa using h)).1, (hF.out.rowrb (by simpa using h)).2⟩, fun _ => by simp, fun _ => by simpa using k2, fun h => by simpa using hF.out.c2_0 (by simpa using h)⟩
          · intro d a W hI hd hdep
            obtain ⟨rb, x32, x33, x34, x35, rfl, hF⟩ := hI
            have hd3 : d 3 = true := dep_of hdep 3 (by kernel_rfl)
            obtain rfl := hF.out.f3 hd3
            have hbm6 := hF.out.bm0 hd
            obtain ⟨⟨s0, s1, s2, s3, s4, s5⟩, u0, u1, u2, u3, u4, u5⟩ := block6 hbm6
            have k3 := hd3
            clear hdep hd hd3
            intro K hK
            simp only [Act.put, List.setIfInBounds_toArray, List.set_cons_zero, List.set_cons_succ]
            go_simp
            refine hK.out _ _ ⟨rb, x32, x33, x34, (.agg #[.int .i64 5, .int .u64 0, .int .u64 0, .int .u64 0, .int .u64 0, .slice (some ⟨rb, 0, none⟩) 2 2]), by simp only [Act.put, List.setIfInBounds_toArray, List.set_cons_zero, List.set_cons_succ], ?_⟩
            exact ⟨fun h => hF.out.f0 (by simpa using h), fun h => hF.out.f1 (by simpa using h), fun h => hF.out.f2 (by simpa using h), fun h => hF.out.f3 (by simpa using h), fun _ => trivial, grown_trans hF.out.gr (put6_own W m _ _ _ _ _ _), fun h => by simp at h, fun _ => put6_at hbm6 _ _ _ _ _ _, fun h => ⟨(put6_other W m _ _ _ _ _ _ rb (hF.out.rowrb (by simpa using h)).2.2).trans (hF.out.rowrb (by simpa using h)).1, (hF.out.rowrb (by simpa using h)).2⟩, fun _ => by simpa using k3, fun h => by simpa using hF.out.c3_2 (by simpa using h), fun h => by simpa using hF.out.c2_0 (by simpa using h)⟩
        · intro d a W hI hall
          obtain ⟨rb, x32, x33, x34, x35, rfl, hF⟩ := hI
          simp only [List.length_cons, List.length_nil] at hall
          obtain rfl := hF.out.f0 (hall 0 (by omega))
          obtain rfl := hF.out.f1 (hall 1 (by omega))
          obtain rfl := hF.out.f2 (hall 2 (by omega))
          obtain rfl := hF.out.f3 (hall 3 (by omega))
          have hgr := hF.out.gr
          have hbm1 := hF.out.bm1 (hall 4 (by omega))
          have hrow := hF.out.rowrb (hall 2 (by omega))
          have hln := in_heap HD.out.bn
          have hww := HD.out.gr.size
          have hry : Ry W (fun b => w.heap.size ≤ b ∧ b ≠ n ∧ b ≠ m ∧ b < W.heap.size) (v6 (5, empty, some ⟨rb, 0, none⟩, 2, 2)) (.mk 5 empty [t, .mk 2 empty []]) := Ry.two (p := (2, empty, none, 0, 0)) 5 (by omega) hrow.1 ⟨by omega, by omega, hrow.2.2, in_heap hrow.1⟩ (HD.out.old hgr) (Ry.leaf 2 empty (by omega))
          clear hrow
          have HST : Hid (LT g s k w n m (.mk 5 empty [t, .mk 2 empty []], j + 1, e) (5, empty, some ⟨rb, 0, none⟩, 2, 2) W) := HD.out.turn hgr hlt hmw hnm hbm1 hry
          clear hF hgr hbm1 hry
          go_wp2_with fail
          refine ⟨⟨.mk 5 empty [t, .mk 2 empty []], j + 1, hj1, 5, 0#64, 0#64, 0#64, 0#64, some ⟨rb, 0, none⟩, 2, 2, HST.out, ?_⟩, ?_⟩
          · rw [HF.out]
            exact repL_more s s.size (s.size + 1) _ _ hj1 (by omega) (by omega)
          · refine Nat.lt_of_le_of_lt (Nat.le_of_eq (congrArg (s.size - ·) (LT.ps HST.out).pos)) ?_
            rw [HPOS.out]; simp only; omega
      · rw [if_neg h63] at hrr
        have HF : Hid (rr = (t, j, 0)) := hrr
        rw [if_neg h63, decide_eq_false h63] at hp63
        clear hrr h42 h43 h63
        go_upto_region 3 with (go_at_call 36; refine hp63.mono ?_; rintro _ wc ⟨rfl, hpc, hgc⟩)
        have HD : Hid (LT g s k w n m (t, j, e) q wc) := HB.out.kept hpc hgc hlt hnw hmw
        clear hpc hgc hp63 HB
        have hps := HD.out.ps
        have hbn := HD.out.bn
        have hbm := HD.out.bm
        have HRY : Hid (Ry wc (fun b => w.heap.size ≤ b ∧ b ≠ n ∧ b ≠ m ∧ b < wc.heap.size) (v6 q) t) := HD.out.ry
        have HGR : Hid (w.grownBy wc (some g)) := HD.out.gr
        obtain ⟨⟨b0, b1, b2, b3, b4, b5⟩, d0, d1, d2, d3, d4, d5⟩ := block6 hbm
        obtain ⟨⟨z0, z1, z2, z3, z4, z5⟩, y0, y1, y2, y3, y4, y5⟩ := block6 hbn
        go_wp2_with fail
        refine bodyPost_ret (v := .tuple #[.agg #[.int .i64 q.1, .int .u64 (q.2.1.1.toNat : Int), .int .u64 (q.2.1.2.1.toNat : Int), .int .u64 (q.2.1.2.2.1.toNat : Int), .int .u64 (q.2.1.2.2.2.toNat : Int), .slice q.2.2.1 q.2.2.2.1 q.2.2.2.2], .int .i64 0]) (by simp [results, Try.results52, go_sem, z0, z1, z2, z3, z4, z5]) rfl ⟨q.1, q.2.1.1, q.2.1.2.1, q.2.1.2.2.1, q.2.1.2.2.2, q.2.2.1, q.2.2.2.1, q.2.2.2.2, by rw [HF.out]; rfl, ?_, ?_, ?_⟩
        · rw [HF.out]
          exact HRY.out.move (fun b hb => ⟨hb.1, by show b < (put6 _ n _ _ _ _ _ _).heap.size; rw [put6_size]; exact hb.2.2.2⟩) (fun b hb => put6_other _ n _ _ _ _ _ _ b hb.2.1)
        · rw [HF.out]
          exact put6_ps hps n hne _ _ _ _ _ _
        · exact put6_grown HGR.out n hnw _ _ _ _ _ _
    · have HF : Hid (rr = (t, j, e)) := by show _ = _; rw [HL.out.2]; rw [if_pos he]
      have heb : ((e : Int) == 0) = false := by simp; omega
      clear he
      have hps := HL.out.1.ps
      have hbn := HL.out.1.bn
      have hbm := HL.out.1.bm
      have HRY : Hid (Ry wr (fun b => w.heap.size ≤ b ∧ b ≠ n ∧ b ≠ m ∧ b < wr.heap.size) (v6 q) t) := HL.out.1.ry
      have HGR : Hid (w.grownBy wr (some g)) := HL.out.1.gr
      obtain ⟨⟨b0, b1, b2, b3, b4, b5⟩, d0, d1, d2, d3, d4, d5⟩ := block6 hbm
      obtain ⟨⟨z0, z1, z2, z3, z4, z5⟩, y0, y1, y2, y3, y4, y5⟩ := block6 hbn
      go_wp2_with fail
      refine bodyPost_ret (v := .tuple #[.agg #[.int .i64 q.1, .int .u64 (q.2.1.1.toNat : Int), .int .u64 (q.2.1.2.1.toNat : Int), .int .u64 (q.2.1.2.2.1.toNat : Int), .int .u64 (q.2.1.2.2.2.toNat : Int), .slice q.2.2.1 q.2.2.2.1 q.2.2.2.2], .int .i64 (e : Int)]) (by simp [results, Try.results52, go_sem, z0, z1, z2, z3, z4, z5]) rfl ⟨q.1, q.2.1.1, q.2.1.2.1, q.2.1.2.2.1, q.2.1.2.2.2, q.2.2.1, q.2.2.2.1, q.2.2.2.2, by rw [HF.out], ?_, ?_, ?_⟩
      · rw [HF.out]
        exact HRY.out.move (fun b hb => ⟨hb.1, by show b < (put6 _ n _ _ _ _ _ _).heap.size; rw [put6_size]; exact hb.2.2.2⟩) (fun b hb => put6_other _ n _ _ _ _ _ _ b hb.2.1)
      · rw [HF.out]
        exact put6_ps hps n hne _ _ _ _ _ _
      · exact put6_grown HGR.out n hnw _ _ _ _ _ _
end Go.Proofs.Ythloedfiomfnbaa
