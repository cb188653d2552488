/-
  The contract of rex.parser's set.
-/
import Derived.Test.YthloedfiomfnbaaPaNode
namespace Go.Proofs.Ythloedfiomfnbaa
open Go.RowKit
open Cls Txt

/-- Kind, class, where, error. -/
def setE (o : Bool) (r : Cl × Nat × Nat) : Int × Cl × Nat × Nat :=
  if r.2.2 ≠ 0 then (0, Cls.empty, r.2.1, r.2.2) else if (if o then neg r.1 else r.1) = Cls.empty then (if o then (0, Cls.empty, r.2.1, 6) else (1, Cls.empty, r.2.1 + 1, 0)) else (3, if o then neg r.1 else r.1, r.2.1 + 1, 0)
def setR (s : ByteArray) (i : Nat) : Int × Cl × Nat × Nat :=
  if bt s i = 94 then setE true (itemsR s (s.size + 1) (i + 1) Cls.empty) else setE false (itemsR s (s.size + 1) i Cls.empty)
theorem Bc.set4 {W : World} {m : Nat} {c : Cl} (h : Bc W m c) (d : Cl) : Bc ((((W.setCell ⟨m, 0, none⟩ (.int .u64 ((d).1.toNat : Int))).setCell ⟨m, 1, none⟩ (.int .u64 ((d).2.1.toNat : Int))).setCell ⟨m, 2, none⟩ (.int .u64 ((d).2.2.1.toNat : Int))).setCell ⟨m, 3, none⟩ (.int .u64 ((d).2.2.2.toNat : Int))) m d := by
  unfold Bc at h ⊢
  simp only [World.setCell, Array.getElem?_modify, if_true, h]
  rfl
def posOf (g : Nat) (W : World) : Nat := match W.cell? ⟨g, 1, none⟩ with | some (.int _ z) => z.toNat | _ => 0
theorem Ps.pos {g : Nat} {s : ByteArray} {i : Nat} {k : Value} {W : World} (h : Ps g s i k W) : posOf g W = i := by
  unfold posOf; rw [h.cells.1.2.1]; simp
theorem kept27 {W W' : World} {n g : Nat} {z : Array Value} {t : TypeId} (h : W.heap[n]? = some (.cells z t)) (hg : W.grownBy W' (some g)) (hne : n ≠ g) : W'.heap[n]? = some (.cells z t) := (hg.block n (Array.getElem?_eq_some_iff.1 h).1 (fun e => hne (by cases e; rfl))).trans h
/-- What holds at the loop's head. -/
structure LS (g : Nat) (s : ByteArray) (k : Value) (w : World) (n m : Nat) (r : Cl × Nat × Nat) (j : Nat) (c : Cl) (W : World) : Prop where
  ps : Ps g s j k W
  gr : w.grownBy W (some g)
  bn : W.heap[n]? = some (.cells #[.int .i64 0, .int .u64 0, .int .u64 0, .int .u64 0, .int .u64 0, .slice none 0 0] 27)
  bm : Bc W m c
  eq : r = itemsR s (s.size + 1) j c
theorem LS.next {g : Nat} {s : ByteArray} {k : Value} {w : World} {n m : Nat} {r : Cl × Nat × Nat} {j : Nat} {c : Cl} {W W' : World} (h : LS g s k w n m r j c W) (hb : Below W.heap.size W W') (hn : n ≠ g) (hm : m ≠ g) : LS g s k w n m r j c W' :=
  ⟨h.ps.next hb, grown_trans h.gr (grown_below hb _), kept27 h.bn (grown_below hb (some g)) hn, h.bm.kept (grown_below hb (some g)) hm, h.eq⟩

set_option maxHeartbeats 4000000 in
set_option maxRecDepth 20000 in
theorem set_any (g : Nat) (s : ByteArray) (i : Nat) (k : Value) (w : World) (hP : Ps g s i k w) (hi : i ≤ s.size) (hs : s.size ≤ 300) :
    Calls Try.prog 73 #[.pointer (some ⟨g, 0, none⟩)] w fun e w' => e = .returned (.tuple #[.agg #[.int .i64 (setR s i).1, .int .u64 (((setR s i).2.1).1.toNat : Int), .int .u64 (((setR s i).2.1).2.1.toNat : Int), .int .u64 (((setR s i).2.1).2.2.1.toNat : Int), .int .u64 (((setR s i).2.1).2.2.2.toNat : Int), .slice none 0 0], .int .i64 ((setR s i).2.2.2 : Int)]) ∧ Ps g s (setR s i).2.2.1 k w' ∧ w.grownBy w' (some g) := by
  have hlt := hP.lt
  obtain ⟨o, i0, HO, hi0, hO⟩ : ∃ (o : Bool) (i0 : Nat), Hid (setR s i = setE o (itemsR s (s.size + 1) i0 Cls.empty)) ∧ i0 ≤ s.size ∧ (decide (bt s i = 94) = o ∧ (if bt s i = 94 then i + 1 else i) = i0) := by
    by_cases h : bt s i = 94
    · exact ⟨true, i + 1, (by unfold setR; rw [if_pos h] : setR s i = _), bt_is h (by decide), decide_eq_true h, if_pos h⟩
    · exact ⟨false, i, (by unfold setR; rw [if_neg h] : setR s i = _), hi, decide_eq_false h, if_neg h⟩
  have hne : w.heap.size ≠ g := by omega
  obtain ⟨n, HN⟩ : ∃ n, Hid (w.heap.size = n) := ⟨_, (rfl : w.heap.size = w.heap.size)⟩
  obtain ⟨W0, HW⟩ : ∃ W0, Hid (w.alloc (.cells #[.int .i64 0, .int .u64 0, .int .u64 0, .int .u64 0, .int .u64 0, .slice none 0 0] 27) = W0) := ⟨_, (rfl : w.alloc (.cells #[.int .i64 0, .int .u64 0, .int .u64 0, .int .u64 0, .int .u64 0, .slice none 0 0] 27) = w.alloc (.cells #[.int .i64 0, .int .u64 0, .int .u64 0, .int .u64 0, .int .u64 0, .slice none 0 0] 27))⟩
  have hB0 : Below w.heap.size w W0 := HW.out ▸ (Below.refl _ w).alloc (Nat.le_refl _) _
  have hP0 : Ps g s i k W0 := hP.next hB0
  have hG0 : w.grownBy W0 (some g) := grown_below hB0 _
  have hC0 : W0.heap[n]? = some (.cells #[.int .i64 0, .int .u64 0, .int .u64 0, .int .u64 0, .int .u64 0, .slice none 0 0] 27) := by rw [← HW.out, ← HN.out]; exact block_new w _
  have hnw : w.heap.size ≤ n := by rw [HN.out]; exact Nat.le_refl _
  rw [HN.out] at hne
  have hpass := pass_any g s i k 94 W0 hP0 hi hs
  rw [show ((94 : Nat) : Int) = 94 from rfl, hO.1, hO.2] at hpass
  obtain ⟨r, HR⟩ : ∃ r, Hid (itemsR s (s.size + 1) i0 Cls.empty = r) := ⟨_, (rfl : itemsR s (s.size + 1) i0 Cls.empty = itemsR s (s.size + 1) i0 Cls.empty)⟩
  rw [HO.out, HR.out]
  clear hP hlt hB0 hO
  go_enter Try.func73, Try.ntmps73
  go_upto_region 1 with fail
  rw [HN.out, HW.out]
  go_upto_region 2 with (go_at_call 36; refine hpass.mono ?_; rintro _ w1 ⟨rfl, hP1, hG1⟩)
  obtain ⟨m, HM⟩ : ∃ m, Hid (w1.heap.size = m) := ⟨_, (rfl : w1.heap.size = w1.heap.size)⟩
  obtain ⟨W2, HW2⟩ : ∃ W2, Hid (w1.alloc (.cells #[.int .u64 0, .int .u64 0, .int .u64 0, .int .u64 0] 24) = W2) := ⟨_, (rfl : w1.alloc (.cells #[.int .u64 0, .int .u64 0, .int .u64 0, .int .u64 0] 24) = w1.alloc (.cells #[.int .u64 0, .int .u64 0, .int .u64 0, .int .u64 0] 24))⟩
  have hB2 : Below w1.heap.size w1 W2 := HW2.out ▸ (Below.refl _ w1).alloc (Nat.le_refl _) _
  have hnm : n ≠ m := by
    have := (Array.getElem?_eq_some_iff.1 (kept27 hC0 hG1 hne)).1
    rw [HM.out] at this; omega
  have hmg : m ≠ g := by
    have := hP1.lt
    rw [HM.out] at this; omega
  have hmw : w.heap.size ≤ m := by
    have h1 := hG0.size
    have h2 := hG1.size
    rw [HM.out] at h2; omega
  have HL : Hid (LS g s k w n m r i0 Cls.empty W2) := ⟨hP1.next hB2, grown_trans (grown_trans hG0 hG1) (grown_below hB2 _), kept27 (kept27 hC0 hG1 hne) (grown_below hB2 (some g)) hne, (by rw [← HW2.out, ← HM.out]; exact block_new w1 _), HR.out.symm⟩
  clear hB2 hG1 hP1 hC0 hG0 hP0 hpass
  go_wp2_with fail
  rw [HM.out, HW2.out]
  go_loopw [] (fun wr => ∃ (j : Nat) (c : Cl), j ≤ s.size ∧ Hid (LS g s k w n m r j c wr)) (fun wr => s.size - posOf g wr)
  case atStart => exact ⟨i0, Cls.empty, hi0, HL.out⟩
  case round =>
    clear HL
    obtain ⟨j, c, hj, HL⟩ := hrel
    have hseen := seen_any g s j k wr HL.out.ps hj
    by_cases h93 : bt s j = 93
    · have HE : Hid (r = (c, j, 0)) := by
        show _ = _
        rw [HL.out.eq]; unfold itemsR; rw [if_pos h93]
      rw [h93, show ((93 : Nat) : Int) = 93 from rfl] at hseen
      clear h93
      cases o with
      | false =>
        go_upto_region 10 with (go_at_call 54; refine hseen.mono ?_; rintro _ wa ⟨rfl, hba⟩)
        have HA : Hid (LS g s k w n m r j c wa) := HL.out.next hba hne hmg
        clear hba hseen HL
        have hps := HA.out.ps
        have hbm := HA.out.bm
        have hbn := HA.out.bn
        have HGR : Hid (w.grownBy wa (some g)) := HA.out.gr
        obtain ⟨⟨b0, b1, b2, b3⟩, d0, d1, d2, d3⟩ := block4c hbm
        have heq : ∀ w, (binOp .eql 24 (.agg #[.int .u64 ((c).1.toNat : Int), .int .u64 ((c).2.1.toNat : Int), .int .u64 ((c).2.2.1.toNat : Int), .int .u64 ((c).2.2.2.toNat : Int)]) (.agg #[.int .u64 0, .int .u64 0, .int .u64 0, .int .u64 0])).run Try.prog w = .ok (.bool (decide (c = Cls.empty))) w := eql24 c Cls.empty
        by_cases hem : c = Cls.empty
        · have HS : Hid (setE false r = (1, Cls.empty, j + 1, 0)) := by show _ = _; rw [HE.out]; unfold setE; simp [hem]
          rw [decide_eq_true hem] at heq
          clear hem
          obtain ⟨⟨_, c1, _⟩, _, f1, _⟩ := hps.cells
          have hps2 : Ps g s (j + 1) k (wa.setCell ⟨g, 1, none⟩ (.int .i64 ((j : Int) + 1))) := by have := hps.set1 (j + 1); simpa using this
          have hbm2 := hbm.kept (grown_set wa ⟨g, 1, none⟩ (.int .i64 ((j : Int) + 1))) hmg
          have hbn2 := kept27 hbn (grown_set wa ⟨g, 1, none⟩ (.int .i64 ((j : Int) + 1))) hne
          have HGR2 : Hid (w.grownBy (wa.setCell ⟨g, 1, none⟩ (.int .i64 ((j : Int) + 1))) (some g)) := grown_trans HGR.out (grown_set _ _ _)
          go_upto_region 15 with fail
          generalize wa.setCell ⟨g, 1, none⟩ (.int .i64 ((j : Int) + 1)) = w7 at *
          go_wp2_with fail
          refine (node_any 1 none 0 0 _).mono ?_
          rintro _ w8 ⟨rfl, hb8⟩
          have hbn8 := kept27 hbn2 (grown_below hb8 (some g)) hne
          have hps8 := hps2.next hb8
          have HGR8 : Hid (w.grownBy w8 (some g)) := grown_trans HGR2.out (grown_below hb8 _)
          clear hb8
          obtain ⟨⟨z0, z1, z2, z3, z4, z5⟩, y0, y1, y2, y3, y4, y5⟩ := block6 hbn8
          go_wp2_with fail
          refine bodyPost_ret (v := .tuple #[.agg #[.int .i64 1, .int .u64 0, .int .u64 0, .int .u64 0, .int .u64 0, .slice none 0 0], .int .i64 0]) (by simp [results, Try.results73, go_sem, z0, z1, z2, z3, z4, z5]) rfl ⟨by rw [HS.out]; rfl, ?_, ?_⟩
          · rw [HS.out]; exact ((((((hps8.other _ (Ne.symm hne) _).other _ (Ne.symm hne) _).other _ (Ne.symm hne) _).other _ (Ne.symm hne) _).other _ (Ne.symm hne) _).other _ (Ne.symm hne) _)
          · exact grown_late (grown_late (grown_late (grown_late (grown_late (grown_late HGR8.out _ hnw _) _ hnw _) _ hnw _) _ hnw _) _ hnw _) _ hnw _
        · have HS : Hid (setE false r = (3, c, j + 1, 0)) := by show _ = _; rw [HE.out]; unfold setE; simp [hem]
          rw [decide_eq_false hem] at heq
          clear hem
          obtain ⟨⟨_, c1, _⟩, _, f1, _⟩ := hps.cells
          have hps2 : Ps g s (j + 1) k (wa.setCell ⟨g, 1, none⟩ (.int .i64 ((j : Int) + 1))) := by have := hps.set1 (j + 1); simpa using this
          have hbm2 := hbm.kept (grown_set wa ⟨g, 1, none⟩ (.int .i64 ((j : Int) + 1))) hmg
          have hbn2 := kept27 hbn (grown_set wa ⟨g, 1, none⟩ (.int .i64 ((j : Int) + 1))) hne
          have HGR2 : Hid (w.grownBy (wa.setCell ⟨g, 1, none⟩ (.int .i64 ((j : Int) + 1))) (some g)) := grown_trans HGR.out (grown_set _ _ _)
          go_upto_region 16 with fail
          generalize wa.setCell ⟨g, 1, none⟩ (.int .i64 ((j : Int) + 1)) = w7 at *
          obtain ⟨⟨q0, q1, q2, q3⟩, p0, p1, p2, p3⟩ := block4c hbm2
          go_wp2_with fail
          refine (byteOf_any c _).mono ?_
          rintro _ w8 ⟨rfl, hb8⟩
          have hbn8 := kept27 hbn2 (grown_below hb8 (some g)) hne
          have hps8 := hps2.next hb8
          have HGR8 : Hid (w.grownBy w8 (some g)) := grown_trans HGR2.out (grown_below hb8 _)
          clear hb8
          obtain ⟨⟨z0, z1, z2, z3, z4, z5⟩, y0, y1, y2, y3, y4, y5⟩ := block6 hbn8
          go_wp2_with fail
          refine bodyPost_ret (v := .tuple #[.agg #[.int .i64 3, .int .u64 ((c).1.toNat : Int), .int .u64 ((c).2.1.toNat : Int), .int .u64 ((c).2.2.1.toNat : Int), .int .u64 ((c).2.2.2.toNat : Int), .slice none 0 0], .int .i64 0]) (by simp [results, Try.results73, go_sem, z0, z1, z2, z3, z4, z5]) rfl ⟨by rw [HS.out]; rfl, ?_, ?_⟩
          · rw [HS.out]; exact ((((((hps8.other _ (Ne.symm hne) _).other _ (Ne.symm hne) _).other _ (Ne.symm hne) _).other _ (Ne.symm hne) _).other _ (Ne.symm hne) _).other _ (Ne.symm hne) _)
          · exact grown_late (grown_late (grown_late (grown_late (grown_late (grown_late HGR8.out _ hnw _) _ hnw _) _ hnw _) _ hnw _) _ hnw _) _ hnw _
      | true =>
        go_upto_region 9 with (go_at_call 54; refine hseen.mono ?_; rintro _ wa ⟨rfl, hba⟩)
        have HA : Hid (LS g s k w n m r j c wa) := HL.out.next hba hne hmg
        clear hba hseen HL
        have hbm0 := HA.out.bm
        obtain ⟨⟨b0, b1, b2, b3⟩, d0, d1, d2, d3⟩ := block4c hbm0
        go_wp2_with fail
        refine (not_any c _).mono ?_
        rintro _ wb ⟨rfl, hbb⟩
        have HB : Hid (LS g s k w n m r j c wb) := HA.out.next hbb hne hmg
        clear hbb HA b0 b1 b2 b3 d0 d1 d2 d3 hbm0
        have hbm1 := HB.out.bm
        obtain ⟨⟨b0, b1, b2, b3⟩, d0, d1, d2, d3⟩ := block4c hbm1
        go_upto_region 10 with fail
        obtain ⟨wc, HC⟩ : ∃ wc, Hid (((((wb.setCell ⟨m, 0, none⟩ (.int .u64 ((neg c).1.toNat : Int))).setCell ⟨m, 1, none⟩ (.int .u64 ((neg c).2.1.toNat : Int))).setCell ⟨m, 2, none⟩ (.int .u64 ((neg c).2.2.1.toNat : Int))).setCell ⟨m, 3, none⟩ (.int .u64 ((neg c).2.2.2.toNat : Int))) = wc) := ⟨_, (rfl : ((((wb.setCell ⟨m, 0, none⟩ (.int .u64 ((neg c).1.toNat : Int))).setCell ⟨m, 1, none⟩ (.int .u64 ((neg c).2.1.toNat : Int))).setCell ⟨m, 2, none⟩ (.int .u64 ((neg c).2.2.1.toNat : Int))).setCell ⟨m, 3, none⟩ (.int .u64 ((neg c).2.2.2.toNat : Int))) = ((((wb.setCell ⟨m, 0, none⟩ (.int .u64 ((neg c).1.toNat : Int))).setCell ⟨m, 1, none⟩ (.int .u64 ((neg c).2.1.toNat : Int))).setCell ⟨m, 2, none⟩ (.int .u64 ((neg c).2.2.1.toNat : Int))).setCell ⟨m, 3, none⟩ (.int .u64 ((neg c).2.2.2.toNat : Int))))⟩
        have hbm : Bc wc m (neg c) := HC.out ▸ hbm1.set4 (neg c)
        have hps : Ps g s j k wc := HC.out ▸ (((HB.out.ps.other _ (Ne.symm hmg) _).other _ (Ne.symm hmg) _).other _ (Ne.symm hmg) _).other _ (Ne.symm hmg) _
        have HGR : Hid (w.grownBy wc (some g)) := HC.out ▸ grown_late (grown_late (grown_late (grown_late HB.out.gr _ hmw _) _ hmw _) _ hmw _) _ hmw _
        have hbn : wc.heap[n]? = some (.cells #[.int .i64 0, .int .u64 0, .int .u64 0, .int .u64 0, .int .u64 0, .slice none 0 0] 27) := by
          rw [← HC.out]
          exact (Below.heap_setCell _ _ _ _ hnm).trans ((Below.heap_setCell _ _ _ _ hnm).trans ((Below.heap_setCell _ _ _ _ hnm).trans ((Below.heap_setCell _ _ _ _ hnm).trans HB.out.bn)))
        rw [HC.out]
        clear b0 b1 b2 b3 d0 d1 d2 d3 hbm1 HB
        obtain ⟨d, HD⟩ : ∃ d, Hid (neg c = d) := ⟨_, (rfl : neg c = neg c)⟩
        rw [HD.out] at hbm
        obtain ⟨⟨b0, b1, b2, b3⟩, d0, d1, d2, d3⟩ := block4c hbm
        have heq : ∀ w, (binOp .eql 24 (.agg #[.int .u64 ((d).1.toNat : Int), .int .u64 ((d).2.1.toNat : Int), .int .u64 ((d).2.2.1.toNat : Int), .int .u64 ((d).2.2.2.toNat : Int)]) (.agg #[.int .u64 0, .int .u64 0, .int .u64 0, .int .u64 0])).run Try.prog w = .ok (.bool (decide (d = Cls.empty))) w := eql24 d Cls.empty
        by_cases hem : d = Cls.empty
        · have HS : Hid (setE true r = (0, Cls.empty, j, 6)) := by show _ = _; rw [HE.out]; unfold setE; simp [HD.out, hem]
          rw [decide_eq_true hem] at heq
          clear hem
          obtain ⟨⟨z0, z1, z2, z3, z4, z5⟩, y0, y1, y2, y3, y4, y5⟩ := block6 hbn
          go_wp2_with fail
          refine bodyPost_ret (v := .tuple #[.agg #[.int .i64 0, .int .u64 0, .int .u64 0, .int .u64 0, .int .u64 0, .slice none 0 0], .int .i64 6]) (by simp [results, Try.results73, go_sem, z0, z1, z2, z3, z4, z5]) rfl ⟨by rw [HS.out]; rfl, ?_, ?_⟩
          · rw [HS.out]; exact ((((((hps.other _ (Ne.symm hne) _).other _ (Ne.symm hne) _).other _ (Ne.symm hne) _).other _ (Ne.symm hne) _).other _ (Ne.symm hne) _).other _ (Ne.symm hne) _)
          · exact grown_late (grown_late (grown_late (grown_late (grown_late (grown_late HGR.out _ hnw _) _ hnw _) _ hnw _) _ hnw _) _ hnw _) _ hnw _
        · have HS : Hid (setE true r = (3, d, j + 1, 0)) := by show _ = _; rw [HE.out]; unfold setE; simp [HD.out, hem]
          rw [decide_eq_false hem] at heq
          clear hem
          obtain ⟨⟨_, c1, _⟩, _, f1, _⟩ := hps.cells
          have hps2 : Ps g s (j + 1) k (wc.setCell ⟨g, 1, none⟩ (.int .i64 ((j : Int) + 1))) := by have := hps.set1 (j + 1); simpa using this
          have hbm2 := hbm.kept (grown_set wc ⟨g, 1, none⟩ (.int .i64 ((j : Int) + 1))) hmg
          have hbn2 := kept27 hbn (grown_set wc ⟨g, 1, none⟩ (.int .i64 ((j : Int) + 1))) hne
          have HGR2 : Hid (w.grownBy (wc.setCell ⟨g, 1, none⟩ (.int .i64 ((j : Int) + 1))) (some g)) := grown_trans HGR.out (grown_set _ _ _)
          go_upto_region 16 with fail
          generalize wc.setCell ⟨g, 1, none⟩ (.int .i64 ((j : Int) + 1)) = w7 at *
          obtain ⟨⟨q0, q1, q2, q3⟩, p0, p1, p2, p3⟩ := block4c hbm2
          go_wp2_with fail
          refine (byteOf_any d _).mono ?_
          rintro _ w8 ⟨rfl, hb8⟩
          have hbn8 := kept27 hbn2 (grown_below hb8 (some g)) hne
          have hps8 := hps2.next hb8
          have HGR8 : Hid (w.grownBy w8 (some g)) := grown_trans HGR2.out (grown_below hb8 _)
          clear hb8
          obtain ⟨⟨z0, z1, z2, z3, z4, z5⟩, y0, y1, y2, y3, y4, y5⟩ := block6 hbn8
          go_wp2_with fail
          refine bodyPost_ret (v := .tuple #[.agg #[.int .i64 3, .int .u64 ((d).1.toNat : Int), .int .u64 ((d).2.1.toNat : Int), .int .u64 ((d).2.2.1.toNat : Int), .int .u64 ((d).2.2.2.toNat : Int), .slice none 0 0], .int .i64 0]) (by simp [results, Try.results73, go_sem, z0, z1, z2, z3, z4, z5]) rfl ⟨by rw [HS.out]; rfl, ?_, ?_⟩
          · rw [HS.out]; exact ((((((hps8.other _ (Ne.symm hne) _).other _ (Ne.symm hne) _).other _ (Ne.symm hne) _).other _ (Ne.symm hne) _).other _ (Ne.symm hne) _).other _ (Ne.symm hne) _)
          · exact grown_late (grown_late (grown_late (grown_late (grown_late (grown_late HGR8.out _ hnw _) _ hnw _) _ hnw _) _ hnw _) _ hnw _) _ hnw _
    · have hrd := itemR_rd s j hj
      have hitem := fun W hP' => item_any g s j k W hP' hj hs
      have hsplit : r = if (itemR s j).2.2 ≠ 0 then (c, (itemR s j).2.1, (itemR s j).2.2) else itemsR s s.size (itemR s j).2.1 (join c (itemR s j).1) := by
        rw [HL.out.eq]
        conv => lhs; unfold itemsR
        rw [if_neg h93]
      obtain ⟨R, HRR⟩ : ∃ R, Hid (itemR s j = R) := ⟨_, (rfl : itemR s j = itemR s j)⟩
      rw [HRR.out] at hrd hitem hsplit
      obtain ⟨d, j1, e1⟩ := R
      have hj1 := hrd.hi
      have hup := hrd.up
      simp only at hj1 hup hsplit
      have h93b : ((bt s j : Int) != 93) = true := by simp; omega
      obtain ⟨x, HX⟩ : ∃ x, Hid (bt s j = x) := ⟨_, (rfl : bt s j = bt s j)⟩
      rw [HX.out] at hseen h93b
      clear h93 hrd
      have HSP : Hid (r = if e1 ≠ 0 then (c, j1, e1) else itemsR s s.size j1 (join c d)) := hsplit
      clear hsplit
      go_upto_region 4 with (go_at_call 54; refine hseen.mono ?_; rintro _ wa ⟨rfl, hba⟩)
      have HA : Hid (LS g s k w n m r j c wa) := HL.out.next hba hne hmg
      have HPOS : Hid (posOf g wr = j) := HL.out.ps.pos
      clear hba hseen HL
      have hpa := HA.out.ps
      go_wp2_with fail
      refine (hitem _ hpa).mono ?_
      rintro _ wb ⟨rfl, hpb, hgb⟩
      have hbm0 := HA.out.bm.kept hgb hmg
      have hbn0 := kept27 HA.out.bn hgb hne
      have HGB : Hid (w.grownBy wb (some g)) := grown_trans HA.out.gr hgb
      clear hgb hpa HA hitem
      go_upto_region 5 with fail
      obtain ⟨q, HQ⟩ : ∃ q, Hid (wb.heap.size = q) := ⟨_, (rfl : wb.heap.size = wb.heap.size)⟩
      obtain ⟨wc, HC⟩ : ∃ wc, Hid (wb.alloc (.cells #[.int .u64 ((d).1.toNat : Int), .int .u64 ((d).2.1.toNat : Int), .int .u64 ((d).2.2.1.toNat : Int), .int .u64 ((d).2.2.2.toNat : Int)] 24) = wc) := ⟨_, (rfl : wb.alloc (.cells #[.int .u64 ((d).1.toNat : Int), .int .u64 ((d).2.1.toNat : Int), .int .u64 ((d).2.2.1.toNat : Int), .int .u64 ((d).2.2.2.toNat : Int)] 24) = wb.alloc (.cells #[.int .u64 ((d).1.toNat : Int), .int .u64 ((d).2.1.toNat : Int), .int .u64 ((d).2.2.1.toNat : Int), .int .u64 ((d).2.2.2.toNat : Int)] 24))⟩
      have hbc : Below wb.heap.size wb wc := HC.out ▸ (Below.refl _ wb).alloc (Nat.le_refl _) _
      have hqb : Bc wc q d := by rw [← HC.out, ← HQ.out]; exact block_new wb _
      have hbm := hbm0.kept (grown_below hbc (some g)) hmg
      have hbn := kept27 hbn0 (grown_below hbc (some g)) hne
      have hps := hpb.next hbc
      have HGR : Hid (w.grownBy wc (some g)) := grown_trans HGB.out (grown_below hbc _)
      have hqg : q ≠ g := by have := hpb.lt; rw [HQ.out] at this; omega
      have hqm : q ≠ m := by have := hbm0.lt; rw [HQ.out] at this; omega
      rw [HQ.out, HC.out]
      clear hbc hpb hbm0 hbn0
      by_cases he : e1 = 0
      · subst he
        have hlt := hup rfl
        have HS2 : Hid (r = itemsR s (s.size + 1) j1 (join c d)) := by
          show _ = _
          rw [HSP.out, if_neg (by simp)]
          exact itemsR_more s s.size (s.size + 1) j1 (join c d) hj1 (by omega) (by omega)
        obtain ⟨⟨b0, b1, b2, b3⟩, d0, d1, d2, d3⟩ := block4c hbm
        obtain ⟨⟨q0, q1, q2, q3⟩, p0, p1, p2, p3⟩ := block4c hqb
        go_wp2_with fail
        refine (join_any c d _).mono ?_
        rintro _ wd ⟨rfl, hbd⟩
        have hbm3 := hbm.kept (grown_below hbd (some g)) hmg
        have hbn3 := kept27 hbn (grown_below hbd (some g)) hne
        have hps3 := hps.next hbd
        have HGR3 : Hid (w.grownBy wd (some g)) := grown_trans HGR.out (grown_below hbd _)
        clear hbd b0 b1 b2 b3 d0 d1 d2 d3 q0 q1 q2 q3 p0 p1 p2 p3 hbm hbn hps hqb
        obtain ⟨⟨b0, b1, b2, b3⟩, d0, d1, d2, d3⟩ := block4c hbm3
        go_wp2_with fail
        have hps4 : Ps g s j1 k _ := (((hps3.other ⟨m, 0, none⟩ (Ne.symm hmg) (.int .u64 ((join c d).1.toNat : Int))).other ⟨m, 1, none⟩ (Ne.symm hmg) (.int .u64 ((join c d).2.1.toNat : Int))).other ⟨m, 2, none⟩ (Ne.symm hmg) (.int .u64 ((join c d).2.2.1.toNat : Int))).other ⟨m, 3, none⟩ (Ne.symm hmg) (.int .u64 ((join c d).2.2.2.toNat : Int))
        refine ⟨⟨j1, join c d, hj1, hps4, grown_late (grown_late (grown_late (grown_late HGR3.out _ hmw _) _ hmw _) _ hmw _) _ hmw _, ?_, hbm3.set4 _, HS2.out⟩, ?_⟩
        · exact (Below.heap_setCell _ _ _ _ hnm).trans ((Below.heap_setCell _ _ _ _ hnm).trans ((Below.heap_setCell _ _ _ _ hnm).trans ((Below.heap_setCell _ _ _ _ hnm).trans hbn3)))
        · rw [hps4.pos, HPOS.out]; omega
      · have HS : Hid (setE o r = (0, Cls.empty, j1, e1)) := by
          show _ = _
          rw [HSP.out, if_pos he]; unfold setE; simp [he]
        have heb : ((e1 : Int) != 0) = true := by simp; omega
        clear he hup
        obtain ⟨⟨z0, z1, z2, z3, z4, z5⟩, y0, y1, y2, y3, y4, y5⟩ := block6 hbn
        go_wp2_with fail
        refine bodyPost_ret (v := .tuple #[.agg #[.int .i64 0, .int .u64 0, .int .u64 0, .int .u64 0, .int .u64 0, .slice none 0 0], .int .i64 (e1 : Int)]) (by simp [results, Try.results73, go_sem, z0, z1, z2, z3, z4, z5]) rfl ⟨by rw [HS.out]; rfl, ?_, ?_⟩
        · rw [HS.out]; exact ((((((hps.other _ (Ne.symm hne) _).other _ (Ne.symm hne) _).other _ (Ne.symm hne) _).other _ (Ne.symm hne) _).other _ (Ne.symm hne) _).other _ (Ne.symm hne) _)
        · exact grown_late (grown_late (grown_late (grown_late (grown_late (grown_late HGR.out _ hnw _) _ hnw _) _ hnw _) _ hnw _) _ hnw _) _ hnw _
end Go.Proofs.Ythloedfiomfnbaa
