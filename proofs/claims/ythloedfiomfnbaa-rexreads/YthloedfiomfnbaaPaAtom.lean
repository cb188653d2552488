/-
  The contract of rex.parser's atom.
-/
import Derived.Test.YthloedfiomfnbaaPaGroup
namespace Go.Proofs.Ythloedfiomfnbaa
open Go.RowKit
open Cls Txt Rex

def atomR (s : ByteArray) (G : Nat → Res) (i : Nat) : Res :=
  if bt s i = 40 then G i else if bt s i = 91 then (.mk (setR s (i + 1)).1 (setR s (i + 1)).2.1 [], (setR s (i + 1)).2.2.1, (setR s (i + 1)).2.2.2) else if bt s i = 46 then (.mk 3 dot [], i + 1, 0) else (.mk 3 (range (charR s i).1 (charR s i).1) [], (charR s i).2.1, (charR s i).2.2)
theorem setE_kind (o : Bool) (r : Cl × Nat × Nat) : (setE o r).1 = 0 ∨ (setE o r).1 = 1 ∨ (setE o r).1 = 3 := by
  unfold setE
  repeat' split
  all_goals simp
theorem setR_kind (s : ByteArray) (i : Nat) : (setR s i).1 = 0 ∨ (setR s i).1 = 1 ∨ (setR s i).1 = 3 := by
  unfold setR; split <;> exact setE_kind _ _

set_option maxHeartbeats 2000000 in
set_option maxRecDepth 20000 in
theorem atom_any (s : ByteArray) (hs : s.size ≤ 300) (k : Value) (G : Nat → Res) (hG : GC s k G) : PC 67 s k (atomR s G) := by
  intro g i w hP hi
  have hlt := hP.lt
  have hne : w.heap.size ≠ g := by omega
  obtain ⟨n, HN⟩ : ∃ n, Hid (w.heap.size = n) := ⟨_, (rfl : w.heap.size = w.heap.size)⟩
  obtain ⟨W0, HW⟩ : ∃ W0, Hid (w.alloc (.cells #[.int .i64 0, .int .u64 0, .int .u64 0, .int .u64 0, .int .u64 0, .slice none 0 0] 27) = W0) := ⟨_, (rfl : w.alloc (.cells #[.int .i64 0, .int .u64 0, .int .u64 0, .int .u64 0, .int .u64 0, .slice none 0 0] 27) = w.alloc (.cells #[.int .i64 0, .int .u64 0, .int .u64 0, .int .u64 0, .int .u64 0, .slice none 0 0] 27))⟩
  have hB0 : Below w.heap.size w W0 := HW.out ▸ (Below.refl _ w).alloc (Nat.le_refl _) _
  have hP0 : Ps g s i k W0 := hP.next hB0
  have HG0 : Hid (w.grownBy W0 (some g)) := grown_below hB0 _
  have hC0 : W0.heap[n]? = some (.cells #[.int .i64 0, .int .u64 0, .int .u64 0, .int .u64 0, .int .u64 0, .slice none 0 0] 27) := by rw [← HW.out, ← HN.out]; exact block_new w _
  have hnw : w.heap.size ≤ n := by rw [HN.out]; exact Nat.le_refl _
  rw [HN.out] at hne
  clear hP hB0
  have HGC : Hid (GC s k G) := hG
  clear hG
  obtain ⟨rr, HRR⟩ : ∃ rr, Hid (atomR s G i = rr) := ⟨_, (rfl : atomR s G i = atomR s G i)⟩
  rw [HRR.out]
  have hseen := fun W hP' => seen_any g s i k W hP' hi
  have hpass91 := fun W hP' => pass_any g s i k 91 W hP' hi hs
  rw [show ((91 : Nat) : Int) = 91 from rfl] at hpass91
  have hpass46 := fun W hP' => pass_any g s i k 46 W hP' hi hs
  rw [show ((46 : Nat) : Int) = 46 from rfl] at hpass46
  by_cases h40 : bt s i = 40
  · have HF : Hid (rr = G i) := by show _ = _; rw [← HRR.out]; unfold atomR; rw [if_pos h40]
    have hlti := bt_is h40 (by decide)
    rw [h40, show ((40 : Nat) : Int) = 40 from rfl] at hseen
    clear h40 hpass91 hpass46
    obtain ⟨x, HX⟩ : ∃ x, Hid (G i = x) := ⟨_, (rfl : G i = G i)⟩
    rw [HX.out] at HF
    go_enter Try.func67, Try.ntmps67
    go_upto_region 1 with fail
    rw [HN.out, HW.out]
    go_upto_region 2 with (go_at_call 54; refine (hseen _ hP0).mono ?_; rintro _ w1 ⟨rfl, hb1⟩)
    have hP1 := hP0.next hb1
    have hC1 := kept27 hC0 (grown_below hb1 (some g)) hne
    have HG1 : Hid (w.grownBy w1 (some g)) := grown_trans HG0.out (grown_below hb1 _)
    have hgr := HGC.out g i w1 hP1 hlti
    rw [HX.out] at hgr
    clear hb1 hseen hP0 hC0
    go_wp2_with fail
    refine hgr.mono ?_
    rintro _ w2 ⟨q, rfl, hy2, hP2, hg2⟩
    have hC2 := kept27 hC1 hg2 hne
    have hln := in_heap hC1
    have hs1 := HG1.out.size
    have HG2 : Hid (w.grownBy w2 (some g)) := grown_trans HG1.out hg2
    have HY2 : Hid (Ry w2 (fun b => w.heap.size ≤ b ∧ b ≠ n ∧ b < w2.heap.size) (v6 q) x.1) := hy2.move (fun b hb => ⟨by omega, by omega, hb.2⟩) (fun b hb => rfl)
    clear hgr hg2 hy2 hC1 hP1
    obtain ⟨⟨z0, z1, z2, z3, z4, z5⟩, y0, y1, y2, y3, y4, y5⟩ := block6 hC2
    go_wp2_with fail
    refine bodyPost_ret (v := .tuple #[.agg #[.int .i64 q.1, .int .u64 (q.2.1.1.toNat : Int), .int .u64 (q.2.1.2.1.toNat : Int), .int .u64 (q.2.1.2.2.1.toNat : Int), .int .u64 (q.2.1.2.2.2.toNat : Int), .slice q.2.2.1 q.2.2.2.1 q.2.2.2.2], .int .i64 (x.2.2 : Int)]) (by simp [results, Try.results67, go_sem, z0, z1, z2, z3, z4, z5]) rfl ⟨q, by rw [HF.out], ?_, ?_, ?_⟩
    · rw [HF.out]
      exact HY2.out.move (fun b hb => ⟨hb.1, by show b < (put6 _ n _ _ _ _ _ _).heap.size; rw [put6_size]; exact hb.2.2⟩) (fun b hb => put6_other _ n _ _ _ _ _ _ b hb.2.1)
    · rw [HF.out]; exact put6_ps hP2 n hne _ _ _ _ _ _
    · exact put6_grown HG2.out n hnw _ _ _ _ _ _
  have hb40 : ((bt s i : Int) == 40) = false := by simp; omega
  by_cases h91 : bt s i = 91
  · have HF : Hid (rr = (.mk (setR s (i + 1)).1 (setR s (i + 1)).2.1 [], (setR s (i + 1)).2.2.1, (setR s (i + 1)).2.2.2)) := by show _ = _; rw [← HRR.out]; unfold atomR; rw [if_neg h40, if_pos h91]
    have hlti := bt_is h91 (by decide)
    rw [if_pos h91, decide_eq_true h91] at hpass91
    have hset := fun W hP' => set_any g s (i + 1) k W hP' hlti hs
    have hkd := setR_kind s (i + 1)
    obtain ⟨r, HR⟩ : ∃ r, Hid (setR s (i + 1) = r) := ⟨_, (rfl : setR s (i + 1) = setR s (i + 1))⟩
    rw [HR.out] at hset HF hkd
    obtain ⟨rk, rc, rp, re⟩ := r
    have hk2 : -9223372036854775808 ≤ rk ∧ rk ≤ 9223372036854775807 := by simp only at hkd; omega
    clear hkd h40 h91 hpass46
    obtain ⟨bx, HBX⟩ : ∃ bx, Hid (bt s i = bx) := ⟨_, (rfl : bt s i = bt s i)⟩
    rw [HBX.out] at hseen hb40
    go_enter Try.func67, Try.ntmps67
    go_upto_region 1 with fail
    rw [HN.out, HW.out]
    go_upto_region 4 with (first | (go_at_call 54; refine (hseen _ hP0).mono ?_; rintro _ w1 ⟨rfl, hb1⟩) | (go_at_call 36; refine (hpass91 _ (hP0.next hb1)).mono ?_; rintro _ w2 ⟨rfl, hP2, hg2⟩))
    have hC2 := kept27 (kept27 hC0 (grown_below hb1 (some g)) hne) hg2 hne
    have HG2 : Hid (w.grownBy w2 (some g)) := grown_trans (grown_trans HG0.out (grown_below hb1 _)) hg2
    clear hb1 hseen hP0 hC0 hg2 hpass91
    go_wp2_with fail
    refine (hset _ hP2).mono ?_
    rintro _ w3 ⟨rfl, hP3, hg3⟩
    have hC3 := kept27 hC2 hg3 hne
    have HG3 : Hid (w.grownBy w3 (some g)) := grown_trans HG2.out hg3
    clear hset hg3
    obtain ⟨⟨z0, z1, z2, z3, z4, z5⟩, y0, y1, y2, y3, y4, y5⟩ := block6 hC3
    go_wp2_with fail
    refine bodyPost_ret (v := .tuple #[.agg #[.int .i64 rk, .int .u64 ((rc).1.toNat : Int), .int .u64 ((rc).2.1.toNat : Int), .int .u64 ((rc).2.2.1.toNat : Int), .int .u64 ((rc).2.2.2.toNat : Int), .slice none 0 0], .int .i64 (re : Int)]) (by simp [results, Try.results67, go_sem, z0, z1, z2, z3, z4, z5]) rfl ⟨(rk, rc, none, 0, 0), by rw [HF.out], ?_, ?_, ?_⟩
    · rw [HF.out]; exact Ry.leaf rk (rc) hk2
    · rw [HF.out]; exact put6_ps hP3 n hne _ _ _ _ _ _
    · exact put6_grown HG3.out n hnw _ _ _ _ _ _
  rw [if_neg h91, decide_eq_false h91] at hpass91
  by_cases h46 : bt s i = 46
  · have HF : Hid (rr = (.mk 3 dot [], i + 1, 0)) := by show _ = _; rw [← HRR.out]; unfold atomR; rw [if_neg h40, if_neg h91, if_pos h46]
    rw [if_pos h46, decide_eq_true h46] at hpass46
    clear h40 h91 h46
    obtain ⟨bx, HBX⟩ : ∃ bx, Hid (bt s i = bx) := ⟨_, (rfl : bt s i = bt s i)⟩
    rw [HBX.out] at hseen hb40
    have hdot := fun W => dot_any W
    obtain ⟨D, HDT⟩ : ∃ D, Hid (dot = D) := ⟨_, (rfl : dot = dot)⟩
    rw [HDT.out] at hdot HF
    go_enter Try.func67, Try.ntmps67
    go_upto_region 1 with fail
    rw [HN.out, HW.out]
    go_upto_region 5 with (first | (go_at_call 54; refine (hseen _ hP0).mono ?_; rintro _ w1 ⟨rfl, hb1⟩) | (go_at_call 36; refine (hpass91 _ (hP0.next hb1)).mono ?_; rintro _ w2 ⟨rfl, hP2, hg2⟩))
    go_upto_region 6 with (go_at_call 36; refine (hpass46 _ hP2).mono ?_; rintro _ w3 ⟨rfl, hP3, hg3⟩)
    have hC3 := kept27 (kept27 (kept27 hC0 (grown_below hb1 (some g)) hne) hg2 hne) hg3 hne
    have HG3 : Hid (w.grownBy w3 (some g)) := grown_trans (grown_trans (grown_trans HG0.out (grown_below hb1 _)) hg2) hg3
    clear hb1 hseen hP0 hC0 hg2 hg3 hpass91 hpass46 hP2
    go_wp2_with fail
    refine (hdot _).mono ?_
    rintro _ w4 ⟨rfl, hb4⟩
    have hC4 := kept27 hC3 (grown_below hb4 (some g)) hne
    have hP4 := hP3.next hb4
    have HG4 : Hid (w.grownBy w4 (some g)) := grown_trans HG3.out (grown_below hb4 _)
    clear hb4
    go_wp2_with fail
    refine (byteOf_any D _).mono ?_
    rintro _ w5 ⟨rfl, hb5⟩
    have hC5 := kept27 hC4 (grown_below hb5 (some g)) hne
    have hP5 := hP4.next hb5
    have HG5 : Hid (w.grownBy w5 (some g)) := grown_trans HG4.out (grown_below hb5 _)
    clear hb5
    obtain ⟨⟨z0, z1, z2, z3, z4, z5⟩, y0, y1, y2, y3, y4, y5⟩ := block6 hC5
    go_wp2_with fail
    refine bodyPost_ret (v := .tuple #[.agg #[.int .i64 3, .int .u64 ((D).1.toNat : Int), .int .u64 ((D).2.1.toNat : Int), .int .u64 ((D).2.2.1.toNat : Int), .int .u64 ((D).2.2.2.toNat : Int), .slice none 0 0], .int .i64 0]) (by simp [results, Try.results67, go_sem, z0, z1, z2, z3, z4, z5]) rfl ⟨(3, D, none, 0, 0), by rw [HF.out]; rfl, ?_, ?_, ?_⟩
    · rw [HF.out]; exact Ry.leaf 3 (D) (by omega)
    · rw [HF.out]; exact put6_ps hP5 n hne _ _ _ _ _ _
    · exact put6_grown HG5.out n hnw _ _ _ _ _ _
  · have HF : Hid (rr = (.mk 3 (range (charR s i).1 (charR s i).1) [], (charR s i).2.1, (charR s i).2.2)) := by show _ = _; rw [← HRR.out]; unfold atomR; rw [if_neg h40, if_neg h91, if_neg h46]
    rw [if_neg h46, decide_eq_false h46] at hpass46
    clear h40 h91 h46
    obtain ⟨bx, HBX⟩ : ∃ bx, Hid (bt s i = bx) := ⟨_, (rfl : bt s i = bt s i)⟩
    rw [HBX.out] at hseen hb40
    have hchar := fun W hP' => pchar_any g s i k W hP' hi hs
    have hrd := (charR_rd s i hi).v
    obtain ⟨r, HR⟩ : ∃ r, Hid (charR s i = r) := ⟨_, (rfl : charR s i = charR s i)⟩
    rw [HR.out] at hchar HF hrd
    obtain ⟨rv, rp, re⟩ := r
    simp only at hrd
    have honly := fun W => only_any rv hrd W
    obtain ⟨D, HDT⟩ : ∃ D, Hid (range (rv : Int) (rv : Int) = D) := ⟨_, (rfl : range (rv : Int) (rv : Int) = range (rv : Int) (rv : Int))⟩
    simp only [HDT.out] at honly HF
    go_enter Try.func67, Try.ntmps67
    go_upto_region 1 with fail
    rw [HN.out, HW.out]
    go_upto_region 5 with (first | (go_at_call 54; refine (hseen _ hP0).mono ?_; rintro _ w1 ⟨rfl, hb1⟩) | (go_at_call 36; refine (hpass91 _ (hP0.next hb1)).mono ?_; rintro _ w2 ⟨rfl, hP2, hg2⟩))
    go_upto_region 7 with (go_at_call 36; refine (hpass46 _ hP2).mono ?_; rintro _ w3 ⟨rfl, hP3, hg3⟩)
    go_upto_region 8 with (go_at_call 75; refine (hchar _ hP3).mono ?_; rintro _ w3b ⟨rfl, hP3b, hg3b⟩)
    have hC3 := kept27 (kept27 (kept27 (kept27 hC0 (grown_below hb1 (some g)) hne) hg2 hne) hg3 hne) hg3b hne
    have HG3 : Hid (w.grownBy w3b (some g)) := grown_trans (grown_trans (grown_trans (grown_trans HG0.out (grown_below hb1 _)) hg2) hg3) hg3b
    clear hb1 hseen hP0 hC0 hg2 hg3 hg3b hpass91 hpass46 hP2 hP3 hchar
    go_wp2_with fail
    refine (honly _).mono ?_
    rintro _ w4 ⟨rfl, hb4⟩
    have hC4 := kept27 hC3 (grown_below hb4 (some g)) hne
    have hP4 := hP3b.next hb4
    have HG4 : Hid (w.grownBy w4 (some g)) := grown_trans HG3.out (grown_below hb4 _)
    clear hb4
    go_wp2_with fail
    refine (byteOf_any D _).mono ?_
    rintro _ w5 ⟨rfl, hb5⟩
    have hC5 := kept27 hC4 (grown_below hb5 (some g)) hne
    have hP5 := hP4.next hb5
    have HG5 : Hid (w.grownBy w5 (some g)) := grown_trans HG4.out (grown_below hb5 _)
    clear hb5
    obtain ⟨⟨z0, z1, z2, z3, z4, z5⟩, y0, y1, y2, y3, y4, y5⟩ := block6 hC5
    go_wp2_with fail
    refine bodyPost_ret (v := .tuple #[.agg #[.int .i64 3, .int .u64 ((D).1.toNat : Int), .int .u64 ((D).2.1.toNat : Int), .int .u64 ((D).2.2.1.toNat : Int), .int .u64 ((D).2.2.2.toNat : Int), .slice none 0 0], .int .i64 (re : Int)]) (by simp [results, Try.results67, go_sem, z0, z1, z2, z3, z4, z5]) rfl ⟨(3, D, none, 0, 0), by rw [HF.out], ?_, ?_, ?_⟩
    · rw [HF.out]; exact Ry.leaf 3 (D) (by omega)
    · rw [HF.out]; exact put6_ps hP5 n hne _ _ _ _ _ _
    · exact put6_grown HG5.out n hnw _ _ _ _ _ _
end Go.Proofs.Ythloedfiomfnbaa
