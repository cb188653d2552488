/-
  The contract of rex.parser's item.
-/
import Derived.Test.YthloedfiomfnbaaPaEsc
namespace Go.Proofs.Ythloedfiomfnbaa
open Go.RowKit
open Cls Txt

theorem grown_late {w w1 : World} {o : Option Nat} (h : w.grownBy w1 o) (a : Addr) (ha : w.heap.size ≤ a.block) (u : Value) : w.grownBy (w1.setCell a u) o :=
  ⟨h.os, h.tape, h.output, by simpa using h.size, fun i hi hne => (Below.heap_setCell _ _ _ _ (fun e => by omega)).trans (h.block i hi hne)⟩
theorem Ps.other {g : Nat} {s : ByteArray} {i : Nat} {k : Value} {W : World} (h : Ps g s i k W) (a : Addr) (ha : g ≠ a.block) (u : Value) : Ps g s i k (W.setCell a u) := (Below.heap_setCell _ _ _ _ ha).trans h
/-- A box with a class. -/
abbrev Bc (W : World) (n : Nat) (c : Cl) : Prop := W.heap[n]? = some (.cells #[.int .u64 ((c).1.toNat : Int), .int .u64 ((c).2.1.toNat : Int), .int .u64 ((c).2.2.1.toNat : Int), .int .u64 ((c).2.2.2.toNat : Int)] 24)
theorem Bc.lt {W : World} {n : Nat} {c : Cl} (h : Bc W n c) : n < W.heap.size := (Array.getElem?_eq_some_iff.1 h).1
theorem Bc.kept {W W' : World} {n g : Nat} {c : Cl} (h : Bc W n c) (hg : W.grownBy W' (some g)) (hne : n ≠ g) : Bc W' n c := (hg.block n h.lt (fun e => hne (by cases e; rfl))).trans h
abbrev GotC (g : Nat) (s : ByteArray) (k : Value) (w : World) (r : Cl × Nat × Nat) : Ending → World → Prop := fun e w' => e = .returned (.tuple #[.agg #[.int .u64 ((r.1).1.toNat : Int), .int .u64 ((r.1).2.1.toNat : Int), .int .u64 ((r.1).2.2.1.toNat : Int), .int .u64 ((r.1).2.2.2.toNat : Int)], .int .i64 (r.2.2 : Int)]) ∧ Ps g s r.2.1 k w' ∧ w.grownBy w' (some g)
theorem itemR_bad {s : ByteArray} {i lo i1 e1 : Nat} (h : charR s i = (lo, i1, e1)) (he : e1 ≠ 0 ∨ bt s i1 ≠ 45) : itemR s i = (range lo lo, i1, e1) := by
  unfold itemR; rw [h]; exact if_pos he
theorem itemR_back {s : ByteArray} {i lo i1 hi i2 : Nat} (h : charR s i = (lo, i1, 0)) (h2 : bt s i1 = 45) (h3 : charR s (i1 + 1) = (hi, i2, 0)) (hl : hi < lo) : itemR s i = (range lo hi, i1 + 1, 6) := by
  unfold itemR; rw [h]; simp only [h3]; rw [if_neg (by simp [h2]), if_pos ⟨trivial, hl⟩]
theorem itemR_two {s : ByteArray} {i lo i1 hi i2 e2 : Nat} (h : charR s i = (lo, i1, 0)) (h2 : bt s i1 = 45) (h3 : charR s (i1 + 1) = (hi, i2, e2)) (hl : ¬ (e2 = 0 ∧ hi < lo)) : itemR s i = (range lo hi, i2, e2) := by
  unfold itemR; rw [h]; simp only [h3]; rw [if_neg (by simp [h2]), if_neg hl]
set_option maxHeartbeats 4000000 in
set_option maxRecDepth 20000 in
theorem item_any (g : Nat) (s : ByteArray) (i : Nat) (k : Value) (w : World) (hP : Ps g s i k w) (hi : i ≤ s.size) (hs : s.size ≤ 300) :
    Calls Try.prog 82 #[.pointer (some ⟨g, 0, none⟩)] w (GotC g s k w (itemR s i)) := by
  have hlt := hP.lt
  have hne : w.heap.size ≠ g := by omega
  obtain ⟨n, HN⟩ : ∃ n, Hid (w.heap.size = n) := ⟨_, (rfl : w.heap.size = w.heap.size)⟩
  obtain ⟨W0, HW⟩ : ∃ W0, Hid (w.alloc (.cells #[.int .u64 0, .int .u64 0, .int .u64 0, .int .u64 0] 24) = W0) := ⟨_, (rfl : w.alloc (.cells #[.int .u64 0, .int .u64 0, .int .u64 0, .int .u64 0] 24) = w.alloc (.cells #[.int .u64 0, .int .u64 0, .int .u64 0, .int .u64 0] 24))⟩
  have hB0 : Below w.heap.size w W0 := HW.out ▸ (Below.refl _ w).alloc (Nat.le_refl _) _
  have hP0 : Ps g s i k W0 := hP.next hB0
  have hG0 : w.grownBy W0 (some g) := grown_below hB0 _
  have hC0 : Bc W0 n Cls.empty := by rw [← HW.out, ← HN.out]; exact block_new w _
  have hnw : w.heap.size ≤ n := by rw [HN.out]; exact Nat.le_refl _
  rw [HN.out] at hne
  have hrd := charR_rd s i hi
  have hchar := pchar_any g s i k W0 hP0 hi hs
  obtain ⟨r, HR⟩ : ∃ r, Hid (charR s i = r) := ⟨_, (rfl : charR s i = charR s i)⟩
  rw [HR.out] at hrd hchar
  obtain ⟨lo, i1, e1⟩ := r
  have hv := hrd.v
  have hi1 := hrd.hi
  simp only at hv hi1
  clear hrd hP hlt hB0
  have honly := fun W => only_any lo hv W
  by_cases he : e1 = 0
  · subst he
    by_cases h45 : bt s i1 = 45
    · have hlt2 := bt_is h45 (by decide)
      have hpass := fun W hP' => pass_any g s i1 k 45 W hP' hi1 hs
      rw [if_pos h45, decide_eq_true h45, show ((45 : Nat) : Int) = 45 from rfl] at hpass
      have hrd2 := charR_rd s (i1 + 1) hlt2
      have hchar2 := fun W hP' => pchar_any g s (i1 + 1) k W hP' hlt2 hs
      obtain ⟨r, HR2⟩ : ∃ r, Hid (charR s (i1 + 1) = r) := ⟨_, (rfl : charR s (i1 + 1) = charR s (i1 + 1))⟩
      rw [HR2.out] at hrd2 hchar2
      obtain ⟨hi', i2, e2⟩ := r
      have hv2 := hrd2.v
      have hi2 := hrd2.hi
      simp only at hv2 hi2
      clear hrd2
      have hw : IntKind.i64.wrap (lo : Int) = (lo : Int) := by unfold IntKind.wrap; simp [IntKind.bits, IntKind.signed]; omega
      have hw2 : IntKind.i64.wrap (hi' : Int) = (hi' : Int) := by unfold IntKind.wrap; simp [IntKind.bits, IntKind.signed]; omega
      have hrange := fun W => range_any (lo : Int) (hi' : Int) (by omega) (by omega) (by omega) W
      by_cases hback : e2 = 0 ∧ hi' < lo
      · obtain ⟨rfl, hback⟩ := hback
        have HC : Hid (itemR s i = (range lo hi', i1 + 1, 6)) := itemR_back HR.out h45 HR2.out hback
        rw [HC.out]
        clear h45
        go_enter Try.func82, Try.ntmps82
        go_upto_region 1 with fail
        rw [HN.out, HW.out]
        go_upto_region 4 with (first | (go_at_call 75; refine hchar.mono ?_; rintro _ w1 ⟨rfl, hP1, hG1⟩) | (go_at_call 36; refine (hpass _ hP1).mono ?_; rintro _ w2 ⟨rfl, hP2, hG2⟩))
        have hC2 := (hC0.kept hG1 hne).kept hG2 hne
        have HG2 : Hid (w.grownBy w2 (some g)) := grown_trans (grown_trans hG0 hG1) hG2
        obtain ⟨⟨_, c1, _⟩, _, f1, _⟩ := hP2.cells
        clear hG1 hG2 hchar hpass
        go_upto_region 6 with (go_at_call 75; refine (hchar2 _ hP2).mono ?_; rintro _ w3 ⟨rfl, hP3, hG3⟩)
        have hC3 := hC2.kept hG3 hne
        have HG3 : Hid (w.grownBy w3 (some g)) := grown_trans HG2.out hG3
        obtain ⟨⟨_, e1, _⟩, _, g1, _⟩ := hP3.cells
        have hP4 : Ps g s (i1 + 1) k (w3.setCell ⟨g, 1, none⟩ (.int .i64 ((i1 : Int) + 1))) := by have := hP3.set1 (i1 + 1); simpa using this
        have hC4 := hC3.kept (grown_set w3 ⟨g, 1, none⟩ (.int .i64 ((i1 : Int) + 1))) hne
        have HG4 : Hid (w.grownBy (w3.setCell ⟨g, 1, none⟩ (.int .i64 ((i1 : Int) + 1))) (some g)) := grown_trans HG3.out (grown_set _ _ _)
        clear hG3 hchar2
        go_upto_region 9 with fail
        generalize w3.setCell ⟨g, 1, none⟩ (.int .i64 ((i1 : Int) + 1)) = w4 at *
        go_wp2_with fail
        refine (hrange _).mono ?_
        rintro _ w5 ⟨rfl, hb5⟩
        have hC5 := hC4.kept (grown_below hb5 (some g)) hne
        have HG5 : Hid (w.grownBy w5 (some g)) := grown_trans HG4.out (grown_below hb5 _)
        have hP5 := hP4.next hb5
        clear hb5
        obtain ⟨⟨z0, z1, z2, z3⟩, y0, y1, y2, y3⟩ := block4c hC5
        go_wp2_with fail
        refine bodyPost_ret (v := .tuple #[.agg #[.int .u64 ((range lo hi').1.toNat : Int), .int .u64 ((range lo hi').2.1.toNat : Int), .int .u64 ((range lo hi').2.2.1.toNat : Int), .int .u64 ((range lo hi').2.2.2.toNat : Int)], .int .i64 6]) (by simp [results, Try.results82, go_sem, z0, z1, z2, z3]) rfl ⟨rfl, ?_, ?_⟩
        · exact (((hP5.other _ (Ne.symm hne) _).other _ (Ne.symm hne) _).other _ (Ne.symm hne) _).other _ (Ne.symm hne) _
        · exact grown_late (grown_late (grown_late (grown_late HG5.out _ hnw _) _ hnw _) _ hnw _) _ hnw _
      · have HC : Hid (itemR s i = (range lo hi', i2, e2)) := itemR_two HR.out h45 HR2.out hback
        rw [HC.out]
        clear h45
        go_enter Try.func82, Try.ntmps82
        go_upto_region 1 with fail
        rw [HN.out, HW.out]
        go_upto_region 4 with (first | (go_at_call 75; refine hchar.mono ?_; rintro _ w1 ⟨rfl, hP1, hG1⟩) | (go_at_call 36; refine (hpass _ hP1).mono ?_; rintro _ w2 ⟨rfl, hP2, hG2⟩))
        have hC2 := (hC0.kept hG1 hne).kept hG2 hne
        have HG2 : Hid (w.grownBy w2 (some g)) := grown_trans (grown_trans hG0 hG1) hG2
        obtain ⟨⟨_, c1, _⟩, _, f1, _⟩ := hP2.cells
        clear hG1 hG2 hchar hpass
        go_upto_region 6 with (go_at_call 75; refine (hchar2 _ hP2).mono ?_; rintro _ w3 ⟨rfl, hP3, hG3⟩)
        have hC3 := hC2.kept hG3 hne
        have HG3 : Hid (w.grownBy w3 (some g)) := grown_trans HG2.out hG3
        clear hG3 hchar2
        by_cases hq : e2 = 0
        · subst hq
          have hq2 : ¬ ((hi' : Int) < (lo : Int)) := by omega
          clear hback
          go_wp2_with fail
          refine (hrange _).mono ?_
          rintro _ w5 ⟨rfl, hb5⟩
          have hC5 := hC3.kept (grown_below hb5 (some g)) hne
          have HG5 : Hid (w.grownBy w5 (some g)) := grown_trans HG3.out (grown_below hb5 _)
          have hP5 := hP3.next hb5
          clear hb5
          obtain ⟨⟨z0, z1, z2, z3⟩, y0, y1, y2, y3⟩ := block4c hC5
          go_wp2_with fail
          refine bodyPost_ret (v := .tuple #[.agg #[.int .u64 ((range lo hi').1.toNat : Int), .int .u64 ((range lo hi').2.1.toNat : Int), .int .u64 ((range lo hi').2.2.1.toNat : Int), .int .u64 ((range lo hi').2.2.2.toNat : Int)], .int .i64 0]) (by simp [results, Try.results82, go_sem, z0, z1, z2, z3]) rfl ⟨rfl, ?_, ?_⟩
          · exact (((hP5.other _ (Ne.symm hne) _).other _ (Ne.symm hne) _).other _ (Ne.symm hne) _).other _ (Ne.symm hne) _
          · exact grown_late (grown_late (grown_late (grown_late HG5.out _ hnw _) _ hnw _) _ hnw _) _ hnw _
        · have hq2 : ((e2 : Int) == 0) = false := by simp; omega
          clear hback hq
          go_wp2_with fail
          refine (hrange _).mono ?_
          rintro _ w5 ⟨rfl, hb5⟩
          have hC5 := hC3.kept (grown_below hb5 (some g)) hne
          have HG5 : Hid (w.grownBy w5 (some g)) := grown_trans HG3.out (grown_below hb5 _)
          have hP5 := hP3.next hb5
          clear hb5
          obtain ⟨⟨z0, z1, z2, z3⟩, y0, y1, y2, y3⟩ := block4c hC5
          go_wp2_with fail
          refine bodyPost_ret (v := .tuple #[.agg #[.int .u64 ((range lo hi').1.toNat : Int), .int .u64 ((range lo hi').2.1.toNat : Int), .int .u64 ((range lo hi').2.2.1.toNat : Int), .int .u64 ((range lo hi').2.2.2.toNat : Int)], .int .i64 (e2 : Int)]) (by simp [results, Try.results82, go_sem, z0, z1, z2, z3]) rfl ⟨rfl, ?_, ?_⟩
          · exact (((hP5.other _ (Ne.symm hne) _).other _ (Ne.symm hne) _).other _ (Ne.symm hne) _).other _ (Ne.symm hne) _
          · exact grown_late (grown_late (grown_late (grown_late HG5.out _ hnw _) _ hnw _) _ hnw _) _ hnw _
    · have HC : Hid (itemR s i = (range lo lo, i1, 0)) := itemR_bad HR.out (Or.inr h45)
      have hpass := fun W hP' => pass_any g s i1 k 45 W hP' hi1 hs
      rw [if_neg h45, decide_eq_false h45, show ((45 : Nat) : Int) = 45 from rfl] at hpass
      clear h45
      rw [HC.out]
      go_enter Try.func82, Try.ntmps82
      go_upto_region 1 with fail
      rw [HN.out, HW.out]
      go_upto_region 3 with (first | (go_at_call 75; refine hchar.mono ?_; rintro _ w1 ⟨rfl, hP1, hG1⟩) | (go_at_call 36; refine (hpass _ hP1).mono ?_; rintro _ w2 ⟨rfl, hP2, hG2⟩))
      have hC2 := (hC0.kept hG1 hne).kept hG2 hne
      have HG2 : Hid (w.grownBy w2 (some g)) := grown_trans (grown_trans hG0 hG1) hG2
      clear hG1 hG2 hchar hpass
      go_wp2_with fail
      refine (honly _).mono ?_
      rintro _ w3 ⟨rfl, hb3⟩
      have hC3 := hC2.kept (grown_below hb3 (some g)) hne
      have HG3 : Hid (w.grownBy w3 (some g)) := grown_trans HG2.out (grown_below hb3 _)
      have hP3 := hP2.next hb3
      clear hb3
      obtain ⟨⟨z0, z1, z2, z3⟩, y0, y1, y2, y3⟩ := block4c hC3
      go_wp2_with fail
      refine bodyPost_ret (v := .tuple #[.agg #[.int .u64 ((range lo lo).1.toNat : Int), .int .u64 ((range lo lo).2.1.toNat : Int), .int .u64 ((range lo lo).2.2.1.toNat : Int), .int .u64 ((range lo lo).2.2.2.toNat : Int)], .int .i64 0]) (by simp [results, Try.results82, go_sem, z0, z1, z2, z3]) rfl ⟨rfl, ?_, ?_⟩
      · exact (((hP3.other _ (Ne.symm hne) _).other _ (Ne.symm hne) _).other _ (Ne.symm hne) _).other _ (Ne.symm hne) _
      · exact grown_late (grown_late (grown_late (grown_late HG3.out _ hnw _) _ hnw _) _ hnw _) _ hnw _
  · have HC : Hid (itemR s i = (range lo lo, i1, e1)) := itemR_bad HR.out (Or.inl he)
    have heb : ((e1 : Int) != 0) = true := by simp; omega
    clear he
    rw [HC.out]
    go_enter Try.func82, Try.ntmps82
    go_upto_region 1 with fail
    rw [HN.out, HW.out]
    go_upto_region 3 with (go_at_call 75; refine hchar.mono ?_; rintro _ w1 ⟨rfl, hP1, hG1⟩)
    have hC2 := hC0.kept hG1 hne
    have HG2 : Hid (w.grownBy w1 (some g)) := grown_trans hG0 hG1
    have hP2 := hP1
    clear hG1 hchar
    go_wp2_with fail
    refine (honly _).mono ?_
    rintro _ w3 ⟨rfl, hb3⟩
    have hC3 := hC2.kept (grown_below hb3 (some g)) hne
    have HG3 : Hid (w.grownBy w3 (some g)) := grown_trans HG2.out (grown_below hb3 _)
    have hP3 := hP2.next hb3
    clear hb3
    obtain ⟨⟨z0, z1, z2, z3⟩, y0, y1, y2, y3⟩ := block4c hC3
    go_wp2_with fail
    refine bodyPost_ret (v := .tuple #[.agg #[.int .u64 ((range lo lo).1.toNat : Int), .int .u64 ((range lo lo).2.1.toNat : Int), .int .u64 ((range lo lo).2.2.1.toNat : Int), .int .u64 ((range lo lo).2.2.2.toNat : Int)], .int .i64 (e1 : Int)]) (by simp [results, Try.results82, go_sem, z0, z1, z2, z3]) rfl ⟨rfl, ?_, ?_⟩
    · exact (((hP3.other _ (Ne.symm hne) _).other _ (Ne.symm hne) _).other _ (Ne.symm hne) _).other _ (Ne.symm hne) _
    · exact grown_late (grown_late (grown_late (grown_late HG3.out _ hnw _) _ hnw _) _ hnw _) _ hnw _
end Go.Proofs.Ythloedfiomfnbaa
