/-
  The contracts of rex.parser's twoDigits, escaped and char.
-/
import Derived.Test.YthloedfiomfnbaaPaSeen
namespace Go.Proofs.Ythloedfiomfnbaa
open Go.RowKit
open Cls Txt

theorem digit_at : ∀ b : Fin 256, firstIdx ⟨#[48, 49, 50, 51, 52, 53, 54, 55, 56, 57, 97, 98, 99, 100, 101, 102]⟩ b.val.toUInt8 = dg b.val := by decide +kernel
theorem shl16 : ∀ a : Fin 16, IntKind.u8.wrap ((a.val : Int) * 16) = ((16 * a.val : Nat) : Int) := by decide +kernel
theorem or16 : ∀ a b : Fin 16, bits .or .u8 ((a.val : Int) * 16) (b.val : Int) = ((16 * a.val + b.val : Nat) : Int) := by decide +kernel
theorem or0 : ∀ b : Fin 16, bits .or .u8 0 (b.val : Int) = (b.val : Int) := by decide +kernel
theorem ret_two {a b : Nat} {x : Nat × Nat × Nat} (h1 : a = x.1) (h2 : b = x.2.2) : Ending.returned (.tuple #[.int .u8 (a : Int), .int .i64 (b : Int)]) = .returned (.tuple #[.int .u8 (x.1 : Int), .int .i64 (x.2.2 : Int)]) := by subst h1 h2; rfl

set_option maxHeartbeats 2000000 in
theorem two_digits (g : Nat) (s : ByteArray) (i : Nat) (k : Value) (w : World) (hP : Ps g s i k w) (hi : i ≤ s.size) (hs : s.size ≤ 300) :
    Calls Try.prog 88 #[.pointer (some ⟨g, 0, none⟩)] w fun e w' => e = .returned (.tuple #[.int .u8 ((twoR s i).1 : Int), .int .i64 ((twoR s i).2.2 : Int)]) ∧ Ps g s (twoR s i).2.1 k w' ∧ w.grownBy w' (some g) := by
  have hix := fun (j : Nat) (W : World) => ixb_any ⟨#[48, 49, 50, 51, 52, 53, 54, 55, 56, 57, 97, 98, 99, 100, 101, 102]⟩ (bt s j) W
  have hdg : ∀ j, firstIdx ⟨#[48, 49, 50, 51, 52, 53, 54, 55, 56, 57, 97, 98, 99, 100, 101, 102]⟩ (bt s j).toUInt8 = dg (bt s j) := fun j => digit_at ⟨bt s j, bt_lt s j⟩
  simp only [hdg] at hix
  have hseen0 := seen_any g s i k w hP hi
  by_cases h0 : dg (bt s i) < 0
  · have HT : Hid (twoR s i = (0, i, 6)) := by show _ = _; unfold twoR; rw [if_pos h0]
    have hd : decide (dg (bt s i) < 0) = true := decide_eq_true h0
    have hix0 := fun W => hix i W
    rw [HT.out]
    obtain ⟨x, HX⟩ : ∃ x, Hid (bt s i = x) := ⟨_, (rfl : bt s i = bt s i)⟩
    obtain ⟨z, HZ⟩ : ∃ z, Hid (dg x = z) := ⟨_, (rfl : dg x = dg x)⟩
    rw [HX.out] at hseen0 hix0 hd h0
    rw [HZ.out] at hix0 hd h0
    clear hix hdg
    go_enter Try.func88, Try.ntmps88
    go_wp2_with fail
    refine wp_loop_rounds 3 ?_
    rw [rounds_succ]
    go_wp2_with (first | (go_at_call 54; refine hseen0.mono ?_; rintro _ w1 ⟨rfl, hb1⟩) | (go_at_call 57; refine (hix0 _).mono ?_; rintro _ w1 ⟨rfl, rfl⟩))
    go_ret2
    exact ⟨rfl, hP.next hb1, grown_below hb1 _⟩
  · have hi1 : i < s.size := bt_in (dg_in h0)
    obtain ⟨n, hn, hn2⟩ : ∃ n : Nat, dg (bt s i) = (n : Int) ∧ n < 16 := ⟨(dg (bt s i)).toNat, by omega, by have := dg_lt (bt s i); omega⟩
    have hix0 := fun W => hix i W
    rw [hn] at hix0
    have hw1 : IntKind.u8.wrap (n : Int) = (n : Int) := by unfold IntKind.wrap; simp [IntKind.bits, IntKind.signed]; omega
    have ho1 := or0 ⟨n, hn2⟩
    simp only at ho1
    by_cases h1 : dg (bt s (i + 1)) < 0
    · have HT : Hid (twoR s i = (0, i + 1, 6)) := by show _ = _; unfold twoR; rw [if_neg h0, if_pos h1]
      rw [HT.out]
      have hix1 := fun W => hix (i + 1) W
      have hseen1 := fun W hP' => seen_any g s (i + 1) k W hP' (by omega)
      obtain ⟨x, HX⟩ : ∃ x, Hid (bt s i = x) := ⟨_, (rfl : bt s i = bt s i)⟩
      obtain ⟨y, HY⟩ : ∃ y, Hid (bt s (i + 1) = y) := ⟨_, (rfl : bt s (i + 1) = bt s (i + 1))⟩
      obtain ⟨z, HZ⟩ : ∃ z, Hid (dg y = z) := ⟨_, (rfl : dg y = dg y)⟩
      rw [HX.out] at hseen0 hix0
      rw [HY.out] at hix1 h1 hseen1
      rw [HZ.out] at hix1 h1
      have hd : decide (z < 0) = true := decide_eq_true h1
      clear hix hdg h0 hn
      go_enter Try.func88, Try.ntmps88
      go_wp2_with fail
      refine wp_loop_rounds 3 ?_
      rw [rounds_succ]
      go_upto_region 8 with (first | (go_at_call 54; refine hseen0.mono ?_; rintro _ w1 ⟨rfl, hb1⟩) | (go_at_call 57; refine (hix0 _).mono ?_; rintro _ w1 ⟨rfl, rfl⟩))
      have hP1 := hP.next hb1
      obtain ⟨⟨_, c1, _⟩, _, f1, _⟩ := hP1.cells
      have HG : Hid (w.grownBy w1 (some g)) := grown_below hb1 _
      have hP2 : Ps g s (i + 1) k (w1.setCell ⟨g, 1, none⟩ (.int .i64 ((i : Int) + 1))) := by have := hP1.set1 (i + 1); simpa using this
      have HG2 : Hid (w.grownBy (w1.setCell ⟨g, 1, none⟩ (.int .i64 ((i : Int) + 1))) (some g)) := grown_trans HG.out (grown_set _ _ _)
      have hs2 := hseen1 _ hP2
      clear hb1 hseen0
      go_wp2_with fail
      rw [rounds_succ]
      go_wp2_with (first | (go_at_call 54; refine hs2.mono ?_; rintro _ w3 ⟨rfl, hb3⟩) | (go_at_call 57; refine (hix1 _).mono ?_; rintro _ w3 ⟨rfl, rfl⟩))
      go_ret2
      exact ⟨rfl, hP2.next hb3, grown_trans HG2.out (grown_below hb3 _)⟩
    · have hi2 : i + 1 < s.size := bt_in (dg_in h1)
      obtain ⟨m, hm, hm2⟩ : ∃ m : Nat, dg (bt s (i + 1)) = (m : Int) ∧ m < 16 := ⟨(dg (bt s (i + 1))).toNat, by omega, by have := dg_lt (bt s (i + 1)); omega⟩
      have HT : Hid (twoR s i = (16 * n + m, i + 2, 0)) := by show _ = _; unfold twoR; rw [if_neg h0, if_neg h1, hn, hm]; rfl
      rw [HT.out]
      have hix1 := fun W => hix (i + 1) W
      rw [hm] at hix1
      have hseen1 := fun W hP' => seen_any g s (i + 1) k W hP' (by omega)
      have hw2 : IntKind.u8.wrap (m : Int) = (m : Int) := by unfold IntKind.wrap; simp [IntKind.bits, IntKind.signed]; omega
      have ho2 := or16 ⟨n, hn2⟩ ⟨m, hm2⟩
      simp only at ho2
      obtain ⟨x, HX⟩ : ∃ x, Hid (bt s i = x) := ⟨_, (rfl : bt s i = bt s i)⟩
      obtain ⟨y, HY⟩ : ∃ y, Hid (bt s (i + 1) = y) := ⟨_, (rfl : bt s (i + 1) = bt s (i + 1))⟩
      rw [HX.out] at hseen0 hix0
      rw [HY.out] at hix1 hseen1
      clear hix hdg h0 hn h1 hm
      go_enter Try.func88, Try.ntmps88
      go_wp2_with fail
      refine wp_loop_rounds 3 ?_
      rw [rounds_succ]
      go_upto_region 8 with (first | (go_at_call 54; refine hseen0.mono ?_; rintro _ w1 ⟨rfl, hb1⟩) | (go_at_call 57; refine (hix0 _).mono ?_; rintro _ w1 ⟨rfl, rfl⟩))
      have hP1 := hP.next hb1
      obtain ⟨⟨_, c1, _⟩, _, f1, _⟩ := hP1.cells
      have HG : Hid (w.grownBy w1 (some g)) := grown_below hb1 _
      have hP2 : Ps g s (i + 1) k (w1.setCell ⟨g, 1, none⟩ (.int .i64 ((i : Int) + 1))) := by have := hP1.set1 (i + 1); simpa using this
      have HG2 : Hid (w.grownBy (w1.setCell ⟨g, 1, none⟩ (.int .i64 ((i : Int) + 1))) (some g)) := grown_trans HG.out (grown_set _ _ _)
      have hs2 := hseen1 _ hP2
      clear hb1 hseen0
      go_wp2_with fail
      rw [rounds_succ]
      go_upto_region 8 with (first | (go_at_call 54; refine hs2.mono ?_; rintro _ w3 ⟨rfl, hb3⟩) | (go_at_call 57; refine (hix1 _).mono ?_; rintro _ w3 ⟨rfl, rfl⟩))
      have hP3 := hP2.next hb3
      obtain ⟨⟨_, e1, _⟩, _, g1, _⟩ := hP3.cells
      have HG3 : Hid (w.grownBy w3 (some g)) := grown_trans HG2.out (grown_below hb3 _)
      have hP4 : Ps g s (i + 2) k (w3.setCell ⟨g, 1, none⟩ (.int .i64 (((i + 1 : Nat) : Int) + 1))) := by have := hP3.set1 (i + 2); simpa [Int.add_assoc] using this
      clear hb3 hs2
      go_wp2_with fail
      rw [rounds_succ]
      go_wp2_with fail
      go_ret2
      exact ⟨rfl, by simpa using hP4, grown_trans HG3.out (grown_set _ _ _)⟩
end Go.Proofs.Ythloedfiomfnbaa
