/-
  The contracts of rex.parser's escaped and char.
-/
import Derived.Test.YthloedfiomfnbaaPaChar
namespace Go.Proofs.Ythloedfiomfnbaa
open Go.RowKit
open Cls Txt

theorem name_at : ∀ b : Fin 256, firstIdx ⟨#[110, 116, 115]⟩ b.val.toUInt8 = if b.val = 110 then 0 else if b.val = 116 then 1 else if b.val = 115 then 2 else -1 := by decide +kernel
abbrev Got (g : Nat) (s : ByteArray) (k : Value) (w : World) (r : Nat × Nat × Nat) : Ending → World → Prop := fun e w' => e = .returned (.tuple #[.int .u8 (r.1 : Int), .int .i64 (r.2.2 : Int)]) ∧ Ps g s r.2.1 k w' ∧ w.grownBy w' (some g)

set_option maxHeartbeats 2000000 in
set_option maxRecDepth 20000 in
theorem escaped_any (g : Nat) (s : ByteArray) (i : Nat) (k : Value) (w : World) (hP : Ps g s i k w) (hi : i ≤ s.size) (hs : s.size ≤ 300) :
    Calls Try.prog 84 #[.pointer (some ⟨g, 0, none⟩)] w (Got g s k w (escR s i)) := by
  have hpass := pass_any g s i k 120 w hP hi hs
  rw [show ((120 : Nat) : Int) = 120 from rfl] at hpass
  by_cases h120 : bt s i = 120
  · have HT : Hid (escR s i = twoR s (i + 1)) := by show _ = _; unfold escR; rw [if_pos h120]
    rw [HT.out]
    rw [if_pos h120, decide_eq_true h120] at hpass
    have hlt := bt_is h120 (by decide)
    have htwo := fun W hP' => two_digits g s (i + 1) k W hP' (by omega) hs
    obtain ⟨r, HR⟩ : ∃ r, Hid (twoR s (i + 1) = r) := ⟨_, (rfl : twoR s (i + 1) = twoR s (i + 1))⟩
    rw [HR.out] at htwo ⊢
    obtain ⟨r0, r1, r2⟩ := r
    clear h120
    go_enter Try.func84, Try.ntmps84
    go_wp2_with (first | (go_at_call 36; refine hpass.mono ?_; rintro _ w1 ⟨rfl, hQ, hG⟩) | (go_at_call 88; refine (htwo _ hQ).mono ?_; rintro _ w2 ⟨rfl, hQ2, hG2⟩))
    go_ret2
    exact ⟨rfl, hQ2, grown_trans hG hG2⟩
  rw [if_neg h120, decide_eq_false h120] at hpass
  by_cases h110 : bt s i = 110
  · have HT : Hid (escR s i = (10, i + 1, 0)) := by show _ = _; unfold escR; rw [if_neg h120]; rw [if_pos h110]
    rw [HT.out]
    have hix := fun W => ixb_any ⟨#[110, 116, 115]⟩ 110 W
    rw [show firstIdx ⟨#[110, 116, 115]⟩ (110 : Nat).toUInt8 = 0 from by decide +kernel] at hix
    have hseen := fun W hP' => seen_any g s i k W hP' hi
    rw [h110] at hseen
    clear h120 h110
    go_enter Try.func84, Try.ntmps84
    go_upto_region 9 with (first | (go_at_call 36; refine hpass.mono ?_; rintro _ w1 ⟨rfl, hQ, hG⟩) | (go_at_call 54; refine (hseen _ hQ).mono ?_; rintro _ w2 ⟨rfl, hb2⟩) | (go_at_call 57; refine (hix _).mono ?_; rintro _ w2 ⟨rfl, rfl⟩))
    have hP2 := hQ.next hb2
    obtain ⟨⟨_, c1, _⟩, _, f1, _⟩ := hP2.cells
    have HG : Hid (w.grownBy w2 (some g)) := grown_trans hG (grown_below hb2 _)
    have hP3 : Ps g s (i + 1) k (w2.setCell ⟨g, 1, none⟩ (.int .i64 ((i : Int) + 1))) := by have := hP2.set1 (i + 1); simpa using this
    clear hb2 hG hQ hP2
    go_wp2_with fail
    go_ret2
    exact ⟨rfl, by simpa using hP3, grown_trans HG.out (grown_set _ _ _)⟩
  by_cases h116 : bt s i = 116
  · have HT : Hid (escR s i = (9, i + 1, 0)) := by show _ = _; unfold escR; rw [if_neg h120]; rw [if_neg h110]; rw [if_pos h116]
    rw [HT.out]
    have hix := fun W => ixb_any ⟨#[110, 116, 115]⟩ 116 W
    rw [show firstIdx ⟨#[110, 116, 115]⟩ (116 : Nat).toUInt8 = 1 from by decide +kernel] at hix
    have hseen := fun W hP' => seen_any g s i k W hP' hi
    rw [h116] at hseen
    clear h120 h110 h116
    go_enter Try.func84, Try.ntmps84
    go_upto_region 9 with (first | (go_at_call 36; refine hpass.mono ?_; rintro _ w1 ⟨rfl, hQ, hG⟩) | (go_at_call 54; refine (hseen _ hQ).mono ?_; rintro _ w2 ⟨rfl, hb2⟩) | (go_at_call 57; refine (hix _).mono ?_; rintro _ w2 ⟨rfl, rfl⟩))
    have hP2 := hQ.next hb2
    obtain ⟨⟨_, c1, _⟩, _, f1, _⟩ := hP2.cells
    have HG : Hid (w.grownBy w2 (some g)) := grown_trans hG (grown_below hb2 _)
    have hP3 : Ps g s (i + 1) k (w2.setCell ⟨g, 1, none⟩ (.int .i64 ((i : Int) + 1))) := by have := hP2.set1 (i + 1); simpa using this
    clear hb2 hG hQ hP2
    go_wp2_with fail
    go_ret2
    exact ⟨rfl, by simpa using hP3, grown_trans HG.out (grown_set _ _ _)⟩
  by_cases h115 : bt s i = 115
  · have HT : Hid (escR s i = (32, i + 1, 0)) := by show _ = _; unfold escR; rw [if_neg h120]; rw [if_neg h110]; rw [if_neg h116]; rw [if_pos h115]
    rw [HT.out]
    have hix := fun W => ixb_any ⟨#[110, 116, 115]⟩ 115 W
    rw [show firstIdx ⟨#[110, 116, 115]⟩ (115 : Nat).toUInt8 = 2 from by decide +kernel] at hix
    have hseen := fun W hP' => seen_any g s i k W hP' hi
    rw [h115] at hseen
    clear h120 h110 h116 h115
    go_enter Try.func84, Try.ntmps84
    go_upto_region 9 with (first | (go_at_call 36; refine hpass.mono ?_; rintro _ w1 ⟨rfl, hQ, hG⟩) | (go_at_call 54; refine (hseen _ hQ).mono ?_; rintro _ w2 ⟨rfl, hb2⟩) | (go_at_call 57; refine (hix _).mono ?_; rintro _ w2 ⟨rfl, rfl⟩))
    have hP2 := hQ.next hb2
    obtain ⟨⟨_, c1, _⟩, _, f1, _⟩ := hP2.cells
    have HG : Hid (w.grownBy w2 (some g)) := grown_trans hG (grown_below hb2 _)
    have hP3 : Ps g s (i + 1) k (w2.setCell ⟨g, 1, none⟩ (.int .i64 ((i : Int) + 1))) := by have := hP2.set1 (i + 1); simpa using this
    clear hb2 hG hQ hP2
    go_wp2_with fail
    go_ret2
    exact ⟨rfl, by simpa using hP3, grown_trans HG.out (grown_set _ _ _)⟩
  have hix := fun W => ixb_any ⟨#[110, 116, 115]⟩ (bt s i) W
  have hna := name_at ⟨bt s i, bt_lt s i⟩
  simp only at hna
  rw [if_neg h110, if_neg h116, if_neg h115] at hna
  rw [hna] at hix
  have hseen := fun W hP' => seen_any g s i k W hP' hi
  have hsign := fun W => isSign_any (bt s i) (bt_lt s i) W
  obtain ⟨x, HX⟩ : ∃ x, Hid (bt s i = x) := ⟨_, (rfl : bt s i = bt s i)⟩
  cases hg : signs.contains (bt s i) with
  | true =>
    have HT : Hid (escR s i = (bt s i, i + 1, 0)) := by show _ = _; unfold escR; rw [if_neg h120, if_neg h110, if_neg h116, if_neg h115, if_pos hg]
    rw [HT.out]
    rw [hg] at hsign
    rw [HX.out] at hseen hsign hix ⊢
    clear h120 h110 h116 h115 hna hg
    go_enter Try.func84, Try.ntmps84
    go_upto_region 9 with (first | (go_at_call 36; refine hpass.mono ?_; rintro _ w1 ⟨rfl, hQ, hG⟩) | (go_at_call 54; refine (hseen _ hQ).mono ?_; rintro _ w2 ⟨rfl, hb2⟩) | (go_at_call 57; refine (hix _).mono ?_; rintro _ w2 ⟨rfl, rfl⟩) | (go_at_call 59; refine (hsign _).mono ?_; rintro _ w2 ⟨rfl, rfl⟩))
    have hP2 := hQ.next hb2
    obtain ⟨⟨_, c1, _⟩, _, f1, _⟩ := hP2.cells
    have HG : Hid (w.grownBy w2 (some g)) := grown_trans hG (grown_below hb2 _)
    have hP3 : Ps g s (i + 1) k (w2.setCell ⟨g, 1, none⟩ (.int .i64 ((i : Int) + 1))) := by have := hP2.set1 (i + 1); simpa using this
    clear hb2 hG hQ hP2
    go_wp2_with fail
    go_ret2
    exact ⟨rfl, by simpa using hP3, grown_trans HG.out (grown_set _ _ _)⟩
  | false =>
    have HT : Hid (escR s i = (0, i, 6)) := by show _ = _; unfold escR; rw [if_neg h120, if_neg h110, if_neg h116, if_neg h115, if_neg (by rw [hg]; simp)]
    rw [HT.out]
    rw [hg] at hsign
    rw [HX.out] at hseen hsign hix
    clear h120 h110 h116 h115 hna hg
    go_enter Try.func84, Try.ntmps84
    go_wp2_with (first | (go_at_call 36; refine hpass.mono ?_; rintro _ w1 ⟨rfl, hQ, hG⟩) | (go_at_call 54; refine (hseen _ hQ).mono ?_; rintro _ w2 ⟨rfl, hb2⟩) | (go_at_call 57; refine (hix _).mono ?_; rintro _ w2 ⟨rfl, rfl⟩) | (go_at_call 59; refine (hsign _).mono ?_; rintro _ w2 ⟨rfl, rfl⟩))
    go_ret2
    exact ⟨rfl, hQ.next hb2, grown_trans hG (grown_below hb2 _)⟩

set_option maxHeartbeats 2000000 in
set_option maxRecDepth 20000 in
theorem pchar_any (g : Nat) (s : ByteArray) (i : Nat) (k : Value) (w : World) (hP : Ps g s i k w) (hi : i ≤ s.size) (hs : s.size ≤ 300) :
    Calls Try.prog 75 #[.pointer (some ⟨g, 0, none⟩)] w (Got g s k w (charR s i)) := by
  have hpass := pass_any g s i k 92 w hP hi hs
  rw [show ((92 : Nat) : Int) = 92 from rfl] at hpass
  by_cases h92 : bt s i = 92
  · have HT : Hid (charR s i = escR s (i + 1)) := by show _ = _; unfold charR; rw [if_pos h92]
    rw [HT.out]
    rw [if_pos h92, decide_eq_true h92] at hpass
    have hlt := bt_is h92 (by decide)
    have hesc := fun W hP' => escaped_any g s (i + 1) k W hP' (by omega) hs
    obtain ⟨r, HR⟩ : ∃ r, Hid (escR s (i + 1) = r) := ⟨_, (rfl : escR s (i + 1) = escR s (i + 1))⟩
    rw [HR.out] at hesc ⊢
    obtain ⟨r0, r1, r2⟩ := r
    clear h92
    go_enter Try.func75, Try.ntmps75
    go_wp2_with (first | (go_at_call 36; refine hpass.mono ?_; rintro _ w1 ⟨rfl, hQ, hG⟩) | (go_at_call 84; refine (hesc _ hQ).mono ?_; rintro _ w2 ⟨rfl, hQ2, hG2⟩))
    go_ret2
    exact ⟨rfl, hQ2, grown_trans hG hG2⟩
  rw [if_neg h92, decide_eq_false h92] at hpass
  have hseen := fun W hP' => seen_any g s i k W hP' hi
  have hsign := fun W => isSign_any (bt s i) (bt_lt s i) W
  have hin := fun W => isSeen_any (bt s i) W
  obtain ⟨x, HX⟩ : ∃ x, Hid (bt s i = x) := ⟨_, (rfl : bt s i = bt s i)⟩
  by_cases h1 : 33 ≤ bt s i ∧ bt s i ≤ 126
  · rw [decide_eq_true h1.1, decide_eq_true h1.2] at hin
    cases hg : signs.contains (bt s i) with
    | false =>
      have HT : Hid (charR s i = (bt s i, i + 1, 0)) := by show _ = _; unfold charR; rw [if_neg h92, if_pos ⟨h1, hg⟩]
      rw [HT.out]
      rw [hg] at hsign
      rw [HX.out] at hseen hsign hin ⊢
      clear h92 h1 hg
      go_enter Try.func75, Try.ntmps75
      go_upto_region 6 with (first | (go_at_call 36; refine hpass.mono ?_; rintro _ w1 ⟨rfl, hQ, hG⟩) | (go_at_call 54; refine (hseen _ hQ).mono ?_; rintro _ w2 ⟨rfl, hb2⟩) | (go_at_call 58; refine (hin _).mono ?_; rintro _ w2 ⟨rfl, rfl⟩) | (go_at_call 59; refine (hsign _).mono ?_; rintro _ w2 ⟨rfl, rfl⟩))
      have hP2 := hQ.next hb2
      obtain ⟨⟨_, c1, _⟩, _, f1, _⟩ := hP2.cells
      have HG : Hid (w.grownBy w2 (some g)) := grown_trans hG (grown_below hb2 _)
      have hP3 : Ps g s (i + 1) k (w2.setCell ⟨g, 1, none⟩ (.int .i64 ((i : Int) + 1))) := by have := hP2.set1 (i + 1); simpa using this
      clear hb2 hG hQ hP2
      go_wp2_with fail
      go_ret2
      exact ⟨rfl, by simpa using hP3, grown_trans HG.out (grown_set _ _ _)⟩
    | true =>
      have HT : Hid (charR s i = (0, i, 6)) := by show _ = _; unfold charR; rw [if_neg h92, if_neg (by rw [hg]; simp)]
      rw [HT.out]
      rw [hg] at hsign
      rw [HX.out] at hseen hsign hin
      clear h92 h1 hg
      go_enter Try.func75, Try.ntmps75
      go_wp2_with (first | (go_at_call 36; refine hpass.mono ?_; rintro _ w1 ⟨rfl, hQ, hG⟩) | (go_at_call 54; refine (hseen _ hQ).mono ?_; rintro _ w2 ⟨rfl, hb2⟩) | (go_at_call 58; refine (hin _).mono ?_; rintro _ w2 ⟨rfl, rfl⟩) | (go_at_call 59; refine (hsign _).mono ?_; rintro _ w2 ⟨rfl, rfl⟩))
      go_ret2
      exact ⟨rfl, hQ.next hb2, grown_trans hG (grown_below hb2 _)⟩
  · rw [show (decide (33 ≤ bt s i) && decide (bt s i ≤ 126)) = false by simp; omega] at hin
    have HT : Hid (charR s i = (0, i, 6)) := by show _ = _; unfold charR; rw [if_neg h92, if_neg (fun h => h1 h.1)]
    rw [HT.out]
    rw [HX.out] at hseen hin
    clear h92 h1 hsign
    go_enter Try.func75, Try.ntmps75
    go_wp2_with (first | (go_at_call 36; refine hpass.mono ?_; rintro _ w1 ⟨rfl, hQ, hG⟩) | (go_at_call 54; refine (hseen _ hQ).mono ?_; rintro _ w2 ⟨rfl, hb2⟩) | (go_at_call 58; refine (hin _).mono ?_; rintro _ w2 ⟨rfl, rfl⟩))
    go_ret2
    exact ⟨rfl, hQ.next hb2, grown_trans hG (grown_below hb2 _)⟩
end Go.Proofs.Ythloedfiomfnbaa
