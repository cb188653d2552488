/-
  The contract of rex.parser's catEnds.
-/
import Derived.Test.YthloedfiomfnbaaPaAlt
namespace Go.Proofs.Ythloedfiomfnbaa
open Go.RowKit
open Cls Txt Rex

set_option maxHeartbeats 2000000 in
set_option maxRecDepth 20000 in
theorem catEnds_any (g : Nat) (s : ByteArray) (i : Nat) (k : Value) (w : World) (hP : Ps g s i k w) (hi : i ≤ s.size) :
    Calls Try.prog 53 #[.pointer (some ⟨g, 0, none⟩)] w fun e w' => e = .returned (.bool (catEnd s i)) ∧ Below w.heap.size w w' := by
  have hne : Nonempty (Kp (Sb w)) := ⟨⟨_, Sb.drew w⟩⟩
  have c0 : ∀ p : Kp (Sb w), p.W.cell? ⟨g, 0, none⟩ = some (.string s) := fun p => (hP.next p.h).cells.1.1
  have c1 : ∀ p : Kp (Sb w), p.W.cell? ⟨g, 1, none⟩ = some (.int .i64 (i : Int)) := fun p => (hP.next p.h).cells.1.2.1
  have HCA : Hid (∀ p : Kp (Sb w), Calls Try.prog 54 #[.pointer (some ⟨g, 0, none⟩)] p.W fun e w'' => e = .returned (.int .u8 (bt s i : Int)) ∧ ∃ q : Kp (Sb w), w'' = q.W) := fun p => Kp.calls p Sb.next (seen_any g s i k p.W (hP.next p.h) hi)
  by_cases h : i = s.size
  · have HE : Hid (catEnd s i = true) := by show _ = _; unfold catEnd; simp [h]
    have hb : ((i : Int) == (s.size : Int)) = true := by simp [h]
    clear h hi
    go_enter Try.func53, Try.ntmps53
    go_wp2_with fail
    refine wp_region_kept mixed (by kernel_rfl) (Sb.drew w) ?_
    repeat (go_big_quiet_step (first | (go_at_call 54; with_reducible exact HCA.out _)))
    refine wpQuiet_nil ?_
    intro W2 hw2
    obtain ⟨⟨W2, HS2⟩, rfl⟩ := hw2
    go_wp2_with fail
    go_ret
    exact ⟨ret_bool HE.out.symm, HS2⟩
  · have hb : ((i : Int) == (s.size : Int)) = false := by simp; omega
    have HE0 : Hid (catEnd s i = (decide (bt s i = 124) || decide (bt s i = 41))) := by show _ = _; unfold catEnd; simp [h]
    obtain ⟨x, HX⟩ : ∃ x, Hid (bt s i = x) := ⟨_, (rfl : bt s i = bt s i)⟩
    rw [HX.out] at HCA HE0
    clear h hi
    by_cases h1 : x = 124
    · have HE : Hid (catEnd s i = true) := by show _ = _; rw [HE0.out]; simp [h1]
      have hb1 : ((x : Int) == 124) = true := by simp [h1]
      clear h1
      go_enter Try.func53, Try.ntmps53
      go_wp2_with fail
      refine wp_region_kept mixed (by kernel_rfl) (Sb.drew w) ?_
      repeat (go_big_quiet_step (first | (go_at_call 54; with_reducible exact HCA.out _)))
      refine wpQuiet_nil ?_
      intro W2 hw2
      obtain ⟨⟨W2, HS2⟩, rfl⟩ := hw2
      go_wp2_with fail
      go_ret
      exact ⟨ret_bool HE.out.symm, HS2⟩
    · have hb1 : ((x : Int) == 124) = false := by simp; omega
      by_cases h2 : x = 41
      · have HE : Hid (catEnd s i = true) := by show _ = _; rw [HE0.out]; simp [h2]
        have hb2 : ((x : Int) == 41) = true := by simp [h2]
        clear h1 h2
        go_enter Try.func53, Try.ntmps53
        go_wp2_with fail
        refine wp_region_kept mixed (by kernel_rfl) (Sb.drew w) ?_
        repeat (go_big_quiet_step (first | (go_at_call 54; with_reducible exact HCA.out _)))
        refine wpQuiet_nil ?_
        intro W2 hw2
        obtain ⟨⟨W2, HS2⟩, rfl⟩ := hw2
        go_wp2_with fail
        go_ret
        exact ⟨ret_bool HE.out.symm, HS2⟩
      · have HE : Hid (catEnd s i = false) := by show _ = _; rw [HE0.out]; simp [h1, h2]
        have hb2 : ((x : Int) == 41) = false := by simp; omega
        clear h1 h2
        go_enter Try.func53, Try.ntmps53
        go_wp2_with fail
        refine wp_region_kept mixed (by kernel_rfl) (Sb.drew w) ?_
        repeat (go_big_quiet_step (first | (go_at_call 54; with_reducible exact HCA.out _)))
        refine wpQuiet_nil ?_
        intro W2 hw2
        obtain ⟨⟨W2, HS2⟩, rfl⟩ := hw2
        go_wp2_with fail
        go_ret
        exact ⟨ret_bool HE.out.symm, HS2⟩
end Go.Proofs.Ythloedfiomfnbaa
