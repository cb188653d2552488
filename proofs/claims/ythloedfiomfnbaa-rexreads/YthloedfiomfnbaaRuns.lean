/-
  The contracts of rex.runLength and rex.writtenRun.
-/
import Derived.Test.YthloedfiomfnbaaCounts
namespace Go.Proofs.Ythloedfiomfnbaa
open Go.RowKit
open Cls Txt

/-- A byte of a text. -/
theorem byte_run (s : ByteArray) (k : Nat) (h : k < s.size) (w : World) : (Instr.index 9 (.string s) (.int .i64 (k : Int))).run Try.prog w = .ok (.int .u8 (s[k].toNat : Int)) w := by
  rw [run_index_string (h := Try.underlying9)]
  simp [h]
theorem wrap_u8 (x : UInt8) : IntKind.u8.wrap ((x.toNat : Int) + 1) = ((x + 1).toNat : Int) := by
  have h := x.toNat_lt
  have : (x + 1).toNat = (x.toNat + 1) % 256 := by rw [UInt8.toNat_add]; rfl
  rw [this]
  unfold IntKind.wrap
  simp [IntKind.bits, IntKind.signed]

set_option maxHeartbeats 4000000 in
set_option maxRecDepth 20000 in
theorem runLength_any (s : ByteArray) (n : Nat) (h1 : 1 ≤ n) (hn : n ≤ s.size) (hs : s.size ≤ 256) (hin : ∀ i (hi : i < s.size) (h0 : 1 ≤ i), i < n → s[i] = s[i - 1]'(by omega) + 1) (hout : ∀ (h : n < s.size), s[n] ≠ s[n - 1]'(by omega) + 1) (w : World) :
    Calls Try.prog 62 #[.string s] w fun e w' => e = .returned (.int .i64 (n : Int)) ∧ Below w.heap.size w w' := by
  have HIN : Hid (∀ i (hi : i < s.size) (h0 : 1 ≤ i), i < n → s[i] = s[i - 1]'(by omega) + 1) := hin
  have HOUT : Hid (∀ (h : n < s.size), s[n] ≠ s[n - 1]'(by omega) + 1) := hout
  clear hin hout
  go_enter Try.func62, Try.ntmps62
  go_wp2_with fail
  go_loopw [3] (fun z wr => ∃ k : Nat, 1 ≤ k ∧ k ≤ n ∧ z = .int .i64 (k : Int) ∧ Below w.heap.size w wr) (fun z _ => n - (intOf z).toNat)
  case atStart => exact ⟨1, Nat.le_refl _, h1, rfl, Below.refl _ _⟩
  case round =>
    obtain ⟨k, hk1, hk2, rfl, hbel⟩ := hrel
    by_cases hlt : k < s.size
    · have hlti : (k : Int) < (s.size : Int) := by omega
      have hdl : decide ((k : Int) < (s.size : Int)) = true := by simp; omega
      have hr1 := byte_run s k hlt
      have hw1 : IntKind.i64.wrap ((k : Int) - 1) = ((k - 1 : Nat) : Int) := by
        unfold IntKind.wrap; simp [IntKind.bits, IntKind.signed]; omega
      have hr2 : ∀ w, (Instr.index 9 (.string s) (.int .i64 ((k : Int) - 1))).run Try.prog w = .ok (.int .u8 ((s[k - 1]'(by omega)).toNat : Int)) w := fun w => by
        have := byte_run s (k - 1) (by omega) w
        rwa [show ((k - 1 : Nat) : Int) = (k : Int) - 1 by omega] at this
      obtain ⟨x, HX⟩ : ∃ x, Hid (s[k] = x) := ⟨_, (rfl : s[k] = s[k])⟩
      obtain ⟨y, HY⟩ : ∃ y, Hid (s[k - 1]'(by omega) = y) := ⟨_, (rfl : s[k - 1]'(by omega) = s[k - 1]'(by omega))⟩
      rw [HX.out] at hr1
      simp only [HY.out] at hr2
      have hw3 : IntKind.i64.wrap ((k : Int) - 1) = (k : Int) - 1 := by
        unfold IntKind.wrap; simp [IntKind.bits, IntKind.signed]; omega
      clear hw1
      by_cases he : x = y + 1
      · have hb : ((x.toNat : Int) == ((y.toNat : Int) + 1) % 256) = true := by rw [he, beq_iff_eq, UInt8.toNat_add]; simp
        have hkn : k < n := by
          rcases Nat.lt_or_ge k n with h | h
          · exact h
          · have : k = n := by omega
            subst this
            exact absurd (by rw [HX.out, HY.out]; exact he) (HOUT.out hlt)
        clear he
        go_wp2_with (go_quiet (fail))
        go_roundw
        case rel => exact ⟨k + 1, by omega, by omega, by go_num, below_drewN hbel nq⟩
        case measure => simp [intOf]; omega
      · have hb : ((x.toNat : Int) == ((y.toNat : Int) + 1) % 256) = false := by
          rw [beq_eq_false_iff_ne]; intro e; exact he (UInt8.toNat_inj.1 (by rw [UInt8.toNat_add]; simp; omega))
        have hkn : k = n := by
          rcases Nat.lt_or_ge k n with h | h
          · exact absurd (by have := HIN.out k hlt hk1 h; rw [HX.out, HY.out] at this; exact this) he
          · omega
        have HKN : Hid (k = n) := hkn
        clear he hkn
        go_wp2_with (go_quiet (fail))
        go_ret
        exact ⟨by rw [HKN.out]; rfl, below_drewN hbel nq⟩
    · have hdl : decide ((k : Int) < (s.size : Int)) = false := by simp; omega
      have hkn : k = n := by omega
      have HKN : Hid (k = n) := hkn
      clear hkn
      go_wp2_with (go_quiet (fail))
      go_ret
      exact ⟨by rw [HKN.out]; rfl, below_drewN hbel nq⟩

/-- What lay in w lies there. -/
def Sb (w W : World) : Prop := Below w.heap.size w W
theorem Sb.next {w : World} (W W' : World) (h : Sb w W) (hb : Below W.heap.size W W') : Sb w W' := Below.trans h (hb.mono h.size)
theorem Sb.refl (w : World) : Sb w w := Below.refl _ _
theorem Sb.drew (w : World) : Sb w w.drew := ⟨rfl, rfl, rfl, Nat.le_refl _, fun _ _ => rfl⟩

set_option maxHeartbeats 4000000 in
set_option maxRecDepth 20000 in
theorem writtenRun_any (s : ByteArray) (a z : Nat) (h1 : 1 ≤ s.size) (hs : s.size ≤ 256) (ha : a < 256) (hz : z < 256) (h0 : s[0]'(by omega) = a.toUInt8) (hl : s[s.size - 1]'(by omega) = z.toUInt8) (hzn : z + 1 = a + s.size) (w : World) :
    Calls Try.prog 64 #[.string s] w fun e w' => e = .returned (.string (S (runText a z))) ∧ Below w.heap.size w w' := by
  have hr1 : ∀ w, (Instr.index 9 (.string s) (.int .i64 0)).run Try.prog w = .ok (.int .u8 (a : Int)) w := fun w => by
    have := byte_run s 0 (by omega) w
    rwa [h0, u8_toNat a ha] at this
  have hr2 : ∀ w, (Instr.index 9 (.string s) (.int .i64 ((s.size : Int) - 1))).run Try.prog w = .ok (.int .u8 (z : Int)) w := fun w => by
    have := byte_run s (s.size - 1) (by omega) w
    rw [hl, u8_toNat z hz] at this
    rwa [show ((s.size - 1 : Nat) : Int) = (s.size : Int) - 1 by omega] at this
  have hw3 : IntKind.i64.wrap ((s.size : Int) - 1) = (s.size : Int) - 1 := by
    unfold IntKind.wrap; simp [IntKind.bits, IntKind.signed]; omega
  have hne : Nonempty (Kp (Sb w)) := ⟨⟨_, Sb.drew w⟩⟩
  have HC1 : Hid (∀ p : Kp (Sb w), Calls Try.prog 46 #[.int .u8 (a : Int)] p.W fun e w'' => e = .returned (.string (S (charT a))) ∧ ∃ q : Kp (Sb w), w'' = q.W) := fun p => Kp.calls p Sb.next (writtenByte_any a ha p.W)
  have HC2 : Hid (∀ p : Kp (Sb w), Calls Try.prog 46 #[.int .u8 (z : Int)] p.W fun e w'' => e = .returned (.string (S (charT z))) ∧ ∃ q : Kp (Sb w), w'' = q.W) := fun p => Kp.calls p Sb.next (writtenByte_any z hz p.W)
  clear h0 hl
  have c1 := charT_length a
  have c2 := charT_length z
  go_enter Try.func64, Try.ntmps64
  go_wp2_with fail
  refine wp_region_kept mixed (by kernel_rfl) (Sb.drew w) ?_
  repeat (go_big_quiet_step (first | (go_at_call 46; first | with_reducible exact HC1.out _ | with_reducible exact HC2.out _)))
  refine wpQuiet_nil ?_
  intro W2 hw2
  obtain ⟨⟨W2, HS2⟩, rfl⟩ := hw2
  have HBx : Hid (Below w.heap.size w W2) := HS2
  clear HS2 hne
  have l1 : (S (charT a)).size ≤ 4 := c1
  have l2 : (S (charT z)).size ≤ 4 := c2
  by_cases e1 : s.size = 1
  · have g1 : ((s.size : Int) == 1) = true := by simp; omega
    clear e1
    go_wp2_with fail
    go_ret
    refine ⟨ret_str ?_, HBx.out⟩
    have : s.size = 1 := by have := beq_iff_eq.1 g1; omega
    unfold runText
    rw [if_neg (by omega), if_neg (by omega)]; simp
  · have g1 : ((s.size : Int) == 1) = false := by simp; omega
    by_cases e2 : s.size = 2
    · have g2 : ((s.size : Int) == 2) = true := by simp; omega
      clear e1 e2
      go_wp2_with fail
      go_ret
      refine ⟨ret_str ?_, HBx.out⟩
      have : s.size = 2 := by have := beq_iff_eq.1 g2; omega
      unfold runText
      rw [if_neg (by omega), if_pos (by omega)]; simp
    · have g2 : ((s.size : Int) == 2) = false := by simp; omega
      have HS3 : Hid (3 ≤ s.size) := by show 3 ≤ s.size; omega
      clear e1 e2
      go_wp2_with fail
      go_ret
      refine ⟨ret_str ?_, HBx.out⟩
      have := HS3.out
      unfold runText
      rw [if_pos (by omega), if_pos (by omega)]; simp
end Go.Proofs.Ythloedfiomfnbaa
