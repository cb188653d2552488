/-
  The contracts of package dfa's Check, Run, Tag and of what they call, for whatever automaton and text.
-/
import Derived.Test.YtlgcggfenljdnaaOpens
import Derived.Deep.QuietTactic
import Derived.BigQuiet
namespace Go.Proofs.Ytlgcggfenljdnaa
open Go.RowKit
open Dfa

set_option maxHeartbeats 1600000 in
set_option maxRecDepth 20000 in
theorem areTags_any (tv : Value) (m : Nat) (T : Nat → Int) (w : World) (ht : Ts w tv m T) :
    Calls Try.prog 35 #[tv] w fun e w' => e = .returned (.bool (tagsOk m T)) ∧ w' = w := by
  obtain ⟨ao, cap, rfl, hm, hwf, hcs⟩ := ht
  have HW : Hid (∀ i, -9223372036854775808 ≤ T i ∧ T i ≤ 9223372036854775807) := hwf
  clear hwf
  go_enter Try.func35, Try.ntmps35
  go_wp2_with fail
  go_loopw [7] (fun i wr => ∃ k : Nat, k ≤ m ∧ i = .int .i64 (k : Int) ∧ Hid (∀ i, i < k → tagOk (T i) = true) ∧ wr = w) (fun i _ => m - (intOf i).toNat)
  case atStart => exact ⟨0, by omega, rfl, fun i hi => by omega, rfl⟩
  case round =>
    obtain ⟨k, hk, rfl, HA, rfl⟩ := hrel
    by_cases hlt : k < m
    · obtain ⟨b, o, rfl, hb, hc⟩ := hcs.resolve_left (by omega)
      have c0 := hc k hlt
      have hzk := HW.out k
      obtain ⟨z, HZ⟩ : ∃ z, Hid (T k = z) := ⟨_, (rfl : T k = T k)⟩
      rw [HZ.out] at c0 hzk
      have hk0 : (0 : Int) ≤ (k : Int) := by omega
      have hk1 : (k : Int) < (m : Int) := by omega
      clear hcs hc
      by_cases h1 : z < -1
      · go_wp2_with fail
        go_ret
        refine ⟨?_, rfl⟩
        rw [show tagsOk m T = false from all_false hlt (by unfold tagOk; rw [HZ.out]; simp; omega)]
        rfl
      · by_cases h2 : 20 ≤ z
        · go_wp2_with fail
          go_ret
          refine ⟨?_, rfl⟩
          rw [show tagsOk m T = false from all_false hlt (by unfold tagOk; rw [HZ.out]; simp; omega)]
          rfl
        · go_wp2_with fail
          go_roundw
          case rel =>
            refine ⟨k + 1, by omega, by go_num, fun i hi => ?_, by trivial⟩
            by_cases e : i = k
            · subst e; unfold tagOk; rw [HZ.out]; simp; omega
            · exact HA.out i (by omega)
          case measure => simp [intOf]; omega
    · go_wp2_with fail
      go_ret
      refine ⟨?_, rfl⟩
      rw [show tagsOk m T = true from all_true fun i hi => HA.out i (by omega)]
      rfl
end Go.Proofs.Ytlgcggfenljdnaa
