/-
  The contracts of small.areUpTo, small.areStates, slices.Max at bytes, small.areColumns.
-/
import Derived.Test.YtcdnbkfjiigdmaaPkOpens
import Derived.WalkSmall
namespace Go.Proofs.Ytcdnbkfjiigdmaa
open Go.RowKit
open Dfa

set_option maxHeartbeats 1600000 in
set_option maxRecDepth 20000 in
theorem upTo_any (tv : Value) (m : Nat) (T : Nat → Int) (c : Int) (w : World) (ht : Ts w tv m T) :
    Calls Try.prog 27 #[tv, .int .i64 c] w fun e w' => e = .returned (.bool (upOk m T c)) ∧ w' = w := by
  obtain ⟨ao, cap, rfl, hm, hwf, hcs⟩ := ht
  clear hwf
  go_enter Try.func27, Try.ntmps27
  go_wp2_with fail
  go_loopw [9] (fun i wr => ∃ k : Nat, k ≤ m ∧ i = .int .i64 (k : Int) ∧ Hid (∀ i, i < k → (decide (-1 ≤ T i) && decide (T i ≤ c)) = true) ∧ wr = w) (fun i _ => m - (intOf i).toNat)
  case atStart => exact ⟨0, by omega, rfl, fun i hi => by omega, rfl⟩
  case round =>
    obtain ⟨k, hk, rfl, HA, rfl⟩ := hrel
    by_cases hlt : k < m
    · obtain ⟨b, o, rfl, hb, hc⟩ := hcs.resolve_left (by omega)
      have c0 := hc k hlt
      obtain ⟨z, HZ⟩ : ∃ z, Hid (T k = z) := ⟨_, (rfl : T k = T k)⟩
      rw [HZ.out] at c0
      have hk0 : (0 : Int) ≤ (k : Int) := by omega
      have hk1 : (k : Int) < (m : Int) := by omega
      clear hcs hc
      by_cases h1 : z < -1
      · go_wp2_with fail
        go_ret
        refine ⟨?_, rfl⟩
        rw [show upOk m T c = false from all_false hlt (by rw [HZ.out]; simp; omega)]
        rfl
      · by_cases h2 : c < z
        · go_wp2_with fail
          go_ret
          refine ⟨?_, rfl⟩
          rw [show upOk m T c = false from all_false hlt (by rw [HZ.out]; simp; omega)]
          rfl
        · go_wp2_with fail
          go_roundw
          case rel =>
            refine ⟨k + 1, by omega, by go_num, fun i hi => ?_, by trivial⟩
            by_cases e : i = k
            · subst e; rw [HZ.out]; simp; omega
            · exact HA.out i (by omega)
          case measure => simp [intOf]; omega
    · go_wp2_with fail
      go_ret
      refine ⟨?_, rfl⟩
      rw [show upOk m T c = true from all_true fun i hi => HA.out i (by omega)]
      rfl

set_option maxHeartbeats 1600000 in
set_option maxRecDepth 20000 in
theorem states_any (nv : Value) (n : Nat) (L : Nat → Nat) (X : Nat → Nat → Int) (w : World) (hx : Nx w nv n L X) :
    Calls Try.prog 26 #[nv] w fun e w' => e = .returned (.bool (statesOk n L X)) ∧ w' = w := by
  obtain ⟨ao, cap, rfl, hm, hcs⟩ := hx
  go_enter Try.func26, Try.ntmps26
  go_wp2_with fail
  go_loopw [7] (fun i wr => ∃ k : Nat, k ≤ n ∧ i = .int .i64 (k : Int) ∧ Hid (∀ i, i < k → upOk (L i) (X i) ((n : Int) - 1) = true) ∧ wr = w) (fun i _ => n - (intOf i).toNat)
  case atStart => exact ⟨0, by omega, rfl, fun i hi => by omega, rfl⟩
  case round =>
    obtain ⟨k, hk, rfl, HA, rfl⟩ := hrel
    by_cases hlt : k < n
    · obtain ⟨b, o, rfl, hb, hc⟩ := hcs.resolve_left (by omega)
      obtain ⟨u, c0, hu⟩ := hc k hlt
      have HU : Hid (Ts wr u (L k) (X k)) := hu
      have hk0 : (0 : Int) ≤ (k : Int) := by omega
      have hk1 : (k : Int) < (n : Int) := by omega
      obtain ⟨ao, cap', rfl, -, -, -⟩ := hu
      clear hcs hc
      go_wp2_with fail
      refine (upTo_any _ (L k) (X k) ((n : Int) - 1) wr HU.out).mono ?_
      rintro _ w1 ⟨rfl, rfl⟩
      rcases hr : upOk (L k) (X k) ((n : Int) - 1) with _ | _
      · go_wp2_with fail
        go_ret
        refine ⟨?_, rfl⟩
        rw [show statesOk n L X = false from all_false hlt hr]
        rfl
      · have HR : Hid (upOk (L k) (X k) ((n : Int) - 1) = true) := hr
        clear hr
        go_wp2_with fail
        go_roundw
        case rel =>
          refine ⟨k + 1, by omega, by go_num, fun i hi => ?_, by trivial⟩
          by_cases e : i = k
          · subst e; exact HR.out
          · exact HA.out i (by omega)
        case measure => simp [intOf]; omega
    · go_wp2_with fail
      go_ret
      refine ⟨?_, rfl⟩
      rw [show statesOk n L X = true from all_true fun i hi => HA.out i (by omega)]
      rfl

set_option maxHeartbeats 1600000 in
set_option maxRecDepth 20000 in
theorem max_any (b o n cap : Nat) (O : Nat → Nat) (w : World) (h0 : 0 < n) (hn : n ≤ 9223372036854775807) (hO : ∀ j, O j < 256) (hc : ∀ j, j < n → w.cell? ⟨b, o + j, none⟩ = some (.int .u8 (O j : Int))) :
    Calls Try.prog 29 #[.slice (some ⟨b, o, none⟩) n cap] w fun e w' => e = .returned (.int .u8 (mx O n : Int)) ∧ w' = w := by
  have HC : Hid (∀ j, j < n → w.cell? ⟨b, o + j, none⟩ = some (.int .u8 (O j : Int))) := hc
  have c0 : w.cell? ⟨b, o, none⟩ = some (.int .u8 (O 0 : Int)) := by simpa using hc 0 h0
  have HO : Hid (∀ j, O j < 256) := hO
  clear hc hO
  have h1 : ¬ ((n : Int) < 1) := by omega
  have h2 : (0 : Int) < (n : Int) := by omega
  obtain ⟨z, HZ⟩ : ∃ z, Hid (O 0 = z) := ⟨_, (rfl : O 0 = O 0)⟩
  rw [HZ.out] at c0
  go_enter Try.func29, Try.ntmps29
  go_wp2_with fail
  go_loopw [4, 3] (fun i v wr => ∃ k q : Nat, k ≤ n ∧ i = .int .i64 (k : Int) ∧ v = .int .u8 (q : Int) ∧ Hid (mx O k = q) ∧ wr = w) (fun i _ _ => n - (intOf i).toNat)
  case atStart => exact ⟨1, z, by omega, rfl, rfl, by show _ = _; simp [mx]; exact HZ.out, rfl⟩
  case round =>
    obtain ⟨k, q, hk, rfl, rfl, HA, rfl⟩ := hrel
    clear c0
    by_cases hlt : k < n
    · have c1 := HC.out k hlt
      have hk0 : (0 : Int) ≤ (k : Int) := by omega
      have hk1 : (k : Int) < (n : Int) := by omega
      obtain ⟨x, HX⟩ : ∃ x, Hid (O k = x) := ⟨_, (rfl : O k = O k)⟩
      rw [HX.out] at c1
      go_wp2_with fail
      go_roundw
      case rel =>
        refine ⟨k + 1, max q x, by omega, by go_num, ?_, ?_, by trivial⟩
        · congr 1; omega
        · show _ = _; simp only [mx]; rw [HA.out, HX.out]
      case measure => simp [intOf]; omega
    · go_wp2_with fail
      go_ret
      refine ⟨?_, rfl⟩
      rw [← HA.out, show k = n by omega]; rfl
end Go.Proofs.Ytcdnbkfjiigdmaa
