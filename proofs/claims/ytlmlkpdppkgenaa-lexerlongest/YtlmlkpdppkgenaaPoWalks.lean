/-
  The contracts of the plain loops over lists of numbers: areRules, arePlaces, rising, slices.Index, slices.Contains, slices.Equal, marked.
-/
import Derived.Test.YtlmlkpdppkgenaaPoOpens
import Derived.Deep.QuietTactic
import Derived.BigQuiet
import Derived.OwnWalk
namespace Go.Proofs.Ytlmlkpdppkgenaa
open Go.RowKit
open Cls Po

theorem info3 : (Try.prog.info? 3).map (fun i => (i.zero, i.size, i.bytes)) = some (some (.int .i64 0), 1, 8) := by kernel_rfl

set_option maxHeartbeats 1600000 in
set_option maxRecDepth 20000 in
theorem areRules_any (v : Value) (l : List Int) (k : Nat) (w : World) (h : Ints w v l) :
    Calls Try.prog 52 #[v, .int .i64 (k : Int)] w fun e w' => e = .returned (.bool (l.all (ruleOk k))) ∧ w' = w := by
  obtain ⟨ao, cap, rfl, hm, hcs⟩ := h
  go_enter Try.func52, Try.ntmps52
  go_wp2_with fail
  go_loopw [9] (fun i wr => ∃ q : Nat, q ≤ l.length ∧ i = .int .i64 (q : Int) ∧ Hid ((l.take q).all (ruleOk k) = true) ∧ wr = w) (fun i _ => l.length - (intOf i).toNat)
  case atStart => exact ⟨0, by omega, rfl, rfl, rfl⟩
  case round =>
    obtain ⟨q, hq, rfl, HA, rfl⟩ := hrel
    by_cases hlt : q < l.length
    · obtain ⟨b, o, rfl, hb, hc⟩ := hcs.resolve_left (by intro e; subst e; simp at hlt)
      have c0 := hc q hlt
      obtain ⟨z, HZ⟩ : ∃ z, Hid (l[q] = z) := ⟨_, (rfl : l[q] = l[q])⟩
      rw [HZ.out] at c0
      have hk1 : (q : Int) < (l.length : Int) := by omega
      have HS : Hid ((l.take (q + 1)).all (ruleOk k) = ruleOk k z) := by
        show _ = _
        rw [List.take_succ_eq_append_getElem hlt, List.all_append, HA.out, HZ.out]; simp
      have HF : Hid (ruleOk k z = false → l.all (ruleOk k) = false) := fun e => by
        rw [List.all_eq_false]; exact ⟨z, by rw [← HZ.out]; exact List.getElem_mem hlt, by rw [e]; simp⟩
      clear hcs hc
      by_cases h1 : z < 0
      · go_wp2_with fail
        go_ret
        exact ⟨by rw [HF.out (by unfold ruleOk; simp; omega)]; rfl, rfl⟩
      · by_cases h2 : (k : Int) ≤ z
        · go_wp2_with fail
          go_ret
          exact ⟨by rw [HF.out (by unfold ruleOk; simp; omega)]; rfl, rfl⟩
        · go_wp2_with fail
          go_roundw
          case rel => exact ⟨q + 1, by omega, by go_num, by show _ = _; rw [HS.out]; unfold ruleOk; simp; omega, by trivial⟩
          case measure => simp [intOf]; omega
    · go_wp2_with fail
      go_ret
      refine ⟨?_, rfl⟩
      rw [← HA.out, List.take_of_length_le (by omega)]; rfl

set_option maxHeartbeats 1600000 in
set_option maxRecDepth 20000 in
theorem arePlaces_any (v : Value) (l : List Int) (k : Nat) (w : World) (h : Ints w v l) :
    Calls Try.prog 53 #[v, .int .i64 (k : Int)] w fun e w' => e = .returned (.bool (rises k l)) ∧ w' = w := by
  obtain ⟨ao, cap, rfl, hm, hcs⟩ := h
  go_enter Try.func53, Try.ntmps53
  go_wp2_with fail
  go_loopw [10, 5] (fun i z wr => ∃ (q : Nat) (y : Int), q ≤ l.length ∧ i = .int .i64 (q : Int) ∧ z = .int .i64 y ∧ Hid (rises k l = risesFrom k y (l.drop q)) ∧ wr = w) (fun i _ _ => l.length - (intOf i).toNat)
  case atStart => exact ⟨0, -1, by omega, rfl, rfl, rfl, rfl⟩
  case round =>
    obtain ⟨q, y, hq, rfl, rfl, HA, rfl⟩ := hrel
    by_cases hlt : q < l.length
    · obtain ⟨b, o, rfl, hb, hc⟩ := hcs.resolve_left (by intro e; subst e; simp at hlt)
      have c0 := hc q hlt
      have HS : Hid (rises k l = (decide (y < l[q]) && decide (l[q] < (k : Int)) && risesFrom k l[q] (l.drop (q + 1)))) := by
        show _ = _
        rw [HA.out, risesFrom_step k y l q hlt]
      obtain ⟨z, HZ⟩ : ∃ z, Hid (l[q] = z) := ⟨_, (rfl : l[q] = l[q])⟩
      rw [HZ.out] at c0 HS
      have hk1 : (q : Int) < (l.length : Int) := by omega
      clear hcs hc
      by_cases h1 : z ≤ y
      · go_wp2_with fail
        go_ret
        exact ⟨by rw [HS.out, decide_eq_false (by omega)]; rfl, rfl⟩
      · by_cases h2 : (k : Int) ≤ z
        · go_wp2_with fail
          go_ret
          exact ⟨by rw [HS.out, decide_eq_false (p := z < (k : Int)) (by omega)]; simp, rfl⟩
        · go_wp2_with fail
          go_roundw
          case rel => exact ⟨q + 1, z, by omega, by go_num, rfl, by show _ = _; rw [HS.out, decide_eq_true (by omega), decide_eq_true (by omega)]; rfl, by trivial⟩
          case measure => simp [intOf]; omega
    · go_wp2_with fail
      go_ret
      refine ⟨?_, rfl⟩
      rw [HA.out, List.drop_of_length_le (by omega)]; rfl

end Go.Proofs.Ytlmlkpdppkgenaa
