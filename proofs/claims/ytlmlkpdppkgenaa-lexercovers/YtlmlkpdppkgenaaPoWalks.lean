/-
  The contracts of the plain loops over lists of numbers: areRules, arePlaces, rising, slices.Index, slices.Contains, slices.Equal, marked.
-/
import Derived.Test.YtlmlkpdppkgenaaPoOpens
import Derived.Deep.QuietTactic
import Derived.BigQuiet
import Derived.OwnWalk
namespace Go.Proofs.Ytlmlkpdppkgenaa
open Go.RowKit
open Cls Po

theorem info3 : (Try.prog.info? 3).map (fun i => (i.zero, i.size, i.bytes)) = some (some (.int .i64 0), 1, 8) := by kernel_rfl

set_option maxHeartbeats 1600000 in
set_option maxRecDepth 20000 in
theorem areRules_any (v : Value) (l : List Int) (k : Nat) (w : World) (h : Ints w v l) :
    Calls Try.prog 52 #[v, .int .i64 (k : Int)] w fun e w' => e = .returned (.bool (l.all (ruleOk k))) ∧ w' = w := by
  obtain ⟨ao, cap, rfl, hm, hcs⟩ := h
  go_enter Try.func52, Try.ntmps52
  go_wp2_with fail
  go_loopw [9] (fun i wr => ∃ q : Nat, q ≤ l.length ∧ i = .int .i64 (q : Int) ∧ Hid ((l.take q).all (ruleOk k) = true) ∧ wr = w) (fun i _ => l.length - (intOf i).toNat)
  case atStart => exact ⟨0, by omega, rfl, rfl, rfl⟩
  case round =>
    obtain ⟨q, hq, rfl, HA, rfl⟩ := hrel
    by_cases hlt : q < l.length
    · obtain ⟨b, o, rfl, hb, hc⟩ := hcs.resolve_left (by intro e; subst e; simp at hlt)
      have c0 := hc q hlt
      obtain ⟨z, HZ⟩ : ∃ z, Hid (l[q] = z) := ⟨_, (rfl : l[q] = l[q])⟩
      rw [HZ.out] at c0
      have hk1 : (q : Int) < (l.length : Int) := by omega
      have HS : Hid ((l.take (q + 1)).all (ruleOk k) = ruleOk k z) := by
        show _ = _
        rw [List.take_succ_eq_append_getElem hlt, List.all_append, HA.out, HZ.out]; simp
      have HF : Hid (ruleOk k z = false → l.all (ruleOk k) = false) := fun e => by
        rw [List.all_eq_false]; exact ⟨z, by rw [← HZ.out]; exact List.getElem_mem hlt, by rw [e]; simp⟩
      clear hcs hc
      by_cases h1 : z < 0
      · go_wp2_with fail
        go_ret
        exact ⟨by rw [HF.out (by unfold ruleOk; simp; omega)]; rfl, rfl⟩
      · by_cases h2 : (k : Int) ≤ z
        · go_wp2_with fail
          go_ret
          exact ⟨by rw [HF.out (by unfold ruleOk; simp; omega)]; rfl, rfl⟩
        · go_wp2_with fail
          go_roundw
          case rel => exact ⟨q + 1, by omega, by go_num, by show _ = _; rw [HS.out]; unfold ruleOk; simp; omega, by trivial⟩
          case measure => simp [intOf]; omega
    · go_wp2_with fail
      go_ret
      refine ⟨?_, rfl⟩
      rw [← HA.out, List.take_of_length_le (by omega)]; rfl

set_option maxHeartbeats 1600000 in
set_option maxRecDepth 20000 in
theorem arePlaces_any (v : Value) (l : List Int) (k : Nat) (w : World) (h : Ints w v l) :
    Calls Try.prog 53 #[v, .int .i64 (k : Int)] w fun e w' => e = .returned (.bool (rises k l)) ∧ w' = w := by
  obtain ⟨ao, cap, rfl, hm, hcs⟩ := h
  go_enter Try.func53, Try.ntmps53
  go_wp2_with fail
  go_loopw [10, 5] (fun i z wr => ∃ (q : Nat) (y : Int), q ≤ l.length ∧ i = .int .i64 (q : Int) ∧ z = .int .i64 y ∧ Hid (rises k l = risesFrom k y (l.drop q)) ∧ wr = w) (fun i _ _ => l.length - (intOf i).toNat)
  case atStart => exact ⟨0, -1, by omega, rfl, rfl, rfl, rfl⟩
  case round =>
    obtain ⟨q, y, hq, rfl, rfl, HA, rfl⟩ := hrel
    by_cases hlt : q < l.length
    · obtain ⟨b, o, rfl, hb, hc⟩ := hcs.resolve_left (by intro e; subst e; simp at hlt)
      have c0 := hc q hlt
      have HS : Hid (rises k l = (decide (y < l[q]) && decide (l[q] < (k : Int)) && risesFrom k l[q] (l.drop (q + 1)))) := by
        show _ = _
        rw [HA.out, risesFrom_step k y l q hlt]
      obtain ⟨z, HZ⟩ : ∃ z, Hid (l[q] = z) := ⟨_, (rfl : l[q] = l[q])⟩
      rw [HZ.out] at c0 HS
      have hk1 : (q : Int) < (l.length : Int) := by omega
      clear hcs hc
      by_cases h1 : z ≤ y
      · go_wp2_with fail
        go_ret
        exact ⟨by rw [HS.out, decide_eq_false (by omega)]; rfl, rfl⟩
      · by_cases h2 : (k : Int) ≤ z
        · go_wp2_with fail
          go_ret
          exact ⟨by rw [HS.out, decide_eq_false (p := z < (k : Int)) (by omega)]; simp, rfl⟩
        · go_wp2_with fail
          go_roundw
          case rel => exact ⟨q + 1, z, by omega, by go_num, rfl, by show _ = _; rw [HS.out, decide_eq_true (by omega), decide_eq_true (by omega)]; rfl, by trivial⟩
          case measure => simp [intOf]; omega
    · go_wp2_with fail
      go_ret
      refine ⟨?_, rfl⟩
      rw [HA.out, List.drop_of_length_le (by omega)]; rfl

set_option maxHeartbeats 1600000 in
set_option maxRecDepth 20000 in
theorem rising_any (v : Value) (l : List Int) (k : Nat) (w : World) (h : Ints w v l) :
    Calls Try.prog 31 #[v, .int .i64 (k : Int)] w fun e w' => e = .returned (.bool (rises k l)) ∧ w' = w := by
  obtain ⟨ao, cap, rfl, hm, hcs⟩ := h
  go_enter Try.func31, Try.ntmps31
  go_wp2_with fail
  go_loopw [6, 5] (fun i z wr => ∃ (q : Nat) (y : Int), q ≤ l.length ∧ i = .int .i64 (q : Int) ∧ z = .int .i64 y ∧ Hid (rises k l = risesFrom k y (l.drop q)) ∧ wr = w) (fun i _ _ => l.length - (intOf i).toNat)
  case atStart => exact ⟨0, -1, by omega, rfl, rfl, rfl, rfl⟩
  case round =>
    obtain ⟨q, y, hq, rfl, rfl, HA, rfl⟩ := hrel
    by_cases hlt : q < l.length
    · obtain ⟨b, o, rfl, hb, hc⟩ := hcs.resolve_left (by intro e; subst e; simp at hlt)
      have c0 := hc q hlt
      have HS : Hid (rises k l = (decide (y < l[q]) && decide (l[q] < (k : Int)) && risesFrom k l[q] (l.drop (q + 1)))) := by
        show _ = _
        rw [HA.out, risesFrom_step k y l q hlt]
      obtain ⟨z, HZ⟩ : ∃ z, Hid (l[q] = z) := ⟨_, (rfl : l[q] = l[q])⟩
      rw [HZ.out] at c0 HS
      have hk1 : (q : Int) < (l.length : Int) := by omega
      clear hcs hc
      by_cases h1 : z ≤ y
      · go_wp2_with fail
        go_ret
        exact ⟨by rw [HS.out, decide_eq_false (by omega)]; rfl, rfl⟩
      · by_cases h2 : (k : Int) ≤ z
        · go_wp2_with fail
          go_ret
          exact ⟨by rw [HS.out, decide_eq_false (p := z < (k : Int)) (by omega)]; simp, rfl⟩
        · go_wp2_with fail
          go_roundw
          case rel => exact ⟨q + 1, z, by omega, by go_num, rfl, by show _ = _; rw [HS.out, decide_eq_true (by omega), decide_eq_true (by omega)]; rfl, by trivial⟩
          case measure => simp [intOf]; omega
    · go_wp2_with fail
      go_ret
      refine ⟨?_, rfl⟩
      rw [HA.out, List.drop_of_length_le (by omega)]; rfl

set_option maxHeartbeats 1600000 in
set_option maxRecDepth 20000 in
theorem equal_any (v u : Value) (l m : List Int) (w : World) (h : Ints w v l) (h' : Ints w u m) :
    Calls Try.prog 33 #[v, u] w fun e w' => e = .returned (.bool (decide (l = m))) ∧ Below w.heap.size w w' := by
  obtain ⟨ao, cap, rfl, hm, hcs⟩ := h
  obtain ⟨ao', cap', rfl, hm', hcs'⟩ := h'
  go_enter Try.func33, Try.ntmps33
  by_cases hlen : l.length = m.length
  · have HL : Hid (l.length = m.length) := hlen
    obtain ⟨n, HN⟩ : ∃ n, Hid (l.length = n) := ⟨_, (rfl : l.length = l.length)⟩
    rw [← hlen, HN.out]
    have HM : Hid (m.length = n) := by show _ = _; rw [← hlen, HN.out]
    have hnm : n ≤ 9223372036854775807 := by rw [← HN.out]; exact hm
    have hnn : ((n : Int) != (n : Int)) = false := by simp
    clear hlen hm hm'
    go_wp2_with fail
    go_loopw [13] (fun i wr => ∃ q : Nat, q ≤ n ∧ i = .int .i64 (q : Int) ∧ Hid (∀ i (hi : i < l.length) (hi' : i < m.length), i < q → l[i] = m[i]) ∧ Below w.heap.size w wr) (fun i _ => n - (intOf i).toNat)
    case atStart => exact ⟨0, by omega, rfl, fun i _ _ hi => by omega, Below.refl _ _⟩
    case round =>
      obtain ⟨q, hq, rfl, HA, hbel⟩ := hrel
      by_cases hlt : q < n
      · have hl1 : q < l.length := by rw [HN.out]; exact hlt
        have hl2 : q < m.length := by rw [HM.out]; exact hlt
        obtain ⟨b, o, rfl, hb, hc⟩ := hcs.resolve_left (by intro e; subst e; simp at hl1)
        obtain ⟨b', o', rfl, hb', hc'⟩ := hcs'.resolve_left (by intro e; subst e; simp at hl2)
        have c0 : wr.cell? ⟨b, o + q, none⟩ = _ := (hbel.cell (p := ⟨b, o + q, none⟩) hb).trans (hc q hl1)
        have c1 : wr.cell? ⟨b', o' + q, none⟩ = _ := (hbel.cell (p := ⟨b', o' + q, none⟩) hb').trans (hc' q hl2)
        obtain ⟨z, HZ⟩ : ∃ z, Hid (l[q] = z) := ⟨_, (rfl : l[q] = l[q])⟩
        obtain ⟨y, HY⟩ : ∃ y, Hid (m[q] = y) := ⟨_, (rfl : m[q] = m[q])⟩
        rw [HZ.out] at c0
        rw [HY.out] at c1
        have hk1 : (q : Int) < (n : Int) := by omega
        clear hcs hc hcs' hc'
        by_cases h1 : z = y
        · have hb1 : (z != y) = false := by simp; exact h1
          have H1 : Hid (z = y) := h1
          clear h1
          go_wp2_with (go_quiet (fail))
          go_roundw
          case rel =>
            refine ⟨q + 1, by omega, by go_num, fun i hi hi' h2 => ?_, below_drewN hbel nq⟩
            by_cases e : i = q
            · subst e; rw [HZ.out, HY.out, H1.out]
            · exact HA.out i hi hi' (by omega)
          case measure => simp [intOf]; omega
        · have hb1 : (z != y) = true := by simp; exact h1
          have HD : Hid (decide (l = m) = false) := by
            show _ = _
            apply decide_eq_false
            intro e
            subst e
            exact h1 (by rw [← HZ.out, ← HY.out])
          go_wp2_with (go_quiet (fail))
          go_ret
          exact ⟨by rw [HD.out]; rfl, below_drewN hbel nq⟩
      · go_wp2_with fail
        go_ret
        refine ⟨?_, hbel⟩
        have e : l = m := List.ext_getElem HL.out fun i h1 h2 => HA.out i h1 h2 (by rw [HN.out] at h1; omega)
        rw [decide_eq_true e]; rfl
  · have HD : Hid (decide (l = m) = false) := by
      show _ = _
      apply decide_eq_false
      intro e; subst e; exact hlen rfl
    have hnn : ((l.length : Int) != (m.length : Int)) = true := by simp; omega
    go_wp2_with fail
    go_ret
    exact ⟨by rw [HD.out]; rfl, Below.refl _ _⟩

end Go.Proofs.Ytlmlkpdppkgenaa
