/-
  The contracts of dfa.Check, dfa.run, dfa.Run and dfa.Tag.
-/
import Derived.Test.YtkogbokelaanjaaStates
import Derived.WalkSmall
namespace Go.Proofs.Ytkogbokelaanjaa
open Go.RowKit
open Dfa

set_option maxHeartbeats 1600000 in
set_option maxRecDepth 20000 in
theorem check_any (rv tv : Value) (n m : Nat) (R : Nat → Nat → Int) (T : Nat → Int) (w : World) (hr : Rw w rv n R) (ht : Ts w tv m T) :
    Calls Try.prog 14 #[.agg #[rv, tv]] w fun e w' => e = .returned (.int .i64 (chk n m R T)) ∧ Below w.heap.size w w' := by
  have HR : Hid (Rw w rv n R) := hr
  have HT : Hid (Ts w tv m T) := ht
  obtain ⟨ao, cap, rfl, hn, hwf, -⟩ := hr
  obtain ⟨ao', cap', rfl, hm, hwf', -⟩ := ht
  clear hwf hwf'
  go_enter Try.func14, Try.ntmps14
  by_cases h1 : 200 < n
  · have h1' : (200 : Int) < (n : Int) := by omega
    go_wp2_with fail
    go_ret
    exact ⟨by unfold chk; rw [if_pos h1]; rfl, (Below.refl _ _).alloc (Nat.le_refl _) _⟩
  · by_cases h2 : n = 0 ∨ m ≠ n
    · have E : Hid (chk n m R T = 1) := by show _ = _; unfold chk; rw [if_neg h1, if_pos h2]
      by_cases h3 : n = 0
      · subst h3
        go_wp2_with fail
        go_ret
        exact ⟨by rw [E.out]; rfl, (Below.refl _ _).alloc (Nat.le_refl _) _⟩
      · have h4 : m ≠ n := by omega
        have h5 : ((m : Int) != (n : Int)) = true := by simp; omega
        have h6 : ((n : Int) == 0) = false := by simp; omega
        go_wp2_with fail
        go_ret
        exact ⟨by rw [E.out]; rfl, (Below.refl _ _).alloc (Nat.le_refl _) _⟩
    · obtain rfl : m = n := by omega
      have h6 : ¬ ((m : Int) = 0) := by omega
      go_wp2_with fail
      have B0 : Below w.heap.size w (w.alloc (Obj.cells #[Value.slice ao m cap, Value.slice ao' m cap'] 25)) := (Below.refl _ _).alloc (Nat.le_refl _) _
      refine (areStates_any _ m R _ (HR.out.below B0 (Nat.le_refl _))).mono ?_
      rintro _ w1 ⟨rfl, hb1⟩
      have c0 : w1.cell? ⟨w.heap.size, 0, none⟩ = some (Value.slice ao m cap) := (hb1.cell (by simp)).trans (by simp)
      have c1 : w1.cell? ⟨w.heap.size, 1, none⟩ = some (Value.slice ao' m cap') := (hb1.cell (by simp)).trans (by simp)
      have B1 : Below w.heap.size w w1 := B0.trans (hb1.mono (by simp))
      have E : Hid (chk m m R T = if rowsOk m R = true ∧ tagsOk m T = true then 0 else 1) := by show _ = _; unfold chk; rw [if_neg h1, if_neg h2]
      rcases hrs : rowsOk m R with _ | _
      · go_wp2_with fail
        go_ret
        exact ⟨by rw [E.out, hrs]; rfl, B1⟩
      · go_wp2_with fail
        refine (areTags_any _ m T w1 (HT.out.below B1 (Nat.le_refl _))).mono ?_
        rintro _ w2 ⟨rfl, rfl⟩
        rcases hts : tagsOk m T with _ | _
        · go_wp2_with fail
          go_ret
          exact ⟨by rw [E.out, hrs, hts]; rfl, B1⟩
        · go_wp2_with fail
          go_ret
          exact ⟨by rw [E.out, hrs, hts]; rfl, B1⟩

end Go.Proofs.Ytkogbokelaanjaa
