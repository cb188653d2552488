/-
  The contracts of slices.Index and slices.Contains at Bools: whether false is among them.
-/
import Derived.Test.YtpbnnmfjahckmaaGrB
namespace Go.Proofs.Ytpbnnmfjahckmaa
open Go.RowKit
open Cg

def cont (n : Nat) (M : Nat → Bool) : Bool := (List.range n).any fun i => !M i
theorem cont_true {n : Nat} {M : Nat → Bool} {i : Nat} (hi : i < n) (h : M i = false) : cont n M = true :=
  List.any_eq_true.2 ⟨i, List.mem_range.2 hi, by simp [h]⟩
theorem cont_none {n : Nat} {M : Nat → Bool} (h : ∀ i, i < n → M i = true) : cont n M = false := by
  unfold cont
  rw [List.any_eq_false]
  intro i hi
  simp [h i (List.mem_range.1 hi)]
theorem cont_false {n : Nat} {M : Nat → Bool} (h : cont n M = false) : ∀ i, i < n → M i = true := fun i hi => by
  cases e : M i with
  | true => rfl
  | false => rw [cont_true hi e] at h; cases h
set_option maxHeartbeats 3200000 in
set_option maxRecDepth 20000 in
theorem indexB_any (b n : Nat) (hn : n ≤ 100000) (M : Nat → Bool) (w : World) (h : Rb w b n M) :
    Calls Try.prog 44 #[.slice (some ⟨b, 0, none⟩) n n, .bool false] w fun e w' => ∃ r, e = .returned (.int .i64 r) ∧ decide (0 ≤ r) = cont n M ∧ Below w.heap.size w w' := by
  have HR : Hid (Rb w b n M) := h
  clear h
  go_enter Try.func44, Try.ntmps44
  go_wp2_with fail
  go_loopw [8] (fun y wr => ∃ i : Nat, i ≤ n ∧ y = .int .i64 (i : Int) ∧ Hid (Below w.heap.size w wr ∧ ∀ j, j < i → M j = true)) (fun y _ => n - (intOf y).toNat)
  case atStart => exact ⟨0, by omega, rfl, Below.refl _ _, fun j hj => absurd hj (Nat.not_lt_zero _)⟩
  case round =>
    obtain ⟨i, hi, rfl, HI⟩ := hrel
    by_cases hlt : i < n
    · have c0 := World.rowIs.cell (HR.out.next HI.out.1) (i := i) hlt
      have hk0 : (0 : Int) ≤ (i : Int) := by omega
      have hk1 : (i : Int) < (n : Int) := by omega
      obtain ⟨m, HM⟩ : ∃ m, Hid (M i = m) := ⟨_, (rfl : M i = _)⟩
      rw [HM.out] at c0
      cases m with
      | true =>
        have HN : Hid (∀ j, j < i + 1 → M j = true) := fun j hj => by
          by_cases e : j = i
          · subst e; exact HM.out
          · exact HI.out.2 j (by omega)
        have HB := HI.out.1
        go_wp2_with fail
        go_roundw
        case rel => exact ⟨i + 1, by omega, by go_num, HB, HN.out⟩
        case measure => simp [intOf]; omega
      | false =>
        have HB := HI.out.1
        go_wp2_with fail
        go_ret
        exact ⟨_, rfl, by rw [cont_true hlt HM.out]; simp, HB⟩
    · have hk1 : ¬ (i : Int) < (n : Int) := by omega
      have HB := HI.out.1
      have HA : Hid (∀ j, j < n → M j = true) := fun j hj => HI.out.2 j (by omega)
      go_wp2_with fail
      go_ret
      exact ⟨_, rfl, by rw [cont_none HA.out]; rfl, HB⟩
set_option maxHeartbeats 3200000 in
set_option maxRecDepth 20000 in
theorem containsB_any (b n : Nat) (hn : n ≤ 100000) (M : Nat → Bool) (w : World) (h : Rb w b n M) :
    Calls Try.prog 19 #[.slice (some ⟨b, 0, none⟩) n n, .bool false] w fun e w' => e = .returned (.bool (cont n M)) ∧ Below w.heap.size w w' := by
  have hcall := indexB_any b n hn M w h
  generalize cont n M = q at hcall ⊢
  go_enter Try.func19, Try.ntmps19
  go_wp2_with fail
  refine hcall.mono ?_
  rintro _ w2 ⟨r, rfl, hr, hb⟩
  have HR : Hid _ := hr
  clear hcall hr
  by_cases h0 : r < 0
  · have hk : decide (r ≥ 0) = false := by simpa using h0
    have hk2 : ¬ (0 : Int) ≤ r := by omega
    have HQ : Hid (q = false) := by show _ = _; rw [← HR.out]; simpa using h0
    go_wp2_with fail
    go_ret
    exact ⟨by rw [HQ.out]; simp, hb⟩
  · have hk : decide (r ≥ 0) = true := by simpa using h0
    have hk2 : (0 : Int) ≤ r := by omega
    have HQ : Hid (q = true) := by show _ = _; rw [← HR.out]; simpa using h0
    go_wp2_with fail
    go_ret
    exact ⟨by rw [HQ.out]; simp, hb⟩
end Go.Proofs.Ytpbnnmfjahckmaa
