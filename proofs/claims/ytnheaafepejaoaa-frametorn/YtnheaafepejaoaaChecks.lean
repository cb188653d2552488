/-
  The contracts of frame.isKind, frame.Check and pushref.Frame: each answers what YtnheaafepejaoaaMath says of every frame; what was there stays.
-/
import Derived.Test.YtnheaafepejaoaaSums
import Derived.Test.YtnheaafepejaoaaMath
import Derived.Below
import Derived.BigQuiet
namespace Go.Proofs.Ytnheaafepejaoaa
open Go.RowKit
open Frm

/-- A frame as a value. -/
def fv (f : Fr) : Value := .agg #[.int .i64 f.kind, .int .i64 f.who, .string f.body]

theorem isKind_any (z : Int) (w : World) :
    Calls Try.prog 21 #[.int .i64 z] w fun e w' => e = .returned (.bool (decide (1 ≤ z ∧ z ≤ 9))) ∧ w' = w := by
  by_cases h1 : 1 ≤ z
  · by_cases h2 : z ≤ 9
    · have hd : decide (1 ≤ z ∧ z ≤ 9) = true := by simp; omega
      rw [hd]
      go_enter Try.func21, Try.ntmps21
      go_wp2_with fail
      go_ret
      exact ⟨rfl, rfl⟩
    · have hd : decide (1 ≤ z ∧ z ≤ 9) = false := by simp; omega
      rw [hd]
      go_enter Try.func21, Try.ntmps21
      go_wp2_with fail
      go_ret
      exact ⟨rfl, rfl⟩
  · have hd : decide (1 ≤ z ∧ z ≤ 9) = false := by simp; omega
    rw [hd]
    go_enter Try.func21, Try.ntmps21
    go_wp2_with fail
    go_ret
    exact ⟨rfl, rfl⟩

theorem chk_arg (f : Fr) (h : ¬ (1 ≤ f.kind ∧ f.kind ≤ 9 ∧ 0 ≤ f.who ∧ f.who ≤ 255)) : chk f = 1 := by unfold chk; exact if_pos (by omega)
theorem chk_large (f : Fr) (h : 1 ≤ f.kind ∧ f.kind ≤ 9 ∧ 0 ≤ f.who ∧ f.who ≤ 255) (h2 : 1024 < f.body.size) : chk f = 2 := by
  unfold chk; exact (if_neg (by omega)).trans (if_pos h2)
theorem chk_good (f : Fr) (h : 1 ≤ f.kind ∧ f.kind ≤ 9 ∧ 0 ≤ f.who ∧ f.who ≤ 255) (h2 : f.body.size ≤ 1024) : chk f = 0 := by
  unfold chk; exact (if_neg (by omega)).trans (if_neg (by omega))

set_option maxHeartbeats 800000 in
theorem check_parts (k wh : Int) (b : ByteArray) (w : World) :
    Calls Try.prog 12 #[.agg #[.int .i64 k, .int .i64 wh, .string b]] w fun e w' => e = .returned (.int .i64 ((chk ⟨k, wh, b⟩ : Nat) : Int)) ∧ Below w.heap.size w w' := by
  by_cases h1 : 1 ≤ k ∧ k ≤ 9
  · have hd : decide (1 ≤ k ∧ k ≤ 9) = true := decide_eq_true h1
    have hx := h1.1
    have hy := h1.2
    clear h1
    by_cases h2 : 0 ≤ wh
    · by_cases h3 : wh ≤ 255
      · by_cases h4 : b.size ≤ 1024
        · rw [chk_good ⟨k, wh, b⟩ ⟨hx, hy, h2, h3⟩ h4]
          have h5 : (b.size : Int) ≤ 1024 := by omega
          go_enter Try.func12, Try.ntmps12
          go_wp2_with fail
          refine (isKind_any k _).mono ?_
          rintro e w1 ⟨rfl, hw1⟩
          subst hw1
          rw [hd]
          go_wp2_with fail
          go_ret
          exact ⟨rfl, (Below.refl _ _).alloc (Nat.le_refl _) _⟩
        · rw [chk_large ⟨k, wh, b⟩ ⟨hx, hy, h2, h3⟩ (Nat.lt_of_not_le h4)]
          have h5 : (1024 : Int) < (b.size : Int) := by omega
          go_enter Try.func12, Try.ntmps12
          go_wp2_with fail
          refine (isKind_any k _).mono ?_
          rintro e w1 ⟨rfl, hw1⟩
          subst hw1
          rw [hd]
          go_wp2_with fail
          go_ret
          exact ⟨rfl, (Below.refl _ _).alloc (Nat.le_refl _) _⟩
      · rw [chk_arg ⟨k, wh, b⟩ (fun h => h3 h.2.2.2)]
        have h5 : 255 < wh := by omega
        go_enter Try.func12, Try.ntmps12
        go_wp2_with fail
        refine (isKind_any k _).mono ?_
        rintro e w1 ⟨rfl, hw1⟩
        subst hw1
        rw [hd]
        go_wp2_with fail
        go_ret
        exact ⟨rfl, (Below.refl _ _).alloc (Nat.le_refl _) _⟩
    · rw [chk_arg ⟨k, wh, b⟩ (fun h => h2 h.2.2.1)]
      have h5 : wh < 0 := by omega
      go_enter Try.func12, Try.ntmps12
      go_wp2_with fail
      refine (isKind_any k _).mono ?_
      rintro e w1 ⟨rfl, hw1⟩
      subst hw1
      rw [hd]
      go_wp2_with fail
      go_ret
      exact ⟨rfl, (Below.refl _ _).alloc (Nat.le_refl _) _⟩
  · have hd : decide (1 ≤ k ∧ k ≤ 9) = false := decide_eq_false h1
    rw [chk_arg ⟨k, wh, b⟩ (fun h => h1 ⟨h.1, h.2.1⟩)]
    clear h1
    go_enter Try.func12, Try.ntmps12
    go_wp2_with fail
    refine (isKind_any k _).mono ?_
    rintro e w1 ⟨rfl, hw1⟩
    subst hw1
    rw [hd]
    go_wp2_with fail
    go_ret
    exact ⟨rfl, (Below.refl _ _).alloc (Nat.le_refl _) _⟩
theorem check_any (f : Fr) (w : World) :
    Calls Try.prog 12 #[fv f] w fun e w' => e = .returned (.int .i64 ((chk f : Nat) : Int)) ∧ Below w.heap.size w w' := check_parts f.kind f.who f.body w
set_option maxHeartbeats 800000 in
theorem refcheck_parts (k wh : Int) (b : ByteArray) (w : World) :
    Calls Try.prog 9 #[.agg #[.int .i64 k, .int .i64 wh, .string b]] w fun e w' => e = .returned (.int .i64 ((chk ⟨k, wh, b⟩ : Nat) : Int)) ∧ Below w.heap.size w w' := by
  by_cases h0 : 1 ≤ k ∧ k ≤ 9
  · have hx := h0.1
    have hy := h0.2
    clear h0
    by_cases h2 : 0 ≤ wh
    · by_cases h3 : wh ≤ 255
      · by_cases h4 : b.size ≤ 1024
        · rw [chk_good ⟨k, wh, b⟩ ⟨hx, hy, h2, h3⟩ h4]
          have h5 : (b.size : Int) ≤ 1024 := by omega
          go_enter Try.func9, Try.ntmps9
          go_wp2_with fail
          go_ret
          exact ⟨rfl, (Below.refl _ _).alloc (Nat.le_refl _) _⟩
        · rw [chk_large ⟨k, wh, b⟩ ⟨hx, hy, h2, h3⟩ (Nat.lt_of_not_le h4)]
          have h5 : (1024 : Int) < (b.size : Int) := by omega
          go_enter Try.func9, Try.ntmps9
          go_wp2_with fail
          go_ret
          exact ⟨rfl, (Below.refl _ _).alloc (Nat.le_refl _) _⟩
      · rw [chk_arg ⟨k, wh, b⟩ (fun h => h3 h.2.2.2)]
        have h5 : 255 < wh := by omega
        go_enter Try.func9, Try.ntmps9
        go_wp2_with fail
        go_ret
        exact ⟨rfl, (Below.refl _ _).alloc (Nat.le_refl _) _⟩
    · rw [chk_arg ⟨k, wh, b⟩ (fun h => h2 h.2.2.1)]
      have h5 : wh < 0 := by omega
      go_enter Try.func9, Try.ntmps9
      go_wp2_with fail
      go_ret
      exact ⟨rfl, (Below.refl _ _).alloc (Nat.le_refl _) _⟩
  · rw [chk_arg ⟨k, wh, b⟩ (fun h => h0 ⟨h.1, h.2.1⟩)]
    by_cases h1 : 1 ≤ k
    · have h5 : 9 < k := by omega
      clear h0
      go_enter Try.func9, Try.ntmps9
      go_wp2_with fail
      go_ret
      exact ⟨rfl, (Below.refl _ _).alloc (Nat.le_refl _) _⟩
    · have h5 : k < 1 := by omega
      clear h0
      go_enter Try.func9, Try.ntmps9
      go_wp2_with fail
      go_ret
      exact ⟨rfl, (Below.refl _ _).alloc (Nat.le_refl _) _⟩
theorem refcheck_any (f : Fr) (w : World) :
    Calls Try.prog 9 #[fv f] w fun e w' => e = .returned (.int .i64 ((chk f : Nat) : Int)) ∧ Below w.heap.size w w' := refcheck_parts f.kind f.who f.body w
end Go.Proofs.Ytnheaafepejaoaa
