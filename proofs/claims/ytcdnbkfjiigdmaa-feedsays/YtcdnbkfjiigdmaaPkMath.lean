/-
  The plain mathematics of a packed automaton: which are right.
-/
import Derived.Test.YtcdnbkfjiigdmaaMath
namespace Go.Proofs.Ytcdnbkfjiigdmaa.Dfa

/-- Is each of these numbers none, or from 0 to k? -/
def upOk (m : Nat) (T : Nat → Int) (k : Int) : Bool := (List.range m).all fun i => decide (-1 ≤ T i) && decide (T i ≤ k)
def statesOk (n : Nat) (L : Nat → Nat) (X : Nat → Nat → Int) : Bool := (List.range n).all fun i => upOk (L i) (X i) ((n : Int) - 1)
def lensOk (n : Nat) (L : Nat → Nat) : Bool := (List.range n).all fun i => decide (L i = L 0)
def ofOk (O : Nat → Nat) (k : Nat) : Bool := (List.range 256).all fun j => decide (O j < k)
/-- Have all the same columns, not too many, and each byte one of them? -/
def colsOk (n : Nat) (O : Nat → Nat) (L : Nat → Nat) : Bool := lensOk n L && (decide (L 0 ≤ 256) && ofOk O (L 0))
/-- What Check answers. -/
def chkP (n m : Nat) (O : Nat → Nat) (L : Nat → Nat) (X : Nat → Nat → Int) (T : Nat → Int) : Int :=
  if 200 < n then 2 else if n = 0 ∨ m ≠ n then 1 else if colsOk n O L = true ∧ statesOk n L X = true ∧ upOk m T 19 = true then 0 else 1
/-- The greatest of the first ones. -/
def mx (O : Nat → Nat) : Nat → Nat
  | 0 => 0
  | k + 1 => max (mx O k) (O k)
theorem mx_lt (O : Nat → Nat) (c : Nat) (hc : 0 < c) : ∀ k, mx O k < c ↔ ∀ j, j < k → O j < c
  | 0 => ⟨fun _ j hj => absurd hj (Nat.not_lt_zero _), fun _ => hc⟩
  | k + 1 => by
    have ih := mx_lt O c hc k
    constructor
    · intro h j hj
      simp only [mx] at h
      by_cases e : j = k
      · subst e; omega
      · exact ih.1 (by omega) j (by omega)
    · intro h
      have h1 := ih.2 fun j hj => h j (by omega)
      have h2 := h k (by omega)
      simp only [mx]; omega
theorem mx_of (O : Nat → Nat) (c : Nat) : decide ((mx O 256 : Int) < (c : Int)) = ofOk O c := by
  by_cases hc : 0 < c
  · by_cases h : mx O 256 < c
    · rw [show ofOk O c = true from all_true fun j hj => by simp; exact (mx_lt O c hc 256).1 h j hj]
      simp; omega
    · have : ¬ ∀ j, j < 256 → O j < c := fun g => h ((mx_lt O c hc 256).2 g)
      obtain ⟨j, hj⟩ := Classical.not_forall.1 this
      obtain ⟨h1, h2⟩ := Classical.not_imp.1 hj
      rw [show ofOk O c = false from all_false h1 (by simp; omega)]
      simp; omega
  · obtain rfl : c = 0 := by omega
    rw [show ofOk O 0 = false from all_false (i := 0) (by omega) (by simp)]
    simp
theorem mx_le (O : Nat → Nat) (h : ∀ j, O j < 256) : ∀ k, mx O k < 256 := fun k => (mx_lt O 256 (by omega) k).2 fun j _ => h j
theorem chkP_zero {n m : Nat} {O L : Nat → Nat} {X : Nat → Nat → Int} {T : Nat → Int} (h : chkP n m O L X T = 0) : 0 < n ∧ n ≤ 200 ∧ m = n ∧ colsOk n O L = true ∧ statesOk n L X = true ∧ upOk m T 19 = true := by
  unfold chkP at h
  split at h
  · omega
  · split at h
    · omega
    · split at h
      · rename_i h3
        exact ⟨by omega, by omega, by omega, h3.1, h3.2.1, h3.2.2⟩
      · omega
theorem cols_at {n : Nat} {O L : Nat → Nat} (h : colsOk n O L = true) : (∀ i, i < n → L i = L 0) ∧ L 0 ≤ 256 ∧ ∀ j, j < 256 → O j < L 0 := by
  simp only [colsOk, Bool.and_eq_true, decide_eq_true_eq] at h
  refine ⟨fun i hi => ?_, h.2.1, fun j hj => ?_⟩
  · simpa using all_at h.1 i hi
  · simpa using all_at h.2.2 j hj
theorem up_at {m : Nat} {T : Nat → Int} {k : Int} (h : upOk m T k = true) (i : Nat) (hi : i < m) : -1 ≤ T i ∧ T i ≤ k := by
  simpa using all_at h i hi
theorem states_at {n : Nat} {L : Nat → Nat} {X : Nat → Nat → Int} (h : statesOk n L X = true) (i j : Nat) (hi : i < n) (hj : j < L i) : -1 ≤ X i j ∧ X i j ≤ (n : Int) - 1 := up_at (all_at h i hi) j hj
end Go.Proofs.Ytcdnbkfjiigdmaa.Dfa
