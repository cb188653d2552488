/-
  The plain mathematics of a class's least byte: the first number below 256 that is in it, or 256; no condition.
-/
import Derived.Test.YtgoejdakmbpcmaaMath
namespace Go.Proofs.Ytgoejdakmbpcmaa.Cls

/-! ### The least byte -/
/-- The first of k numbers from a on of which p holds; else the one behind them. -/
def firstFrom (p : Nat → Bool) : Nat → Nat → Nat
  | 0, a => a
  | k + 1, a => if p a then a else firstFrom p k (a + 1)
theorem firstFrom_le (p : Nat → Bool) : ∀ k a, a ≤ firstFrom p k a ∧ firstFrom p k a ≤ a + k
  | 0, a => ⟨Nat.le_refl _, Nat.le_refl _⟩
  | k + 1, a => by
    unfold firstFrom
    split
    · omega
    · have := firstFrom_le p k (a + 1); omega
theorem firstFrom_no (p : Nat → Bool) : ∀ k a j, a ≤ j → j < firstFrom p k a → p j = false
  | 0, a, j, h1, h2 => by unfold firstFrom at h2; omega
  | k + 1, a, j, h1, h2 => by
    unfold firstFrom at h2
    split at h2
    · omega
    · rename_i h
      by_cases e : j = a
      · subst e; simpa using h
      · exact firstFrom_no p k (a + 1) j (by omega) h2
theorem firstFrom_yes (p : Nat → Bool) : ∀ k a, firstFrom p k a < a + k → p (firstFrom p k a) = true
  | 0, a, h => by unfold firstFrom at h; omega
  | k + 1, a, h => by
    unfold firstFrom at h ⊢
    split
    · assumption
    · rename_i hn
      rw [if_neg hn] at h
      exact firstFrom_yes p k (a + 1) (by omega)
def least (c : Cl) : Nat := firstFrom (mem c) 256 0
theorem least_le (c : Cl) : least c ≤ 256 := by have := firstFrom_le (mem c) 256 0; unfold least; omega
theorem least_no (c : Cl) (j : Nat) (h : j < least c) : mem c j = false := firstFrom_no (mem c) 256 0 j (by omega) h
theorem least_yes (c : Cl) (h : least c < 256) : mem c (least c) = true := firstFrom_yes (mem c) 256 0 (by unfold least at h; omega)
theorem least_of {c : Cl} {k : Nat} (hk : k ≤ 256) (h : ∀ j, j < k → mem c j = false) (hk2 : k < 256 → mem c k = true) : least c = k := by
  rcases Nat.lt_trichotomy (least c) k with h1 | h1 | h1
  · have := least_yes c (by omega)
    rw [h _ h1] at this; cases this
  · exact h1
  · have := least_no c k h1
    have h2 := least_le c
    rw [hk2 (by omega)] at this; cases this
theorem least_lt {c : Cl} {b : Nat} (h : mem c b = true) : least c ≤ b := by
  rcases Nat.lt_or_ge b (least c) with h1 | h1
  · rw [least_no c b h1] at h; cases h
  · exact h1
end Go.Proofs.Ytgoejdakmbpcmaa.Cls
