/-
  The plain mathematics of how a text is read: bytes, characters, items, sets.
-/
import Derived.Test.YthloedfiomfnbaaTxt
namespace Go.Proofs.Ythloedfiomfnbaa.Txt
open Cls Rex

/-- The byte at which one is; 0 behind the last one. -/
def bt (s : ByteArray) (i : Nat) : Nat := if h : i < s.size then s[i].toNat else 0
theorem bt_lt (s : ByteArray) (i : Nat) : bt s i < 256 := by
  unfold bt; split
  · exact (s[i]).toNat_lt
  · omega
theorem bt_in {s : ByteArray} {i : Nat} (h : bt s i ≠ 0) : i < s.size := by
  unfold bt at h; split at h
  · assumption
  · exact absurd rfl h
theorem bt_is {s : ByteArray} {i b : Nat} (h : bt s i = b) (hb : b ≠ 0) : i < s.size := bt_in (by rw [h]; exact hb)

/-- What a digit counts; -1 if it is none. -/
def dg (b : Nat) : Int := if 48 ≤ b ∧ b ≤ 57 then (b : Int) - 48 else if 97 ≤ b ∧ b ≤ 102 then (b : Int) - 87 else -1
theorem dg_lt (b : Nat) : dg b < 16 := by
  unfold dg
  split
  · omega
  · split <;> omega
theorem dg_in {b : Nat} (h : ¬ dg b < 0) : b ≠ 0 := fun e => by subst e; exact h (by decide)

/-- What is read: what it is, where one is then, the error. -/
def twoR (s : ByteArray) (i : Nat) : Nat × Nat × Nat :=
  if dg (bt s i) < 0 then (0, i, 6) else if dg (bt s (i + 1)) < 0 then (0, i + 1, 6) else (16 * (dg (bt s i)).toNat + (dg (bt s (i + 1))).toNat, i + 2, 0)
def escR (s : ByteArray) (i : Nat) : Nat × Nat × Nat :=
  if bt s i = 120 then twoR s (i + 1) else if bt s i = 110 then (10, i + 1, 0) else if bt s i = 116 then (9, i + 1, 0) else if bt s i = 115 then (32, i + 1, 0) else if signs.contains (bt s i) = true then (bt s i, i + 1, 0) else (0, i, 6)
def charR (s : ByteArray) (i : Nat) : Nat × Nat × Nat :=
  if bt s i = 92 then escR s (i + 1) else if (33 ≤ bt s i ∧ bt s i ≤ 126) ∧ signs.contains (bt s i) = false then (bt s i, i + 1, 0) else (0, i, 6)

/-- What holds of each such answer. -/
structure Rd (s : ByteArray) (i : Nat) (r : Nat × Nat × Nat) : Prop where
  v : r.1 < 256
  lo : i ≤ r.2.1
  hi : r.2.1 ≤ s.size
  e : r.2.2 = 0 ∨ r.2.2 = 6
  up : r.2.2 = 0 → i < r.2.1
theorem Rd.from {s : ByteArray} {i j : Nat} {r : Nat × Nat × Nat} (h : Rd s j r) (hij : i ≤ j) : Rd s i r := ⟨h.v, Nat.le_trans hij h.lo, h.hi, h.e, fun e => Nat.lt_of_le_of_lt hij (h.up e)⟩
theorem twoR_rd (s : ByteArray) (i : Nat) (hi : i ≤ s.size) : Rd s i (twoR s i) := by
  unfold twoR
  split
  · exact ⟨by simp, by simp, hi, Or.inr rfl, fun h => by simp at h⟩
  · rename_i h1
    have g1 := bt_in (dg_in h1)
    split
    · exact ⟨by simp, by simp, g1, Or.inr rfl, fun h => by simp at h⟩
    · rename_i h2
      have g2 := bt_in (dg_in h2)
      have a1 := dg_lt (bt s i)
      have a2 := dg_lt (bt s (i + 1))
      exact ⟨by simp only; omega, by simp, by simp only; omega, Or.inl rfl, fun _ => by simp⟩
theorem sign_ne {b : Nat} (h : signs.contains b = true) : b ≠ 0 := fun e => by subst e; exact absurd h (by decide)
theorem escR_rd (s : ByteArray) (i : Nat) (hi : i ≤ s.size) : Rd s i (escR s i) := by
  unfold escR
  split
  · rename_i h
    exact (twoR_rd s (i + 1) (bt_is h (by decide))).from (by omega)
  · split
    · rename_i h
      exact ⟨by simp, by simp, bt_is h (by decide), Or.inl rfl, fun _ => by simp⟩
    · split
      · rename_i h
        exact ⟨by simp, by simp, bt_is h (by decide), Or.inl rfl, fun _ => by simp⟩
      · split
        · rename_i h
          exact ⟨by simp, by simp, bt_is h (by decide), Or.inl rfl, fun _ => by simp⟩
        · split
          · rename_i h
            exact ⟨bt_lt s i, by simp, bt_in (sign_ne h), Or.inl rfl, fun _ => by simp⟩
          · exact ⟨by simp, by simp, hi, Or.inr rfl, fun h => by simp at h⟩
theorem charR_rd (s : ByteArray) (i : Nat) (hi : i ≤ s.size) : Rd s i (charR s i) := by
  unfold charR
  split
  · rename_i h
    exact (escR_rd s (i + 1) (bt_is h (by decide))).from (by omega)
  · split
    · rename_i h
      exact ⟨bt_lt s i, by simp, bt_in (by omega), Or.inl rfl, fun _ => by simp⟩
    · exact ⟨by simp, by simp, hi, Or.inr rfl, fun h => by simp at h⟩

/-! ### An item, a set -/
def itemR (s : ByteArray) (i : Nat) : Cl × Nat × Nat :=
  if (charR s i).2.2 ≠ 0 ∨ bt s (charR s i).2.1 ≠ 45 then (range (charR s i).1 (charR s i).1, (charR s i).2.1, (charR s i).2.2)
  else if (charR s ((charR s i).2.1 + 1)).2.2 = 0 ∧ (charR s ((charR s i).2.1 + 1)).1 < (charR s i).1 then (range (charR s i).1 (charR s ((charR s i).2.1 + 1)).1, (charR s i).2.1 + 1, 6)
  else (range (charR s i).1 (charR s ((charR s i).2.1 + 1)).1, (charR s ((charR s i).2.1 + 1)).2.1, (charR s ((charR s i).2.1 + 1)).2.2)
structure RdC (s : ByteArray) (i : Nat) (r : Cl × Nat × Nat) : Prop where
  lo : i ≤ r.2.1
  hi : r.2.1 ≤ s.size
  e : r.2.2 = 0 ∨ r.2.2 = 6
  up : r.2.2 = 0 → i < r.2.1
theorem itemR_rd (s : ByteArray) (i : Nat) (hi : i ≤ s.size) : RdC s i (itemR s i) := by
  have h1 := charR_rd s i hi
  unfold itemR
  split
  · exact ⟨h1.lo, h1.hi, h1.e, h1.up⟩
  · rename_i h
    have h45 : bt s (charR s i).2.1 = 45 := Classical.byContradiction fun g => h (Or.inr g)
    have hlt := bt_is h45 (by decide)
    have h2 := charR_rd s ((charR s i).2.1 + 1) hlt
    have h3 := h1.lo
    split
    · exact ⟨by simp only; omega, hlt, Or.inr rfl, fun h => by simp at h⟩
    · have h4 := h2.lo
      exact ⟨by simp only; omega, h2.hi, h2.e, fun _ => by simp only; omega⟩
/-- The items up to the bracket: n is the bound of the rounds. -/
def itemsR (s : ByteArray) : Nat → Nat → Cl → Cl × Nat × Nat
  | 0, i, c => (c, i, 6)
  | n + 1, i, c => if bt s i = 93 then (c, i, 0) else if (itemR s i).2.2 ≠ 0 then (c, (itemR s i).2.1, (itemR s i).2.2) else itemsR s n (itemR s i).2.1 (join c (itemR s i).1)
theorem itemsR_more (s : ByteArray) : ∀ n m i c, i ≤ s.size → s.size - i < n → s.size - i < m → itemsR s n i c = itemsR s m i c
  | 0, _, _, _, _, h, _ => by omega
  | _, 0, _, _, _, _, h => by omega
  | n + 1, m + 1, i, c, hi, h1, h2 => by
    unfold itemsR
    split
    · rfl
    · split
      · rfl
      · rename_i h
        have hr := itemR_rd s i hi
        have he : (itemR s i).2.2 = 0 := Classical.byContradiction h
        have := hr.up he
        have := hr.hi
        exact itemsR_more s n m _ _ hr.hi (by omega) (by omega)
theorem itemsR_rd (s : ByteArray) : ∀ n i c, i ≤ s.size → s.size - i < n → i ≤ (itemsR s n i c).2.1 ∧ (itemsR s n i c).2.1 ≤ s.size ∧ ((itemsR s n i c).2.2 = 0 ∨ (itemsR s n i c).2.2 = 6) ∧ ((itemsR s n i c).2.2 = 0 → bt s (itemsR s n i c).2.1 = 93)
  | 0, _, _, _, h => by omega
  | n + 1, i, c, hi, h1 => by
    unfold itemsR
    split
    · rename_i h
      exact ⟨Nat.le_refl _, hi, Or.inl rfl, fun _ => h⟩
    · have hr := itemR_rd s i hi
      split
      · rename_i h
        exact ⟨hr.lo, hr.hi, hr.e, fun g => absurd g h⟩
      · rename_i h
        have he : (itemR s i).2.2 = 0 := Classical.byContradiction h
        have h2 := hr.up he
        have h3 := hr.hi
        have := itemsR_rd s n (itemR s i).2.1 (join c (itemR s i).1) hr.hi (by omega)
        exact ⟨by omega, this.2.1, this.2.2⟩
end Go.Proofs.Ythloedfiomfnbaa.Txt
