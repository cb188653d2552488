/-
  The plain mathematics of spans: which parts of a text a regular expression matches.
-/
import Derived.Test.YtdnagboonjcehaaKleene
namespace Go.Proofs.Ytdnagboonjcehaa.Rex
open Cls

/-- The bytes from i to j. -/
def cut (l : List UInt8) (i j : Nat) : List UInt8 := (l.drop i).take (j - i)
/-- That part is matched. -/
def Sp (x : E) (l : List UInt8) (i j : Nat) : Prop := i ≤ j ∧ M x (cut l i j)
theorem cut_self (l : List UInt8) (i : Nat) : cut l i i = [] := by simp [cut]
theorem cut_len (l : List UInt8) (i j : Nat) (hj : j ≤ l.length) : (cut l i j).length = j - i := by simp [cut]; omega
theorem cut_whole (l : List UInt8) : cut l 0 l.length = l := by simp [cut]
theorem cut_join (l : List UInt8) (i m j : Nat) (h1 : i ≤ m) (h2 : m ≤ j) : cut l i j = cut l i m ++ cut l m j := by
  unfold cut
  rw [show j - i = (m - i) + (j - m) by omega, List.take_add, List.drop_drop, show i + (m - i) = m by omega]
theorem cut_parts (l : List UInt8) (i j : Nat) (hij : i ≤ j) {a b : List UInt8} (h : cut l i j = a ++ b) : i + a.length ≤ j ∧ cut l i (i + a.length) = a ∧ cut l (i + a.length) j = b := by
  have h1 : a.length ≤ j - i := by
    have := congrArg List.length h
    unfold cut at this
    rw [List.length_take, List.length_append] at this; omega
  have h2 : cut l i (i + a.length) = a := by
    have e : cut l i (i + a.length) = (cut l i j).take a.length := by
      unfold cut
      rw [List.take_take, show i + a.length - i = a.length by omega, Nat.min_eq_left h1]
    rw [e, h]; simp
  refine ⟨by omega, h2, ?_⟩
  have e := cut_join l i (i + a.length) j (by omega) (by omega)
  rw [h, h2] at e
  exact (List.append_cancel_left e).symm
theorem sp_none (l : List UInt8) (i j : Nat) : ¬ Sp .none l i j := by rintro ⟨_, h⟩; cases h
theorem sp_emp (l : List UInt8) (i j : Nat) (hj : j ≤ l.length) : Sp .emp l i j ↔ i = j := by
  constructor
  · rintro ⟨h1, h⟩
    generalize hc : cut l i j = c at h
    cases h
    have := cut_len l i j hj
    rw [hc] at this; simp at this; omega
  · rintro rfl; exact ⟨Nat.le_refl _, by rw [cut_self]; exact .emp⟩
theorem cut_one (l : List UInt8) (i : Nat) (hi : i < l.length) : cut l i (i + 1) = [l[i]] := by
  unfold cut
  rw [show i + 1 - i = 1 by omega, List.drop_eq_getElem_cons hi]; rfl
theorem sp_byte (c : Cl) (l : List UInt8) (i j : Nat) (hj : j ≤ l.length) : Sp (.byte c) l i j ↔ j = i + 1 ∧ ∃ h : i < l.length, mem c l[i].toNat = true := by
  constructor
  · rintro ⟨h1, h⟩
    generalize hc : cut l i j = d at h
    cases h with
    | @byte _ b hb =>
      have h2 := cut_len l i j hj
      rw [hc] at h2
      simp at h2
      obtain rfl : j = i + 1 := by omega
      refine ⟨rfl, by omega, ?_⟩
      have hi : i < l.length := by omega
      rw [cut_one l i hi] at hc
      simp only [List.cons.injEq, and_true] at hc
      rw [hc]; exact hb
  · rintro ⟨rfl, hi, hb⟩
    refine ⟨by omega, ?_⟩
    rw [cut_one l i hi]; exact .byte hb
theorem sp_cat (x y : E) (l : List UInt8) (i j : Nat) : Sp (.cat x y) l i j ↔ ∃ m, i ≤ m ∧ m ≤ j ∧ Sp x l i m ∧ Sp y l m j := by
  constructor
  · rintro ⟨h1, h⟩
    generalize hc : cut l i j = d at h
    cases h with
    | @cat _ _ a b ha hb =>
      obtain ⟨e1, e2, e3⟩ := cut_parts l i j h1 hc
      exact ⟨i + a.length, by omega, e1, ⟨by omega, by rw [e2]; exact ha⟩, ⟨e1, by rw [e3]; exact hb⟩⟩
  · rintro ⟨m, h1, h2, h3, h4⟩
    exact ⟨by omega, by rw [cut_join l i m j h1 h2]; exact .cat h3.2 h4.2⟩
theorem sp_alt (x y : E) (l : List UInt8) (i j : Nat) : Sp (.alt x y) l i j ↔ Sp x l i j ∨ Sp y l i j := by
  constructor
  · rintro ⟨h1, h⟩
    cases h with
    | altl h => exact Or.inl ⟨h1, h⟩
    | altr h => exact Or.inr ⟨h1, h⟩
  · rintro (⟨h1, h⟩ | ⟨h1, h⟩)
    · exact ⟨h1, .altl h⟩
    · exact ⟨h1, .altr h⟩
theorem sp_star (x : E) (l : List UInt8) (i j : Nat) (hj : j ≤ l.length) : Sp (.star x) l i j ↔ i = j ∨ ∃ m, i < m ∧ m ≤ j ∧ Sp x l i m ∧ Sp (.star x) l m j := by
  constructor
  · rintro ⟨h1, h⟩
    rcases m_star h with h0 | ⟨a, b, hc, ha, m1, m2⟩
    · left
      have := cut_len l i j hj
      rw [h0] at this; simp at this; omega
    · right
      obtain ⟨e1, e2, e3⟩ := cut_parts l i j h1 hc
      have : 0 < a.length := List.length_pos_iff.2 ha
      exact ⟨i + a.length, by omega, e1, ⟨by omega, by rw [e2]; exact m1⟩, ⟨e1, by rw [e3]; exact m2⟩⟩
  · rintro (rfl | ⟨m, h1, h2, h3, h4⟩)
    · exact ⟨Nat.le_refl _, by rw [cut_self]; exact .star0⟩
    · exact ⟨by omega, by rw [cut_join l i m j (by omega) h2]; exact .starS h3.2 h4.2⟩
end Go.Proofs.Ytdnagboonjcehaa.Rex
