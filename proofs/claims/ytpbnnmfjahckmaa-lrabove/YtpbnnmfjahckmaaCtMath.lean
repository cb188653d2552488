/-
  Counting up to two, plainly: of how many there are, none, one or more; and how many trees stand over a part of a word, by their height.
-/
import Derived.Test.YtpbnnmfjahckmaaGrF
namespace Go.Proofs.Ytpbnnmfjahckmaa
namespace Cg

open Classical in
/-- How many there are, up to two. -/
noncomputable def cc {α : Type} (P : α → Prop) : Nat := if ∃ a b, a ≠ b ∧ P a ∧ P b then 2 else if ∃ a, P a then 1 else 0
theorem cc_le {α : Type} (P : α → Prop) : cc P ≤ 2 := by unfold cc; split; omega; split <;> omega
theorem cc_two {α : Type} {P : α → Prop} : 2 ≤ cc P ↔ ∃ a b, a ≠ b ∧ P a ∧ P b := by
  unfold cc
  by_cases h : ∃ a b, a ≠ b ∧ P a ∧ P b
  · simp [h]
  · rw [if_neg h]
    by_cases h2 : ∃ a, P a
    · rw [if_pos h2]; exact ⟨fun h3 => by omega, fun h3 => absurd h3 h⟩
    · rw [if_neg h2]; exact ⟨fun h3 => by omega, fun h3 => absurd h3 h⟩
theorem cc_some {α : Type} {P : α → Prop} : 1 ≤ cc P ↔ ∃ a, P a := by
  unfold cc
  by_cases h : ∃ a b, a ≠ b ∧ P a ∧ P b
  · rw [if_pos h]; obtain ⟨a, b, -, ha, -⟩ := h; exact ⟨fun _ => ⟨a, ha⟩, fun _ => by omega⟩
  · rw [if_neg h]
    by_cases h2 : ∃ a, P a
    · rw [if_pos h2]; exact ⟨fun _ => h2, fun _ => Nat.le_refl _⟩
    · rw [if_neg h2]; exact ⟨fun h3 => by omega, fun h3 => absurd h3 h2⟩
/-- A number up to two is told by whether it is one at least, and two. -/
theorem two_ext {x y : Nat} (hx : x ≤ 2) (hy : y ≤ 2) (h1 : 1 ≤ x ↔ 1 ≤ y) (h2 : 2 ≤ x ↔ 2 ≤ y) : x = y := by omega
theorem cc_congr {α : Type} {P Q : α → Prop} (h : ∀ a, P a ↔ Q a) : cc P = cc Q := by
  have : P = Q := funext fun a => propext (h a)
  rw [this]
theorem cc_mono {α : Type} {P Q : α → Prop} (h : ∀ a, P a → Q a) : cc P ≤ cc Q := by
  rcases Nat.lt_or_ge (cc P) 1 with h0 | h0
  · omega
  · rcases Nat.lt_or_ge (cc P) 2 with h1 | h1
    · have := cc_some.2 ((cc_some.1 h0).imp h); omega
    · obtain ⟨a, b, hn, ha, hb⟩ := cc_two.1 h1
      have := cc_two.2 ⟨a, b, hn, h a ha, h b hb⟩
      have := cc_le P
      omega
theorem cc_none {α : Type} {P : α → Prop} (h : ∀ a, ¬ P a) : cc P = 0 := by
  rcases Nat.lt_or_ge (cc P) 1 with h0 | h0
  · omega
  · obtain ⟨a, ha⟩ := cc_some.1 h0; exact absurd ha (h a)
theorem cc_only {α : Type} {P : α → Prop} (a : α) (ha : P a) (h : ∀ b, P b → b = a) : cc P = 1 := by
  have h1 := cc_some.2 ⟨a, ha⟩
  rcases Nat.lt_or_ge (cc P) 2 with h0 | h0
  · omega
  · obtain ⟨x, y, hn, hx, hy⟩ := cc_two.1 h0; exact absurd ((h x hx).trans (h y hy).symm) hn
theorem cc_or {α : Type} {P Q : α → Prop} (h : ∀ a, P a → Q a → False) : cc (fun a => P a ∨ Q a) = min 2 (cc P + cc Q) := by
  have hp := cc_le P
  have hq := cc_le Q
  refine two_ext (cc_le _) (by omega) ?_ ?_
  · rw [cc_some]
    constructor
    · rintro ⟨a, ha | ha⟩
      · have := cc_some.2 ⟨a, ha⟩; omega
      · have := cc_some.2 ⟨a, ha⟩; omega
    · intro h1
      rcases Nat.lt_or_ge (cc P) 1 with h0 | h0
      · obtain ⟨a, ha⟩ := cc_some.1 (show 1 ≤ cc Q by omega); exact ⟨a, Or.inr ha⟩
      · obtain ⟨a, ha⟩ := cc_some.1 h0; exact ⟨a, Or.inl ha⟩
  · rw [cc_two]
    constructor
    · rintro ⟨a, b, hn, ha | ha, hb | hb⟩
      · have := cc_two.2 ⟨a, b, hn, ha, hb⟩; omega
      · have := cc_some.2 ⟨a, ha⟩; have := cc_some.2 ⟨b, hb⟩; omega
      · have := cc_some.2 ⟨a, ha⟩; have := cc_some.2 ⟨b, hb⟩; omega
      · have := cc_two.2 ⟨a, b, hn, ha, hb⟩; omega
    · intro h1
      rcases Nat.lt_or_ge (cc P) 1 with h0 | h0
      · obtain ⟨a, b, hn, ha, hb⟩ := cc_two.1 (show 2 ≤ cc Q by omega); exact ⟨a, b, hn, Or.inr ha, Or.inr hb⟩
      · rcases Nat.lt_or_ge (cc Q) 1 with h2 | h2
        · obtain ⟨a, b, hn, ha, hb⟩ := cc_two.1 (show 2 ≤ cc P by omega); exact ⟨a, b, hn, Or.inl ha, Or.inl hb⟩
        · obtain ⟨a, ha⟩ := cc_some.1 h0
          obtain ⟨b, hb⟩ := cc_some.1 h2
          exact ⟨a, b, fun e => h a ha (by rw [e]; exact hb), Or.inl ha, Or.inr hb⟩
theorem cc_inj {α β : Type} {P : α → Prop} {R : β → Prop} (f : α → β) (hf : ∀ a a', f a = f a' → a = a') (h : ∀ c, R c ↔ ∃ a, P a ∧ c = f a) : cc R = cc P := by
  refine two_ext (cc_le _) (cc_le _) ?_ ?_
  · rw [cc_some, cc_some]
    exact ⟨fun ⟨c, hc⟩ => (h c).1 hc |>.imp fun a ha => ha.1, fun ⟨a, ha⟩ => ⟨f a, (h _).2 ⟨a, ha, rfl⟩⟩⟩
  · rw [cc_two, cc_two]
    constructor
    · rintro ⟨c, d, hn, hc, hd⟩
      obtain ⟨a, ha, rfl⟩ := (h c).1 hc
      obtain ⟨b, hb, rfl⟩ := (h d).1 hd
      exact ⟨a, b, fun e => hn (by rw [e]), ha, hb⟩
    · rintro ⟨a, b, hn, ha, hb⟩
      exact ⟨f a, f b, fun e => hn (hf _ _ e), (h _).2 ⟨a, ha, rfl⟩, (h _).2 ⟨b, hb, rfl⟩⟩
theorem cc_prod {α β γ : Type} {P : α → Prop} {Q : β → Prop} {R : γ → Prop} (f : α → β → γ) (hf : ∀ a b a' b', f a b = f a' b' → a = a' ∧ b = b') (h : ∀ c, R c ↔ ∃ a b, P a ∧ Q b ∧ c = f a b) : cc R = min 2 (cc P * cc Q) := by
  have hp := cc_le P
  have hq := cc_le Q
  have mul1 : 1 ≤ cc P → 1 ≤ cc Q → 1 ≤ cc P * cc Q := fun a b => Nat.mul_pos a b
  refine two_ext (cc_le _) (by omega) ?_ ?_
  · rw [cc_some]
    constructor
    · rintro ⟨c, hc⟩
      obtain ⟨a, b, ha, hb, -⟩ := (h c).1 hc
      have := mul1 (cc_some.2 ⟨a, ha⟩) (cc_some.2 ⟨b, hb⟩)
      omega
    · intro h1
      have h2 : cc P * cc Q ≠ 0 := by omega
      have hP : 1 ≤ cc P := Nat.pos_of_ne_zero fun e => h2 (by rw [e, Nat.zero_mul])
      have hQ : 1 ≤ cc Q := Nat.pos_of_ne_zero fun e => h2 (by rw [e, Nat.mul_zero])
      obtain ⟨a, ha⟩ := cc_some.1 hP
      obtain ⟨b, hb⟩ := cc_some.1 hQ
      exact ⟨f a b, (h _).2 ⟨a, b, ha, hb, rfl⟩⟩
  · rw [cc_two]
    constructor
    · rintro ⟨c, d, hn, hc, hd⟩
      obtain ⟨a, b, ha, hb, rfl⟩ := (h c).1 hc
      obtain ⟨a', b', ha', hb', rfl⟩ := (h d).1 hd
      have h1 := cc_some.2 ⟨a, ha⟩
      have h2 := cc_some.2 ⟨b, hb⟩
      by_cases e : a = a'
      · subst e
        have h3 := cc_two.2 ⟨b, b', fun e => hn (by rw [e]), hb, hb'⟩
        have h4 := Nat.mul_le_mul h1 h3
        omega
      · have h3 := cc_two.2 ⟨a, a', e, ha, ha'⟩
        have h4 := Nat.mul_le_mul h3 h2
        omega
    · intro h0
      have h1 : 2 ≤ cc P * cc Q := by omega
      have hP : 1 ≤ cc P := Nat.pos_of_ne_zero fun e => by rw [e, Nat.zero_mul] at h1; omega
      have hQ : 1 ≤ cc Q := Nat.pos_of_ne_zero fun e => by rw [e, Nat.mul_zero] at h1; omega
      rcases Nat.lt_or_ge (cc P) 2 with h2 | h2
      · have e : cc P = 1 := by omega
        rw [e, Nat.one_mul] at h1
        obtain ⟨b, b', hn, hb, hb'⟩ := cc_two.1 h1
        obtain ⟨a, ha⟩ := cc_some.1 hP
        exact ⟨f a b, f a b', fun e => hn (hf _ _ _ _ e).2, (h _).2 ⟨a, b, ha, hb, rfl⟩, (h _).2 ⟨a, b', ha, hb', rfl⟩⟩
      · obtain ⟨a, a', hn, ha, ha'⟩ := cc_two.1 h2
        obtain ⟨b, hb⟩ := cc_some.1 hQ
        exact ⟨f a b, f a' b, fun e => hn (hf _ _ _ _ e).1, (h _).2 ⟨a, b, ha, hb, rfl⟩, (h _).2 ⟨a', b, ha', hb, rfl⟩⟩
/-- A sum. -/
def sm (n : Nat) (g : Nat → Nat) : Nat := match n with | 0 => 0 | n + 1 => sm n g + g n
theorem sm_congr {n : Nat} {g g' : Nat → Nat} (h : ∀ i, i < n → g i = g' i) : sm n g = sm n g' := by
  induction n with
  | zero => rfl
  | succ n ih => rw [sm, sm, ih fun i hi => h i (by omega), h n (by omega)]
theorem min_sm {n : Nat} {g : Nat → Nat} : min 2 (sm n fun i => min 2 (g i)) = min 2 (sm n g) := by
  induction n with
  | zero => rfl
  | succ n ih => rw [sm, sm]; omega
theorem cc_sum {α : Type} {n : Nat} {P : Nat → α → Prop} (h : ∀ i j a, i < n → j < n → P i a → P j a → i = j) : cc (fun a => ∃ i, i < n ∧ P i a) = min 2 (sm n fun i => cc (P i)) := by
  induction n with
  | zero =>
    rw [cc_none fun a ha => by obtain ⟨i, hi, -⟩ := ha; omega]; rfl
  | succ n ih =>
    have e : cc (fun a => ∃ i, i < n + 1 ∧ P i a) = cc (fun a => (∃ i, i < n ∧ P i a) ∨ P n a) := cc_congr fun a => by
      constructor
      · rintro ⟨i, hi, hp⟩
        by_cases e : i = n
        · subst e; exact Or.inr hp
        · exact Or.inl ⟨i, by omega, hp⟩
      · rintro (⟨i, hi, hp⟩ | hp)
        · exact ⟨i, by omega, hp⟩
        · exact ⟨n, by omega, hp⟩
    rw [e, cc_or (fun a ha hb => by obtain ⟨i, hi, hp⟩ := ha; have := h i n a (by omega) (by omega) hp hb; omega), ih fun i j a hi hj => h i j a (by omega) (by omega), sm]
    omega
end Cg
end Go.Proofs.Ytpbnnmfjahckmaa
