/-
  The plain mathematics of what a tree of trees matches: one or the other, one behind the other, again and again; who is right.
-/
import Derived.Test.YtdnagboonjcehaaTree
namespace Go.Proofs.Ytdnagboonjcehaa.Rex
open Cls

/-- A right tree, not too large, not too deep, passes. -/
theorem chk_of_is {t : T} {x : E} (h : Is t x) : ∀ d n, n + x.nodes ≤ 100 → d + x.deep ≤ 31 → chk t d n = (0, n + x.nodes) := by
  induction h with
  | none => intro d n h1 h2; simp only [E.nodes, E.deep] at *; rw [chk, if_neg (by omega), if_neg (by omega), if_pos (by rw [isNode_iff]; simp)]; rfl
  | emp => intro d n h1 h2; simp only [E.nodes, E.deep] at *; rw [chk, if_neg (by omega), if_neg (by omega), if_pos (by rw [isNode_iff]; simp)]; rfl
  | byte hc => intro d n h1 h2; simp only [E.nodes, E.deep] at *; rw [chk, if_neg (by omega), if_neg (by omega), if_pos (by rw [isNode_iff]; simp [hc])]; rfl
  | @cat s t a b _ _ i1 i2 =>
    intro d n h1 h2
    simp only [E.nodes, E.deep] at *
    rw [chk, if_neg (by omega), if_neg (by omega), if_pos (by rw [isNode_iff]; simp)]
    have e1 := i1 (d + 1) (n + 1) (by omega) (by omega)
    have e2 := i2 (d + 1) (n + 1 + a.nodes) (by omega) (by omega)
    simp only [chkL, e1, e2, if_true]
    congr 1; omega
  | @alt s t a b _ _ i1 i2 =>
    intro d n h1 h2
    simp only [E.nodes, E.deep] at *
    rw [chk, if_neg (by omega), if_neg (by omega), if_pos (by rw [isNode_iff]; simp)]
    have e1 := i1 (d + 1) (n + 1) (by omega) (by omega)
    have e2 := i2 (d + 1) (n + 1 + a.nodes) (by omega) (by omega)
    simp only [chkL, e1, e2, if_true]
    congr 1; omega
  | @star s a _ i1 =>
    intro d n h1 h2
    simp only [E.nodes, E.deep] at *
    rw [chk, if_neg (by omega), if_neg (by omega), if_pos (by rw [isNode_iff]; simp)]
    have e1 := i1 (d + 1) (n + 1) (by omega) (by omega)
    simp only [chkL, e1, if_true]
    congr 1; omega
/-- Who is right. -/
theorem err0_iff (t : T) : (chk t 1 0).1 = 0 ↔ ∃ x, Is t x ∧ x.nodes ≤ 100 ∧ x.deep ≤ 30 := by
  constructor
  · intro h
    obtain ⟨x, h1, h2, h3, h4⟩ := chk_right (n' := (chk t 1 0).2) (Prod.ext h rfl)
    exact ⟨x, h1, by omega, by omega⟩
  · rintro ⟨x, h1, h2, h3⟩
    rw [chk_of_is h1 1 0 (by omega) (by omega)]
/-- The list of bytes is one of the tree's. -/
def ML (t : T) (l : List UInt8) : Prop := ∃ x, Is t x ∧ M x l
theorem is_one {t : T} {x : E} (h : Is t x) : ∀ {y : E}, Is t y → x = y := by
  induction h with
  | none => intro y h; cases h; rfl
  | emp => intro y h; cases h; rfl
  | byte _ => intro y h; cases h; rfl
  | cat _ _ i1 i2 => intro y h; cases h with | cat h1 h2 => rw [i1 h1, i2 h2]
  | alt _ _ i1 i2 => intro y h; cases h with | alt h1 h2 => rw [i1 h1, i2 h2]
  | star _ i => intro y h; cases h with | star h1 => rw [i h1]
theorem ml_alt {s t : T} {x y : E} (hx : Is s x) (hy : Is t y) (l : List UInt8) : ML (.mk 5 empty [s, t]) l ↔ ML s l ∨ ML t l := by
  constructor
  · rintro ⟨z, hz, hm⟩
    cases hz with
    | alt h1 h2 =>
      cases hm with
      | altl h => exact Or.inl ⟨_, h1, h⟩
      | altr h => exact Or.inr ⟨_, h2, h⟩
  · rintro (⟨z, hz, hm⟩ | ⟨z, hz, hm⟩)
    · exact ⟨_, .alt hz hy, .altl hm⟩
    · exact ⟨_, .alt hx hz, .altr hm⟩
theorem ml_cat (s t : T) (l : List UInt8) : ML (.mk 4 empty [s, t]) l ↔ ∃ a b, l = a ++ b ∧ ML s a ∧ ML t b := by
  constructor
  · rintro ⟨z, hz, hm⟩
    cases hz with
    | cat h1 h2 => cases hm with | cat m1 m2 => exact ⟨_, _, rfl, ⟨_, h1, m1⟩, ⟨_, h2, m2⟩⟩
  · rintro ⟨a, b, rfl, ⟨x, h1, m1⟩, ⟨y, h2, m2⟩⟩
    exact ⟨_, .cat h1 h2, .cat m1 m2⟩
theorem ml_emp (l : List UInt8) : ML (.mk 2 empty []) l ↔ l = [] := by
  constructor
  · rintro ⟨z, hz, hm⟩; cases hz; cases hm; rfl
  · rintro rfl; exact ⟨_, .emp, .emp⟩
theorem ml_none (l : List UInt8) : ¬ ML (.mk 1 empty []) l := by
  rintro ⟨z, hz, hm⟩; cases hz; cases hm
theorem ml_byte {c : Cl} (l : List UInt8) : ML (.mk 3 c []) l ↔ c ≠ empty ∧ ∃ b : UInt8, l = [b] ∧ mem c b.toNat = true := by
  constructor
  · rintro ⟨z, hz, hm⟩; cases hz with | byte h => cases hm with | byte h2 => exact ⟨h, _, rfl, h2⟩
  · rintro ⟨h, b, rfl, h2⟩; exact ⟨_, .byte h, .byte h2⟩
/-- A star: nothing, or one that is not empty, and the star again. -/
theorem m_star {x : E} {l : List UInt8} (h : M (.star x) l) : l = [] ∨ ∃ a b, l = a ++ b ∧ a ≠ [] ∧ M x a ∧ M (.star x) b := by
  generalize hE : E.star x = e at h
  induction h with
  | emp => cases hE
  | byte _ => cases hE
  | cat _ _ _ _ => cases hE
  | altl _ _ => cases hE
  | altr _ _ => cases hE
  | star0 => exact Or.inl rfl
  | @starS y s t h1 h2 _ i2 =>
    cases hE
    by_cases hs : s = []
    · subst hs; exact i2 rfl
    · exact Or.inr ⟨s, t, rfl, hs, h1, h2⟩
theorem ml_star {t : T} {x : E} (hx : Is t x) (l : List UInt8) : ML (.mk 6 empty [t]) l ↔ l = [] ∨ ∃ a b, l = a ++ b ∧ a ≠ [] ∧ ML t a ∧ ML (.mk 6 empty [t]) b := by
  constructor
  · rintro ⟨z, hz, hm⟩
    cases hz with
    | star h1 =>
      rcases m_star hm with h | ⟨a, b, h, ha, m1, m2⟩
      · exact Or.inl h
      · exact Or.inr ⟨a, b, h, ha, ⟨_, h1, m1⟩, ⟨_, .star h1, m2⟩⟩
  · rintro (rfl | ⟨a, b, rfl, _, ⟨y, h1, m1⟩, ⟨z, h2, m2⟩⟩)
    · exact ⟨_, .star hx, .star0⟩
    · cases h2 with | star h2 => obtain rfl := is_one h1 h2; exact ⟨_, .star h1, .starS m1 m2⟩
theorem m_star_app {x : E} {s t : List UInt8} (h1 : M (.star x) s) (h2 : M (.star x) t) : M (.star x) (s ++ t) := by
  generalize hE : E.star x = e at h1
  induction h1 with
  | emp => cases hE
  | byte _ => cases hE
  | cat _ _ _ _ => cases hE
  | altl _ _ => cases hE
  | altr _ _ => cases hE
  | star0 => cases hE; exact h2
  | starS m1 m2 _ i2 => cases hE; rw [List.append_assoc]; exact .starS m1 (i2 rfl)
theorem m_star_star {x : E} {l : List UInt8} (h : M (.star (.star x)) l) : M (.star x) l := by
  generalize hE : E.star (.star x) = e at h
  induction h with
  | emp => cases hE
  | byte _ => cases hE
  | cat _ _ _ _ => cases hE
  | altl _ _ => cases hE
  | altr _ _ => cases hE
  | star0 => exact .star0
  | starS m1 m2 _ i2 => cases hE; exact m_star_app m1 (i2 rfl)
theorem ml_star_star (t : T) (l : List UInt8) : ML (.mk 6 empty [.mk 6 empty [t]]) l ↔ ML (.mk 6 empty [t]) l := by
  constructor
  · rintro ⟨z, hz, hm⟩
    cases hz with | star h1 => cases h1 with | star h2 => exact ⟨_, .star h2, m_star_star hm⟩
  · rintro ⟨z, hz, hm⟩
    cases hz with
    | star h1 => exact ⟨_, .star (.star h1), by have := M.starS hm (M.star0 (x := .star _)); simpa using this⟩

/-! ### Turned round -/
mutual
def turn : T → T
  | .mk k c l => .mk k c (if k = 4 then (turnL l).reverse else turnL l)
def turnL : List T → List T
  | [] => []
  | t :: l => turn t :: turnL l
end
theorem turnL_map (l : List T) : turnL l = l.map turn := by
  induction l with
  | nil => rfl
  | cons t l ih => rw [turnL, ih]; rfl
def E.turn : E → E
  | .none => .none | .emp => .emp | .byte c => .byte c
  | .cat a b => .cat b.turn a.turn | .alt a b => .alt a.turn b.turn | .star a => .star a.turn
theorem turn_nodes (x : E) : x.turn.nodes = x.nodes := by
  induction x with
  | none => rfl
  | emp => rfl
  | byte _ => rfl
  | cat a b i1 i2 => simp only [E.turn, E.nodes]; omega
  | alt a b i1 i2 => simp only [E.turn, E.nodes]; omega
  | star a i => simp only [E.turn, E.nodes]; omega
theorem turn_deep (x : E) : x.turn.deep = x.deep := by
  induction x with
  | none => rfl
  | emp => rfl
  | byte _ => rfl
  | cat a b i1 i2 => simp only [E.turn, E.deep]; omega
  | alt a b i1 i2 => simp only [E.turn, E.deep]; omega
  | star a i => simp only [E.turn, E.deep]; omega
theorem turn_turn (x : E) : x.turn.turn = x := by
  induction x with
  | none => rfl
  | emp => rfl
  | byte _ => rfl
  | cat a b i1 i2 => simp only [E.turn, i1, i2]
  | alt a b i1 i2 => simp only [E.turn, i1, i2]
  | star a i => simp only [E.turn, i]
theorem is_turn {t : T} {x : E} (h : Is t x) : Is (turn t) x.turn := by
  induction h with
  | none => rw [turn]; exact .none
  | emp => rw [turn]; exact .emp
  | byte hc => rw [turn]; exact .byte hc
  | cat _ _ i1 i2 => rw [turn]; exact .cat i2 i1
  | alt _ _ i1 i2 => rw [turn]; exact .alt i1 i2
  | star _ i => rw [turn]; exact .star i
theorem m_turn {x : E} {l : List UInt8} (h : M x l) : M x.turn l.reverse := by
  induction h with
  | emp => exact .emp
  | byte hb => exact .byte hb
  | cat _ _ i1 i2 => rw [List.reverse_append]; exact .cat i2 i1
  | altl _ i => exact .altl i
  | altr _ i => exact .altr i
  | star0 => exact .star0
  | @starS x s t m1 m2 i1 i2 =>
    rw [List.reverse_append]
    have := M.starS i1 M.star0
    rw [List.append_nil] at this
    exact m_star_app i2 this
theorem ml_turn {t : T} {x : E} (hx : Is t x) (l : List UInt8) : ML (turn t) l.reverse ↔ ML t l := by
  constructor
  · rintro ⟨y, hy, hm⟩
    obtain rfl := is_one (is_turn hx) hy
    have := m_turn hm
    rw [turn_turn, List.reverse_reverse] at this
    exact ⟨_, hx, this⟩
  · rintro ⟨y, hy, hm⟩
    exact ⟨_, is_turn hy, m_turn hm⟩
theorem err_turn (t : T) (h : (chk t 1 0).1 = 0) : (chk (turn t) 1 0).1 = 0 := by
  obtain ⟨x, h1, h2, h3⟩ := (err0_iff t).1 h
  exact (err0_iff _).2 ⟨x.turn, is_turn h1, by rw [turn_nodes]; exact h2, by rw [turn_deep]; exact h3⟩
/-! ### The letters that the laws try themselves with -/
theorem letter_ne (z : Int) (h : 0 ≤ z ∧ z ≤ 255) : range z z ≠ empty := fun e => by
  have h1 := mem_range z z z.toNat (by omega)
  rw [e] at h1
  have : mem empty z.toNat = false := by rw [mem_empty]
  rw [this] at h1
  have : decide (z ≤ (z.toNat : Int)) = true := by simp; omega
  have h3 : decide ((z.toNat : Int) ≤ z) = true := by simp; omega
  rw [this, h3] at h1
  cases h1
theorem ml_letter (b : UInt8) : ML (.mk 3 (range b.toNat b.toNat) []) [b] := by
  have := b.toNat_lt
  exact (ml_byte _).2 ⟨letter_ne _ (by omega), b, rfl, by rw [mem_range _ _ _ (by omega)]; simp⟩
end Go.Proofs.Ytdnagboonjcehaa.Rex
