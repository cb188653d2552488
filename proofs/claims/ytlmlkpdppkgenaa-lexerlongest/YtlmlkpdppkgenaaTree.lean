/-
  The plain mathematics of regular expressions: trees as they are handed in, what is wrong with one first, what a right one matches; no condition.
-/
import Derived.Test.YtlmlkpdppkgenaaMath
namespace Go.Proofs.Ytlmlkpdppkgenaa.Rex
open Cls

/-- A tree as it is handed in. -/
inductive T where
  | mk (k : Int) (c : Cl) (kids : List T)
def T.kind : T → Int | .mk k _ _ => k
def T.cls : T → Cl | .mk _ c _ => c
def T.kids : T → List T | .mk _ _ l => l
theorem T.lt {t s : T} (h : s ∈ t.kids) : sizeOf s < sizeOf t := by
  cases t with
  | mk k c l =>
    have := List.sizeOf_lt_of_mem h
    simp only [T.kids] at this
    simp only [T.mk.sizeOf_spec]; omega

mutual
/-- How many nodes. -/
def T.sz : T → Nat
  | .mk _ _ l => szL l + 1
def szL : List T → Nat
  | [] => 0
  | t :: l => t.sz + szL l
end
theorem szL_mem {s : T} : ∀ {l : List T}, s ∈ l → s.sz ≤ szL l
  | t :: l, h => by
    rw [szL]
    rcases List.mem_cons.1 h with rfl | h
    · omega
    · have := szL_mem h; omega
theorem T.sz_lt {t s : T} (h : s ∈ t.kids) : s.sz < t.sz := by
  cases t with
  | mk k c l => have := szL_mem (l := l) h; rw [T.sz]; omega
theorem T.sz_pos (t : T) : 0 < t.sz := by cases t; rw [T.sz]; omega

/-- How many Kids a node of that kind has. -/
def kidCount (k : Int) : Int := if k = 1 ∨ k = 2 ∨ k = 3 then 0 else if k = 6 then 1 else if k = 4 ∨ k = 5 then 2 else -1
def isNode (k : Int) (c : Cl) (n : Nat) : Bool := decide ((n : Int) = kidCount k) && (decide (c ≠ empty) == decide (k = 3))

mutual
/-- What is wrong first, and how many nodes have been met. -/
def chk : T → Nat → Nat → Nat × Nat
  | .mk k c kids, d, n => if 100 < n + 1 then (2, n + 1) else if 30 < d then (7, n + 1) else if isNode k c kids.length then chkL kids (d + 1) (n + 1) else (1, n + 1)
def chkL : List T → Nat → Nat → Nat × Nat
  | [], _, n => (0, n)
  | t :: ts, d, n => if (chk t d n).1 = 0 then chkL ts d (chk t d n).2 else chk t d n
end
theorem chk_eq (t : T) (d n : Nat) : chk t d n = if 100 < n + 1 then (2, n + 1) else if 30 < d then (7, n + 1) else if isNode t.kind t.cls t.kids.length then chkL t.kids (d + 1) (n + 1) else (1, n + 1) := by
  cases t; rw [chk]; rfl
/-- The first Kids alone. -/
theorem chkL_snoc (l : List T) (t : T) (d : Nat) : ∀ n, chkL (l ++ [t]) d n = if (chkL l d n).1 = 0 then chk t d (chkL l d n).2 else chkL l d n := by
  induction l with
  | nil =>
    intro n
    simp only [List.nil_append, chkL, if_true]
    by_cases h : (chk t d n).1 = 0
    · rw [if_pos h]; exact Prod.ext h.symm rfl
    · rw [if_neg h]
  | cons x l ih =>
    intro n
    by_cases h : (chk x d n).1 = 0
    · have e1 : ∀ m, chkL (x :: m) d n = chkL m d (chk x d n).2 := fun m => by simp only [chkL]; rw [if_pos h]
      simp only [List.cons_append, e1]
      exact ih _
    · have e1 : ∀ m, chkL (x :: m) d n = chk x d n := fun m => by simp only [chkL]; rw [if_neg h]
      simp only [List.cons_append, e1]
      rw [if_neg h]
theorem chkL_stop (l m : List T) (d n : Nat) (h : (chkL l d n).1 ≠ 0) : chkL (l ++ m) d n = chkL l d n := by
  induction l generalizing n with
  | nil => simp [chkL] at h
  | cons x l ih =>
    simp only [List.cons_append, chkL] at h ⊢
    by_cases hx : (chk x d n).1 = 0
    · rw [if_pos hx] at h ⊢
      rw [if_pos hx]; exact ih _ h
    · rw [if_neg hx, if_neg hx]

/-- A right one. -/
inductive E where
  | none | emp | byte (c : Cl) | cat (a b : E) | alt (a b : E) | star (a : E)
def E.nodes : E → Nat
  | .none | .emp | .byte _ => 1
  | .cat a b | .alt a b => 1 + a.nodes + b.nodes
  | .star a => 1 + a.nodes
def E.deep : E → Nat
  | .none | .emp | .byte _ => 1
  | .cat a b | .alt a b => 1 + max a.deep b.deep
  | .star a => 1 + a.deep
theorem E.nodes_pos (x : E) : 0 < x.nodes := by cases x <;> simp only [E.nodes] <;> omega
/-- The tree is that one. -/
inductive Is : T → E → Prop where
  | none : Is (.mk 1 empty []) .none
  | emp : Is (.mk 2 empty []) .emp
  | byte {c : Cl} (h : c ≠ empty) : Is (.mk 3 c []) (.byte c)
  | cat {s t : T} {a b : E} (h1 : Is s a) (h2 : Is t b) : Is (.mk 4 empty [s, t]) (.cat a b)
  | alt {s t : T} {a b : E} (h1 : Is s a) (h2 : Is t b) : Is (.mk 5 empty [s, t]) (.alt a b)
  | star {s : T} {a : E} (h : Is s a) : Is (.mk 6 empty [s]) (.star a)
theorem isNode_iff (k : Int) (c : Cl) (n : Nat) : isNode k c n = true ↔ (k = 1 ∧ n = 0 ∧ c = empty) ∨ (k = 2 ∧ n = 0 ∧ c = empty) ∨ (k = 3 ∧ n = 0 ∧ c ≠ empty) ∨ (k = 4 ∧ n = 2 ∧ c = empty) ∨ (k = 5 ∧ n = 2 ∧ c = empty) ∨ (k = 6 ∧ n = 1 ∧ c = empty) := by
  unfold isNode kidCount
  simp only [Bool.and_eq_true, decide_eq_true_eq, beq_iff_eq, decide_eq_decide]
  by_cases hc : c = empty
  · simp only [hc, ne_eq, not_true_eq_false, false_iff, and_true, and_false, false_or]
    constructor
    · rintro ⟨h1, h2⟩
      split at h1
      · omega
      · split at h1
        · omega
        · split at h1 <;> omega
    · rintro (⟨rfl, rfl⟩ | ⟨rfl, rfl⟩ | ⟨rfl, rfl⟩ | ⟨rfl, rfl⟩ | ⟨rfl, rfl⟩) <;> simp
  · simp only [hc, ne_eq, not_false_eq_true, true_iff, and_false, and_true, false_or, or_false]
    constructor
    · rintro ⟨h1, h2⟩
      subst h2
      simp at h1
      exact ⟨rfl, by omega⟩
    · rintro ⟨rfl, rfl⟩
      simp
theorem two_of {l : List T} (h : l.length = 2) : ∃ s u, l = [s, u] := by
  match l, h with
  | [s, u], _ => exact ⟨s, u, rfl⟩
/-- Nothing is wrong just if it is a right one, not too large, not too deep. -/
theorem chk_ok : ∀ (m : Nat) (t : T), sizeOf t ≤ m → ∀ d n n', chk t d n = (0, n') → ∃ x, Is t x ∧ n' = n + x.nodes ∧ n' ≤ 100 ∧ d + x.deep ≤ 31
  | 0, t, hm => by cases t; simp only [T.mk.sizeOf_spec] at hm; omega
  | m + 1, t, hm => by
    intro d n n' h
    rw [chk_eq] at h
    by_cases h1 : 100 < n + 1
    · rw [if_pos h1] at h; simp at h
    · rw [if_neg h1] at h
      by_cases h2 : 30 < d
      · rw [if_pos h2] at h; simp at h
      · rw [if_neg h2] at h
        by_cases h3 : isNode t.kind t.cls t.kids.length = true
        · rw [if_pos h3] at h
          have kid : ∀ s ∈ t.kids, sizeOf s ≤ m := fun s hs => by have := T.lt hs; omega
          obtain ⟨k, c, l⟩ := t
          simp only [T.kind, T.cls, T.kids] at h h3 kid
          have two : ∀ s u, l = [s, u] → ∃ a b, Is s a ∧ Is u b ∧ n' = n + (1 + a.nodes + b.nodes) ∧ n' ≤ 100 ∧ d + (1 + max a.deep b.deep) ≤ 31 := fun s u hl => by
            subst hl
            obtain ⟨es, ns, hS⟩ : ∃ e m, chk s (d + 1) (n + 1) = (e, m) := ⟨_, _, rfl⟩
            simp only [chkL, hS] at h
            by_cases hs : es = 0
            · subst hs
              rw [if_pos rfl] at h
              obtain ⟨a, a1, a2, a3, a4⟩ := chk_ok m s (kid s (by simp)) (d + 1) (n + 1) ns hS
              obtain ⟨eu, nu, hU⟩ : ∃ e m, chk u (d + 1) ns = (e, m) := ⟨_, _, rfl⟩
              simp only [hU] at h
              by_cases hu : eu = 0
              · subst hu
                rw [if_pos rfl] at h
                obtain ⟨b, b1, b2, b3, b4⟩ := chk_ok m u (kid u (by simp)) (d + 1) ns nu hU
                have e : nu = n' := congrArg Prod.snd h
                exact ⟨a, b, a1, b1, by omega, by omega, by omega⟩
              · rw [if_neg hu] at h; exact absurd (congrArg Prod.fst h) hu
            · rw [if_neg hs] at h; exact absurd (congrArg Prod.fst h) hs
          rcases (isNode_iff k c l.length).1 h3 with ⟨rfl, hl, rfl⟩ | ⟨rfl, hl, rfl⟩ | ⟨rfl, hl, hc⟩ | ⟨rfl, hl, rfl⟩ | ⟨rfl, hl, rfl⟩ | ⟨rfl, hl, rfl⟩
          · obtain rfl := List.length_eq_zero_iff.1 hl
            simp only [chkL, Prod.mk.injEq, true_and] at h
            exact ⟨.none, .none, by simp only [E.nodes]; omega, by omega, by simp only [E.deep]; omega⟩
          · obtain rfl := List.length_eq_zero_iff.1 hl
            simp only [chkL, Prod.mk.injEq, true_and] at h
            exact ⟨.emp, .emp, by simp only [E.nodes]; omega, by omega, by simp only [E.deep]; omega⟩
          · obtain rfl := List.length_eq_zero_iff.1 hl
            simp only [chkL, Prod.mk.injEq, true_and] at h
            exact ⟨.byte c, .byte hc, by simp only [E.nodes]; omega, by omega, by simp only [E.deep]; omega⟩
          · obtain ⟨s, u, rfl⟩ := two_of hl
            obtain ⟨a, b, a1, b1, e1, e2, e3⟩ := two s u rfl
            exact ⟨.cat a b, .cat a1 b1, by simp only [E.nodes]; omega, e2, by simp only [E.deep]; exact e3⟩
          · obtain ⟨s, u, rfl⟩ := two_of hl
            obtain ⟨a, b, a1, b1, e1, e2, e3⟩ := two s u rfl
            exact ⟨.alt a b, .alt a1 b1, by simp only [E.nodes]; omega, e2, by simp only [E.deep]; exact e3⟩
          · obtain ⟨s, rfl⟩ := List.length_eq_one_iff.1 hl
            simp only [chkL] at h
            by_cases hs : (chk s (d + 1) (n + 1)).1 = 0
            · rw [if_pos hs] at h
              obtain ⟨a, a1, a2, a3, a4⟩ := chk_ok m s (kid s (by simp)) (d + 1) (n + 1) (chk s (d + 1) (n + 1)).2 (Prod.ext hs rfl)
              have e : (chk s (d + 1) (n + 1)).2 = n' := by simpa using congrArg Prod.snd h
              exact ⟨.star a, .star a1, by simp only [E.nodes]; omega, by omega, by simp only [E.deep]; omega⟩
            · rw [if_neg hs] at h; rw [h] at hs; exact absurd rfl hs
        · rw [if_neg h3] at h; simp at h

theorem chk_right {t : T} {d n n' : Nat} (h : chk t d n = (0, n')) : ∃ x, Is t x ∧ n' = n + x.nodes ∧ n' ≤ 100 ∧ d + x.deep ≤ 31 := chk_ok (sizeOf t) t (Nat.le_refl _) d n n' h
/-! ### What it matches -/
inductive M : E → List UInt8 → Prop where
  | emp : M .emp []
  | byte {c : Cl} {b : UInt8} (h : mem c b.toNat = true) : M (.byte c) [b]
  | cat {x y : E} {s t : List UInt8} (h1 : M x s) (h2 : M y t) : M (.cat x y) (s ++ t)
  | altl {x y : E} {s : List UInt8} (h : M x s) : M (.alt x y) s
  | altr {x y : E} {s : List UInt8} (h : M y s) : M (.alt x y) s
  | star0 {x : E} : M (.star x) []
  | starS {x : E} {s t : List UInt8} (h1 : M x s) (h2 : M (.star x) t) : M (.star x) (s ++ t)
end Go.Proofs.Ytlmlkpdppkgenaa.Rex
