/-
  The plain mathematics of places: which Posn is right, at which places one may be behind a text, which rules are done there.
-/
import Derived.Test.YtlmlkpdppkgenaaMath
namespace Go.Proofs.Ytlmlkpdppkgenaa.Po
open Cls

/-- A Posn. -/
structure P where
  cls : List Cl
  rules : List Int
  first : List Int
  follow : List (List Int)
  last : List Bool
  empty : List Bool

/-- Does it rise from there on, and stay below n? -/
def risesFrom (n : Nat) : Int → List Int → Bool
  | _, [] => true
  | z, x :: l => decide (z < x) && decide (x < (n : Int)) && risesFrom n x l
def rises (n : Nat) (l : List Int) : Bool := risesFrom n (-1) l
def ruleOk (k : Nat) (x : Int) : Bool := decide (0 ≤ x) && decide (x < (k : Int))
def ok (p : P) : Bool :=
  decide (p.rules.length = p.cls.length) && decide (p.follow.length = p.cls.length) && decide (p.last.length = p.cls.length) && decide (0 < p.empty.length) && decide (p.empty.length ≤ 20) && p.rules.all (ruleOk p.empty.length) && rises p.cls.length p.first && p.follow.all (rises p.cls.length)
/-- What Check answers. -/
def chk (p : P) : Int := if ok p = true then (if 200 < p.cls.length then 2 else 0) else 1
theorem ok_iff (p : P) : ok p = true ↔ p.rules.length = p.cls.length ∧ p.follow.length = p.cls.length ∧ p.last.length = p.cls.length ∧ 0 < p.empty.length ∧ p.empty.length ≤ 20 ∧ p.rules.all (ruleOk p.empty.length) = true ∧ rises p.cls.length p.first = true ∧ p.follow.all (rises p.cls.length) = true := by
  unfold ok; simp only [Bool.and_eq_true, decide_eq_true_eq, and_assoc]
theorem chk_bad {p : P} (h : ¬ ok p = true) : chk p = 1 := by unfold chk; rw [if_neg h]
theorem chk_large {p : P} (h : ok p = true) (h2 : 200 < p.cls.length) : chk p = 2 := by unfold chk; rw [if_pos h, if_pos h2]
theorem chk_fine {p : P} (h : ok p = true) (h2 : ¬ 200 < p.cls.length) : chk p = 0 := by unfold chk; rw [if_pos h, if_neg h2]
theorem chk_zero {p : P} (h : chk p = 0) : ok p = true ∧ p.cls.length ≤ 200 := by
  unfold chk at h
  split at h
  · split at h
    · omega
    · exact ⟨by assumption, by omega⟩
  · omega

/-! ### Rising lists -/
theorem risesFrom_iff (n : Nat) : ∀ (l : List Int) (z : Int), risesFrom n z l = true ↔ (∀ x ∈ l, z < x ∧ x < (n : Int)) ∧ l.Pairwise (· < ·)
  | [], z => by simp [risesFrom]
  | x :: l, z => by
    simp only [risesFrom, Bool.and_eq_true, decide_eq_true_eq, risesFrom_iff n l x, List.mem_cons, forall_eq_or_imp, List.pairwise_cons]
    constructor
    · rintro ⟨⟨h1, h2⟩, h3, h4⟩
      exact ⟨⟨⟨h1, h2⟩, fun y hy => ⟨by have := (h3 y hy).1; omega, (h3 y hy).2⟩⟩, fun y hy => (h3 y hy).1, h4⟩
    · rintro ⟨⟨⟨h1, h2⟩, h3⟩, h4, h5⟩
      exact ⟨⟨h1, h2⟩, fun y hy => ⟨h4 y hy, (h3 y hy).2⟩, h5⟩
theorem risesFrom_step (n : Nat) (z : Int) (l : List Int) (k : Nat) (hk : k < l.length) : risesFrom n z (l.drop k) = (decide (z < l[k]) && decide (l[k] < (n : Int)) && risesFrom n l[k] (l.drop (k + 1))) := by
  rw [show l.drop k = l[k] :: l.drop (k + 1) by rw [List.getElem_cons_drop]]; rfl
/-- The numbers below n of which something holds. -/
def sel (n : Nat) (A : Nat → Bool) : List Int := ((List.range n).filter A).map fun (x : Nat) => (x : Int)
theorem sel_mem (n : Nat) (A : Nat → Bool) (x : Int) : x ∈ sel n A ↔ ∃ y : Nat, y < n ∧ A y = true ∧ x = (y : Int) := by
  simp only [sel, List.mem_map, List.mem_filter, List.mem_range]
  constructor
  · rintro ⟨y, ⟨h1, h2⟩, rfl⟩; exact ⟨y, h1, h2, rfl⟩
  · rintro ⟨y, h1, h2, rfl⟩; exact ⟨y, ⟨h1, h2⟩, rfl⟩
theorem sel_step (n : Nat) (A : Nat → Bool) : sel (n + 1) A = sel n A ++ (if A n = true then [(n : Int)] else []) := by
  unfold sel
  rw [List.range_succ, List.filter_append, List.map_append]
  congr 1
  by_cases h : A n = true
  · simp [h]
  · simp [h]
theorem sel_length (n : Nat) (A : Nat → Bool) : (sel n A).length ≤ n := by
  unfold sel; rw [List.length_map]; have := List.length_filter_le A (List.range n); simpa using this
/-! ### Behind a text -/
/-- Has the class of that place the byte? -/
def hasAt (p : P) (b : Nat) (x : Int) : Bool := match p.cls[x.toNat]? with | some c => mem c b | none => false
/-- May that place come behind one of these? -/
def behindB (p : P) (l : List Int) (x : Nat) : Bool := l.any fun y => (p.follow.getD y.toNat []).contains (x : Int)
def stepF (p : P) (l : List Int) (b : UInt8) : List Int := sel p.cls.length fun x => behindB p l x && hasAt p b.toNat (x : Int)
def startF (p : P) (b : UInt8) : List Int := sel p.cls.length fun x => p.first.contains (x : Int) && hasAt p b.toNat (x : Int)
/-- The places behind a text. -/
def atL (p : P) : List UInt8 → List Int
  | [] => []
  | b :: l => l.foldl (stepF p) (startF p b)
theorem atL_snoc (p : P) (l : List UInt8) (b : UInt8) : atL p (l ++ [b]) = if l = [] then startF p b else stepF p (atL p l) b := by
  cases l with
  | nil => rfl
  | cons c l => simp [atL, List.foldl_append]
theorem atL_sel (p : P) (l : List UInt8) : ∃ A, atL p l = sel p.cls.length A := by
  rcases List.eq_nil_or_concat l with rfl | ⟨m, b, rfl⟩
  · exact ⟨fun _ => false, by simp [atL, sel]⟩
  · rw [List.concat_eq_append, atL_snoc]
    split
    · exact ⟨_, rfl⟩
    · exact ⟨_, rfl⟩
theorem atL_in (p : P) (l : List UInt8) : ∀ x ∈ atL p l, 0 ≤ x ∧ x < (p.cls.length : Int) := by
  obtain ⟨A, hA⟩ := atL_sel p l
  rw [hA]
  intro x hx
  obtain ⟨y, h1, -, rfl⟩ := (sel_mem _ _ _).1 hx
  omega
/-- The rules that are done there. -/
def doneB (p : P) (s : List UInt8) (i : Nat) : Bool := (decide (s = []) && p.empty.getD i false) || (atL p s).any fun y => decide (p.rules.getD y.toNat 0 = (i : Int)) && p.last.getD y.toNat false
/-! ### The program's own ways come to the same -/
end Go.Proofs.Ytlmlkpdppkgenaa.Po
