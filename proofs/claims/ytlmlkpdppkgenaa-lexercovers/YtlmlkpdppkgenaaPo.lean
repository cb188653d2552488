/-
  The plain mathematics of places: which Posn is right, at which places one may be behind a text, which rules are done there.
-/
import Derived.Test.YtlmlkpdppkgenaaMath
namespace Go.Proofs.Ytlmlkpdppkgenaa.Po
open Cls

/-- A Posn. -/
structure P where
  cls : List Cl
  rules : List Int
  first : List Int
  follow : List (List Int)
  last : List Bool
  empty : List Bool

/-- Does it rise from there on, and stay below n? -/
def risesFrom (n : Nat) : Int → List Int → Bool
  | _, [] => true
  | z, x :: l => decide (z < x) && decide (x < (n : Int)) && risesFrom n x l
def rises (n : Nat) (l : List Int) : Bool := risesFrom n (-1) l
def ruleOk (k : Nat) (x : Int) : Bool := decide (0 ≤ x) && decide (x < (k : Int))
def ok (p : P) : Bool :=
  decide (p.rules.length = p.cls.length) && decide (p.follow.length = p.cls.length) && decide (p.last.length = p.cls.length) && decide (0 < p.empty.length) && decide (p.empty.length ≤ 20) && p.rules.all (ruleOk p.empty.length) && rises p.cls.length p.first && p.follow.all (rises p.cls.length)
/-- What Check answers. -/
def chk (p : P) : Int := if ok p = true then (if 200 < p.cls.length then 2 else 0) else 1
/-- .. and with a text. -/
def chkBoth (p : P) (s : List UInt8) : Int := if chk p = 0 then (if 200 < s.length then 2 else 0) else chk p
theorem ok_iff (p : P) : ok p = true ↔ p.rules.length = p.cls.length ∧ p.follow.length = p.cls.length ∧ p.last.length = p.cls.length ∧ 0 < p.empty.length ∧ p.empty.length ≤ 20 ∧ p.rules.all (ruleOk p.empty.length) = true ∧ rises p.cls.length p.first = true ∧ p.follow.all (rises p.cls.length) = true := by
  unfold ok; simp only [Bool.and_eq_true, decide_eq_true_eq, and_assoc]
theorem chk_bad {p : P} (h : ¬ ok p = true) : chk p = 1 := by unfold chk; rw [if_neg h]
theorem chk_large {p : P} (h : ok p = true) (h2 : 200 < p.cls.length) : chk p = 2 := by unfold chk; rw [if_pos h, if_pos h2]
theorem chk_fine {p : P} (h : ok p = true) (h2 : ¬ 200 < p.cls.length) : chk p = 0 := by unfold chk; rw [if_pos h, if_neg h2]
theorem chk_zero {p : P} (h : chk p = 0) : ok p = true ∧ p.cls.length ≤ 200 := by
  unfold chk at h
  split at h
  · split at h
    · omega
    · exact ⟨by assumption, by omega⟩
  · omega

/-! ### Rising lists -/
theorem risesFrom_iff (n : Nat) : ∀ (l : List Int) (z : Int), risesFrom n z l = true ↔ (∀ x ∈ l, z < x ∧ x < (n : Int)) ∧ l.Pairwise (· < ·)
  | [], z => by simp [risesFrom]
  | x :: l, z => by
    simp only [risesFrom, Bool.and_eq_true, decide_eq_true_eq, risesFrom_iff n l x, List.mem_cons, forall_eq_or_imp, List.pairwise_cons]
    constructor
    · rintro ⟨⟨h1, h2⟩, h3, h4⟩
      exact ⟨⟨⟨h1, h2⟩, fun y hy => ⟨by have := (h3 y hy).1; omega, (h3 y hy).2⟩⟩, fun y hy => (h3 y hy).1, h4⟩
    · rintro ⟨⟨⟨h1, h2⟩, h3⟩, h4, h5⟩
      exact ⟨⟨h1, h2⟩, fun y hy => ⟨h4 y hy, (h3 y hy).2⟩, h5⟩
theorem risesFrom_step (n : Nat) (z : Int) (l : List Int) (k : Nat) (hk : k < l.length) : risesFrom n z (l.drop k) = (decide (z < l[k]) && decide (l[k] < (n : Int)) && risesFrom n l[k] (l.drop (k + 1))) := by
  rw [show l.drop k = l[k] :: l.drop (k + 1) by rw [List.getElem_cons_drop]]; rfl
/-- Two lists that rise and have the same members are one. -/
theorem rise_ext : ∀ (l m : List Int), l.Pairwise (· < ·) → m.Pairwise (· < ·) → (∀ x, x ∈ l ↔ x ∈ m) → l = m
  | [], [], _, _, _ => rfl
  | [], y :: m, _, _, h => by have := (h y).2 (by simp); simp at this
  | x :: l, [], _, _, h => by have := (h x).1 (by simp); simp at this
  | x :: l, y :: m, hl, hm, h => by
    rw [List.pairwise_cons] at hl hm
    have e : x = y := by
      have h1 := (h x).1 (by simp)
      have h2 := (h y).2 (by simp)
      rcases List.mem_cons.1 h1 with e | h1
      · exact e
      · rcases List.mem_cons.1 h2 with e | h2
        · exact e.symm
        · have := hm.1 x h1; have := hl.1 y h2; omega
    subst e
    congr 1
    refine rise_ext l m hl.2 hm.2 fun z => ?_
    constructor
    · intro hz
      rcases List.mem_cons.1 ((h z).1 (by simp [hz])) with e | h1
      · subst e; have := hl.1 _ hz; omega
      · exact h1
    · intro hz
      rcases List.mem_cons.1 ((h z).2 (by simp [hz])) with e | h1
      · subst e; have := hm.1 _ hz; omega
      · exact h1
/-- The numbers below n of which something holds. -/
def sel (n : Nat) (A : Nat → Bool) : List Int := ((List.range n).filter A).map fun (x : Nat) => (x : Int)
theorem sel_mem (n : Nat) (A : Nat → Bool) (x : Int) : x ∈ sel n A ↔ ∃ y : Nat, y < n ∧ A y = true ∧ x = (y : Int) := by
  simp only [sel, List.mem_map, List.mem_filter, List.mem_range]
  constructor
  · rintro ⟨y, ⟨h1, h2⟩, rfl⟩; exact ⟨y, h1, h2, rfl⟩
  · rintro ⟨y, h1, h2, rfl⟩; exact ⟨y, ⟨h1, h2⟩, rfl⟩
theorem sel_rises (n : Nat) (A : Nat → Bool) : (sel n A).Pairwise (· < ·) := by
  unfold sel
  rw [List.pairwise_map]
  refine ((List.pairwise_lt_range).filter A).imp ?_
  intro a b h; omega
theorem sel_step (n : Nat) (A : Nat → Bool) : sel (n + 1) A = sel n A ++ (if A n = true then [(n : Int)] else []) := by
  unfold sel
  rw [List.range_succ, List.filter_append, List.map_append]
  congr 1
  by_cases h : A n = true
  · simp [h]
  · simp [h]
theorem sel_length (n : Nat) (A : Nat → Bool) : (sel n A).length ≤ n := by
  unfold sel; rw [List.length_map]; have := List.length_filter_le A (List.range n); simpa using this
theorem sel_congr {n : Nat} {A B : Nat → Bool} (h : ∀ x, x < n → A x = B x) : sel n A = sel n B := by
  unfold sel; congr 1; apply List.filter_congr; intro x hx; exact h x (by simpa using hx)
/-- None beyond n: then it is no matter how far one looks. -/
theorem sel_wide {n m : Nat} {A : Nat → Bool} (hnm : n ≤ m) (h : ∀ x, A x = true → x < n) : sel m A = sel n A := by
  refine rise_ext _ _ (sel_rises _ _) (sel_rises _ _) fun x => ?_
  rw [sel_mem, sel_mem]
  constructor
  · rintro ⟨y, h1, h2, h3⟩; exact ⟨y, h y h2, h2, h3⟩
  · rintro ⟨y, h1, h2, h3⟩; exact ⟨y, by omega, h2, h3⟩
theorem rises_sel {n : Nat} {l : List Int} (h : rises n l = true) : l = sel n (fun x => l.contains (x : Int)) := by
  obtain ⟨h1, h2⟩ := (risesFrom_iff n l (-1)).1 h
  refine rise_ext _ _ h2 (sel_rises _ _) fun x => ?_
  rw [sel_mem]
  constructor
  · intro hx
    have := h1 x hx
    have e : ((x.toNat : Nat) : Int) = x := by omega
    exact ⟨x.toNat, by omega, by show l.contains ((x.toNat : Nat) : Int) = true; rw [e]; simpa using hx, e.symm⟩
  · rintro ⟨y, -, h3, rfl⟩; simpa using h3
theorem sel_filter (n : Nat) (A : Nat → Bool) (f : Int → Bool) : (sel n A).filter f = sel n (fun x => A x && f (x : Int)) := by
  unfold sel
  rw [List.filter_map, List.filter_filter]
  congr 1
  apply List.filter_congr
  intro x _
  simp [Function.comp, Bool.and_comm]
theorem sel_any (n : Nat) (A : Nat → Bool) (f : Int → Bool) : (sel n A).any f = (List.range n).any fun x => A x && f (x : Int) := by
  unfold sel
  rw [List.any_map, List.any_filter]
  rfl

/-! ### Behind a text -/
/-- Has the class of that place the byte? -/
def hasAt (p : P) (b : Nat) (x : Int) : Bool := match p.cls[x.toNat]? with | some c => mem c b | none => false
/-- May that place come behind one of these? -/
def behindB (p : P) (l : List Int) (x : Nat) : Bool := l.any fun y => (p.follow.getD y.toNat []).contains (x : Int)
def stepF (p : P) (l : List Int) (b : UInt8) : List Int := sel p.cls.length fun x => behindB p l x && hasAt p b.toNat (x : Int)
def startF (p : P) (b : UInt8) : List Int := sel p.cls.length fun x => p.first.contains (x : Int) && hasAt p b.toNat (x : Int)
/-- The places behind a text. -/
def atL (p : P) : List UInt8 → List Int
  | [] => []
  | b :: l => l.foldl (stepF p) (startF p b)
theorem atL_snoc (p : P) (l : List UInt8) (b : UInt8) : atL p (l ++ [b]) = if l = [] then startF p b else stepF p (atL p l) b := by
  cases l with
  | nil => rfl
  | cons c l => simp [atL, List.foldl_append]
theorem atL_sel (p : P) (l : List UInt8) : ∃ A, atL p l = sel p.cls.length A := by
  rcases List.eq_nil_or_concat l with rfl | ⟨m, b, rfl⟩
  · exact ⟨fun _ => false, by simp [atL, sel]⟩
  · rw [List.concat_eq_append, atL_snoc]
    split
    · exact ⟨_, rfl⟩
    · exact ⟨_, rfl⟩
theorem atL_in (p : P) (l : List UInt8) : ∀ x ∈ atL p l, 0 ≤ x ∧ x < (p.cls.length : Int) := by
  obtain ⟨A, hA⟩ := atL_sel p l
  rw [hA]
  intro x hx
  obtain ⟨y, h1, -, rfl⟩ := (sel_mem _ _ _).1 hx
  omega
theorem atL_length (p : P) (l : List UInt8) : (atL p l).length ≤ p.cls.length := by
  obtain ⟨A, hA⟩ := atL_sel p l
  rw [hA]; exact sel_length _ _
/-- The rules that are done there. -/
def doneB (p : P) (s : List UInt8) (i : Nat) : Bool := (decide (s = []) && p.empty.getD i false) || (atL p s).any fun y => decide (p.rules.getD y.toNat 0 = (i : Int)) && p.last.getD y.toNat false
def doneL (p : P) (s : List UInt8) : List Int := sel p.empty.length (doneB p s)
/-- What Run answers, and what Rules does. -/
def runL (p : P) (s : List UInt8) : List Int := if chkBoth p s = 0 then atL p s else []
def rulesL (p : P) (s : List UInt8) : List Int := if chkBoth p s = 0 then doneL p s else []
theorem runL_ok {p : P} {s : List UInt8} (h : chkBoth p s = 0) : runL p s = atL p s := by unfold runL; rw [if_pos h]
theorem runL_bad {p : P} {s : List UInt8} (h : ¬ chkBoth p s = 0) : runL p s = [] := by unfold runL; rw [if_neg h]
theorem rulesL_ok {p : P} {s : List UInt8} (h : chkBoth p s = 0) : rulesL p s = doneL p s := by unfold rulesL; rw [if_pos h]
theorem rulesL_bad {p : P} {s : List UInt8} (h : ¬ chkBoth p s = 0) : rulesL p s = [] := by unfold rulesL; rw [if_neg h]
theorem chkBoth_zero {p : P} {s : List UInt8} (h : chkBoth p s = 0) : chk p = 0 ∧ s.length ≤ 200 := by
  unfold chkBoth at h
  split at h
  · split at h
    · omega
    · exact ⟨by assumption, by omega⟩
  · exact ⟨h, by omega⟩

/-! ### The program's own ways come to the same -/
theorem having_first {p : P} (h : rises p.cls.length p.first = true) (b : UInt8) : p.first.filter (hasAt p b.toNat) = startF p b := by
  conv => lhs; rw [rises_sel h]
  rw [sel_filter]; rfl
theorem behind_in {p : P} (h : p.follow.all (rises p.cls.length) = true) (l : List Int) (x : Nat) (hx : behindB p l x = true) : x < p.cls.length := by
  unfold behindB at hx
  rw [List.any_eq_true] at hx
  obtain ⟨y, -, hy⟩ := hx
  rw [List.getD_eq_getElem?_getD] at hy
  cases e : p.follow[y.toNat]? with
  | none => rw [e] at hy; simp at hy
  | some m =>
    rw [e] at hy
    rw [List.all_eq_true] at h
    have h1 := h m (List.mem_of_getElem? e)
    have := ((risesFrom_iff _ _ _).1 h1).1 (x : Int) (by simpa using hy)
    omega
theorem having_behind {p : P} (h : p.follow.all (rises p.cls.length) = true) (hn : p.cls.length ≤ 200) (l : List Int) (b : UInt8) : (sel 200 (behindB p l)).filter (hasAt p b.toNat) = stepF p l b := by
  rw [sel_wide hn (behind_in h l), sel_filter]; rfl
end Go.Proofs.Ytlmlkpdppkgenaa.Po
