/-
  The plain mathematics of automata: which are right, and where a text leads.
-/
namespace Go.Proofs.Ytcdnbkfjiigdmaa.Dfa

/-- Is a number none, or a state's? -/
def numOk (n : Nat) (x : Int) : Bool := decide (-1 ≤ x) && decide (x < (n : Int))
def rowOk (n : Nat) (f : Nat → Int) : Bool := (List.range 256).all fun j => numOk n (f j)
def rowsOk (n : Nat) (R : Nat → Nat → Int) : Bool := (List.range n).all fun i => rowOk n (R i)
def tagOk (x : Int) : Bool := decide (-1 ≤ x) && decide (x < 20)
def tagsOk (m : Nat) (T : Nat → Int) : Bool := (List.range m).all fun i => tagOk (T i)
/-- What Check answers. -/
def chk (n m : Nat) (R : Nat → Nat → Int) (T : Nat → Int) : Int :=
  if 200 < n then 2 else if n = 0 ∨ m ≠ n then 1 else if rowsOk n R = true ∧ tagsOk m T = true then 0 else 1

theorem all_true {n : Nat} {p : Nat → Bool} (h : ∀ i, i < n → p i = true) : (List.range n).all p = true := by
  rw [List.all_eq_true]; intro x hx; exact h x (by simpa using hx)
theorem all_false {n : Nat} {p : Nat → Bool} {i : Nat} (hi : i < n) (h : p i = false) : (List.range n).all p = false := by
  rw [List.all_eq_false]; exact ⟨i, by simpa using hi, by simp [h]⟩
theorem all_at {n : Nat} {p : Nat → Bool} (h : (List.range n).all p = true) (i : Nat) (hi : i < n) : p i = true := by
  rw [List.all_eq_true] at h; exact h i (by simpa using hi)

/-- One byte on. -/
def step (R : Nat → Nat → Int) (s : Int) (b : UInt8) : Int := if s < 0 then s else R s.toNat b.toNat
def goes (R : Nat → Nat → Int) (s : Int) (l : List UInt8) : Int := l.foldl (step R) s
theorem goes_append (R : Nat → Nat → Int) (s : Int) (l m : List UInt8) : goes R s (l ++ m) = goes R (goes R s l) m := by simp [goes]
theorem goes_neg (R : Nat → Nat → Int) (s : Int) (h : s < 0) (l : List UInt8) : goes R s l = s := by
  induction l with
  | nil => rfl
  | cons b l ih => simp only [goes, List.foldl_cons] at *; rw [show step R s b = s by simp [step, h]]; exact ih
theorem goes_snoc (R : Nat → Nat → Int) (s : Int) (l : List UInt8) (b : UInt8) : goes R s (l ++ [b]) = step R (goes R s l) b := by simp [goes]
/-- A state, or none. -/
def At (n : Nat) (s : Int) : Prop := -1 ≤ s ∧ s < (n : Int)
theorem at_step {n : Nat} {R : Nat → Nat → Int} (h : rowsOk n R = true) {s : Int} (hs : At n s) (b : UInt8) : At n (step R s b) := by
  unfold step
  split
  · exact hs
  · have hb := b.toNat_lt
    have h1 := all_at (all_at h s.toNat (by have := hs.2; omega)) b.toNat (by omega)
    simp only [numOk, Bool.and_eq_true, decide_eq_true_eq] at h1
    exact h1
theorem at_goes {n : Nat} {R : Nat → Nat → Int} (h : rowsOk n R = true) (l : List UInt8) : ∀ {s : Int}, At n s → At n (goes R s l) := by
  induction l with
  | nil => intro s hs; exact hs
  | cons b l ih => intro s hs; exact ih (at_step h hs b)
/-- The Tag of a state. -/
def tagOf (T : Nat → Int) (s : Int) : Int := if s < 0 then -1 else T s.toNat
theorem chk_zero {n m : Nat} {R : Nat → Nat → Int} {T : Nat → Int} (h : chk n m R T = 0) : 0 < n ∧ n ≤ 200 ∧ m = n ∧ rowsOk n R = true ∧ tagsOk m T = true := by
  unfold chk at h
  split at h
  · omega
  · split at h
    · omega
    · split at h
      · refine ⟨by omega, by omega, by omega, ?_, ?_⟩ <;> simp_all
      · omega
theorem chk_cases (n m : Nat) (R : Nat → Nat → Int) (T : Nat → Int) : chk n m R T = 0 ∨ chk n m R T = 1 ∨ chk n m R T = 2 := by
  unfold chk
  split
  · simp
  · split
    · simp
    · split <;> simp
/-- What Run answers, and what Tag does. -/
def runAns (n m : Nat) (R : Nat → Nat → Int) (T : Nat → Int) (l : List UInt8) : Int := if chk n m R T = 0 then goes R 0 l else 0
def tagAns (n m : Nat) (R : Nat → Nat → Int) (T : Nat → Int) (l : List UInt8) : Int := if chk n m R T = 0 then tagOf T (goes R 0 l) else 0
theorem runAns_ok {n m : Nat} {R : Nat → Nat → Int} {T : Nat → Int} (h : chk n m R T = 0) (l : List UInt8) : runAns n m R T l = goes R 0 l := by unfold runAns; rw [if_pos h]
theorem tagAns_ok {n m : Nat} {R : Nat → Nat → Int} {T : Nat → Int} (h : chk n m R T = 0) (l : List UInt8) : tagAns n m R T l = tagOf T (goes R 0 l) := by unfold tagAns; rw [if_pos h]
theorem runAns_bad {n m : Nat} {R : Nat → Nat → Int} {T : Nat → Int} (h : ¬ chk n m R T = 0) (l : List UInt8) : runAns n m R T l = 0 := by unfold runAns; rw [if_neg h]
theorem tagAns_bad {n m : Nat} {R : Nat → Nat → Int} {T : Nat → Int} (h : ¬ chk n m R T = 0) (l : List UInt8) : tagAns n m R T l = 0 := by unfold tagAns; rw [if_neg h]
end Go.Proofs.Ytcdnbkfjiigdmaa.Dfa
