/-
  The plain mathematics of tokens: the longest one at the front of a text, and all of a text.
-/
import Derived.Test.YtcdnbkfjiigdmaaPkMath
namespace Go.Proofs.Ytcdnbkfjiigdmaa.Dfa

/-- From a state on, with what was found so far: the rule, the size. -/
def lg (R : Nat → Nat → Int) (T : Nat → Int) : Nat → Nat → Int → Nat → List UInt8 → Int × Nat
  | _, _, r, z, [] => (r, z)
  | q, i, r, z, b :: l => if R q b.toNat < 0 then (r, z) else if T (R q b.toNat).toNat < 0 then lg R T (R q b.toNat).toNat (i + 1) r z l else lg R T (R q b.toNat).toNat (i + 1) (T (R q b.toNat).toNat) (i + 1) l
def lng (R : Nat → Nat → Int) (T : Nat → Int) (l : List UInt8) : Int × Nat := lg R T 0 0 0 0 l
theorem lg_le (R : Nat → Nat → Int) (T : Nat → Int) (l : List UInt8) : ∀ q i r z, z ≤ i → (lg R T q i r z l).2 ≤ i + l.length := by
  induction l with
  | nil => intro q i r z h; simp [lg]; omega
  | cons b l ih =>
    intro q i r z h
    unfold lg
    split
    · simp; omega
    · split
      · have := ih (R q b.toNat).toNat (i + 1) r z (by omega); simp; omega
      · have := ih (R q b.toNat).toNat (i + 1) (T (R q b.toNat).toNat) (i + 1) (by omega); simp; omega
theorem lng_le (R : Nat → Nat → Int) (T : Nat → Int) (l : List UInt8) : (lng R T l).2 ≤ l.length := by have := lg_le R T l 0 0 0 0 (by omega); unfold lng; omega
/-- The tokens from a place on, and where none begins. -/
def tk (R : Nat → Nat → Int) (T : Nat → Int) (s : List UInt8) : Nat → Nat → List (Int × Nat × Nat) × Option Nat
  | 0, _ => ([], none)
  | f + 1, p => if s.length ≤ p then ([], none) else if (lng R T (s.drop p)).2 = 0 then ([], some p) else
      (((lng R T (s.drop p)).1, p, p + (lng R T (s.drop p)).2) :: (tk R T s f (p + (lng R T (s.drop p)).2)).1, (tk R T s f (p + (lng R T (s.drop p)).2)).2)
theorem tk_end {R : Nat → Nat → Int} {T : Nat → Int} {s : List UInt8} {f p : Nat} (h : s.length ≤ p) : tk R T s f p = ([], none) := by
  cases f with
  | zero => rfl
  | succ f => unfold tk; rw [if_pos h]
theorem tk_bad {R : Nat → Nat → Int} {T : Nat → Int} {s : List UInt8} {f p : Nat} (h : p < s.length) (hf : s.length ≤ p + f) (hz : (lng R T (s.drop p)).2 = 0) : tk R T s f p = ([], some p) := by
  cases f with
  | zero => omega
  | succ f => unfold tk; rw [if_neg (by omega), if_pos hz]
theorem tk_next {R : Nat → Nat → Int} {T : Nat → Int} {s : List UInt8} {f p : Nat} (h : p < s.length) (hf : s.length ≤ p + f) (hz : ¬ (lng R T (s.drop p)).2 = 0) : ∃ g, s.length ≤ p + (lng R T (s.drop p)).2 + g ∧
    tk R T s f p = (((lng R T (s.drop p)).1, p, p + (lng R T (s.drop p)).2) :: (tk R T s g (p + (lng R T (s.drop p)).2)).1, (tk R T s g (p + (lng R T (s.drop p)).2)).2) := by
  cases f with
  | zero => omega
  | succ f => exact ⟨f, by omega, by rw [tk]; rw [if_neg (by omega), if_neg hz]⟩
/-- All of a text. -/
def all (R : Nat → Nat → Int) (T : Nat → Int) (s : List UInt8) : List (Int × Nat × Nat) × Option Nat := tk R T s s.length 0
/-- What stands at a place of a loop over the tokens. -/
def Tk (R : Nat → Nat → Int) (T : Nat → Int) (s : List UInt8) (ts : List (Int × Nat × Nat)) (p : Nat) : Prop := p ≤ s.length ∧ ts.length ≤ p ∧ ∃ f, s.length ≤ p + f ∧ all R T s = (ts ++ (tk R T s f p).1, (tk R T s f p).2)
theorem Tk.start (R : Nat → Nat → Int) (T : Nat → Int) (s : List UInt8) : Tk R T s [] 0 := ⟨by omega, by simp, s.length, by omega, by simp [all]⟩
theorem Tk.over {R : Nat → Nat → Int} {T : Nat → Int} {s : List UInt8} {ts : List (Int × Nat × Nat)} {p : Nat} (h : Tk R T s ts p) (hp : s.length ≤ p) : all R T s = (ts, none) := by
  obtain ⟨h0, -, f, h1, h2⟩ := h
  rw [h2, tk_end hp, List.append_nil]
theorem Tk.bad {R : Nat → Nat → Int} {T : Nat → Int} {s : List UInt8} {ts : List (Int × Nat × Nat)} {p : Nat} (h : Tk R T s ts p) (hp : p < s.length) (hz : (lng R T (s.drop p)).2 = 0) : all R T s = (ts, some p) := by
  obtain ⟨h0, -, f, h1, h2⟩ := h
  rw [h2, tk_bad hp h1 hz, List.append_nil]
theorem Tk.next {R : Nat → Nat → Int} {T : Nat → Int} {s : List UInt8} {ts : List (Int × Nat × Nat)} {p : Nat} (h : Tk R T s ts p) (hp : p < s.length) (hz : ¬ (lng R T (s.drop p)).2 = 0) :
    Tk R T s (ts ++ [((lng R T (s.drop p)).1, p, p + (lng R T (s.drop p)).2)]) (p + (lng R T (s.drop p)).2) := by
  obtain ⟨h0, h3, f, h1, h2⟩ := h
  obtain ⟨g, g1, g2⟩ := tk_next hp h1 hz
  have hl := lng_le R T (s.drop p)
  rw [List.length_drop] at hl
  exact ⟨by omega, by simp; omega, g, g1, by rw [h2, g2, List.append_assoc]; rfl⟩
end Go.Proofs.Ytcdnbkfjiigdmaa.Dfa
