/-
  A production read place by place, plainly.
-/
import Derived.Test.YtgoafahglajfmaaDoorSmall9
namespace Go.Proofs.YtgoafahglajfmaaDoor
namespace Cg

def kindAt (l : List UInt8) (p : Nat) : Int := if l.getD p 0 = 110 then 2 else if l.getD p 0 = 116 then 1 else 0
def bodyQ (l : List UInt8) : Nat → Nat → Option (List Sy × Nat)
  | 0, _ => none
  | f + 1, a => if l.getD a 0 = 32 then (if kindAt l (a + 1) = 0 ∨ (small9 l (a + 2)).1 < 0 then none else (bodyQ l f (small9 l (a + 2)).2).map fun r => ((kindAt l (a + 1), (small9 l (a + 2)).1) :: r.1, r.2)) else some ([], a)
def pre (b : List Sy) (r : Option (List Sy × Nat)) : Option (List Sy × Nat) := r.map fun r => (b ++ r.1, r.2)
def prodQ (l : List UInt8) : Option Pd := if (small9 l 0).1 < 0 ∨ l.getD (small9 l 0).2 0 ≠ 58 then none else
  match bodyQ l (l.length + 2) ((small9 l 0).2 + 1) with
  | none => none
  | some r => if r.2 + 1 = l.length ∧ l.getD r.2 0 = 10 then some ((small9 l 0).1, r.1) else none
theorem small9_le (l : List UInt8) (a : Nat) (h : 0 ≤ (small9 l a).1) : a < (small9 l a).2 ∧ (small9 l a).2 ≤ l.length := by
  unfold small9 at h ⊢
  split at h
  · rename_i h1
    rw [if_pos h1]
    have h2 := (headOk_of _ h1).1
    have h3 : 0 < (digs l a).length := List.length_pos_iff.2 h2
    have h4 : (digs l a).length ≤ (l.drop a).length := (List.takeWhile_sublist isD).length_le
    rw [List.length_drop] at h4
    simp only []
    omega
  · simp at h
end Cg
end Go.Proofs.YtgoafahglajfmaaDoor
