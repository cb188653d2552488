/-
  Which acts there may be at a column, plainly.
-/
import Derived.Test.YtpbnnmfjahckmaaGrA
namespace Go.Proofs.Ytpbnnmfjahckmaa
namespace Cg

/-- What is done when all symbols have been had. -/
def actX (ps : List Pd) (p : Nat) : Sy := if p = ps.length then (3, 0) else (2, (p : Int))
def shA (T : Nat) (nx : List Int) (c : Nat) : List Sy := if c < T ∧ nx.getD c (-1) ≠ -1 then [(1, nx.getD c (-1))] else []
def doneI (ps : List Pd) (x : It) : Bool := decide (x.2.1 = (bod ps x.1).length)
def rdL (ps : List Pd) (s : List It) (c : Nat) : List Sy := (s.filter fun x => doneI ps x && decide (x.2.2 = c)).map fun x => actX ps x.1
def cnd (T : Nat) (ps : List Pd) (nx : List Int) (s : List It) (c : Nat) : List Sy := shA T nx c ++ rdL ps s c
def shF (T : Nat) (nx : List Int) (i c : Nat) : List Sy := if c < i then shA T nx c else []
theorem shF_end {T : Nat} {nx : List Int} (c : Nat) : shF T nx T c = shA T nx c := by
  unfold shF
  by_cases h : c < T
  · rw [if_pos h]
  · rw [if_neg h]; unfold shA; rw [if_neg (fun e => h e.1)]
theorem rdL_nil (ps : List Pd) (c : Nat) : rdL ps [] c = [] := rfl
theorem rdL_next {ps : List Pd} {s : List It} {i : Nat} (hi : i < s.length) (c : Nat) : rdL ps (s.take (i + 1)) c = rdL ps (s.take i) c ++ (if doneI ps s[i] = true ∧ s[i].2.2 = c then [actX ps s[i].1] else []) := by
  unfold rdL
  rw [List.take_succ_eq_append_getElem hi, List.filter_append, List.map_append]
  congr 1
  by_cases e : doneI ps s[i] = true
  · by_cases e2 : s[i].2.2 = c
    · simp [e, e2]
    · simp [e, e2]
  · simp [e]
theorem rdL_le (ps : List Pd) (s : List It) (c : Nat) : (rdL ps s c).length ≤ s.length := by
  unfold rdL; rw [List.length_map]; exact List.length_filter_le _ _
theorem mem_rdL {ps : List Pd} {s : List It} {c : Nat} {a : Sy} : a ∈ rdL ps s c ↔ ∃ x ∈ s, x.2.1 = (bod ps x.1).length ∧ x.2.2 = c ∧ a = actX ps x.1 := by
  unfold rdL
  rw [List.mem_map]
  constructor
  · rintro ⟨x, hx, rfl⟩
    rw [List.mem_filter] at hx
    simp only [doneI, Bool.and_eq_true, decide_eq_true_eq] at hx
    exact ⟨x, hx.1, hx.2.1, hx.2.2, rfl⟩
  · rintro ⟨x, hx, h1, h2, rfl⟩
    exact ⟨x, List.mem_filter.2 ⟨hx, by simp [doneI, h1, h2]⟩, rfl⟩
end Cg
end Go.Proofs.Ytpbnnmfjahckmaa
