/-
  What the cuts of a body are: the plain part of chart.cuts.
-/
import Derived.Test.YtpfehghicaaghaaChProd
namespace Go.Proofs.Ytpfehghicaaghaa
open Go.RowKit
open Cg

theorem row_madei (w : World) (z v : Value) (n : Nat) (t : TypeId) (i : Nat) : (w.alloc (.cells ((madeCells #[z] n).setIfInBounds i v) t)).rowIs w.heap.size t n (fun x => if x = i then v else z) := by
  refine ⟨_, heap_alloc_new _ _, by simp [madeCells], fun x hx => ?_⟩
  show _ = some (if x = i then v else z)
  rw [Array.getElem?_setIfInBounds]
  by_cases e : x = i
  · subst e; simp [madeCells, hx]
  · rw [if_neg (fun h => e h.symm), if_neg e]; simp [madeCells, hx, Nat.mod_one]
/-- Where a piece can be cut ahead of a symbol. -/
theorem vB_cut {ps : List Pd} {K : Nat} {M : Sy → Nat → Nat → Nat} (hM : Tri M) {p i j k : Nat} (hi : i < K) (hj : j < K) (hk : k < (ps.getD p (0, [])).2.length) (h : vB ps K M p i j (k + 1) ≠ 0) : ∃ c, i ≤ c ∧ c ≤ j ∧ vB ps K M p i c k ≠ 0 ∧ M ((ps.getD p (0, [])).2.getD k (0, 0)) c j ≠ 0 := by
  rw [← pB_end hM hi hj hk] at h
  unfold pB at h
  obtain ⟨c, hc, h1⟩ := sm_pos.1 (show 1 ≤ sm (j + 1) fun x => mr K M ((ps.getD p (0, [])).2.take k) i x * M ((ps.getD p (0, [])).2.getD k (0, 0)) x j by omega)
  have h2 : mr K M ((ps.getD p (0, [])).2.take k) i c ≠ 0 := fun e => by rw [e, Nat.zero_mul] at h1; omega
  have h3 : M ((ps.getD p (0, [])).2.getD k (0, 0)) c j ≠ 0 := fun e => by rw [e, Nat.mul_zero] at h1; omega
  refine ⟨c, ?_, by omega, by unfold vB; omega, h3⟩
  rcases Nat.lt_or_ge c i with h4 | h4
  · exact absurd (mr_tri hM _ h4) h2
  · exact h4
/-- What the cuts from k on are. -/
structure Cu2 (ps : List Pd) (K : Nat) (M : Sy → Nat → Nat → Nat) (p i j k : Nat) (f : Nat → Nat) : Prop where
  last : f (ps.getD p (0, [])).2.length = j
  ge : ∀ x, k ≤ x → x ≤ (ps.getD p (0, [])).2.length → i ≤ f x ∧ f x ≤ j ∧ vB ps K M p i (f x) x ≠ 0
  st : ∀ x, k ≤ x → x < (ps.getD p (0, [])).2.length → f x ≤ f (x + 1) ∧ M ((ps.getD p (0, [])).2.getD x (0, 0)) (f x) (f (x + 1)) ≠ 0
theorem Cu2.put {ps : List Pd} {K : Nat} {M : Sy → Nat → Nat → Nat} {p i j k : Nat} {f : Nat → Nat} (h : Cu2 ps K M p i j (k + 1) f) (hk : k < (ps.getD p (0, [])).2.length) {c : Nat} (h1 : i ≤ c) (h2 : c ≤ f (k + 1)) (h3 : vB ps K M p i c k ≠ 0) (h4 : M ((ps.getD p (0, [])).2.getD k (0, 0)) c (f (k + 1)) ≠ 0) : Cu2 ps K M p i j k (fun x => if x = k then c else f x) := by
  have hj := (h.ge (k + 1) (by omega) (by omega)).2.1
  refine ⟨by show (if _ = k then c else _) = j; rw [if_neg (by omega)]; exact h.last, fun x hx hl => ?_, fun x hx hl => ?_⟩
  · by_cases e : x = k
    · subst e; simp only [if_pos]; exact ⟨h1, by omega, h3⟩
    · simp only [if_neg e]; exact h.ge x (by omega) hl
  · by_cases e : x = k
    · subst e
      simp only [if_pos]
      rw [if_neg (by omega)]
      exact ⟨h2, h4⟩
    · simp only [if_neg e]
      rw [if_neg (by omega)]
      exact h.st x (by omega) hl

end Go.Proofs.Ytpfehghicaaghaa
