/-
  The only tree over a part of a word: whichever production and cuts are found, they are its own. The cuts that are found are the only tree's.
-/
import Derived.Test.YtpfehghicaaghaaCtA
import Derived.Test.YtpfehghicaaghaaChCutm
namespace Go.Proofs.Ytpfehghicaaghaa
open Cg

theorem spL_range {ps : List Pd} {w : List Int} : ∀ (ss : List Sy) (f : Nat → Nat) (g : Nat → T), f ss.length ≤ w.length → (∀ k, k < ss.length → Sp ps w (g k) (ss.getD k (0, 0)) (f k) (f (k + 1))) → SpL ps w ((List.range ss.length).map g) ss (f 0) (f ss.length)
  | [], f, g, hl, _ => spL_nil.2 ⟨⟨rfl, hl⟩, rfl⟩
  | s :: ss, f, g, hl, h => by
    have h0 := h 0 (by simp)
    have h1 := spL_range ss (fun k => f (k + 1)) (fun k => g (k + 1)) (by simpa using hl) fun k hk => by
      have := h (k + 1) (by simp; omega)
      simpa using this
    have h2 := h1.ij
    refine spL_cons.2 ⟨f 1, by simp at h2 ⊢; omega, g 0, (List.range ss.length).map (fun k => g (k + 1)), by simpa using h0, by simpa using h1, ?_⟩
    rw [List.length_cons, List.range_succ_eq_map, List.map_cons, List.map_map]
    rfl
theorem uniq_kids {ps : List Pd} {w : List Int} {ss : List Sy} {f : Nat → Nat} {l : List T} (hl : f ss.length ≤ w.length) (hu : ∀ l', SpL ps w l' ss (f 0) (f ss.length) → l' = l) (hex : ∀ k, k < ss.length → ∃ t, Sp ps w t (ss.getD k (0, 0)) (f k) (f (k + 1))) :
    l.length = ss.length ∧ ∀ k, k < ss.length → ∃ x, l[k]? = some x ∧ Sp ps w x (ss.getD k (0, 0)) (f k) (f (k + 1)) ∧ ∀ t, Sp ps w t (ss.getD k (0, 0)) (f k) (f (k + 1)) → t = x := by
  have hc : ∀ k, ∃ t, k < ss.length → Sp ps w t (ss.getD k (0, 0)) (f k) (f (k + 1)) := fun k => by
    by_cases hk : k < ss.length
    · obtain ⟨t, ht⟩ := hex k hk
      exact ⟨t, fun _ => ht⟩
    · exact ⟨.mk 0 0 [], fun h => absurd h hk⟩
  obtain ⟨g, hg⟩ : ∃ g : Nat → T, ∀ k, k < ss.length → Sp ps w (g k) (ss.getD k (0, 0)) (f k) (f (k + 1)) := ⟨fun k => (hc k).choose, fun k => (hc k).choose_spec⟩
  have e := hu _ (spL_range ss f g hl hg)
  subst e
  refine ⟨by simp, fun k hk => ⟨g k, by simp [hk], hg k hk, fun t ht => ?_⟩⟩
  have e2 := hu _ (spL_range ss f (fun x => if x = k then t else g x) hl fun x hx => by
    by_cases e : x = k
    · subst e; simpa using ht
    · simpa [e] using hg x hx)
  have e3 := congrArg (fun l => l[k]?) e2
  simpa [hk] using e3
/-- Whichever production is found to stand for the part is the only tree's. -/
theorem uniq_node {ps : List Pd} {w : List Int} {s : Sy} {i j q : Nat} {x : T} {l : List T} (h4 : s.1 ≠ 1) (hu : ∀ t, Sp ps w t s i j → t = x) (hq : q < ps.length) (hh : (ps.getD q (0, [])).1 = s.2) (h : SpL ps w l (ps.getD q (0, [])).2 i j) : x = .mk (q : Int) 0 l ∧ ∀ l', SpL ps w l' (ps.getD q (0, [])).2 i j → l' = l := by
  have e := hu _ ((sp_node h4).2 ⟨q, hq, hh, l, h, rfl⟩)
  refine ⟨e.symm, fun l' h' => ?_⟩
  have e2 := hu _ ((sp_node h4).2 ⟨q, hq, hh, l', h', rfl⟩)
  rw [← e] at e2
  injection e2
end Go.Proofs.Ytpfehghicaaghaa

namespace Go.Proofs.Ytpfehghicaaghaa
open Cg

theorem getD_mem {l : List Sy} {k : Nat} (hk : k < l.length) : l.getD k (0, 0) ∈ l := by
  rw [List.getD_eq_getElem?_getD, List.getElem?_eq_getElem hk]; exact List.getElem_mem hk
theorem cu2_zero {ps : List Pd} {K : Nat} {M : Sy → Nat → Nat → Nat} {p i j : Nat} {f : Nat → Nat} (h : Cu2 ps K M p i j 0 f) : f 0 = i := by
  have h0 := (h.ge 0 (Nat.le_refl _) (Nat.zero_le _)).2.2
  unfold vB at h0
  rw [List.take_zero, mr] at h0
  by_cases e : i = f 0
  · exact e.symm
  · rw [if_neg e] at h0; exact absurd rfl h0
theorem cu2_tree {ps : List Pd} {ws : List Int} {K : Nat} {M : Sy → Nat → Nat → Nat} {q i j : Nat} {f : Nat → Nat} {s : Sy} {x : T} (h : Cu2 ps K M q i j 0 f) (hone : ∀ s i j, (s.1 = 1 ∨ s.1 = 2) → M s i j ≠ 0 → ∃ t, Sp ps ws t s i j) (hkd : ∀ s ∈ (ps.getD q (0, [])).2, s.1 = 1 ∨ s.1 = 2) (hj : j ≤ ws.length) (h4 : s.1 ≠ 1) (hq : q < ps.length) (hh : (ps.getD q (0, [])).1 = s.2) (hu : ∀ z, Sp ps ws z s i j → z = x) :
    ∃ l, x = .mk (q : Int) 0 l ∧ l.length = (ps.getD q (0, [])).2.length ∧ ∀ k, k < (ps.getD q (0, [])).2.length → ∃ y, l[k]? = some y ∧ Sp ps ws y ((ps.getD q (0, [])).2.getD k (0, 0)) (f k) (f (k + 1)) ∧ ∀ t, Sp ps ws t ((ps.getD q (0, [])).2.getD k (0, 0)) (f k) (f (k + 1)) → t = y := by
  have e0 := cu2_zero h
  have e1 := h.last
  have hex : ∀ k, k < (ps.getD q (0, [])).2.length → ∃ t, Sp ps ws t ((ps.getD q (0, [])).2.getD k (0, 0)) (f k) (f (k + 1)) := fun k hk => hone _ _ _ (hkd _ (getD_mem hk)) (h.st k (Nat.zero_le _) hk).2
  have hc : ∀ k, ∃ t, k < (ps.getD q (0, [])).2.length → Sp ps ws t ((ps.getD q (0, [])).2.getD k (0, 0)) (f k) (f (k + 1)) := fun k => by
    by_cases hk : k < (ps.getD q (0, [])).2.length
    · obtain ⟨t, ht⟩ := hex k hk
      exact ⟨t, fun _ => ht⟩
    · exact ⟨.mk 0 0 [], fun h => absurd h hk⟩
  have hl := spL_range _ f (fun k => (hc k).choose) (by rw [e1]; exact hj) fun k hk => (hc k).choose_spec hk
  generalize (List.range (ps.getD q (0, [])).2.length).map (fun k => (hc k).choose) = l at hl
  have hl2 := hl
  rw [e0, e1] at hl2
  obtain ⟨u1, u2⟩ := uniq_node h4 hu hq hh hl2
  obtain ⟨v1, v2⟩ := uniq_kids (l := l) (by rw [e1]; exact hj) (by rw [e0, e1]; exact u2) hex
  exact ⟨l, u1, v1, v2⟩
end Go.Proofs.Ytpfehghicaaghaa
