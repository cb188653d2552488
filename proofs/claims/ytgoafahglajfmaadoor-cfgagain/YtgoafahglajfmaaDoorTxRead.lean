/-
  The whole text read, plainly.
-/
import Derived.Test.YtgoafahglajfmaaDoorTxMath
namespace Go.Proofs.YtgoafahglajfmaaDoor
namespace Cg

theorem cutC_sp (c : UInt8) : ∀ (l p q : List UInt8) (r : List (List UInt8)), sp c l = p :: q :: r → cutC c l = (p, (cutC c l).2.1, true) ∧ sp c (cutC c l).2.1 = q :: r
  | [], p, q, r, h => by simp [sp] at h
  | b :: l, p, q, r, h => by
    by_cases e : b = c
    · subst e
      rw [cutC_cons_eq]
      rw [sp, if_pos rfl] at h
      obtain ⟨rfl, h⟩ := List.cons.inj h
      exact ⟨by rfl, by simpa using h⟩
    · rw [cutC_cons_ne e]
      cases hs : sp c l with
      | nil => exact absurd hs (sp_ne c l)
      | cons h' t =>
        rw [sp_cons e hs] at h
        obtain ⟨rfl, rfl⟩ := List.cons.inj h
        obtain ⟨h1, h2⟩ := cutC_sp c l h' q r hs
        refine ⟨?_, h2⟩
        rw [h1]
theorem cutC_one (c : UInt8) (l p : List UInt8) (h : sp c l = [p]) : cutC c l = (p, [], false) := by unfold cutC; rw [h]
theorem cutC_less (c : UInt8) : ∀ l : List UInt8, (cutC c l).2.2 = true → (cutC c l).2.1.length < l.length
  | [], h => by simp [cutC, sp] at h
  | b :: l, h => by
    by_cases e : b = c
    · subst e; rw [cutC_cons_eq]; simp
    · rw [cutC_cons_ne e] at h ⊢
      have := cutC_less c l h
      simp; omega
def zst : St := ⟨0, 0, []⟩
def readR (l : List UInt8) : St × Int × Int := if 4096 < l.length then (zst, 0, 2) else
  if (rdR 1 zst (sp 10 l)).2.2 = true then (if chk (rdR 1 zst (sp 10 l)).1.t (rdR 1 zst (sp 10 l)).1.n (rdR 1 zst (sp 10 l)).1.ps = 0 then ((rdR 1 zst (sp 10 l)).1, 0, 0) else (zst, 0, chk (rdR 1 zst (sp 10 l)).1.t (rdR 1 zst (sp 10 l)).1.n (rdR 1 zst (sp 10 l)).1.ps)) else (zst, ((rdR 1 zst (sp 10 l)).2.1 : Int), 6)
end Cg
end Go.Proofs.YtgoafahglajfmaaDoor
