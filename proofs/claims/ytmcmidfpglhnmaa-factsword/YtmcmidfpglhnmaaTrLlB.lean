/-
  The brackets' grammar has no clash, and its rows have the right form: plainly.
-/
import Derived.Test.YtmcmidfpglhnmaaTrLl
import Derived.Test.YtmcmidfpglhnmaaFcBrack
namespace Go.Proofs.Ytmcmidfpglhnmaa
open Cg

theorem brs_follow {E : Nat → Bool} {F V : Nat → Wd} {R M : Nat → Bool} (h : Fa brs E F V R M) : (V 0).getLsbD 0 = false := by
  have hc : ClW brs E F (fun _ => 9223372036854775810#64) := by
    refine ⟨by unfold le; decide, fun p hp k hk h2 => ?_⟩
    simp only [brs, List.mem_cons, List.not_mem_nil, or_false] at hp
    rcases hp with rfl | rfl
    · simp at hk
    · simp only [List.length_cons, List.length_nil] at hk
      have : k = 0 ∨ k = 1 ∨ k = 2 ∨ k = 3 := by omega
      rcases this with rfl | rfl | rfl | rfl
      · simp at h2
      · show le (bg E F [(1, 1), (2, 0)] _) _
        unfold bg
        rw [if_pos rfl]
        unfold le; decide
      · simp at h2
      · exact le_refl _
  cases e : (V 0).getLsbD 0 with
  | false => rfl
  | true =>
    have := le_bits.1 (h.w.sn _ hc 0) 0 e
    exact absurd this (by decide)
theorem brs_may {E : Nat → Bool} {F V : Nat → Wd} (c : Nat) : mayL brs (sts brs E F V) 2 0 c = (if (V 0).getLsbD (bc 2 c) = true then [0] else []) ++ (if bc 2 c = 0 then [1] else []) := by
  have e0 : mayB brs (sts brs E F V) 2 0 c 0 = (V 0).getLsbD (bc 2 c) := by
    rw [mayB_at (by decide), sts_at (by decide)]
    show (decide ((0 : Int) = ((0 : Nat) : Int)) && (bg E F [] (V 0)).getLsbD (bc 2 c)) = _
    rw [bg]; simp
  have e1 : mayB brs (sts brs E F V) 2 0 c 1 = decide (bc 2 c = 0) := by
    rw [mayB_at (by decide), sts_at (by decide)]
    show (decide ((0 : Int) = ((0 : Nat) : Int)) && (bg E F [(1, 0), (2, 0), (1, 1), (2, 0)] (V 0)).getLsbD (bc 2 c)) = _
    rw [bg, if_pos rfl]
    show (decide ((0 : Int) = ((0 : Nat) : Int)) && (1#64 <<< 0).getLsbD (bc 2 c)) = _
    generalize bc 2 c = k
    rw [show (1#64 <<< 0) = 1#64 from rfl]
    by_cases h : k = 0
    · subst h; decide
    · simp [h, BitVec.getLsbD_one]
  unfold mayL
  rw [show brs.length = 0 + 1 + 1 from rfl, mayQ_step, mayQ_step, e0, e1]
  simp [mayQ]
theorem brs_ll {S : Nat → Wd} (h : TK brs S) : clsN brs S 2 1 = [] ∧ chkR 2 1 brs (rowsL brs S 2 1) = 0 ∧ (rowsL brs S 2 1).length = 1 := by
  obtain ⟨E, F, V, R, M, hfa, rfl⟩ := h
  have hf := brs_follow hfa
  have hm0 : mayL brs (sts brs E F V) 2 0 0 = [1] := by rw [brs_may, show bc 2 0 = 0 from rfl, hf]; rfl
  have hm1 : mayL brs (sts brs E F V) 2 0 1 = if (V 0).getLsbD 1 = true then [0] else [] := by rw [brs_may, show bc 2 1 = 1 from rfl]; simp
  have hm2 : mayL brs (sts brs E F V) 2 0 2 = if (V 0).getLsbD 63 = true then [0] else [] := by rw [brs_may, show bc 2 2 = 63 from rfl]; simp
  refine ⟨?_, ?_, by simp [rowsL]⟩
  · have c0 : clsC brs (sts brs E F V) 2 0 0 = [] := by unfold clsC; rw [hm0]; rfl
    have c1 : clsC brs (sts brs E F V) 2 0 1 = [] := by unfold clsC; rw [hm1]; split <;> rfl
    have c2 : clsC brs (sts brs E F V) 2 0 2 = [] := by unfold clsC; rw [hm2]; split <;> rfl
    show clsN brs _ 2 0 ++ clsR brs _ 2 0 (0 + 1 + 1 + 1) = []
    rw [clsN, clsR, clsR, clsR, clsR, c0, c1, c2]; rfl
  · have hr : rowsL brs (sts brs E F V) 2 1 = [[hdI (mayL brs (sts brs E F V) 2 0 0), hdI (mayL brs (sts brs E F V) 2 0 1), hdI (mayL brs (sts brs E F V) 2 0 2)]] := rfl
    rw [hr, hm0, hm1, hm2]
    by_cases h1 : (V 0).getLsbD 1 = true
    · rw [if_pos h1]
      by_cases h2 : (V 0).getLsbD 63 = true
      · rw [if_pos h2]; decide
      · rw [if_neg h2]; decide
    · rw [if_neg h1]
      by_cases h2 : (V 0).getLsbD 63 = true
      · rw [if_pos h2]; decide
      · rw [if_neg h2]; decide
end Go.Proofs.Ytmcmidfpglhnmaa
