/-
  The brackets' grammar has no clash, and its rows have the right form: plainly. The facts of the brackets' grammar, and its rows; plainly.
-/
import Derived.Test.YtmcmidfpglhnmaaTrLl
import Derived.Test.YtmcmidfpglhnmaaFcBrack
import Derived.Test.YtmcmidfpglhnmaaFcOf
namespace Go.Proofs.Ytmcmidfpglhnmaa
open Cg

theorem brs_follow {E : Nat → Bool} {F V : Nat → Wd} {R M : Nat → Bool} (h : Fa brs E F V R M) : (V 0).getLsbD 0 = false := by
  have hc : ClW brs E F (fun _ => 9223372036854775810#64) := by
    refine ⟨by unfold le; decide, fun p hp k hk h2 => ?_⟩
    simp only [brs, List.mem_cons, List.not_mem_nil, or_false] at hp
    rcases hp with rfl | rfl
    · simp at hk
    · simp only [List.length_cons, List.length_nil] at hk
      have : k = 0 ∨ k = 1 ∨ k = 2 ∨ k = 3 := by omega
      rcases this with rfl | rfl | rfl | rfl
      · simp at h2
      · show le (bg E F [(1, 1), (2, 0)] _) _
        unfold bg
        rw [if_pos rfl]
        unfold le; decide
      · simp at h2
      · exact le_refl _
  cases e : (V 0).getLsbD 0 with
  | false => rfl
  | true =>
    have := le_bits.1 (h.w.sn _ hc 0) 0 e
    exact absurd this (by decide)
theorem brs_may {E : Nat → Bool} {F V : Nat → Wd} (c : Nat) : mayL brs (sts brs E F V) 2 0 c = (if (V 0).getLsbD (bc 2 c) = true then [0] else []) ++ (if bc 2 c = 0 then [1] else []) := by
  have e0 : mayB brs (sts brs E F V) 2 0 c 0 = (V 0).getLsbD (bc 2 c) := by
    rw [mayB_at (by decide), sts_at (by decide)]
    show (decide ((0 : Int) = ((0 : Nat) : Int)) && (bg E F [] (V 0)).getLsbD (bc 2 c)) = _
    rw [bg]; simp
  have e1 : mayB brs (sts brs E F V) 2 0 c 1 = decide (bc 2 c = 0) := by
    rw [mayB_at (by decide), sts_at (by decide)]
    show (decide ((0 : Int) = ((0 : Nat) : Int)) && (bg E F [(1, 0), (2, 0), (1, 1), (2, 0)] (V 0)).getLsbD (bc 2 c)) = _
    rw [bg, if_pos rfl]
    show (decide ((0 : Int) = ((0 : Nat) : Int)) && (1#64 <<< 0).getLsbD (bc 2 c)) = _
    generalize bc 2 c = k
    rw [show (1#64 <<< 0) = 1#64 from rfl]
    by_cases h : k = 0
    · subst h; decide
    · simp [h, BitVec.getLsbD_one]
  unfold mayL
  rw [show brs.length = 0 + 1 + 1 from rfl, mayQ_step, mayQ_step, e0, e1]
  simp [mayQ]
theorem brs_ll {S : Nat → Wd} (h : TK brs S) : clsN brs S 2 1 = [] ∧ chkR 2 1 brs (rowsL brs S 2 1) = 0 ∧ (rowsL brs S 2 1).length = 1 := by
  obtain ⟨E, F, V, R, M, hfa, rfl⟩ := h
  have hf := brs_follow hfa
  have hm0 : mayL brs (sts brs E F V) 2 0 0 = [1] := by rw [brs_may, show bc 2 0 = 0 from rfl, hf]; rfl
  have hm1 : mayL brs (sts brs E F V) 2 0 1 = if (V 0).getLsbD 1 = true then [0] else [] := by rw [brs_may, show bc 2 1 = 1 from rfl]; simp
  have hm2 : mayL brs (sts brs E F V) 2 0 2 = if (V 0).getLsbD 63 = true then [0] else [] := by rw [brs_may, show bc 2 2 = 63 from rfl]; simp
  refine ⟨?_, ?_, by simp [rowsL]⟩
  · have c0 : clsC brs (sts brs E F V) 2 0 0 = [] := by unfold clsC; rw [hm0]; rfl
    have c1 : clsC brs (sts brs E F V) 2 0 1 = [] := by unfold clsC; rw [hm1]; split <;> rfl
    have c2 : clsC brs (sts brs E F V) 2 0 2 = [] := by unfold clsC; rw [hm2]; split <;> rfl
    show clsN brs _ 2 0 ++ clsR brs _ 2 0 (0 + 1 + 1 + 1) = []
    rw [clsN, clsR, clsR, clsR, clsR, c0, c1, c2]; rfl
  · have hr : rowsL brs (sts brs E F V) 2 1 = [[hdI (mayL brs (sts brs E F V) 2 0 0), hdI (mayL brs (sts brs E F V) 2 0 1), hdI (mayL brs (sts brs E F V) 2 0 2)]] := rfl
    rw [hr, hm0, hm1, hm2]
    by_cases h1 : (V 0).getLsbD 1 = true
    · rw [if_pos h1]
      by_cases h2 : (V 0).getLsbD 63 = true
      · rw [if_pos h2]; decide
      · rw [if_neg h2]; decide
    · rw [if_neg h1]
      by_cases h2 : (V 0).getLsbD 63 = true
      · rw [if_pos h2]; decide
      · rw [if_neg h2]; decide
end Go.Proofs.Ytmcmidfpglhnmaa

namespace Go.Proofs.Ytmcmidfpglhnmaa
open Cg

theorem brs_follow2 {E : Nat → Bool} {F V : Nat → Wd} {R M : Nat → Bool} (h : Fa brs E F V R M) : (V 0).getLsbD 1 = true ∧ (V 0).getLsbD 63 = true := by
  constructor
  · have h1 := h.w.cl.st (0, [(1, 0), (2, 0), (1, 1), (2, 0)]) (by simp [brs]) 1 (by decide) rfl
    have h2 : bg E F (([(1, 0), (2, 0), (1, 1), (2, 0)] : List Sy).drop (1 + 1)) (V ((0 : Int).toNat)) = 1#64 <<< 1 := by
      show bg E F [(1, 1), (2, 0)] _ = _
      rw [bg, if_pos rfl]; rfl
    have h3 : le (1#64 <<< 1) (V 0) := by rw [← h2]; exact h1
    exact le_bits.1 h3 1 (by decide)
  · exact le_bits.1 h.w.cl.z 63 (by decide)
theorem brs_rows {S : Nat → Wd} (h : TK brs S) : rowsL brs S 2 1 = [[1, 0, 0]] := by
  obtain ⟨E, F, V, R, M, hfa, rfl⟩ := h
  have hf := brs_follow hfa
  obtain ⟨h1, h2⟩ := brs_follow2 hfa
  have hm0 : mayL brs (sts brs E F V) 2 0 0 = [1] := by rw [brs_may, show bc 2 0 = 0 from rfl, hf]; rfl
  have hm1 : mayL brs (sts brs E F V) 2 0 1 = [0] := by rw [brs_may, show bc 2 1 = 1 from rfl, h1]; simp
  have hm2 : mayL brs (sts brs E F V) 2 0 2 = [0] := by rw [brs_may, show bc 2 2 = 63 from rfl, h2]; simp
  have hr : rowsL brs (sts brs E F V) 2 1 = [[hdI (mayL brs (sts brs E F V) 2 0 0), hdI (mayL brs (sts brs E F V) 2 0 1), hdI (mayL brs (sts brs E F V) 2 0 2)]] := rfl
  rw [hr, hm0, hm1, hm2]; rfl
theorem brs_val {E : Nat → Bool} {F V : Nat → Wd} {R M : Nat → Bool} (h : Fa brs E F V R M) : E 0 = true ∧ M 0 = true ∧ (F 0).toNat = 1 ∧ (V 0).toNat = 9223372036854775810 := by
  have he : E 0 = true := h.e.cl (0, []) (by simp [brs]) rfl
  have hm : M 0 = true := h.m.cl (0, []) (by simp [brs]) rfl
  have hF : F 0 = 1#64 := by
    refine le_anti (h.f.sn (fun _ => 1#64) (fun p hp _ => ?_) 0) ?_
    · simp only [brs, List.mem_cons, List.not_mem_nil, or_false] at hp
      rcases hp with rfl | rfl
      · show le (bg E _ [] 0#64) _
        rw [bg]; exact zero_le _
      · show le (bg E _ [(1, 0), (2, 0), (1, 1), (2, 0)] 0#64) _
        rw [bg, if_pos rfl]; unfold le; decide
    · have h1 := h.f.cl (0, [(1, 0), (2, 0), (1, 1), (2, 0)]) (by simp [brs]) (by simp [amk, mks, hm])
      have h2 : bg E F [(1, 0), (2, 0), (1, 1), (2, 0)] 0#64 = 1#64 := by rw [bg, if_pos rfl]; rfl
      rw [h2] at h1; exact h1
  have hV : V 0 = 9223372036854775810#64 := by
    refine le_anti (h.w.sn (fun _ => 9223372036854775810#64) ⟨by unfold le; decide, fun p hp k hk h2 => ?_⟩ 0) ?_
    · simp only [brs, List.mem_cons, List.not_mem_nil, or_false] at hp
      rcases hp with rfl | rfl
      · simp at hk
      · simp only [List.length_cons, List.length_nil] at hk
        have : k = 0 ∨ k = 1 ∨ k = 2 ∨ k = 3 := by omega
        rcases this with rfl | rfl | rfl | rfl
        · simp at h2
        · show le (bg E F [(1, 1), (2, 0)] _) _
          unfold bg
          rw [if_pos rfl]
          unfold le; decide
        · simp at h2
        · exact le_refl _
    · obtain ⟨h1, h2⟩ := brs_follow2 h
      refine le_bits.2 fun t ht => ?_
      have key : ∀ t : Nat, (9223372036854775810#64 : Wd).getLsbD t = true → t = 1 ∨ t = 63 := by
        intro t ht
        have hlt : t < 64 := BitVec.lt_of_getLsbD ht
        have : ∀ t : Fin 64, (9223372036854775810#64 : Wd).getLsbD t.val = true → t.val = 1 ∨ t.val = 63 := by decide
        exact this ⟨t, hlt⟩ ht
      rcases key t ht with rfl | rfl
      · exact h1
      · exact h2
  refine ⟨he, hm, by rw [hF]; rfl, by rw [hV]; rfl⟩
end Go.Proofs.Ytmcmidfpglhnmaa
