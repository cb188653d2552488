/-
  The facts of the brackets' grammar, and its rows; plainly.
-/
import Derived.Test.YtmcmidfpglhnmaaTrLlB
import Derived.Test.YtmcmidfpglhnmaaFcOf
namespace Go.Proofs.Ytmcmidfpglhnmaa
open Cg

theorem brs_follow2 {E : Nat → Bool} {F V : Nat → Wd} {R M : Nat → Bool} (h : Fa brs E F V R M) : (V 0).getLsbD 1 = true ∧ (V 0).getLsbD 63 = true := by
  constructor
  · have h1 := h.w.cl.st (0, [(1, 0), (2, 0), (1, 1), (2, 0)]) (by simp [brs]) 1 (by decide) rfl
    have h2 : bg E F (([(1, 0), (2, 0), (1, 1), (2, 0)] : List Sy).drop (1 + 1)) (V ((0 : Int).toNat)) = 1#64 <<< 1 := by
      show bg E F [(1, 1), (2, 0)] _ = _
      rw [bg, if_pos rfl]; rfl
    have h3 : le (1#64 <<< 1) (V 0) := by rw [← h2]; exact h1
    exact le_bits.1 h3 1 (by decide)
  · exact le_bits.1 h.w.cl.z 63 (by decide)
theorem brs_rows {S : Nat → Wd} (h : TK brs S) : rowsL brs S 2 1 = [[1, 0, 0]] := by
  obtain ⟨E, F, V, R, M, hfa, rfl⟩ := h
  have hf := brs_follow hfa
  obtain ⟨h1, h2⟩ := brs_follow2 hfa
  have hm0 : mayL brs (sts brs E F V) 2 0 0 = [1] := by rw [brs_may, show bc 2 0 = 0 from rfl, hf]; rfl
  have hm1 : mayL brs (sts brs E F V) 2 0 1 = [0] := by rw [brs_may, show bc 2 1 = 1 from rfl, h1]; simp
  have hm2 : mayL brs (sts brs E F V) 2 0 2 = [0] := by rw [brs_may, show bc 2 2 = 63 from rfl, h2]; simp
  have hr : rowsL brs (sts brs E F V) 2 1 = [[hdI (mayL brs (sts brs E F V) 2 0 0), hdI (mayL brs (sts brs E F V) 2 0 1), hdI (mayL brs (sts brs E F V) 2 0 2)]] := rfl
  rw [hr, hm0, hm1, hm2]; rfl
theorem brs_val {E : Nat → Bool} {F V : Nat → Wd} {R M : Nat → Bool} (h : Fa brs E F V R M) : E 0 = true ∧ M 0 = true ∧ (F 0).toNat = 1 ∧ (V 0).toNat = 9223372036854775810 := by
  have he : E 0 = true := h.e.cl (0, []) (by simp [brs]) rfl
  have hm : M 0 = true := h.m.cl (0, []) (by simp [brs]) rfl
  have hF : F 0 = 1#64 := by
    refine le_anti (h.f.sn (fun _ => 1#64) (fun p hp _ => ?_) 0) ?_
    · simp only [brs, List.mem_cons, List.not_mem_nil, or_false] at hp
      rcases hp with rfl | rfl
      · show le (bg E _ [] 0#64) _
        rw [bg]; exact zero_le _
      · show le (bg E _ [(1, 0), (2, 0), (1, 1), (2, 0)] 0#64) _
        rw [bg, if_pos rfl]; unfold le; decide
    · have h1 := h.f.cl (0, [(1, 0), (2, 0), (1, 1), (2, 0)]) (by simp [brs]) (by simp [amk, mks, hm])
      have h2 : bg E F [(1, 0), (2, 0), (1, 1), (2, 0)] 0#64 = 1#64 := by rw [bg, if_pos rfl]; rfl
      rw [h2] at h1; exact h1
  have hV : V 0 = 9223372036854775810#64 := by
    refine le_anti (h.w.sn (fun _ => 9223372036854775810#64) ⟨by unfold le; decide, fun p hp k hk h2 => ?_⟩ 0) ?_
    · simp only [brs, List.mem_cons, List.not_mem_nil, or_false] at hp
      rcases hp with rfl | rfl
      · simp at hk
      · simp only [List.length_cons, List.length_nil] at hk
        have : k = 0 ∨ k = 1 ∨ k = 2 ∨ k = 3 := by omega
        rcases this with rfl | rfl | rfl | rfl
        · simp at h2
        · show le (bg E F [(1, 1), (2, 0)] _) _
          unfold bg
          rw [if_pos rfl]
          unfold le; decide
        · simp at h2
        · exact le_refl _
    · obtain ⟨h1, h2⟩ := brs_follow2 h
      refine le_bits.2 fun t ht => ?_
      have key : ∀ t : Nat, (9223372036854775810#64 : Wd).getLsbD t = true → t = 1 ∨ t = 63 := by
        intro t ht
        have hlt : t < 64 := BitVec.lt_of_getLsbD ht
        have : ∀ t : Fin 64, (9223372036854775810#64 : Wd).getLsbD t.val = true → t.val = 1 ∨ t.val = 63 := by decide
        exact this ⟨t, hlt⟩ ht
      rcases key t ht with rfl | rfl
      · exact h1
      · exact h2
  refine ⟨he, hm, by rw [hF]; rfl, by rw [hV]; rfl⟩
end Go.Proofs.Ytmcmidfpglhnmaa
