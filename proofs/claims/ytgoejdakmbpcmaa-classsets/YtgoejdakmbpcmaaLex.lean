/-
  The great statement of pushkeep.ClassSets (96 operations) may be walked in the order of the text: the closed Bool of the kit's law, reckoned in pieces. No function is walked here.
-/
import Derived.Test.YtgoejdakmbpcmaaKeeps
namespace Go.Proofs.Ytgoejdakmbpcmaa
open Go.RowKit

/-- The first k of N are listed. -/
def fillTo (N k : Nat) : Array Bool := ((List.range N).map fun i => decide (i < k)).toArray
theorem fillTo_set (N k : Nat) : (fillTo N k).setIfInBounds k true = fillTo N (k + 1) := by
  apply Array.ext_getElem?
  intro i
  unfold fillTo
  simp only [Array.getElem?_setIfInBounds, List.getElem?_toArray, List.getElem?_map, List.size_toArray, List.length_map, List.length_range]
  by_cases hi : i < N
  · simp only [List.getElem?_range hi, Option.map_some]
    by_cases e : k = i
    · subst e; simp [hi]
    · rw [if_neg e]
      congr 1
      exact decide_eq_decide.2 (by omega)
  · rw [List.getElem?_eq_none (by simpa using hi)]
    by_cases e : k = i
    · subst e; simp [hi]
    · rw [if_neg e]; rfl
theorem fillTo_zero (N : Nat) : fillTo N 0 = Array.replicate N false := by
  apply Array.ext_getElem?
  intro i
  unfold fillTo
  by_cases hi : i < N
  · simp [hi]
  · simp [hi]
def okAt (ops : Array Oper) (N k : Nat) : Bool := (Region.ready .any ops (fillTo N k)).contains k && Region.free .any ops (fillTo N k) k
theorem lex_of (ops : Array Oper) (N : Nat) (hend : (Region.ready .any ops (fillTo N N)).isEmpty = true) : ∀ m k, k + m = N → (∀ j, k ≤ j → j < N → okAt ops N j = true) → Region.lexFrom .any ops m k (fillTo N k) = true
  | 0, k, e, _ => by
    have : k = N := by omega
    subst this; exact hend
  | m + 1, k, e, h => by
    have h1 := h k (Nat.le_refl _) (by omega)
    unfold okAt at h1
    simp only [Region.lexFrom]
    rw [h1, fillTo_set, Bool.true_and]
    exact lex_of ops N hend m (k + 1) (by omega) (fun j hj => h j (by omega))

def opsOf (f : Func) : Array Oper := match f.body with
  | some (.seq _ (.seq _ (.seq _ (.seq (.region _ ops _) _)))) => ops
  | _ => #[]
theorem ok5_0 : (List.range' 0 8).all (okAt (opsOf Try.f5) 96) = true := by kernel_rfl
theorem ok5_1 : (List.range' 8 8).all (okAt (opsOf Try.f5) 96) = true := by kernel_rfl
theorem ok5_2 : (List.range' 16 8).all (okAt (opsOf Try.f5) 96) = true := by kernel_rfl
theorem ok5_3 : (List.range' 24 8).all (okAt (opsOf Try.f5) 96) = true := by kernel_rfl
theorem ok5_4 : (List.range' 32 8).all (okAt (opsOf Try.f5) 96) = true := by kernel_rfl
theorem ok5_5 : (List.range' 40 8).all (okAt (opsOf Try.f5) 96) = true := by kernel_rfl
theorem ok5_6 : (List.range' 48 8).all (okAt (opsOf Try.f5) 96) = true := by kernel_rfl
theorem ok5_7 : (List.range' 56 8).all (okAt (opsOf Try.f5) 96) = true := by kernel_rfl
theorem ok5_8 : (List.range' 64 8).all (okAt (opsOf Try.f5) 96) = true := by kernel_rfl
theorem ok5_9 : (List.range' 72 8).all (okAt (opsOf Try.f5) 96) = true := by kernel_rfl
theorem ok5_10 : (List.range' 80 8).all (okAt (opsOf Try.f5) 96) = true := by kernel_rfl
theorem ok5_11 : (List.range' 88 8).all (okAt (opsOf Try.f5) 96) = true := by kernel_rfl
theorem end5 : (Region.ready .any (opsOf Try.f5) (fillTo 96 96)).isEmpty = true := by kernel_rfl
theorem sel5 : Region.noSelect (opsOf Try.f5) = true := by kernel_rfl
theorem size5 : (opsOf Try.f5).size = 96 := by kernel_rfl
theorem all_at {a n : Nat} {p : Nat → Bool} (h : (List.range' a n).all p = true) (j : Nat) (h1 : a ≤ j) (h2 : j < a + n) : p j = true :=
  List.all_eq_true.1 h j (List.mem_range'_1.2 ⟨h1, h2⟩)
theorem lex5 : Region.lexB .any (opsOf Try.f5) = true := by
  unfold Region.lexB
  rw [sel5, size5, Bool.true_and, ← fillTo_zero]
  refine lex_of (opsOf Try.f5) 96 end5 96 0 rfl fun j _ hj => ?_
  rcases (show j < 8 ∨ (8 ≤ j ∧ j < 16) ∨ (16 ≤ j ∧ j < 24) ∨ (24 ≤ j ∧ j < 32) ∨ (32 ≤ j ∧ j < 40) ∨ (40 ≤ j ∧ j < 48) ∨ (48 ≤ j ∧ j < 56) ∨ (56 ≤ j ∧ j < 64) ∨ (64 ≤ j ∧ j < 72) ∨ (72 ≤ j ∧ j < 80) ∨ (80 ≤ j ∧ j < 88) ∨ 88 ≤ j by omega) with h | h | h | h | h | h | h | h | h | h | h | h
  · exact all_at ok5_0 j (by omega) (by omega)
  · exact all_at ok5_1 j (by omega) (by omega)
  · exact all_at ok5_2 j (by omega) (by omega)
  · exact all_at ok5_3 j (by omega) (by omega)
  · exact all_at ok5_4 j (by omega) (by omega)
  · exact all_at ok5_5 j (by omega) (by omega)
  · exact all_at ok5_6 j (by omega) (by omega)
  · exact all_at ok5_7 j (by omega) (by omega)
  · exact all_at ok5_8 j (by omega) (by omega)
  · exact all_at ok5_9 j (by omega) (by omega)
  · exact all_at ok5_10 j (by omega) (by omega)
  · exact all_at ok5_11 j (by omega) (by omega)
end Go.Proofs.Ytgoejdakmbpcmaa
