/-
  Rows of trees of one's own: their cells, and one of them put anew.
-/
import Derived.Test.YthloedfiomfnbaaPaTree
import Derived.Test.YthloedfiomfnbaaRxClone
namespace Go.Proofs.Ythloedfiomfnbaa
open Go.RowKit
open Cls Rex

def c6 (q : R6) : List Value := [.int .i64 q.1, .int .u64 (q.2.1.1.toNat : Int), .int .u64 (q.2.1.2.1.toNat : Int), .int .u64 (q.2.1.2.2.1.toNat : Int), .int .u64 (q.2.1.2.2.2.toNat : Int), .slice q.2.2.1 q.2.2.2.1 q.2.2.2.2]
def kxs (f : Nat → R6) : Nat → List Value
  | 0 => []
  | n + 1 => kxs f n ++ c6 (f n)
theorem kxs_len (f : Nat → R6) : ∀ n, (kxs f n).length = n * 6
  | 0 => rfl
  | n + 1 => by rw [kxs, List.length_append, kxs_len f n]; simp [c6]; omega
theorem kxs_at (f : Nat → R6) : ∀ n i j, i < n → j < 6 → (kxs f n)[i * 6 + j]? = (c6 (f i))[j]?
  | 0, _, _, h, _ => absurd h (Nat.not_lt_zero _)
  | n + 1, i, j, h, hj => by
    rw [kxs]
    have hl := kxs_len f n
    by_cases e : i = n
    · subst e
      rw [List.getElem?_append_right (by omega), hl]
      congr 1; omega
    · rw [List.getElem?_append_left (by omega)]
      exact kxs_at f n i j (by omega) hj
theorem kxs_one (f : Nat → R6) : ∀ n, ∀ u ∈ kxs f n, u.oneCell' = true
  | 0, u, h => by simp [kxs] at h
  | n + 1, u, h => by
    rw [kxs] at h
    rcases List.mem_append.1 h with h | h
    · exact kxs_one f n u h
    · simp [c6] at h
      rcases h with rfl | rfl | rfl | rfl | rfl | rfl <;> rfl
theorem kxs_congr {f g : Nat → R6} : ∀ n, (∀ i, i < n → f i = g i) → kxs f n = kxs g n
  | 0, _ => rfl
  | n + 1, h => by rw [kxs, kxs, kxs_congr n fun i hi => h i (by omega), h n (by omega)]
theorem kxs_set (f : Nat → R6) (n k : Nat) (q : R6) (hk : k < n) :
    ((((((kxs f n).set (k * 6) (.int .i64 q.1)).set (k * 6 + 1) (.int .u64 (q.2.1.1.toNat : Int))).set (k * 6 + 2) (.int .u64 (q.2.1.2.1.toNat : Int))).set (k * 6 + 3) (.int .u64 (q.2.1.2.2.1.toNat : Int))).set (k * 6 + 4) (.int .u64 (q.2.1.2.2.2.toNat : Int))).set (k * 6 + 5) (.slice q.2.2.1 q.2.2.2.1 q.2.2.2.2) = kxs (fun i => if i = k then q else f i) n := by
  apply List.ext_getElem?
  intro p
  have hl := kxs_len f n
  have hl2 := kxs_len (fun i => if i = k then q else f i) n
  by_cases hp : p < n * 6
  · have e : p = p / 6 * 6 + p % 6 := by omega
    have hi : p / 6 < n := by omega
    have hj : p % 6 < 6 := by omega
    generalize p / 6 = i at e hi
    generalize p % 6 = j at e hj
    subst e
    rw [kxs_at (fun i => if i = k then q else f i) n i j hi hj]
    by_cases ei : i = k
    · subst ei
      simp only [if_true]
      have hlt : ∀ m, m < 6 → i * 6 + m < (kxs f n).length := fun m hm => by rw [hl]; omega
      have h0 := hlt 0 (by omega)
      have h1 := hlt 1 (by omega)
      have h2 := hlt 2 (by omega)
      have h3 := hlt 3 (by omega)
      have h4 := hlt 4 (by omega)
      have h5 := hlt 5 (by omega)
      rcases (show j = 0 ∨ j = 1 ∨ j = 2 ∨ j = 3 ∨ j = 4 ∨ j = 5 by omega) with rfl | rfl | rfl | rfl | rfl | rfl
      · simp [List.getElem?_set, c6]; omega
      · simp [List.getElem?_set, c6]; omega
      · simp [List.getElem?_set, c6]; omega
      · simp [List.getElem?_set, c6]; omega
      · simp [List.getElem?_set, c6]; omega
      · simp [List.getElem?_set, c6]; omega
    · rw [if_neg ei, List.getElem?_set_ne (by omega), List.getElem?_set_ne (by omega), List.getElem?_set_ne (by omega), List.getElem?_set_ne (by omega), List.getElem?_set_ne (by omega), List.getElem?_set_ne (by omega), kxs_at f n i j hi hj]
  · rw [List.getElem?_eq_none (by simp [hl]; omega), List.getElem?_eq_none (by rw [hl2]; omega)]
theorem own_set6 {w : World} {base e g cap n i : Nat} {xs : List Value} {s : Value} (h : w.ownsRow base e 6 (.slice (some ⟨g, 0, none⟩) n cap) n xs) :
    (w.setCell ⟨g, i, none⟩ s).ownsRow base e 6 (.slice (some ⟨g, 0, none⟩) n cap) n (xs.set i s) := by
  obtain ⟨h1, h2 | ⟨g', cap', cur, hv, hg, hh, hn, hc, hz, ht⟩⟩ := h
  · cases h2.1
  · cases hv
    refine ⟨by simp [h1], Or.inr ⟨g, cap, cur.setIfInBounds i s, rfl, hg, ?_, hn, hc, by simp [hz], ?_⟩⟩
    · simp [World.setCell, Array.getElem?_modify, hh]
    · rw [Array.toList_setIfInBounds, List.take_set, ht]
theorem own_frozen {w : World} {base e g cap n i : Nat} {xs : List Value} (h : w.ownsRow base e 6 (.slice (some ⟨g, 0, none⟩) n cap) n xs) : w.frozen? ⟨g, i, none⟩ = false := by
  obtain ⟨h1, h2 | ⟨g', cap', cur, hv, hg, hh, hn, hc, hz, ht⟩⟩ := h
  · cases h2.1
  · cases hv
    simp [World.frozen?, hh]
theorem len_sz : ∀ l : List T, l.length ≤ szL l
  | [] => by simp [szL]
  | t :: l => by have := len_sz l; have := T.sz_pos t; rw [szL, List.length_cons]; omega
end Go.Proofs.Ythloedfiomfnbaa
