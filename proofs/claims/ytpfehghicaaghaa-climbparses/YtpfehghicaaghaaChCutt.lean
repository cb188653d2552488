/-
  A tree of which only so many nodes are made, each ahead of its Kids: behind them stand zero things. What the walk over a tree
  says of it is what it says of the whole tree, where there is room for as many nodes as the walk meets.
-/
import Derived.Test.YtpfehghicaaghaaTrThr
import Derived.Test.YtpfehghicaaghaaTrYield
namespace Go.Proofs.Ytpfehghicaaghaa
open Go.RowKit
open Cg

mutual
/-- How many nodes may still be made, and the tree. -/
def cutT : Nat → T → Nat × T
  | 0, _ => (0, .mk 0 0 [])
  | k + 1, .mk p t l => ((cutL k l).1, .mk p t (cutL k l).2)
def cutL : Nat → List T → Nat × List T
  | k, [] => (k, [])
  | k, x :: l => ((cutL (cutT k x).1 l).1, (cutT k x).2 :: (cutL (cutT k x).1 l).2)
end
theorem cutT_zero (x : T) : cutT 0 x = (0, .mk 0 0 []) := by cases x; rw [cutT]
theorem cutL_len : ∀ (l : List T) (k : Nat), (cutL k l).2.length = l.length
  | [], k => by rw [cutL]
  | x :: l, k => by rw [cutL]; simp [cutL_len l]
mutual
theorem cutT_left : ∀ (x : T) (k : Nat), (cutT k x).1 = k - x.sz
  | .mk p t l, 0 => by rw [cutT_zero]; simp
  | .mk p t l, k + 1 => by rw [cutT, T.sz]; show (cutL k l).1 = _; rw [cutL_left l k]; omega
theorem cutL_left : ∀ (l : List T) (k : Nat), (cutL k l).1 = k - szL l
  | [], k => by rw [cutL, szL]; simp
  | x :: l, k => by
    rw [cutL, szL]
    show (cutL (cutT k x).1 l).1 = _
    rw [cutL_left l _, cutT_left x k]; omega
end
mutual
/-- A tree for which there is room is made whole. -/
theorem cutT_all : ∀ (x : T) (k : Nat), x.sz ≤ k → (cutT k x).2 = x
  | .mk p t l, 0, h => by rw [T.sz] at h; omega
  | .mk p t l, k + 1, h => by
    rw [T.sz] at h
    rw [cutT, cutL_all l k (by omega)]
theorem cutL_all : ∀ (l : List T) (k : Nat), szL l ≤ k → (cutL k l).2 = l
  | [], k, _ => by rw [cutL]
  | x :: l, k, h => by
    rw [szL] at h
    rw [cutL, cutT_all x k (by omega), cutL_all l _ (by rw [cutT_left]; omega)]
end
mutual
theorem thr_sz {ps : List Pd} : ∀ (x : T) (s : Sy) (d n : Nat) (ws : List Int), (thr ps x s d n ws).1 = 0 → (thr ps x s d n ws).2.1 = n + x.sz ∧ n + x.sz ≤ 1000
  | .mk p k l, s, d, n, ws, h => by
    rw [thr_eq] at h ⊢
    rw [T.sz]
    by_cases h1 : 1000 < n + 1
    · rw [if_pos h1] at h; simp at h
    · rw [if_neg h1] at h ⊢
      by_cases h2 : 100 < d
      · rw [if_pos h2] at h; simp at h
      · rw [if_neg h2] at h ⊢
        by_cases h3 : may ps p k l.length s ws.length = true
        · rw [if_pos h3] at h ⊢
          by_cases h4 : s.1 = 1
          · rw [if_pos h4]
            have hl : l = [] := by
              unfold may at h3
              rw [if_pos h4] at h3
              simp at h3
              exact h3.2.2
            subst hl
            rw [szL]
            exact ⟨by simp, by omega⟩
          · rw [if_neg h4] at h ⊢
            obtain ⟨g1, g2⟩ := thrL_sz l (bodyOf ps p) (d + 1) (n + 1) ws (by omega) h
            exact ⟨by omega, by omega⟩
        · rw [if_neg h3] at h; simp at h
theorem thrL_sz {ps : List Pd} : ∀ (l : List T) (ss : List Sy) (d n : Nat) (ws : List Int), n ≤ 1000 → (thrL ps l ss d n ws).1 = 0 → (thrL ps l ss d n ws).2.1 = n + szL l ∧ n + szL l ≤ 1000
  | [], ss, d, n, ws, hn, _ => by rw [thrL, szL]; exact ⟨rfl, by omega⟩
  | x :: l, ss, d, n, ws, hn, h => by
    rw [thrL] at h ⊢
    rw [szL]
    by_cases h0 : (thr ps x (ss.headD (0, 0)) d n ws).1 = 0
    · rw [if_pos h0] at h ⊢
      obtain ⟨g1, g2⟩ := thr_sz x (ss.headD (0, 0)) d n ws h0
      rw [g1] at h ⊢
      obtain ⟨k1, k2⟩ := thrL_sz l _ _ _ _ g2 h
      exact ⟨by omega, by omega⟩
    · rw [if_neg h0] at h
      exact absurd h h0
end
mutual
theorem thr_cut {ps : List Pd} : ∀ (x : T) (k : Nat) (s : Sy) (d n : Nat) (ws : List Int), n + k = 1000 → thr ps (cutT k x).2 s d n ws = thr ps x s d n ws
  | .mk p t l, 0, s, d, n, ws, h => by
    rw [cutT_zero, thr_eq, thr_eq, if_pos (by omega), if_pos (by omega)]
  | .mk p t l, k + 1, s, d, n, ws, h => by
    rw [cutT]
    show thr ps (.mk p t (cutL k l).2) s d n ws = _
    rw [thr_eq, thr_eq, cutL_len, thrL_cut l k (bodyOf ps p) (d + 1) (n + 1) ws (by omega)]
theorem thrL_cut {ps : List Pd} : ∀ (l : List T) (k : Nat) (ss : List Sy) (d n : Nat) (ws : List Int), n + k = 1000 → thrL ps (cutL k l).2 ss d n ws = thrL ps l ss d n ws
  | [], k, ss, d, n, ws, h => by rw [cutL]
  | x :: l, k, ss, d, n, ws, h => by
    rw [cutL]
    show thrL ps ((cutT k x).2 :: (cutL (cutT k x).1 l).2) ss d n ws = _
    rw [thrL, thrL, thr_cut x k (ss.headD (0, 0)) d n ws h]
    by_cases h0 : (thr ps x (ss.headD (0, 0)) d n ws).1 = 0
    · rw [if_pos h0, if_pos h0]
      obtain ⟨g1, g2⟩ := thr_sz x (ss.headD (0, 0)) d n ws h0
      rw [g1]
      exact thrL_cut l _ _ _ _ _ (by rw [cutT_left]; omega)
    · rw [if_neg h0, if_neg h0]
end
theorem errT_cut (t n : Int) (ps : List Pd) (x : T) : errT t n ps (cutT 1000 x).2 = errT t n ps x := by
  unfold errT; rw [thr_cut x 1000 _ _ _ _ (by omega)]
theorem wordT_cut (ps : List Pd) (x : T) : wordT ps (cutT 1000 x).2 = wordT ps x := by
  unfold wordT; rw [thr_cut x 1000 _ _ _ _ (by omega)]
end Go.Proofs.Ytpfehghicaaghaa
