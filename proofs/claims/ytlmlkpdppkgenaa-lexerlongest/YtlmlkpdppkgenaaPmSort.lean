/-
  slices.Sort and slices.Compact at a row of numbers of one's own.
-/
import Derived.Test.YtlmlkpdppkgenaaShelf
import Derived.Test.YtlmlkpdppkgenaaPmHold
import Derived.Sort.OwnSortedInts
namespace Go.Proofs.Ytlmlkpdppkgenaa
open Go.RowKit Go.Sort

def srt (l : List Int) : List Int := l.mergeSort fun x y => decide (x ≤ y)
theorem srt_length (l : List Int) : (srt l).length = l.length := List.length_mergeSort l
theorem compact_length (l : List Int) : (Go.Lib.compact l).length ≤ l.length := by
  unfold Go.Lib.compact Go.Lib.compactUpTo
  rw [List.length_map]
  exact Nat.le_trans (List.length_filter_le _ _) (by simp)
theorem grownBy_same (w : World) (o : Option Nat) : w.grownBy w o := ⟨rfl, rfl, rfl, Nat.le_refl _, fun _ _ _ => rfl⟩
theorem sort_own {base : Nat} {v : Value} {zs : List Int} (w : World) (h : w.ownsRow base 3 1 v zs.length (zs.map (Value.int .i64))) (hs : zs.length < 4611686018427387904) :
    Calls Try.prog 89 #[v] w fun e w' => e = .returned (.tuple #[]) ∧ w'.ownsRow base 3 1 v (srt zs).length ((srt zs).map (Value.int .i64)) ∧ w.grownBy w' v.ownBlock := by
  rcases h.2 with ⟨hv, h0⟩ | ⟨g, cap, cur, hv, hg, hb, hn, hc, hz, ht⟩
  · have hz : zs = [] := List.length_eq_zero_iff.1 h0
    subst hz
    subst hv
    have h1 : Calls Try.prog 89 #[.slice none 0 0] w fun e w' => e = .returned (.tuple #[]) ∧ w' = w := Any.slices_Sort_int_none Try.lays189 none 0 w
    refine h1.mono ?_
    rintro e w' ⟨he, hw⟩
    rw [hw]
    exact ⟨he, by simpa [srt] using h, grownBy_same _ _⟩
  · subst hv
    have hH : Holds (Value.int .i64) w g 0 zs.toArray := holds_of_blockI hb (by simpa using ht)
    have h1 : Calls Try.prog 89 #[.slice (some ⟨g, 0, none⟩) zs.length cap] w fun e w' =>
      e = .returned (.tuple #[]) ∧ ∃ n os, w' = grow (putRow (Value.int .i64) (Sort.ahead w n) g 0 (srt zs).toArray) os := Any.slices_Sort_int Try.lays189 g 0 cap zs w hH (Array.getElem?_eq_some_iff.1 hb).1 hs
    refine h1.mono ?_
    rintro e w' ⟨he, n, os, hw⟩
    rw [hw]
    refine ⟨he, ?_, grownBy_sortedI _⟩
    have h2 := ownsRow_sortedI (n := n) (os := os) (srt_length zs) hg hb hn hc hz
    rw [srt_length]
    exact h2
theorem grow_none (w : World) : grow w #[] = w := by simp [grow]
theorem compact_own {base : Nat} {v : Value} {zs : List Int} (w : World) (h : w.ownsRow base 3 1 v zs.length (zs.map (Value.int .i64))) (hs : zs.length < 4611686018427387904) :
    Calls Try.prog 90 #[v] w fun e w' => ∃ o n c, e = .returned (.slice o n c) ∧ w'.ownsRow base 3 1 (.slice o n c) (Go.Lib.compact zs).length ((Go.Lib.compact zs).map (Value.int .i64)) ∧ (Value.slice o n c).ownBlock = v.ownBlock ∧ w.grownBy w' v.ownBlock := by
  rcases h.2 with ⟨hv, h0⟩ | ⟨g, cap, cur, hv, hg, hb, hn, hc, hz, ht⟩
  · have hz : zs = [] := List.length_eq_zero_iff.1 h0
    subst hz
    subst hv
    have h1 : Calls Try.prog 90 #[.slice none 0 0] w fun e w' => e = .returned (.slice none 0 0) ∧ w' = w := Any.slices_Compact_int_empty Try.laysNm220 none 0 w
    refine h1.mono ?_
    rintro e w' ⟨he, hw⟩
    rw [hw]
    exact ⟨none, 0, 0, he, h, rfl, grownBy_same _ _⟩
  · subst hv
    have hH : Holds (Value.int .i64) w g 0 zs.toArray := holds_of_blockI hb (by simpa using ht)
    have h1 : Calls Try.prog 90 #[.slice (some ⟨g, 0, none⟩) zs.length cap] w fun e w' => e = .returned (.slice (some ⟨g, 0, none⟩) (Lib.compact zs).length cap) ∧ ∃ q, w' = putRow (Value.int .i64) (Sort.ahead w q) g 0 (Lib.compact zs ++ List.replicate (zs.length - (Lib.compact zs).length) 0).toArray := Any.slices_Compact_int Try.laysNm220 g 0 cap zs w hH (by omega) hn
    refine h1.mono ?_
    rintro e w' ⟨he, q, hw⟩
    rw [hw, ← grow_none (putRow _ _ _ _ _)]
    have hl := compact_length zs
    have hll : (Lib.compact zs ++ List.replicate (zs.length - (Lib.compact zs).length) (0 : Int)).length = zs.length := by simp; omega
    have ht2 := take_putCellsI cur (Lib.compact zs ++ List.replicate (zs.length - (Lib.compact zs).length) (0 : Int)) (by omega)
    refine ⟨_, _, _, he, ⟨by simp, Or.inr ⟨g, cap, _, rfl, hg, heap_sortedI _ hb, by omega, hc, by simp [putCells, hz], ?_⟩⟩, rfl, grownBy_sortedI _⟩
    have h3 := congrArg (List.take (Lib.compact zs).length) ht2
    rw [List.take_take, Nat.min_eq_left (by omega), List.map_append, List.take_left' (by simp)] at h3
    rw [Nat.mul_one]
    exact h3
end Go.Proofs.Ytlmlkpdppkgenaa
