/-
  Plain: what is in order, none twice, is no longer than there are numbers.
-/
import Derived.Test.YtlmlkpdppkgenaaPmMath
namespace Go.Proofs.Ytlmlkpdppkgenaa.Pm
open Go.Lib

theorem compact_mem {zs : List Int} {x : Int} (h : x ∈ compact zs) : x ∈ zs := by
  unfold compact compactUpTo at h
  obtain ⟨j, hj, rfl⟩ := List.mem_map.1 h
  have hl : j < zs.length := by simpa using (List.mem_filter.1 hj).1
  simp [hl]
theorem compact_rising {zs : List Int} (hs : zs.Pairwise (· ≤ ·)) : (compact zs).Pairwise (· < ·) := by
  unfold compact compactUpTo
  rw [List.pairwise_map]
  have h1 : ((List.range zs.length).filter (keeps zs.toArray)).Pairwise (· < ·) := List.Pairwise.filter _ List.pairwise_lt_range
  refine h1.imp_of_mem fun {i j} hi hj hij => ?_
  have hjl : j < zs.length := by simpa using (List.mem_filter.1 hj).1
  have hk := (List.mem_filter.1 hj).2
  have hne : zs.toArray[j]! ≠ zs.toArray[j - 1]! := fun e => by
    rw [keeps_neg (by omega) e] at hk; cases hk
  have hil : i < zs.length := by omega
  have hj1 : j - 1 < zs.length := by omega
  have ei : zs.toArray[i]! = zs[i] := by simp [hil]
  have ej : zs.toArray[j]! = zs[j] := by simp [hjl]
  have e1 : zs.toArray[j - 1]! = zs[j - 1] := by simp [hj1]
  rw [ej, e1] at hne
  rw [ei, ej]
  have h2 : zs[j - 1] ≤ zs[j] := List.pairwise_iff_getElem.1 hs (j - 1) j hj1 hjl (by omega)
  have h3 : zs[i] ≤ zs[j - 1] := by
    by_cases e : i = j - 1
    · subst e; exact Int.le_refl _
    · exact List.pairwise_iff_getElem.1 hs i (j - 1) hil hj1 (by omega)
  omega
theorem rising_length : ∀ (l : List Int) (lo hi : Int), l.Pairwise (· < ·) → (∀ x ∈ l, lo ≤ x ∧ x < hi) → lo ≤ hi → (l.length : Int) ≤ hi - lo
  | [], lo, hi, _, _, h => by simp; omega
  | x :: l, lo, hi, hp, hm, h => by
    have hx := hm x (by simp)
    have hp2 := List.pairwise_cons.1 hp
    have := rising_length l (x + 1) hi hp2.2 (fun y hy => ⟨by have := hp2.1 y hy; omega, (hm y (by simp [hy])).2⟩) (by omega)
    simp only [List.length_cons]
    omega
theorem sort_pairwise (l : List Int) : (l.mergeSort fun x y => decide (x ≤ y)).Pairwise (· ≤ ·) := by
  have h := List.pairwise_mergeSort (le := fun x y : Int => decide (x ≤ y)) (fun a b c h1 h2 => by simp at *; omega) (fun a b => by simp; omega) l
  exact h.imp fun h => by simpa using h
theorem norm_mem {l : List Int} {x : Int} (h : x ∈ norm l) : x ∈ l := by
  have := compact_mem h
  simpa using this
theorem norm_length {l : List Int} {N : Nat} (h : ∀ x ∈ l, 0 ≤ x ∧ x < (N : Int)) : (norm l).length ≤ N := by
  have := rising_length (norm l) 0 N (compact_rising (sort_pairwise l)) (fun x hx => h x (norm_mem hx)) (by omega)
  omega
/-- All lists are of these places, and no longer. -/
def Fine (N : Nat) (f : List (List Int)) : Prop := ∀ l ∈ f, (∀ x ∈ l, 0 ≤ x ∧ x < (N : Int)) ∧ l.length ≤ N
theorem fine_getD {N : Nat} {f : List (List Int)} (h : Fine N f) (i : Nat) : (∀ x ∈ f.getD i [], 0 ≤ x ∧ x < (N : Int)) ∧ (f.getD i []).length ≤ N := by
  rw [List.getD_eq_getElem?_getD]
  cases hh : f[i]? with
  | none => simp
  | some l => exact h l (List.mem_of_getElem? hh)
theorem fine_link {N : Nat} {to : List Int} (ht : ∀ x ∈ to, 0 ≤ x ∧ x < (N : Int)) : ∀ (fr : List Int) (f : List (List Int)), Fine N f → Fine N (link to fr f)
  | [], _, h => h
  | p :: fr, f, h => by
    rw [link]
    refine fine_link ht fr _ fun l hl => ?_
    rcases List.mem_or_eq_of_mem_set hl with hl | hl
    · exact h l hl
    · have hall : ∀ x ∈ f.getD p.toNat [] ++ to, 0 ≤ x ∧ x < (N : Int) := fun x hx => (List.mem_append.1 hx).elim ((fine_getD h _).1 x) (ht x)
      rw [hl]
      exact ⟨fun x hx => hall x (norm_mem hx), norm_length hall⟩
end Go.Proofs.Ytlmlkpdppkgenaa.Pm
