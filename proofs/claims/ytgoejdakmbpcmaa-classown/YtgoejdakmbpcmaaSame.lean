/-
  slices.Equal at two slices that hold the same classes: true; and a row of one's own as such a slice.
-/
import Derived.Test.YtgoejdakmbpcmaaRefs
namespace Go.Proofs.Ytgoejdakmbpcmaa
open Go.RowKit
open Cls
open Go.Shelf

theorem cs_of_own {w : World} {base : Nat} {v : Value} {l : List Cl} (h : w.ownsRow base 24 4 v l.length (cs l)) (hm : l.length ≤ 9223372036854775807) : Cs w v l := by
  by_cases h0 : l = []
  · subst h0
    obtain ⟨_, ⟨rfl, _⟩ | ⟨g, cap, cur, rfl, _⟩⟩ := h
    · exact cs_nil w
    · exact ⟨_, _, rfl, by simp, Or.inl rfl⟩
  · obtain ⟨g, cap, rfl, _, _, h2, _, h4⟩ := own_cells h (List.length_pos_iff.2 h0)
    exact ⟨_, _, rfl, hm, Or.inr ⟨g, 0, rfl, h2, fun i hi j hj => by rw [Nat.zero_add]; exact h4 i hi j hj⟩⟩
theorem neqAt24 : NeqAt Try.prog 24 (fun x : Cl => .agg (ce x).toArray) (fun x y => decide (x = y)) :=
  ⟨fun x y w => neq24 x y w, fun op a b x y w => by simp [eqGuard]⟩
theorem allEq_same (l : List Cl) : Lib.allEq (fun x y => decide (x = y)) l l = true := by
  induction l with
  | nil => rfl
  | cons x l ih => simp [Lib.allEq, ih]
theorem equal_same (l : List Cl) (v u : Value) (w : World) (hv : Cs w v l) (hu : Cs w u l) :
    Calls Try.prog 22 #[v, u] w fun e w' => e = .returned (.bool true) ∧ Below w.heap.size w w' := by
  obtain ⟨ao, cap, rfl, hm, h1⟩ := hv
  obtain ⟨bo, cap', rfl, _, h2⟩ := hu
  by_cases h0 : l = []
  · subst h0
    clear h1 h2
    show Calls Try.prog 22 #[.slice ao 0 cap, .slice bo 0 cap'] w _
    go_enter Try.func22, Try.ntmps22
    go_wp2
    refine wp_loop_rounds 1 ?_
    rw [rounds_succ]
    go_wp2
    go_ret
    exact ⟨rfl, Below.refl _ _⟩
  · obtain ⟨b1, o1, rfl, _, c1⟩ := h1.resolve_left h0
    obtain ⟨b2, o2, rfl, _, c2⟩ := h2.resolve_left h0
    have cell : ∀ b o, (∀ i (hi : i < l.length) j, j < 4 → w.cell? ⟨b, o + i * 4 + j, none⟩ = some (.int .u64 ((wd l[i] j).toNat : Int))) → ∀ j, j < l.length → ∀ i v, (ce l[j]!)[i]? = some v → w.cell? ⟨b, o + j * 4 + i, none⟩ = some v := fun b o h j hj i v hv => by
      rw [getElem!_pos l j hj] at hv
      have hi : i < 4 := by
        rcases Nat.lt_or_ge i 4 with h' | h'
        · exact h'
        · rw [List.getElem?_eq_none (by simp [ce]; omega)] at hv; cases hv
      rw [ce_at _ i hi] at hv
      rw [h j hj i hi]; exact hv
    have hcon := AnyQ.slices_Equal Try.equalCls 4 Try.isAgg24 Try.sizeOf24 ce (fun _ => rfl) (fun x y => decide (x = y)) neqAt24 b1 o1 l.length cap b2 o2 l.length cap' l l w (Nat.le_refl _) (Nat.le_refl _) hm hm (cell b1 o1 c1) (cell b2 o2 c2)
    change Calls Try.prog 22 _ _ _ at hcon
    rw [List.take_length, allEq_same] at hcon
    refine hcon.mono ?_
    rintro e w' ⟨rfl, q, rfl⟩
    exact ⟨rfl, rfl, rfl, rfl, Nat.le_refl _, fun _ _ => rfl⟩
end Go.Proofs.Ytgoejdakmbpcmaa
