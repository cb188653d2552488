/-
  Classes that lie one behind the other, four cells each: their cells, one of them laid anew, one more behind. No function is walked here.
-/
import Derived.Test.YtgoejdakmbpcmaaEqs
import Derived.Test.YtgoejdakmbpcmaaCounts
import Derived.Test.YtgoejdakmbpcmaaParts
namespace Go.Proofs.Ytgoejdakmbpcmaa
open Go.RowKit
open Cls

def ce (c : Cl) : List Value := [.int .u64 (c.1.toNat : Int), .int .u64 (c.2.1.toNat : Int), .int .u64 (c.2.2.1.toNat : Int), .int .u64 (c.2.2.2.toNat : Int)]
def cs (l : List Cl) : List Value := l.flatMap ce
theorem cs_length (l : List Cl) : (cs l).length = l.length * 4 := by
  induction l with
  | nil => rfl
  | cons f l ih => simp only [cs, List.flatMap_cons, List.length_append, List.length_cons] at ih ⊢; rw [ih]; simp [ce]; omega
theorem cs_append (l m : List Cl) : cs (l ++ m) = cs l ++ cs m := by simp [cs]
theorem ce_at (c : Cl) (j : Nat) (hj : j < 4) : (ce c)[j]? = some (.int .u64 ((wd c j).toNat : Int)) := by
  have : j = 0 ∨ j = 1 ∨ j = 2 ∨ j = 3 := by omega
  rcases this with rfl | rfl | rfl | rfl <;> rfl
theorem cs_at (l : List Cl) (i : Nat) (hi : i < l.length) (j : Nat) (hj : j < 4) : (cs l)[i * 4 + j]? = some (.int .u64 ((wd l[i] j).toNat : Int)) := by
  have e : l = l.take i ++ l[i] :: l.drop (i + 1) := by rw [List.getElem_cons_drop, List.take_append_drop]
  have hl : (cs (l.take i)).length = i * 4 := by rw [cs_length, List.length_take]; rw [Nat.min_eq_left (by omega)]
  conv => lhs; rw [e]
  rw [cs_append, List.getElem?_append_right (by omega), hl, Nat.add_sub_cancel_left]
  show (ce l[i] ++ cs (l.drop (i + 1)))[j]? = _
  rw [List.getElem?_append_left (by simp [ce]; omega)]
  exact ce_at _ j hj
theorem cs_one (l : List Cl) : ∀ u ∈ cs l, u.oneCell' = true := by
  intro u hu
  simp only [cs, List.mem_flatMap, ce] at hu
  obtain ⟨f, _, hu⟩ := hu
  simp at hu
  rcases hu with rfl | rfl | rfl | rfl <;> rfl
/-- The cells of a row that is owned. -/
theorem own_cells {w : World} {base n : Nat} {v : Value} {l : List Cl} (h : w.ownsRow base 24 4 v n (cs l)) (h0 : 0 < l.length) :
    ∃ g cap, v = .slice (some ⟨g, 0, none⟩) l.length cap ∧ n = l.length ∧ base ≤ g ∧ g < w.heap.size ∧ (∀ o, w.frozen? ⟨g, o, none⟩ = false) ∧ ∀ i (hi : i < l.length) j, j < 4 → w.cell? ⟨g, i * 4 + j, none⟩ = some (.int .u64 ((wd l[i] j).toNat : Int)) := by
  obtain ⟨hl, ⟨h1, h2⟩ | ⟨g, cap, cur, hv, hg, hh, hn, hc, hs, ht⟩⟩ := h
  · rw [cs_length] at hl; omega
  · rw [cs_length] at hl
    have en : n = l.length := by omega
    subst en
    refine ⟨g, cap, hv, rfl, hg, ?_, fun o => by simp [World.frozen?, hh], fun i hi j hj => ?_⟩
    · rcases Nat.lt_or_ge g w.heap.size with h' | h'
      · exact h'
      · simp [Array.getElem?_eq_none h'] at hh
    · have e1 : w.cell? ⟨g, i * 4 + j, none⟩ = cur[i * 4 + j]? := by simp [World.cell?, hh]
      rw [e1, ← cs_at l i hi j hj, ← ht, List.getElem?_take_of_lt (by omega)]; simp
/-- One class of a row laid anew. -/
theorem own_set {w : World} {base g n cap : Nat} {l : List Cl} (h : w.ownsRow base 24 4 (.slice (some ⟨g, 0, none⟩) n cap) n (cs l)) (k : Nat) (hk : k < l.length) (x : Cl) :
    ((((w.setCell ⟨g, k * 4, none⟩ (.int .u64 (x.1.toNat : Int))).setCell ⟨g, k * 4 + 1, none⟩ (.int .u64 (x.2.1.toNat : Int))).setCell ⟨g, k * 4 + 2, none⟩ (.int .u64 (x.2.2.1.toNat : Int))).setCell ⟨g, k * 4 + 3, none⟩ (.int .u64 (x.2.2.2.toNat : Int))).ownsRow base 24 4 (.slice (some ⟨g, 0, none⟩) n cap) n (cs (l.set k x)) := by
  obtain ⟨hl, ⟨h1, h2⟩ | ⟨g', cap', cur, hv, hg, hh, hn, hc, hs, ht⟩⟩ := h
  · cases h1
  · simp only [Value.slice.injEq, Option.some.injEq, Addr.mk.injEq] at hv
    obtain ⟨⟨rfl, _⟩, _, rfl⟩ := hv
    rw [cs_length] at hl
    have en : n = l.length := by omega
    subst en
    refine ⟨by rw [cs_length, List.length_set], Or.inr ⟨g, cap, (((cur.setIfInBounds (k * 4) (.int .u64 (x.1.toNat : Int))).setIfInBounds (k * 4 + 1) (.int .u64 (x.2.1.toNat : Int))).setIfInBounds (k * 4 + 2) (.int .u64 (x.2.2.1.toNat : Int))).setIfInBounds (k * 4 + 3) (.int .u64 (x.2.2.2.toNat : Int)), rfl, hg, ?_, hn, hc, by simp [hs], ?_⟩⟩
    · simp [World.setCell, Array.getElem?_modify, hh]
    · apply List.ext_getElem?
      intro t
      by_cases hT : t < l.length * 4
      · obtain ⟨i, j, hj, rfl⟩ : ∃ i j, j < 4 ∧ t = i * 4 + j := ⟨t / 4, t % 4, Nat.mod_lt _ (by omega), by omega⟩
        have hi : i < l.length := by omega
        rw [cs_at (l.set k x) i (by simpa using hi) j hj, List.getElem?_take_of_lt hT]
        have hold : cur[i * 4 + j]? = some (.int .u64 ((wd l[i] j).toNat : Int)) := by
          rw [← cs_at l i hi j hj, ← ht, List.getElem?_take_of_lt hT]; simp
        have hb : i * 4 + j < cur.size := by
          rcases Nat.lt_or_ge (i * 4 + j) cur.size with h' | h'
          · exact h'
          · rw [Array.getElem?_eq_none h'] at hold; cases hold
        simp only [Array.getElem?_toList, Array.getElem?_setIfInBounds, Array.size_setIfInBounds]
        by_cases e : i = k
        · subst e
          have : j = 0 ∨ j = 1 ∨ j = 2 ∨ j = 3 := by omega
          rcases this with rfl | rfl | rfl | rfl <;> simp [wd, hb] <;> omega
        · have e0 : ¬ (k * 4 = i * 4 + j) := by omega
          have e1 : ¬ (k * 4 + 1 = i * 4 + j) := by omega
          have e2 : ¬ (k * 4 + 2 = i * 4 + j) := by omega
          have e3 : ¬ (k * 4 + 3 = i * 4 + j) := by omega
          rw [if_neg e3, if_neg e2, if_neg e1, if_neg e0, hold, List.getElem_set_ne (Ne.symm e)]
      · rw [List.getElem?_eq_none (by simp [hs]; omega), List.getElem?_eq_none (by rw [cs_length, List.length_set]; omega)]

/-! ### A cut's steps -/
theorem cutTo_length (ps : List Cl) (c : Cl) (k : Nat) : ps.length ≤ (cutTo ps c k).length ∧ (cutTo ps c k).length ≤ ps.length + ps.length := by
  have := List.length_filter_le (splits · c) (ps.take k)
  unfold cutTo
  simp only [List.length_append, List.length_map, List.length_drop, List.length_take] at *
  omega
theorem cutTo_at (ps : List Cl) (c : Cl) (k : Nat) (hk : k < ps.length) (h : k < (cutTo ps c k).length) : (cutTo ps c k)[k] = ps[k] := by
  have h1 : ((ps.take k).map (cutOne · c)).length = k := by simp; omega
  have : (cutTo ps c k)[k]? = some ps[k] := by
    unfold cutTo
    rw [List.append_assoc, List.getElem?_append_right (by omega), h1, Nat.sub_self, List.getElem?_append_left (by simp; omega)]
    simp [hk]
  rw [List.getElem?_eq_getElem h] at this
  exact Option.some.inj this
theorem take_snoc' (ps : List Cl) (k : Nat) (hk : k < ps.length) : ps.take (k + 1) = ps.take k ++ [ps[k]] := by
  rw [List.take_succ_eq_append_getElem hk]
theorem cutTo_no (ps : List Cl) (c : Cl) (k : Nat) (hk : k < ps.length) (h : splits ps[k] c = false) : cutTo ps c (k + 1) = cutTo ps c k := by
  unfold cutTo
  rw [take_snoc' ps k hk, List.map_append, List.filter_append]
  have e1 : cutOne ps[k] c = ps[k] := by unfold cutOne; rw [h]; rfl
  simp only [List.map_cons, List.map_nil, e1, h, List.filter_cons, List.filter_nil, Bool.false_eq_true, if_false, List.append_nil]
  have e2 : ps.drop k = ps[k] :: ps.drop (k + 1) := by rw [List.getElem_cons_drop]
  rw [e2]
  simp
theorem cutTo_yes (ps : List Cl) (c : Cl) (k : Nat) (hk : k < ps.length) (h : splits ps[k] c = true) : cutTo ps c (k + 1) = (cutTo ps c k).set k (meet ps[k] c) ++ [meet ps[k] (neg c)] := by
  have h1 : ((ps.take k).map (cutOne · c)).length = k := by simp; omega
  unfold cutTo
  rw [take_snoc' ps k hk, List.map_append, List.filter_append]
  have e1 : cutOne ps[k] c = meet ps[k] c := by unfold cutOne; rw [h]; rfl
  simp only [List.map_cons, List.map_nil, e1, h, List.filter_cons, List.filter_nil, if_true, List.map_append]
  have e2 : ps.drop k = ps[k] :: ps.drop (k + 1) := by rw [List.getElem_cons_drop]
  have e3 : ∀ (A B D : List Cl) (y z : Cl), A.length = k → ((A ++ y :: B) ++ D).set k z = (A ++ z :: B) ++ D := fun A B D y z hA => by
    rw [List.append_assoc, List.set_append_right _ _ (by omega), hA, Nat.sub_self]
    simp
  rw [e2, e3 _ _ _ _ _ h1]
  simp
end Go.Proofs.Ytgoejdakmbpcmaa
