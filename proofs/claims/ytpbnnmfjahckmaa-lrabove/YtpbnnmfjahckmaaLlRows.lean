/-
  Rows of rows of numbers, and clashes, in memory. No function is walked here.
-/
import Derived.Test.YtpbnnmfjahckmaaExtra
import Derived.Test.YtpbnnmfjahckmaaGrF
import Derived.Test.YtpbnnmfjahckmaaGrB
import Derived.Test.YtpbnnmfjahckmaaMkHold
import Derived.Lib.SmallJoins
import Derived.Lib.OwnKind
namespace Go.Proofs.Ytpbnnmfjahckmaa
open Go.ChangeShapes Go.WideShapes Go.ChangeAt Go.RowKit
open Cg

theorem info139 : (Try.prog.info? 139).map (fun i => (i.zero, i.size, i.bytes)) = some (some (.agg #[.int .i64 0, .int .i64 0, .int .i64 0, .int .i64 0]), 4, 32) := by kernel_rfl
/-- .. these clashes. -/
def Cls (w : World) (v : Value) (l : List Cl) : Prop :=
  ∃ ao cap, v = .slice ao l.length cap ∧ l.length ≤ 9223372036854775807 ∧ (l = [] ∨ ∃ b o, ao = some ⟨b, o, none⟩ ∧ b < w.heap.size ∧ ∀ i (hi : i < l.length), w.cell? ⟨b, o + i * 4, none⟩ = some (.int .i64 l[i].1) ∧ w.cell? ⟨b, o + i * 4 + 1, none⟩ = some (.int .i64 l[i].2.1) ∧ w.cell? ⟨b, o + i * 4 + 2, none⟩ = some (.int .i64 l[i].2.2.1) ∧ w.cell? ⟨b, o + i * 4 + 3, none⟩ = some (.int .i64 l[i].2.2.2))
theorem Cls.below {w w' : World} {v : Value} {l : List Cl} (h : Cls w v l) (hb : Below w.heap.size w w') : Cls w' v l := by
  obtain ⟨ao, cap, hv, hm, h | ⟨b, o, h1, h2, h3⟩⟩ := h
  · exact ⟨ao, cap, hv, hm, Or.inl h⟩
  · refine ⟨ao, cap, hv, hm, Or.inr ⟨b, o, h1, Nat.lt_of_lt_of_le h2 hb.size, fun i hi => ?_⟩⟩
    obtain ⟨g0, g1, g2, g3⟩ := h3 i hi
    exact ⟨(hb.cell (p := ⟨b, o + i * 4, none⟩) h2).trans g0, (hb.cell (p := ⟨b, o + i * 4 + 1, none⟩) h2).trans g1, (hb.cell (p := ⟨b, o + i * 4 + 2, none⟩) h2).trans g2, (hb.cell (p := ⟨b, o + i * 4 + 3, none⟩) h2).trans g3⟩
/-- The cells of clashes. -/
def ccs : List Cl → List Value
  | [] => []
  | c :: l => .int .i64 c.1 :: .int .i64 c.2.1 :: .int .i64 c.2.2.1 :: .int .i64 c.2.2.2 :: ccs l
theorem ccs_app (l m : List Cl) : ccs (l ++ m) = ccs l ++ ccs m := by
  induction l with
  | nil => rfl
  | cons c l ih => simp [ccs, ih]
theorem ccs_length (l : List Cl) : (ccs l).length = l.length * 4 := by
  induction l with
  | nil => rfl
  | cons c l ih => simp [ccs, ih]; omega
theorem ccs_at (l : List Cl) (i : Nat) (hi : i < l.length) : (ccs l)[i * 4]? = some (.int .i64 l[i].1) ∧ (ccs l)[i * 4 + 1]? = some (.int .i64 l[i].2.1) ∧ (ccs l)[i * 4 + 2]? = some (.int .i64 l[i].2.2.1) ∧ (ccs l)[i * 4 + 3]? = some (.int .i64 l[i].2.2.2) := by
  induction l generalizing i with
  | nil => simp at hi
  | cons c l ih =>
    cases i with
    | zero => exact ⟨rfl, rfl, rfl, rfl⟩
    | succ i =>
      obtain ⟨h0, h1, h2, h3⟩ := ih i (by simpa using hi)
      have e : ∀ j, (ccs (c :: l))[(i + 1) * 4 + j]? = (ccs l)[i * 4 + j]? := fun j => by
        rw [show (i + 1) * 4 + j = i * 4 + j + 1 + 1 + 1 + 1 by omega]; rfl
      exact ⟨(e 0).trans h0, (e 1).trans h1, (e 2).trans h2, (e 3).trans h3⟩
theorem cls_of_own {w : World} {base : Nat} {v : Value} {l : List Cl} (h : w.ownsRow base 139 4 v l.length (ccs l)) (hm : l.length ≤ 9223372036854775807) : Cls w v l := by
  obtain ⟨hl, ⟨h1, h2⟩ | ⟨g, cap, cur, hv, hg, hh, hn, hc, hs, ht⟩⟩ := h
  · exact ⟨none, 0, by rw [h1, h2], hm, Or.inl (List.length_eq_zero_iff.1 h2)⟩
  · refine ⟨some ⟨g, 0, none⟩, cap, hv, hm, Or.inr ⟨g, 0, rfl, ?_, fun i hi => ?_⟩⟩
    · rcases Nat.lt_or_ge g w.heap.size with h' | h'
      · exact h'
      · simp [Array.getElem?_eq_none h'] at hh
    · obtain ⟨f0, f1, f2, f3⟩ := ccs_at l i hi
      have e : ∀ j, j < 4 → w.cell? ⟨g, 0 + i * 4 + j, none⟩ = (ccs l)[i * 4 + j]? := fun j hj => by
        have e1 : w.cell? ⟨g, 0 + i * 4 + j, none⟩ = cur[i * 4 + j]? := by simp [World.cell?, hh]
        rw [e1, ← ht, List.getElem?_take_of_lt (by omega)]; simp
      exact ⟨(e 0 (by omega)).trans f0, (e 1 (by omega)).trans f1, (e 2 (by omega)).trans f2, (e 3 (by omega)).trans f3⟩
variable {H : Type} {enc : TypeId × Value → H}
end Go.Proofs.Ytpbnnmfjahckmaa
