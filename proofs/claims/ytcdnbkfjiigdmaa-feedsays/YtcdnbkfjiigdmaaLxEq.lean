/-
  The contract of slices.Equal at slices of tokens that hold the same.
-/
import Derived.Test.YtcdnbkfjiigdmaaLxLex
import Derived.Deep.QuietTactic
namespace Go.Proofs.Ytcdnbkfjiigdmaa
open Go.RowKit
open Dfa

/-- A value is a slice that holds these tokens. -/
def Tks (w : World) (v : Value) (fs : List (Int × Nat × Nat)) : Prop :=
  ∃ ao cap, v = .slice ao fs.length cap ∧ fs.length ≤ 9223372036854775807 ∧ (fs = [] ∨ ∃ b o, ao = some ⟨b, o, none⟩ ∧ b < w.heap.size ∧ ∀ i (hi : i < fs.length), w.cell? ⟨b, o + i * 3, none⟩ = some (.int .i64 fs[i].1) ∧ w.cell? ⟨b, o + i * 3 + 1, none⟩ = some (.int .i64 (fs[i].2.1 : Int)) ∧ w.cell? ⟨b, o + i * 3 + 2, none⟩ = some (.int .i64 (fs[i].2.2 : Int)))
theorem tks_of_own {w : World} {base : Nat} {v : Value} {fs : List (Int × Nat × Nat)} (h : w.ownsRow base 37 3 v fs.length (tcs fs)) (hm : fs.length ≤ 9223372036854775807) : Tks w v fs := by
  obtain ⟨hl, ⟨h1, h2⟩ | ⟨g, cap, cur, hv, hg, hh, hn, hc, hs, ht⟩⟩ := h
  · exact ⟨none, 0, by rw [h1, h2], hm, Or.inl (List.length_eq_zero_iff.1 h2)⟩
  · refine ⟨some ⟨g, 0, none⟩, cap, hv, hm, Or.inr ⟨g, 0, rfl, ?_, fun i hi => ?_⟩⟩
    · rcases Nat.lt_or_ge g w.heap.size with h' | h'
      · exact h'
      · simp [Array.getElem?_eq_none h'] at hh
    · obtain ⟨f0, f1, f2⟩ := tcs_at fs i hi
      have e : ∀ j, j < 3 → w.cell? ⟨g, 0 + i * 3 + j, none⟩ = (tcs fs)[i * 3 + j]? := fun j hj => by
        have e1 : w.cell? ⟨g, 0 + i * 3 + j, none⟩ = cur[i * 3 + j]? := by simp [World.cell?, hh]
        rw [e1, ← ht, List.getElem?_take_of_lt (by omega)]; simp
      exact ⟨(e 0 (by omega)).trans f0, (e 1 (by omega)).trans f1, (e 2 (by omega)).trans f2⟩

set_option maxHeartbeats 800000 in
set_option maxRecDepth 20000 in
theorem equal_true (w : World) (v1 v2 : Value) (fs : List (Int × Nat × Nat)) (h1 : Tks w v1 fs) (h2 : Tks w v2 fs) :
    Calls Try.prog 8 #[v1, v2] w fun e w' => e = .returned (.bool true) ∧ Below w.heap.size w w' := by
  obtain ⟨a1, c1, rfl, m1, h1⟩ := h1
  obtain ⟨a2, c2, rfl, m2, h2⟩ := h2
  go_enter Try.func8, Try.ntmps8
  go_wp2_with fail
  go_loopw [13] (fun i wr => ∃ (k : Nat), k ≤ fs.length ∧ i = .int .i64 (k : Int) ∧ Below w.heap.size w wr) (fun i _ => fs.length - (intOf i).toNat)
  case atStart => exact ⟨0, by omega, rfl, Below.refl _ _⟩
  case round =>
    obtain ⟨k, hk, rfl, hbel⟩ := hrel
    by_cases hlt : k < fs.length
    · have hne : fs ≠ [] := by intro e; subst e; simp at hlt
      obtain ⟨b1, o1, rfl, hb1, hc1⟩ := h1.resolve_left hne
      obtain ⟨b2, o2, rfl, hb2, hc2⟩ := h2.resolve_left hne
      obtain ⟨x0, x1, x2⟩ := hc1 k hlt
      obtain ⟨y0, y1, y2⟩ := hc2 k hlt
      generalize fs[k] = f at x0 x1 x2 y0 y1 y2
      obtain ⟨kk, wh, bd⟩ := f
      simp only at x0 x1 x2 y0 y1 y2
      have z0 : wr.cell? ⟨b1, o1 + k * 3, none⟩ = some (.int .i64 kk) := (hbel.cell (p := ⟨b1, o1 + k * 3, none⟩) hb1).trans x0
      have z1 : wr.cell? ⟨b1, o1 + k * 3 + 1, none⟩ = some (.int .i64 wh) := (hbel.cell (p := ⟨b1, o1 + k * 3 + 1, none⟩) hb1).trans x1
      have z2 : wr.cell? ⟨b1, o1 + k * 3 + 2, none⟩ = some (.int .i64 bd) := (hbel.cell (p := ⟨b1, o1 + k * 3 + 2, none⟩) hb1).trans x2
      have z3 : wr.cell? ⟨b2, o2 + k * 3, none⟩ = some (.int .i64 kk) := (hbel.cell (p := ⟨b2, o2 + k * 3, none⟩) hb2).trans y0
      have z4 : wr.cell? ⟨b2, o2 + k * 3 + 1, none⟩ = some (.int .i64 wh) := (hbel.cell (p := ⟨b2, o2 + k * 3 + 1, none⟩) hb2).trans y1
      have z5 : wr.cell? ⟨b2, o2 + k * 3 + 2, none⟩ = some (.int .i64 bd) := (hbel.cell (p := ⟨b2, o2 + k * 3 + 2, none⟩) hb2).trans y2
      have hk0 : (0 : Int) ≤ (k : Int) := by omega
      have hk1 : (k : Int) < (fs.length : Int) := by omega
      clear h1 h2 hc1 hc2 x0 x1 x2 y0 y1 y2
      go_wp2_with fail
      go_quiet (fail)
      have hb2 : Below w.heap.size w (wr.drewN nq) := hbel.trans (Go.Joins.below_draws _ _ _)
      generalize wr.drewN nq = w2 at hb2 ⊢
      clear z0 z1 z2 z3 z4 z5 hbel
      go_wp2_with fail
      go_roundw
      case rel => exact ⟨k + 1, by omega, by go_num, hb2⟩
      case measure => simp [intOf]; omega
    · go_wp2_with fail
      go_ret
      exact ⟨rfl, hbel⟩
end Go.Proofs.Ytcdnbkfjiigdmaa
