/-
  The contracts of slices.Equal (numbers, clashes) and slices.EqualFunc (rows), where both sides hold the same.
-/
import Derived.Test.YtdclhkjhbippdaaLlRows
import Derived.Deep.QuietTactic
namespace Go.Proofs.Ytdclhkjhbippdaa
open Go.RowKit
open Cg

set_option maxHeartbeats 800000 in
set_option maxRecDepth 20000 in
theorem equalI_true (w : World) (v1 v2 : Value) (fs : List Int) (h1 : Ints w v1 fs) (h2 : Ints w v2 fs) :
    Calls Try.prog 10 #[v1, v2] w fun e w' => e = .returned (.bool true) ∧ Below w.heap.size w w' := by
  obtain ⟨a1, c1, rfl, m1, h1⟩ := h1
  obtain ⟨a2, c2, rfl, m2, h2⟩ := h2
  go_enter Try.func10, Try.ntmps10
  go_wp2_with fail
  go_loopw [13] (fun i wr => ∃ (k : Nat), k ≤ fs.length ∧ i = .int .i64 (k : Int) ∧ Below w.heap.size w wr) (fun i _ => fs.length - (intOf i).toNat)
  case atStart => exact ⟨0, by omega, rfl, Below.refl _ _⟩
  case round =>
    obtain ⟨k, hk, rfl, hbel⟩ := hrel
    by_cases hlt : k < fs.length
    · have hne : fs ≠ [] := by intro e; subst e; simp at hlt
      obtain ⟨b1, o1, rfl, hb1, hc1⟩ := h1.resolve_left hne
      obtain ⟨b2, o2, rfl, hb2, hc2⟩ := h2.resolve_left hne
      have x0 := hc1 k hlt
      have y0 := hc2 k hlt
      generalize fs[k] = f at x0 y0
      have z0 : wr.cell? ⟨b1, o1 + k, none⟩ = some (.int .i64 f) := (hbel.cell (p := ⟨b1, o1 + k, none⟩) hb1).trans x0
      have z3 : wr.cell? ⟨b2, o2 + k, none⟩ = some (.int .i64 f) := (hbel.cell (p := ⟨b2, o2 + k, none⟩) hb2).trans y0
      have hk0 : (0 : Int) ≤ (k : Int) := by omega
      have hk1 : (k : Int) < (fs.length : Int) := by omega
      clear h1 h2 hc1 hc2 x0 y0
      go_wp2_with fail
      go_quiet (fail)
      have hb2 : Below w.heap.size w (wr.drewN nq) := hbel.trans (Go.Joins.below_draws _ _ _)
      generalize wr.drewN nq = w2 at hb2 ⊢
      clear z0 z3 hbel
      go_wp2_with fail
      go_roundw
      case rel => exact ⟨k + 1, by omega, by go_num, hb2⟩
      case measure => simp [intOf]; omega
    · go_wp2_with fail
      go_ret
      exact ⟨rfl, hbel⟩
set_option maxHeartbeats 800000 in
set_option maxRecDepth 20000 in
theorem equalC_true (w : World) (v1 v2 : Value) (fs : List Cl) (h1 : Cls w v1 fs) (h2 : Cls w v2 fs) :
    Calls Try.prog 11 #[v1, v2] w fun e w' => e = .returned (.bool true) ∧ Below w.heap.size w w' := by
  obtain ⟨a1, c1, rfl, m1, h1⟩ := h1
  obtain ⟨a2, c2, rfl, m2, h2⟩ := h2
  go_enter Try.func11, Try.ntmps11
  go_wp2_with fail
  go_loopw [13] (fun i wr => ∃ (k : Nat), k ≤ fs.length ∧ i = .int .i64 (k : Int) ∧ Below w.heap.size w wr) (fun i _ => fs.length - (intOf i).toNat)
  case atStart => exact ⟨0, by omega, rfl, Below.refl _ _⟩
  case round =>
    obtain ⟨k, hk, rfl, hbel⟩ := hrel
    by_cases hlt : k < fs.length
    · have hne : fs ≠ [] := by intro e; subst e; simp at hlt
      obtain ⟨b1, o1, rfl, hb1, hc1⟩ := h1.resolve_left hne
      obtain ⟨b2, o2, rfl, hb2, hc2⟩ := h2.resolve_left hne
      obtain ⟨x0, x1, x2, x3⟩ := hc1 k hlt
      obtain ⟨y0, y1, y2, y3⟩ := hc2 k hlt
      generalize fs[k] = f at x0 x1 x2 x3 y0 y1 y2 y3
      obtain ⟨f0, f1, f2, f3⟩ := f
      simp only at x0 x1 x2 x3 y0 y1 y2 y3
      have z0 : wr.cell? ⟨b1, o1 + k * 4, none⟩ = some (.int .i64 f0) := (hbel.cell (p := ⟨b1, o1 + k * 4, none⟩) hb1).trans x0
      have z1 : wr.cell? ⟨b1, o1 + k * 4 + 1, none⟩ = some (.int .i64 f1) := (hbel.cell (p := ⟨b1, o1 + k * 4 + 1, none⟩) hb1).trans x1
      have z2 : wr.cell? ⟨b1, o1 + k * 4 + 2, none⟩ = some (.int .i64 f2) := (hbel.cell (p := ⟨b1, o1 + k * 4 + 2, none⟩) hb1).trans x2
      have z3 : wr.cell? ⟨b1, o1 + k * 4 + 3, none⟩ = some (.int .i64 f3) := (hbel.cell (p := ⟨b1, o1 + k * 4 + 3, none⟩) hb1).trans x3
      have t0 : wr.cell? ⟨b2, o2 + k * 4, none⟩ = some (.int .i64 f0) := (hbel.cell (p := ⟨b2, o2 + k * 4, none⟩) hb2).trans y0
      have t1 : wr.cell? ⟨b2, o2 + k * 4 + 1, none⟩ = some (.int .i64 f1) := (hbel.cell (p := ⟨b2, o2 + k * 4 + 1, none⟩) hb2).trans y1
      have t2 : wr.cell? ⟨b2, o2 + k * 4 + 2, none⟩ = some (.int .i64 f2) := (hbel.cell (p := ⟨b2, o2 + k * 4 + 2, none⟩) hb2).trans y2
      have t3 : wr.cell? ⟨b2, o2 + k * 4 + 3, none⟩ = some (.int .i64 f3) := (hbel.cell (p := ⟨b2, o2 + k * 4 + 3, none⟩) hb2).trans y3
      have hk0 : (0 : Int) ≤ (k : Int) := by omega
      have hk1 : (k : Int) < (fs.length : Int) := by omega
      clear h1 h2 hc1 hc2 x0 x1 x2 x3 y0 y1 y2 y3
      go_wp2_with fail
      go_quiet (fail)
      have hb2 : Below w.heap.size w (wr.drewN nq) := hbel.trans (Go.Joins.below_draws _ _ _)
      generalize wr.drewN nq = w2 at hb2 ⊢
      clear z0 z1 z2 z3 t0 t1 t2 t3 hbel
      go_wp2_with fail
      go_roundw
      case rel => exact ⟨k + 1, by omega, by go_num, hb2⟩
      case measure => simp [intOf]; omega
    · go_wp2_with fail
      go_ret
      exact ⟨rfl, hbel⟩
set_option maxHeartbeats 1600000 in
set_option maxRecDepth 20000 in
theorem equalF_true (w : World) (v1 v2 : Value) (rs : List (List Int)) (h1 : Rws w v1 rs) (h2 : Rws w v2 rs) :
    Calls Try.prog 9 #[v1, v2, .func (.func 10) #[] #[]] w fun e w' => e = .returned (.bool true) ∧ Below w.heap.size w w' := by
  obtain ⟨a1, c1, rfl, m1, h1⟩ := h1
  obtain ⟨a2, c2, rfl, m2, h2⟩ := h2
  go_enter Try.func9, Try.ntmps9
  go_wp2_with fail
  go_loopw [17] (fun i wr => ∃ (k : Nat), k ≤ rs.length ∧ i = .int .i64 (k : Int) ∧ Below w.heap.size w wr) (fun i _ => rs.length - (intOf i).toNat)
  case atStart => exact ⟨0, by omega, rfl, Below.refl _ _⟩
  case round =>
    obtain ⟨k, hk, rfl, hbel⟩ := hrel
    by_cases hlt : k < rs.length
    · have hne : rs ≠ [] := by intro e; subst e; simp at hlt
      obtain ⟨b1, o1, rfl, hb1, hc1⟩ := h1.resolve_left hne
      obtain ⟨b2, o2, rfl, hb2, hc2⟩ := h2.resolve_left hne
      obtain ⟨u, x0, hu⟩ := hc1 k hlt
      obtain ⟨v, y0, hv⟩ := hc2 k hlt
      generalize rs[k] = f at hu hv
      have hq := equalI_true wr u v f (hu.below hbel) (hv.below hbel)
      obtain ⟨ua, uc, rfl, -, -⟩ := hu
      obtain ⟨va, vc, rfl, -, -⟩ := hv
      have z0 : wr.cell? ⟨b1, o1 + k, none⟩ = some (.slice ua f.length uc) := (hbel.cell (p := ⟨b1, o1 + k, none⟩) hb1).trans x0
      have z3 : wr.cell? ⟨b2, o2 + k, none⟩ = some (.slice va f.length vc) := (hbel.cell (p := ⟨b2, o2 + k, none⟩) hb2).trans y0
      have hk0 : (0 : Int) ≤ (k : Int) := by omega
      have hk1 : (k : Int) < (rs.length : Int) := by omega
      clear h1 h2 hc1 hc2 x0 y0
      go_wp2_with (go_quiet (fail))
      refine hq.mono ?_
      rintro _ w2 ⟨rfl, hB⟩
      have hb2 : Below w.heap.size w w2 := hbel.trans (hB.mono hbel.size)
      clear z0 z3 hbel hB hq
      go_wp2_with fail
      go_roundw
      case rel => exact ⟨k + 1, by omega, by go_num, hb2⟩
      case measure => simp [intOf]; omega
    · go_wp2_with fail
      go_ret
      exact ⟨rfl, hbel⟩
end Go.Proofs.Ytdclhkjhbippdaa
