/-
  The contract of slices.Equal at slices of frames once more, saying that the world is as it was but for draws; and a slice's first frames.
-/
import Derived.Test.YtnheaafepejaoaaEquals
namespace Go.Proofs.Ytnheaafepejaoaa
open Go.RowKit
open Frm Crc

set_option maxHeartbeats 800000 in
set_option maxRecDepth 20000 in
theorem equal_draws (w : World) (v1 v2 : Value) (fs : List Fr) (h1 : Frs w v1 fs) (h2 : Frs w v2 fs) :
    Calls Try.prog 15 #[v1, v2] w fun e w' => e = .returned (.bool true) ∧ ∃ q, w' = w.drewN q := by
  obtain ⟨a1, c1, rfl, m1, h1⟩ := h1
  obtain ⟨a2, c2, rfl, m2, h2⟩ := h2
  go_enter Try.func15, Try.ntmps15
  go_wp2_with fail
  go_loopw [13] (fun i wr => ∃ (k q : Nat), k ≤ fs.length ∧ i = .int .i64 (k : Int) ∧ Hid (wr = w.drewN q)) (fun i _ => fs.length - (intOf i).toNat)
  case atStart => exact ⟨0, 0, by omega, rfl, rfl⟩
  case round =>
    obtain ⟨k, q, hk, rfl, HQ⟩ := hrel
    have hbel : Below w.heap.size w wr := by rw [HQ.out]; exact Go.Joins.below_draws _ _ _
    by_cases hlt : k < fs.length
    · have hne : fs ≠ [] := by intro e; subst e; simp at hlt
      obtain ⟨b1, o1, rfl, hb1, hc1⟩ := h1.resolve_left hne
      obtain ⟨b2, o2, rfl, hb2, hc2⟩ := h2.resolve_left hne
      obtain ⟨x0, x1, x2⟩ := hc1 k hlt
      obtain ⟨y0, y1, y2⟩ := hc2 k hlt
      generalize fs[k] = f at x0 x1 x2 y0 y1 y2
      obtain ⟨kk, wh, bd⟩ := f
      simp only at x0 x1 x2 y0 y1 y2
      have z0 : wr.cell? ⟨b1, o1 + k * 3, none⟩ = some (.int .i64 kk) := (hbel.cell (p := ⟨b1, o1 + k * 3, none⟩) hb1).trans x0
      have z1 : wr.cell? ⟨b1, o1 + k * 3 + 1, none⟩ = some (.int .i64 wh) := (hbel.cell (p := ⟨b1, o1 + k * 3 + 1, none⟩) hb1).trans x1
      have z2 : wr.cell? ⟨b1, o1 + k * 3 + 2, none⟩ = some (.string bd) := (hbel.cell (p := ⟨b1, o1 + k * 3 + 2, none⟩) hb1).trans x2
      have z3 : wr.cell? ⟨b2, o2 + k * 3, none⟩ = some (.int .i64 kk) := (hbel.cell (p := ⟨b2, o2 + k * 3, none⟩) hb2).trans y0
      have z4 : wr.cell? ⟨b2, o2 + k * 3 + 1, none⟩ = some (.int .i64 wh) := (hbel.cell (p := ⟨b2, o2 + k * 3 + 1, none⟩) hb2).trans y1
      have z5 : wr.cell? ⟨b2, o2 + k * 3 + 2, none⟩ = some (.string bd) := (hbel.cell (p := ⟨b2, o2 + k * 3 + 2, none⟩) hb2).trans y2
      have hk0 : (0 : Int) ≤ (k : Int) := by omega
      have hk1 : (k : Int) < (fs.length : Int) := by omega
      clear h1 h2 hc1 hc2 x0 x1 x2 y0 y1 y2
      go_wp2_with fail
      go_quiet (fail)
      have HQ2 : Hid (wr.drewN nq = w.drewN (q + nq)) := by show _ = _; rw [HQ.out, World.drewN_drewN]
      generalize wr.drewN nq = w2 at HQ2 ⊢
      clear z0 z1 z2 z3 z4 z5 hbel
      go_wp2_with fail
      go_roundw
      case rel => exact ⟨k + 1, q + nq, by omega, by go_num, HQ2⟩
      case measure => simp [intOf]; omega
    · go_wp2_with fail
      go_ret
      exact ⟨rfl, q, HQ.out⟩

theorem Frs.take {w : World} {ao : Option Addr} {m cap : Nat} {fs : List Fr} (h : Frs w (.slice ao m cap) fs) (j : Nat) (hj : j ≤ fs.length) (cap' : Nat) : Frs w (.slice ao j cap') (fs.take j) := by
  obtain ⟨ao', c', hv, hm, h⟩ := h
  simp only [Value.slice.injEq] at hv
  obtain ⟨rfl, rfl, rfl⟩ := hv
  have hl : (fs.take j).length = j := by rw [List.length_take]; omega
  refine ⟨ao, cap', by rw [hl], by omega, ?_⟩
  rcases h with h | ⟨b, o, h1, h2, h3⟩
  · left; rw [h]; simp
  · right
    refine ⟨b, o, h1, h2, fun i hi => ?_⟩
    have := h3 i (by omega)
    rw [List.getElem_take]
    exact this
end Go.Proofs.Ytnheaafepejaoaa
