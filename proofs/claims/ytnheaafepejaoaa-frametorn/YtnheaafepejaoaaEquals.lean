/-
  The contract of slices.Equal at slices of frames: it answers whether the two hold the same frames; nothing is changed. And of frame.Feed of an inbox that is dead.
-/
import Derived.Test.YtnheaafepejaoaaFeeds
import Derived.Deep.QuietTactic
namespace Go.Proofs.Ytnheaafepejaoaa
open Go.RowKit
open Frm Crc

theorem fr_ext {f g : Fr} (h1 : f.kind = g.kind) (h2 : f.who = g.who) (h3 : f.body = g.body) : f = g := by cases f; cases g; simp_all

set_option maxHeartbeats 800000 in
set_option maxRecDepth 20000 in
theorem equal_true (w : World) (v1 v2 : Value) (fs : List Fr) (h1 : Frs w v1 fs) (h2 : Frs w v2 fs) :
    Calls Try.prog 15 #[v1, v2] w fun e w' => e = .returned (.bool true) ∧ Below w.heap.size w w' := by
  obtain ⟨a1, c1, rfl, m1, h1⟩ := h1
  obtain ⟨a2, c2, rfl, m2, h2⟩ := h2
  go_enter Try.func15, Try.ntmps15
  go_wp2_with fail
  go_loopw [13] (fun i wr => ∃ (k : Nat), k ≤ fs.length ∧ i = .int .i64 (k : Int) ∧ Below w.heap.size w wr) (fun i _ => fs.length - (intOf i).toNat)
  case atStart => exact ⟨0, by omega, rfl, Below.refl _ _⟩
  case round =>
    obtain ⟨k, hk, rfl, hbel⟩ := hrel
    by_cases hlt : k < fs.length
    · have hne : fs ≠ [] := by intro e; subst e; simp at hlt
      obtain ⟨b1, o1, rfl, hb1, hc1⟩ := h1.resolve_left hne
      obtain ⟨b2, o2, rfl, hb2, hc2⟩ := h2.resolve_left hne
      obtain ⟨x0, x1, x2⟩ := hc1 k hlt
      obtain ⟨y0, y1, y2⟩ := hc2 k hlt
      generalize fs[k] = f at x0 x1 x2 y0 y1 y2
      obtain ⟨kk, wh, bd⟩ := f
      simp only at x0 x1 x2 y0 y1 y2
      have z0 : wr.cell? ⟨b1, o1 + k * 3, none⟩ = some (.int .i64 kk) := (hbel.cell (p := ⟨b1, o1 + k * 3, none⟩) hb1).trans x0
      have z1 : wr.cell? ⟨b1, o1 + k * 3 + 1, none⟩ = some (.int .i64 wh) := (hbel.cell (p := ⟨b1, o1 + k * 3 + 1, none⟩) hb1).trans x1
      have z2 : wr.cell? ⟨b1, o1 + k * 3 + 2, none⟩ = some (.string bd) := (hbel.cell (p := ⟨b1, o1 + k * 3 + 2, none⟩) hb1).trans x2
      have z3 : wr.cell? ⟨b2, o2 + k * 3, none⟩ = some (.int .i64 kk) := (hbel.cell (p := ⟨b2, o2 + k * 3, none⟩) hb2).trans y0
      have z4 : wr.cell? ⟨b2, o2 + k * 3 + 1, none⟩ = some (.int .i64 wh) := (hbel.cell (p := ⟨b2, o2 + k * 3 + 1, none⟩) hb2).trans y1
      have z5 : wr.cell? ⟨b2, o2 + k * 3 + 2, none⟩ = some (.string bd) := (hbel.cell (p := ⟨b2, o2 + k * 3 + 2, none⟩) hb2).trans y2
      have hk0 : (0 : Int) ≤ (k : Int) := by omega
      have hk1 : (k : Int) < (fs.length : Int) := by omega
      clear h1 h2 hc1 hc2 x0 x1 x2 y0 y1 y2
      go_wp2_with fail
      go_quiet (fail)
      have hb2 : Below w.heap.size w (wr.drewN nq) := hbel.trans (Go.Joins.below_draws _ _ _)
      generalize wr.drewN nq = w2 at hb2 ⊢
      clear z0 z1 z2 z3 z4 z5 hbel
      go_wp2_with fail
      go_roundw
      case rel => exact ⟨k + 1, by omega, by go_num, hb2⟩
      case measure => simp [intOf]; omega
    · go_wp2_with fail
      go_ret
      exact ⟨rfl, hbel⟩

theorem two_first (w : World) (o1 o2 : Obj) : ((w.alloc o1).alloc o2).heap[w.heap.size]? = some o1 :=
  (((Below.refl (w.heap.size + 1) (w.alloc o1)).alloc (by simp) o2).block w.heap.size (by omega)).trans (heap_alloc_new w o1)
theorem two_second (w : World) (o1 o2 : Obj) : ((w.alloc o1).alloc o2).heap[w.heap.size + 1]? = some o2 := by
  have := heap_alloc_new (w.alloc o1) o2
  rwa [World.size_alloc] at this

set_option maxHeartbeats 800000 in
set_option maxRecDepth 20000 in
theorem feed_dead (r s : ByteArray) (d : Int) (hd : d ≠ 0) (hr : r.size ≤ 281474976710656) (w : World) :
    Calls Try.prog 13 #[.agg #[.string r, .int .i64 d], .string s] w fun e w' => e = .returned (.tuple #[.agg #[.string r, .int .i64 d], .slice none 0 0, .int .i64 15]) ∧ Below w.heap.size w w' := by
  have hd0 : (d == 0) = false := by simpa using hd
  go_enter Try.func13, Try.ntmps13
  go_wp2_with fail
  go_region_with ((go_at_call 22; refine (clone_any _ (by assumption) _).mono ?_; rintro e w' ⟨rfl, hbel⟩; have hbk0 : w'.heap[w.heap.size]? = some (Obj.cells #[.string r, .int .i64 d] 31) := (hbel.block w.heap.size (by simp; omega)).trans (two_first w _ _); have hbk1 : w'.heap[w.heap.size + 1]? = some (Obj.cells #[.string ⟨#[]⟩, .int .i64 0] 31) := (hbel.block (w.heap.size + 1) (by simp)).trans (two_second w _ _); have x1 : w'.cell? ⟨w.heap.size, 1, none⟩ = some (.int .i64 d) := block_cell hbk0 1; have c0 : w'.cell? ⟨w.heap.size + 1, 0, none⟩ = some (.string ⟨#[]⟩) := block_cell hbk1 0; have c1 : w'.cell? ⟨w.heap.size + 1, 1, none⟩ = some (.int .i64 0) := block_cell hbk1 1; have f0 := block_free hbk1 0; have f1 := block_free hbk1 1))
  all_goals
    have hB : Below w.heap.size w w' := ((((Below.refl _ w).alloc (Nat.le_refl _) _).alloc (by simp) _).drew).trans (hbel.mono (by simp; omega))
    obtain ⟨d0, d1, D, HB⟩ := stored (v0 := .string r) (v1 := .int .i64 d) hbk1 (World.ownsRow_nil w' (w.heap.size + 2) 23 3) (by omega) (by omega) hB
    clear hbk0 hbk1 x1 c0 c1 f0 f1 hbel
    go_wp2_with fail
    refine bodyPost_ret (v := .tuple #[.agg #[.string r, .int .i64 d], .slice none 0 0, .int .i64 15]) (by simp [results, Try.results13, go_sem, d0, d1]) rfl ⟨rfl, HB⟩
end Go.Proofs.Ytnheaafepejaoaa
