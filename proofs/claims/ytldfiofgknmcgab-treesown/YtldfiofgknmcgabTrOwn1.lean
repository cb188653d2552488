/-
  The contracts of pushkeep.roomy and filled at events, and of spoil at events and trees.
-/
import Derived.Test.YtldfiofgknmcgabTrApp
import Derived.Test.YtldfiofgknmcgabTrEq
import Derived.Laws.OwnMore
import Derived.Laws.MakeOwn
import Derived.Deep.OwnRows
import Derived.Lib.SmallJoins
import Derived.Deep.QuietTactic
namespace Go.Proofs.Ytldfiofgknmcgab
open Go.RowKit
open Cg

set_option maxHeartbeats 4000000 in
set_option maxRecDepth 20000 in
theorem spoilE_nil (w : World) : Calls Try.prog 20 #[.slice none 0 0, .agg #[.int .i64 0, .int .i64 0]] w fun e w' => e = .returned (.tuple #[]) ∧ Below w.heap.size w w' := by
  go_enter Try.func20, Try.ntmps20
  go_wp2_with fail
  go_loopw [11] (fun z wr => z = .int .i64 0 ∧ wr = w.alloc (Obj.cells #[.int .i64 0, .int .i64 0] 46)) (fun _ _ => 0)
  case atStart => exact ⟨rfl, rfl⟩
  case round =>
    obtain ⟨rfl, rfl⟩ := hrel
    go_wp2_with fail
    go_end0
    exact ⟨rfl, below_alloc _ _⟩
set_option maxHeartbeats 4000000 in
set_option maxRecDepth 20000 in
theorem spoilE_row (g n cap : Nat) (f : Nat → Value) (hcm : cap ≤ 9223372036854775807) (w : World) (h : w.rowIs g 46 (cap * 2) f) :
    Calls Try.prog 20 #[.slice (some ⟨g, 0, none⟩) n cap, .agg #[.int .i64 0, .int .i64 0]] w fun e w' => e = .returned (.tuple #[]) ∧ w.grownBy w' (some g) ∧ ∃ f', w'.rowIs g 46 (cap * 2) f' := by
  have HG : Hid ((w.alloc (Obj.cells #[.int .i64 0, .int .i64 0] 46)).rowIs g 46 (cap * 2) f) := h.alloc _
  have HB : Hid ((w.alloc (Obj.cells #[.int .i64 0, .int .i64 0] 46)).heap[w.heap.size]? = some (.cells #[.int .i64 0, .int .i64 0] 46) ∧ g < w.heap.size) := ⟨heap_alloc_new _ _, h.lt⟩
  have hc1 : (cap : Int) ≤ (cap : Int) := Int.le_refl _
  have HGR : Hid (w.grownBy (w.alloc (Obj.cells #[.int .i64 0, .int .i64 0] 46)) (some g)) := tgb_alloc (World.grownBy.refl _ _) _
  clear h
  go_enter Try.func20, Try.ntmps20
  go_wp2_with fail
  go_loopw [11] (fun z wr => ∃ k : Nat, k ≤ cap ∧ z = .int .i64 (k : Int) ∧ Hid ((∃ f', wr.rowIs g 46 (cap * 2) f') ∧ wr.heap[w.heap.size]? = some (.cells #[.int .i64 0, .int .i64 0] 46) ∧ w.grownBy wr (some g))) (fun z _ => cap - (intOf z).toNat)
  case atStart => exact ⟨0, by omega, rfl, ⟨_, HG.out⟩, HB.out.1, HGR.out⟩
  case round =>
    obtain ⟨k, hk, rfl, HR⟩ := hrel
    by_cases hlt : k < cap
    · have hk0 : (0 : Int) ≤ (k : Int) := by omega
      have hk1 : (k : Int) < (cap : Int) := by omega
      obtain ⟨⟨f', h1⟩, h3, h2⟩ := HR.out
      have y0 := h1.cell (i := k * 2) (by omega)
      have u0 := h1.frozen (k * 2)
      have c0 := tcell_blk h3 0
      have y1 := h1.cell (i := k * 2 + 1) (by omega)
      have u1 := h1.frozen (k * 2 + 1)
      have c1 := tcell_blk h3 1
      simp only [List.getElem?_toArray, List.getElem?_cons_zero, List.getElem?_cons_succ] at c0 c1
      have hoth : ∀ q, q ≠ g → (((wr.setCell ⟨g, k * 2, none⟩ (.int .i64 0)).setCell ⟨g, k * 2 + 1, none⟩ (.int .i64 0))).heap[q]? = wr.heap[q]? := fun q hq => by rw [Below.heap_setCell _ _ _ _ hq]; rw [Below.heap_setCell _ _ _ _ hq]
      have hsz : (((wr.setCell ⟨g, k * 2, none⟩ (.int .i64 0)).setCell ⟨g, k * 2 + 1, none⟩ (.int .i64 0))).heap.size = wr.heap.size := by simp [World.setCell]
      have HNX : Hid ((∃ f', (((wr.setCell ⟨g, k * 2, none⟩ (.int .i64 0)).setCell ⟨g, k * 2 + 1, none⟩ (.int .i64 0))).rowIs g 46 (cap * 2) f') ∧ (((wr.setCell ⟨g, k * 2, none⟩ (.int .i64 0)).setCell ⟨g, k * 2 + 1, none⟩ (.int .i64 0))).heap[w.heap.size]? = some (.cells #[.int .i64 0, .int .i64 0] 46) ∧ w.grownBy (((wr.setCell ⟨g, k * 2, none⟩ (.int .i64 0)).setCell ⟨g, k * 2 + 1, none⟩ (.int .i64 0))) (some g)) :=
        ⟨⟨_, ((h1.set (k * 2) _).set (k * 2 + 1) _)⟩, (hoth _ (by have := HB.out.2; omega)).trans h3, h2.os, h2.tape, h2.output, by rw [hsz]; exact h2.size, fun q hq hq2 => (hoth q (by simp at hq2; exact hq2)).trans (h2.block q hq hq2)⟩
      clear h1 h2 h3 HR hoth hsz
      go_wp2_with fail
      go_roundw
      case rel => exact ⟨k + 1, by omega, by go_num, HNX⟩
      case measure => simp [intOf]; omega
    · have hk1 : ¬ (k : Int) < (cap : Int) := by omega
      go_wp2_with fail
      go_end0
      exact ⟨rfl, HR.out.2.2, HR.out.1⟩

set_option maxHeartbeats 4000000 in
set_option maxRecDepth 20000 in
theorem spoilT_nil (w : World) : Calls Try.prog 21 #[.slice none 0 0, .agg #[.int .i64 5, .int .i64 0, .slice none 0 0]] w fun e w' => e = .returned (.tuple #[]) ∧ Below w.heap.size w w' := by
  go_enter Try.func21, Try.ntmps21
  go_wp2_with fail
  go_loopw [11] (fun z wr => z = .int .i64 0 ∧ wr = w.alloc (Obj.cells #[.int .i64 5, .int .i64 0, .slice none 0 0] 27)) (fun _ _ => 0)
  case atStart => exact ⟨rfl, rfl⟩
  case round =>
    obtain ⟨rfl, rfl⟩ := hrel
    go_wp2_with fail
    go_end0
    exact ⟨rfl, below_alloc _ _⟩
set_option maxHeartbeats 4000000 in
set_option maxRecDepth 20000 in
theorem spoilT_row (g n cap : Nat) (f : Nat → Value) (hcm : cap ≤ 9223372036854775807) (w : World) (h : w.rowIs g 27 (cap * 3) f) :
    Calls Try.prog 21 #[.slice (some ⟨g, 0, none⟩) n cap, .agg #[.int .i64 5, .int .i64 0, .slice none 0 0]] w fun e w' => e = .returned (.tuple #[]) ∧ w.grownBy w' (some g) ∧ ∃ f', w'.rowIs g 27 (cap * 3) f' := by
  have HG : Hid ((w.alloc (Obj.cells #[.int .i64 5, .int .i64 0, .slice none 0 0] 27)).rowIs g 27 (cap * 3) f) := h.alloc _
  have HB : Hid ((w.alloc (Obj.cells #[.int .i64 5, .int .i64 0, .slice none 0 0] 27)).heap[w.heap.size]? = some (.cells #[.int .i64 5, .int .i64 0, .slice none 0 0] 27) ∧ g < w.heap.size) := ⟨heap_alloc_new _ _, h.lt⟩
  have hc1 : (cap : Int) ≤ (cap : Int) := Int.le_refl _
  have HGR : Hid (w.grownBy (w.alloc (Obj.cells #[.int .i64 5, .int .i64 0, .slice none 0 0] 27)) (some g)) := tgb_alloc (World.grownBy.refl _ _) _
  clear h
  go_enter Try.func21, Try.ntmps21
  go_wp2_with fail
  go_loopw [11] (fun z wr => ∃ k : Nat, k ≤ cap ∧ z = .int .i64 (k : Int) ∧ Hid ((∃ f', wr.rowIs g 27 (cap * 3) f') ∧ wr.heap[w.heap.size]? = some (.cells #[.int .i64 5, .int .i64 0, .slice none 0 0] 27) ∧ w.grownBy wr (some g))) (fun z _ => cap - (intOf z).toNat)
  case atStart => exact ⟨0, by omega, rfl, ⟨_, HG.out⟩, HB.out.1, HGR.out⟩
  case round =>
    obtain ⟨k, hk, rfl, HR⟩ := hrel
    by_cases hlt : k < cap
    · have hk0 : (0 : Int) ≤ (k : Int) := by omega
      have hk1 : (k : Int) < (cap : Int) := by omega
      obtain ⟨⟨f', h1⟩, h3, h2⟩ := HR.out
      have y0 := h1.cell (i := k * 3) (by omega)
      have u0 := h1.frozen (k * 3)
      have c0 := tcell_blk h3 0
      have y1 := h1.cell (i := k * 3 + 1) (by omega)
      have u1 := h1.frozen (k * 3 + 1)
      have c1 := tcell_blk h3 1
      have y2 := h1.cell (i := k * 3 + 2) (by omega)
      have u2 := h1.frozen (k * 3 + 2)
      have c2 := tcell_blk h3 2
      simp only [List.getElem?_toArray, List.getElem?_cons_zero, List.getElem?_cons_succ] at c0 c1 c2
      have hoth : ∀ q, q ≠ g → ((((wr.setCell ⟨g, k * 3, none⟩ (.int .i64 5)).setCell ⟨g, k * 3 + 1, none⟩ (.int .i64 0)).setCell ⟨g, k * 3 + 2, none⟩ (.slice none 0 0))).heap[q]? = wr.heap[q]? := fun q hq => by rw [Below.heap_setCell _ _ _ _ hq]; rw [Below.heap_setCell _ _ _ _ hq]; rw [Below.heap_setCell _ _ _ _ hq]
      have hsz : ((((wr.setCell ⟨g, k * 3, none⟩ (.int .i64 5)).setCell ⟨g, k * 3 + 1, none⟩ (.int .i64 0)).setCell ⟨g, k * 3 + 2, none⟩ (.slice none 0 0))).heap.size = wr.heap.size := by simp [World.setCell]
      have HNX : Hid ((∃ f', ((((wr.setCell ⟨g, k * 3, none⟩ (.int .i64 5)).setCell ⟨g, k * 3 + 1, none⟩ (.int .i64 0)).setCell ⟨g, k * 3 + 2, none⟩ (.slice none 0 0))).rowIs g 27 (cap * 3) f') ∧ ((((wr.setCell ⟨g, k * 3, none⟩ (.int .i64 5)).setCell ⟨g, k * 3 + 1, none⟩ (.int .i64 0)).setCell ⟨g, k * 3 + 2, none⟩ (.slice none 0 0))).heap[w.heap.size]? = some (.cells #[.int .i64 5, .int .i64 0, .slice none 0 0] 27) ∧ w.grownBy ((((wr.setCell ⟨g, k * 3, none⟩ (.int .i64 5)).setCell ⟨g, k * 3 + 1, none⟩ (.int .i64 0)).setCell ⟨g, k * 3 + 2, none⟩ (.slice none 0 0))) (some g)) :=
        ⟨⟨_, (((h1.set (k * 3) _).set (k * 3 + 1) _).set (k * 3 + 2) _)⟩, (hoth _ (by have := HB.out.2; omega)).trans h3, h2.os, h2.tape, h2.output, by rw [hsz]; exact h2.size, fun q hq hq2 => (hoth q (by simp at hq2; exact hq2)).trans (h2.block q hq hq2)⟩
      clear h1 h2 h3 HR hoth hsz
      go_wp2_with fail
      go_roundw
      case rel => exact ⟨k + 1, by omega, by go_num, HNX⟩
      case measure => simp [intOf]; omega
    · have hk1 : ¬ (k : Int) < (cap : Int) := by omega
      go_wp2_with fail
      go_end0
      exact ⟨rfl, HR.out.2.2, HR.out.1⟩

theorem app_ev {W : World} {base n m mc c : Nat} {a : Option Addr} {xs : List Value} {xo : Option Addr} {l : List Ev} (h : W.ownsRow base 46 2 (.slice a n c) n xs) (ho : Oth W xo m mc (ecs l)) (hl : l.length = m) (hs : n + m ≤ 1000000) (hb : base ≤ W.heap.size) :
    ∃ ra rc V, (Builtin.append_ #[41, 41] 41 #[.slice a n c, .slice xo m mc]).run Try.prog W = .ok (.slice ra (n + m) rc) V ∧ V.ownsRow base 46 2 (.slice ra (n + m) rc) (n + m) (xs ++ ecs l) ∧ W.grownBy V (Value.ownBlock (.slice a n c)) ∧ (Value.ownBlock (.slice ra (n + m) rc) = Value.ownBlock (.slice a n c) ∨ Value.ownBlock (.slice ra (n + m) rc) = some W.heap.size) := by
  obtain ⟨i1, hi1, hy0, hy1, hy2⟩ := info_parts info46
  exact append_any (W := W) (base := base) 41 46 i1 _ 2 16 Try.underlying41 hi1 hy0 hy1 hy2 rfl (by decide) (.slice a n c) n xs h xo m mc (ecs l) (by rw [ecs_length, hl]) ho (ecs_one l) (by omega) (by omega) hb
theorem oth_two {W : World} {g : Nat} {x0 x1 : Int} (h : W.heap[g]? = some (.cells #[.int .i64 x0, .int .i64 x1, .int .i64 x0, .int .i64 x1] 46)) : Oth W (some ⟨g, 0, none⟩) 2 2 (ecs [(x0, x1), (x0, x1)]) := by
  refine ⟨fun e => (by cases e), fun _ => ⟨g, 0, rfl, fun j u hu => ?_⟩⟩
  rw [tcell_blk h, Nat.zero_add, ← hu]
  simp [ecs]
theorem Oth.below {W W' : World} {xo : Option Addr} {m mc : Nat} {ys : List Value} (h : Oth W xo m mc ys) (hb : Below W.heap.size W W') : Oth W' xo m mc ys := by
  refine ⟨h.1, fun hne => ?_⟩
  obtain ⟨b, o, e, hc⟩ := h.2 hne
  refine ⟨b, o, e, fun j u hu => ?_⟩
  have h1 := hc j u hu
  exact (hb.cell (p := ⟨b, o + j, none⟩) (World.block_lt_of_cell? W _ h1)).trans h1
theorem make46 (n : Nat) (h : n ≤ 900000) (w : World) : (Instr.makeSlice 41 (.int .i64 0) (.int .i64 ((n : Int) + 3))).run Try.prog w = .ok (.slice (some ⟨w.heap.size, 0, none⟩) 0 (n + 3)) (w.alloc (.cells (madeCells #[.int .i64 0, .int .i64 0] ((n + 3) * 2)) 46)) := by
  obtain ⟨i1, hi1, hy0, hy1, hy2⟩ := info_parts info46
  have hr := run_make (P := Try.prog) w 41 46 i1 _ Try.underlying41 hi1 hy0 .i64 .i64 0 ((n : Int) + 3) (by omega) (by omega) (by rw [hy2]; omega) (by omega)
  rw [show ((n : Int) + 3).toNat = n + 3 by omega, show (0 : Int).toNat = 0 from rfl, hy1] at hr
  exact hr
structure RRo (w2 : World) (l : List Ev) (la : Option Addr) (ln lc : Nat) (x0 x1 : Int) (gm : Nat) (ra1 : Option Addr) (rc1 : Nat) (gb : Nat) (ra2 : Option Addr) (rc2 : Nat) (d : Nat → Bool) (x5 x6 x7 x8 x9 x10 x11 x12 x13 x14 x15 : Value) (W : World) : Prop where
  f0 : d 0 = true → x6 = (.slice la ln lc)
  f1 : d 1 = true → x7 = (.int .i64 (ln : Int))
  f2 : d 2 = true → x8 = (.int .i64 ((ln : Int) + 3))
  f3 : d 3 = true → x9 = (.slice (some ⟨gm, 0, none⟩) 0 (ln + 3))
  f4 : d 4 = true → x10 = (.slice la ln lc)
  f5 : d 5 = true → x11 = (.slice ra1 ln rc1)
  f6 : d 6 = true → x12 = (.agg #[.int .i64 x0, .int .i64 x1])
  f7 : d 7 = true → x13 = (.agg #[.int .i64 x0, .int .i64 x1])
  f8 : d 8 = true → x14 = (.slice (some ⟨gb, 0, none⟩) 2 2)
  f9 : d 9 = true → x15 = (.slice ra2 (ln + 2) rc2)
  f10 : d 10 = true → x5 = (.slice ra2 (ln + 2) rc2)
  o3_2 : d 3 = true → d 2 = true
  o5_3 : d 5 = true → d 3 = true
  o8_6 : d 8 = true → d 6 = true
  o9_5 : d 9 = true → d 5 = true
  o9_8 : d 9 = true → d 8 = true
  o10_9 : d 10 = true → d 9 = true
  bw : Below w2.heap.size w2 W
  r3 : d 3 = true → d 5 = false → W.ownsRow w2.heap.size 46 2 (.slice (some ⟨gm, 0, none⟩) 0 (ln + 3)) 0 []
  r5 : d 5 = true → d 9 = false → W.ownsRow w2.heap.size 46 2 (.slice ra1 ln rc1) ln (ecs l)
  n38 : d 3 = true → d 8 = true → d 5 = false → gm ≠ gb
  r8 : d 8 = true → d 9 = false → W.heap[gb]? = some (.cells #[.int .i64 x0, .int .i64 x1, .int .i64 x0, .int .i64 x1] 46)
  r9 : d 9 = true → W.ownsRow w2.heap.size 46 2 (.slice ra2 (ln + 2) rc2) (ln + 2) (ecs (l ++ [(x0, x1), (x0, x1)]))

set_option maxHeartbeats 4000000 in
set_option maxRecDepth 20000 in
theorem roomyE_any (x0 x1 : Int) (la : Option Addr) (ln lc : Nat) (l : List Ev) (w : World) (hl : l.length = ln) (hln : ln ≤ 900000) (ho : Oth w la ln lc (ecs l)) :
    Calls Try.prog 15 #[.slice la ln lc, .agg #[.int .i64 x0, .int .i64 x1]] w fun e w' => ∃ g rc, e = .returned (.slice (some ⟨g, 0, none⟩) ln rc) ∧ Below w.heap.size w w' ∧ w'.ownsRow (w.heap.size + 1) 46 2 (.slice (some ⟨g, 0, none⟩) (ln + 2) rc) (ln + 2) (ecs (l ++ [(x0, x1), (x0, x1)])) ∧ w.heap.size + 1 ≤ g := by
  have HLN : Hid (ln ≤ 900000) := hln
  have HLL : Hid (l.length = ln) := hl
  have HMK : Hid (∀ W : World, (Instr.makeSlice 41 (.int .i64 0) (.int .i64 ((ln : Int) + 3))).run Try.prog W = .ok (.slice (some ⟨W.heap.size, 0, none⟩) 0 (ln + 3)) (W.alloc (.cells (madeCells #[.int .i64 0, .int .i64 0] ((ln + 3) * 2)) 46))) := make46 ln hln
  have HBW : Hid (Below w.heap.size w (w.alloc (Obj.cells #[.int .i64 x0, .int .i64 x1] 46))) := below_alloc _ _
  have HBX : Hid ((w.alloc (Obj.cells #[.int .i64 x0, .int .i64 x1] 46)).heap[w.heap.size]? = some (.cells #[.int .i64 x0, .int .i64 x1] 46)) := heap_alloc_new _ _
  have HOT0 : Hid (Oth (w.alloc (Obj.cells #[.int .i64 x0, .int .i64 x1] 46)) la ln lc (ecs l)) := ho.below (below_alloc _ _)
  have HSZ : Hid ((w.alloc (Obj.cells #[.int .i64 x0, .int .i64 x1] 46)).heap.size = w.heap.size + 1) := by show _ = _; simp
  clear hl hln ho
  go_enter Try.func15, Try.ntmps15
  go_upto_region 1 with fail
  generalize w.alloc (Obj.cells #[.int .i64 x0, .int .i64 x1] 46) = w2 at HBW HBX HOT0 HSZ ⊢
  obtain ⟨bx, HBXN⟩ : ∃ bx, Hid (w.heap.size = bx) := ⟨_, (rfl : w.heap.size = _)⟩
  rw [HBXN.out] at HBX ⊢
  have HOT : Hid (∀ W, Below w2.heap.size w2 W → Oth W la ln lc (ecs l)) := fun W hb => HOT0.out.below hb
  refine wp_region_free mixed (fun a0 d a W => ∃ (gm : Nat) (ra1 : Option Addr) (rc1 : Nat) (gb : Nat) (ra2 : Option Addr) (rc2 : Nat) (x5 x6 x7 x8 x9 x10 x11 x12 x13 x14 x15 : Value), a = (((((((((((a0.put (some 5) x5).put (some 6) x6).put (some 7) x7).put (some 8) x8).put (some 9) x9).put (some 10) x10).put (some 11) x11).put (some 12) x12).put (some 13) x13).put (some 14) x14).put (some 15) x15) ∧ Hid (RRo w2 l la ln lc x0 x1 gm ra1 rc1 gb ra2 rc2 d x5 x6 x7 x8 x9 x10 x11 x12 x13 x14 x15 W)) (by kernel_rfl) ⟨0, none, 0, 0, none, 0, undef, undef, undef, undef, undef, undef, undef, undef, undef, undef, undef, by first | (simp only [Act.put, List.setIfInBounds_toArray, List.set_cons_zero, List.set_cons_succ]; done) | (simp only [Act.put, List.setIfInBounds_toArray, List.set_cons_zero, List.set_cons_succ]; rfl), ?_⟩ ?_ ?_
  · exact ⟨fun h => no_way h, fun h => no_way h, fun h => no_way h, fun h => no_way h, fun h => no_way h, fun h => no_way h, fun h => no_way h, fun h => no_way h, fun h => no_way h, fun h => no_way h, fun h => no_way h, fun h => no_way h, fun h => no_way h, fun h => no_way h, fun h => no_way h, fun h => no_way h, fun h => no_way h, (Below.refl _ _).drew, fun h => no_way h, fun h => no_way h, fun h => no_way h, fun h => no_way h, fun h => no_way h⟩
  · simp only [StepAll, and_true]
    refine ⟨?_, ?_, ?_, ?_, ?_, ?_, ?_, ?_, ?_, ?_, ?_⟩
    · intro d a W hI hd hdep
      obtain ⟨gm, ra1, rc1, gb, ra2, rc2, x5, x6, x7, x8, x9, x10, x11, x12, x13, x14, x15, rfl, hF⟩ := hI
      clear hdep hd
      intro K hK
      simp only [Act.put, List.setIfInBounds_toArray, List.set_cons_zero, List.set_cons_succ]
      go_simp
      refine hK.out _ _ ⟨gm, ra1, rc1, gb, ra2, rc2, x5, (.slice la ln lc), x7, x8, x9, x10, x11, x12, x13, x14, x15, by first | (simp only [Act.put, List.setIfInBounds_toArray, List.set_cons_zero, List.set_cons_succ]; done) | (simp only [Act.put, List.setIfInBounds_toArray, List.set_cons_zero, List.set_cons_succ]; rfl), ?_⟩
      exact ⟨fun _ => rfl, fun h => hF.out.f1 (by simpa using h), fun h => hF.out.f2 (by simpa using h), fun h => hF.out.f3 (by simpa using h), fun h => hF.out.f4 (by simpa using h), fun h => hF.out.f5 (by simpa using h), fun h => hF.out.f6 (by simpa using h), fun h => hF.out.f7 (by simpa using h), fun h => hF.out.f8 (by simpa using h), fun h => hF.out.f9 (by simpa using h), fun h => hF.out.f10 (by simpa using h), fun h => by have := hF.out.o3_2 (by simpa using h); simpa using this, fun h => by have := hF.out.o5_3 (by simpa using h); simpa using this, fun h => by have := hF.out.o8_6 (by simpa using h); simpa using this, fun h => by have := hF.out.o9_5 (by simpa using h); simpa using this, fun h => by have := hF.out.o9_8 (by simpa using h); simpa using this, fun h => by have := hF.out.o10_9 (by simpa using h); simpa using this, hF.out.bw, fun h h2 => hF.out.r3 (by simpa using h) (by simpa using h2), fun h h2 => hF.out.r5 (by simpa using h) (by simpa using h2), fun h h2 h3 => hF.out.n38 (by simpa using h) (by simpa using h2) (by simpa using h3), fun h h2 => hF.out.r8 (by simpa using h) (by simpa using h2), fun h => hF.out.r9 (by simpa using h)⟩
    · intro d a W hI hd hdep
      obtain ⟨gm, ra1, rc1, gb, ra2, rc2, x5, x6, x7, x8, x9, x10, x11, x12, x13, x14, x15, rfl, hF⟩ := hI
      have hd0 : d 0 = true := dep_of hdep 0 (by kernel_rfl)
      obtain rfl := hF.out.f0 hd0
      clear hdep hd hd0
      intro K hK
      simp only [Act.put, List.setIfInBounds_toArray, List.set_cons_zero, List.set_cons_succ]
      go_simp
      refine hK.out _ _ ⟨gm, ra1, rc1, gb, ra2, rc2, x5, (.slice la ln lc), (.int .i64 (ln : Int)), x8, x9, x10, x11, x12, x13, x14, x15, by first | (simp only [Act.put, List.setIfInBounds_toArray, List.set_cons_zero, List.set_cons_succ]; done) | (simp only [Act.put, List.setIfInBounds_toArray, List.set_cons_zero, List.set_cons_succ]; rfl), ?_⟩
      exact ⟨fun h => hF.out.f0 (by simpa using h), fun _ => rfl, fun h => hF.out.f2 (by simpa using h), fun h => hF.out.f3 (by simpa using h), fun h => hF.out.f4 (by simpa using h), fun h => hF.out.f5 (by simpa using h), fun h => hF.out.f6 (by simpa using h), fun h => hF.out.f7 (by simpa using h), fun h => hF.out.f8 (by simpa using h), fun h => hF.out.f9 (by simpa using h), fun h => hF.out.f10 (by simpa using h), fun h => by have := hF.out.o3_2 (by simpa using h); simpa using this, fun h => by have := hF.out.o5_3 (by simpa using h); simpa using this, fun h => by have := hF.out.o8_6 (by simpa using h); simpa using this, fun h => by have := hF.out.o9_5 (by simpa using h); simpa using this, fun h => by have := hF.out.o9_8 (by simpa using h); simpa using this, fun h => by have := hF.out.o10_9 (by simpa using h); simpa using this, hF.out.bw, fun h h2 => hF.out.r3 (by simpa using h) (by simpa using h2), fun h h2 => hF.out.r5 (by simpa using h) (by simpa using h2), fun h h2 h3 => hF.out.n38 (by simpa using h) (by simpa using h2) (by simpa using h3), fun h h2 => hF.out.r8 (by simpa using h) (by simpa using h2), fun h => hF.out.r9 (by simpa using h)⟩
    · intro d a W hI hd hdep
      obtain ⟨gm, ra1, rc1, gb, ra2, rc2, x5, x6, x7, x8, x9, x10, x11, x12, x13, x14, x15, rfl, hF⟩ := hI
      have hd1 : d 1 = true := dep_of hdep 1 (by kernel_rfl)
      obtain rfl := hF.out.f1 hd1
      have y1 := HLN.out
      have y2 : IntKind.i64.wrap ((ln : Int) + 3) = (ln : Int) + 3 := by rw [IntKind.wrap_i64]; omega
      clear hdep hd hd1
      intro K hK
      simp only [Act.put, List.setIfInBounds_toArray, List.set_cons_zero, List.set_cons_succ]
      go_simp
      refine hK.out _ _ ⟨gm, ra1, rc1, gb, ra2, rc2, x5, x6, (.int .i64 (ln : Int)), (.int .i64 ((ln : Int) + 3)), x9, x10, x11, x12, x13, x14, x15, by first | (simp only [Act.put, List.setIfInBounds_toArray, List.set_cons_zero, List.set_cons_succ]; done) | (simp only [Act.put, List.setIfInBounds_toArray, List.set_cons_zero, List.set_cons_succ]; rfl), ?_⟩
      exact ⟨fun h => hF.out.f0 (by simpa using h), fun h => hF.out.f1 (by simpa using h), fun _ => rfl, fun h => hF.out.f3 (by simpa using h), fun h => hF.out.f4 (by simpa using h), fun h => hF.out.f5 (by simpa using h), fun h => hF.out.f6 (by simpa using h), fun h => hF.out.f7 (by simpa using h), fun h => hF.out.f8 (by simpa using h), fun h => hF.out.f9 (by simpa using h), fun h => hF.out.f10 (by simpa using h), fun _ => by simp, fun h => by have := hF.out.o5_3 (by simpa using h); simpa using this, fun h => by have := hF.out.o8_6 (by simpa using h); simpa using this, fun h => by have := hF.out.o9_5 (by simpa using h); simpa using this, fun h => by have := hF.out.o9_8 (by simpa using h); simpa using this, fun h => by have := hF.out.o10_9 (by simpa using h); simpa using this, hF.out.bw, fun h h2 => hF.out.r3 (by simpa using h) (by simpa using h2), fun h h2 => hF.out.r5 (by simpa using h) (by simpa using h2), fun h h2 h3 => hF.out.n38 (by simpa using h) (by simpa using h2) (by simpa using h3), fun h h2 => hF.out.r8 (by simpa using h) (by simpa using h2), fun h => hF.out.r9 (by simpa using h)⟩
    · intro d a W hI hd hdep
      obtain ⟨gm, ra1, rc1, gb, ra2, rc2, x5, x6, x7, x8, x9, x10, x11, x12, x13, x14, x15, rfl, hF⟩ := hI
      have hd2 : d 2 = true := dep_of hdep 2 (by kernel_rfl)
      obtain rfl := hF.out.f2 hd2
      have e3_2 := hd2
      have HD5 : Hid (d 5 = false) := no_later hF.out.o5_3 hd
      have HD9 : Hid (d 9 = false) := no_later (fun h => hF.out.o5_3 (hF.out.o9_5 h)) hd
      have hmk := HMK.out W
      clear hdep hd hd2
      intro K hK
      simp only [Act.put, List.setIfInBounds_toArray, List.set_cons_zero, List.set_cons_succ]
      go_simp
      refine hK.out _ _ ⟨W.heap.size, ra1, rc1, gb, ra2, rc2, x5, x6, x7, (.int .i64 ((ln : Int) + 3)), (.slice (some ⟨W.heap.size, 0, none⟩) 0 (ln + 3)), x10, x11, x12, x13, x14, x15, by first | (simp only [Act.put, List.setIfInBounds_toArray, List.set_cons_zero, List.set_cons_succ]; done) | (simp only [Act.put, List.setIfInBounds_toArray, List.set_cons_zero, List.set_cons_succ]; rfl), ?_⟩
      have hB := below_alloc W (Obj.cells (madeCells #[.int .i64 0, .int .i64 0] ((ln + 3) * 2)) 46)
      have hrow := World.ownsRow_made (base := w2.heap.size) (e := 46) (size := 2) W (madeCells #[.int .i64 0, .int .i64 0] ((ln + 3) * 2)) (ln + 3) hF.out.bw.size (by have := HLN.out; unfold maxLen; omega) (size_madeCells _ _)
      exact ⟨fun h => hF.out.f0 (by simpa using h), fun h => hF.out.f1 (by simpa using h), fun h => hF.out.f2 (by simpa using h), fun _ => rfl, fun h => hF.out.f4 (by simpa using h), fun h => by have := HD5.out; simp [this] at h, fun h => hF.out.f6 (by simpa using h), fun h => hF.out.f7 (by simpa using h), fun h => hF.out.f8 (by simpa using h), fun h => by have := HD9.out; simp [this] at h, fun h => by have := hF.out.o10_9 (by simpa using h); have h9 := HD9.out; simp [this] at h9, fun _ => by simpa using e3_2, fun _ => by simp, fun h => by have := hF.out.o8_6 (by simpa using h); simpa using this, fun h => by have := hF.out.o9_5 (by simpa using h); simpa using this, fun h => by have := hF.out.o9_8 (by simpa using h); simpa using this, fun h => by have := hF.out.o10_9 (by simpa using h); simpa using this, hF.out.bw.trans (hB.mono hF.out.bw.size), fun _ _ => hrow, fun h => by have := HD5.out; simp [this] at h, fun _ h h2 => by have := heap_lt3 (hF.out.r8 (by simpa using h) (no_later hF.out.o9_5 (by simpa using h2))); omega, fun h h2 => tbox_next (hF.out.r8 (by simpa using h) (by simpa using h2)) hB, fun h => by have := HD9.out; simp [this] at h⟩
    · intro d a W hI hd hdep
      obtain ⟨gm, ra1, rc1, gb, ra2, rc2, x5, x6, x7, x8, x9, x10, x11, x12, x13, x14, x15, rfl, hF⟩ := hI
      clear hdep hd
      intro K hK
      simp only [Act.put, List.setIfInBounds_toArray, List.set_cons_zero, List.set_cons_succ]
      go_simp
      refine hK.out _ _ ⟨gm, ra1, rc1, gb, ra2, rc2, x5, x6, x7, x8, x9, (.slice la ln lc), x11, x12, x13, x14, x15, by first | (simp only [Act.put, List.setIfInBounds_toArray, List.set_cons_zero, List.set_cons_succ]; done) | (simp only [Act.put, List.setIfInBounds_toArray, List.set_cons_zero, List.set_cons_succ]; rfl), ?_⟩
      exact ⟨fun h => hF.out.f0 (by simpa using h), fun h => hF.out.f1 (by simpa using h), fun h => hF.out.f2 (by simpa using h), fun h => hF.out.f3 (by simpa using h), fun _ => rfl, fun h => hF.out.f5 (by simpa using h), fun h => hF.out.f6 (by simpa using h), fun h => hF.out.f7 (by simpa using h), fun h => hF.out.f8 (by simpa using h), fun h => hF.out.f9 (by simpa using h), fun h => hF.out.f10 (by simpa using h), fun h => by have := hF.out.o3_2 (by simpa using h); simpa using this, fun h => by have := hF.out.o5_3 (by simpa using h); simpa using this, fun h => by have := hF.out.o8_6 (by simpa using h); simpa using this, fun h => by have := hF.out.o9_5 (by simpa using h); simpa using this, fun h => by have := hF.out.o9_8 (by simpa using h); simpa using this, fun h => by have := hF.out.o10_9 (by simpa using h); simpa using this, hF.out.bw, fun h h2 => hF.out.r3 (by simpa using h) (by simpa using h2), fun h h2 => hF.out.r5 (by simpa using h) (by simpa using h2), fun h h2 h3 => hF.out.n38 (by simpa using h) (by simpa using h2) (by simpa using h3), fun h h2 => hF.out.r8 (by simpa using h) (by simpa using h2), fun h => hF.out.r9 (by simpa using h)⟩
    · intro d a W hI hd hdep
      obtain ⟨gm, ra1, rc1, gb, ra2, rc2, x5, x6, x7, x8, x9, x10, x11, x12, x13, x14, x15, rfl, hF⟩ := hI
      have hd3 : d 3 = true := dep_of hdep 3 (by kernel_rfl)
      have hd4 : d 4 = true := dep_of hdep 4 (by kernel_rfl)
      obtain rfl := hF.out.f3 hd3
      obtain rfl := hF.out.f4 hd4
      have e5_3 := hd3
      have hd5x : d 5 = false := hd
      have HD9 : Hid (d 9 = false) := no_later hF.out.o9_5 hd
      have hot := HOT.out W hF.out.bw
      obtain ⟨ra9, rc9, W2, hrun, hown, hgr, hor⟩ := app_ev (hF.out.r3 hd3 hd) hot HLL.out (by have := HLN.out; omega) hF.out.bw.size
      have hB : Below w2.heap.size w2 W2 := hF.out.bw.grown hgr hF.out.bw.size (fun k e => own_ge (hF.out.r3 hd3 hd) k e)
      rw [Nat.zero_add, List.nil_append] at hown
      rw [Nat.zero_add] at hrun
      clear hot
      clear hdep hd hd3 hd4
      intro K hK
      refine tstep_call_append (sv := .slice (some ⟨gm, 0, none⟩) 0 (ln + 3)) (xv := (.slice la ln lc)) (v := .slice ra9 ln rc9) (W1 := W2) (by rfl) _ _ 41 (by rfl) (by first | (simp only [Act.put, List.setIfInBounds_toArray, List.set_cons_zero, List.set_cons_succ]; done) | (simp only [Act.put, List.setIfInBounds_toArray, List.set_cons_zero, List.set_cons_succ]; rfl)) (by first | (simp only [Act.put, List.setIfInBounds_toArray, List.set_cons_zero, List.set_cons_succ]; done) | (simp only [Act.put, List.setIfInBounds_toArray, List.set_cons_zero, List.set_cons_succ]; rfl)) (by exact hrun) ?_
      simp only [Act.put, List.setIfInBounds_toArray, List.set_cons_zero, List.set_cons_succ]
      refine hK.out _ _ ⟨gm, ra9, rc9, gb, ra2, rc2, x5, x6, x7, x8, (.slice (some ⟨gm, 0, none⟩) 0 (ln + 3)), (.slice la ln lc), (.slice ra9 ln rc9), x12, x13, x14, x15, by first | (simp only [Act.put, List.setIfInBounds_toArray, List.set_cons_zero, List.set_cons_succ]; done) | (simp only [Act.put, List.setIfInBounds_toArray, List.set_cons_zero, List.set_cons_succ]; rfl), ?_⟩
      exact ⟨fun h => hF.out.f0 (by simpa using h), fun h => hF.out.f1 (by simpa using h), fun h => hF.out.f2 (by simpa using h), fun h => hF.out.f3 (by simpa using h), fun h => hF.out.f4 (by simpa using h), fun _ => rfl, fun h => hF.out.f6 (by simpa using h), fun h => hF.out.f7 (by simpa using h), fun h => hF.out.f8 (by simpa using h), fun h => by have := HD9.out; simp [this] at h, fun h => by have := hF.out.o10_9 (by simpa using h); have h9 := HD9.out; simp [this] at h9, fun h => by have := hF.out.o3_2 (by simpa using h); simpa using this, fun _ => by simpa using e5_3, fun h => by have := hF.out.o8_6 (by simpa using h); simpa using this, fun _ => by simp, fun h => by have := hF.out.o9_8 (by simpa using h); simpa using this, fun h => by have := hF.out.o10_9 (by simpa using h); simpa using this, hB, fun _ h => by simp at h, fun _ _ => hown, fun _ _ h => by simp at h, fun h h2 => by
          have h8 := hF.out.r8 (by simpa using h) (by simpa using h2)
          exact (hgr.block _ (heap_lt3 h8) fun e => hF.out.n38 e5_3 (by simpa using h) hd5x (by simpa [Value.ownBlock] using e.symm)).trans h8, fun h => by have := HD9.out; simp [this] at h⟩
    · intro d a W hI hd hdep
      obtain ⟨gm, ra1, rc1, gb, ra2, rc2, x5, x6, x7, x8, x9, x10, x11, x12, x13, x14, x15, rfl, hF⟩ := hI
      have q0 := tcell_blk (tbox_next HBX.out hF.out.bw) 0
      have q1 := tcell_blk (tbox_next HBX.out hF.out.bw) 1
      simp only [List.getElem?_toArray, List.getElem?_cons_zero, List.getElem?_cons_succ] at q0 q1
      clear hdep hd
      intro K hK
      simp only [Act.put, List.setIfInBounds_toArray, List.set_cons_zero, List.set_cons_succ]
      go_simp
      refine hK.out _ _ ⟨gm, ra1, rc1, gb, ra2, rc2, x5, x6, x7, x8, x9, x10, x11, (.agg #[.int .i64 x0, .int .i64 x1]), x13, x14, x15, by first | (simp only [Act.put, List.setIfInBounds_toArray, List.set_cons_zero, List.set_cons_succ]; done) | (simp only [Act.put, List.setIfInBounds_toArray, List.set_cons_zero, List.set_cons_succ]; rfl), ?_⟩
      exact ⟨fun h => hF.out.f0 (by simpa using h), fun h => hF.out.f1 (by simpa using h), fun h => hF.out.f2 (by simpa using h), fun h => hF.out.f3 (by simpa using h), fun h => hF.out.f4 (by simpa using h), fun h => hF.out.f5 (by simpa using h), fun _ => rfl, fun h => hF.out.f7 (by simpa using h), fun h => hF.out.f8 (by simpa using h), fun h => hF.out.f9 (by simpa using h), fun h => hF.out.f10 (by simpa using h), fun h => by have := hF.out.o3_2 (by simpa using h); simpa using this, fun h => by have := hF.out.o5_3 (by simpa using h); simpa using this, fun _ => by simp, fun h => by have := hF.out.o9_5 (by simpa using h); simpa using this, fun h => by have := hF.out.o9_8 (by simpa using h); simpa using this, fun h => by have := hF.out.o10_9 (by simpa using h); simpa using this, hF.out.bw, fun h h2 => hF.out.r3 (by simpa using h) (by simpa using h2), fun h h2 => hF.out.r5 (by simpa using h) (by simpa using h2), fun h h2 h3 => hF.out.n38 (by simpa using h) (by simpa using h2) (by simpa using h3), fun h h2 => hF.out.r8 (by simpa using h) (by simpa using h2), fun h => hF.out.r9 (by simpa using h)⟩
    · intro d a W hI hd hdep
      obtain ⟨gm, ra1, rc1, gb, ra2, rc2, x5, x6, x7, x8, x9, x10, x11, x12, x13, x14, x15, rfl, hF⟩ := hI
      have q0 := tcell_blk (tbox_next HBX.out hF.out.bw) 0
      have q1 := tcell_blk (tbox_next HBX.out hF.out.bw) 1
      simp only [List.getElem?_toArray, List.getElem?_cons_zero, List.getElem?_cons_succ] at q0 q1
      clear hdep hd
      intro K hK
      simp only [Act.put, List.setIfInBounds_toArray, List.set_cons_zero, List.set_cons_succ]
      go_simp
      refine hK.out _ _ ⟨gm, ra1, rc1, gb, ra2, rc2, x5, x6, x7, x8, x9, x10, x11, x12, (.agg #[.int .i64 x0, .int .i64 x1]), x14, x15, by first | (simp only [Act.put, List.setIfInBounds_toArray, List.set_cons_zero, List.set_cons_succ]; done) | (simp only [Act.put, List.setIfInBounds_toArray, List.set_cons_zero, List.set_cons_succ]; rfl), ?_⟩
      exact ⟨fun h => hF.out.f0 (by simpa using h), fun h => hF.out.f1 (by simpa using h), fun h => hF.out.f2 (by simpa using h), fun h => hF.out.f3 (by simpa using h), fun h => hF.out.f4 (by simpa using h), fun h => hF.out.f5 (by simpa using h), fun h => hF.out.f6 (by simpa using h), fun _ => rfl, fun h => hF.out.f8 (by simpa using h), fun h => hF.out.f9 (by simpa using h), fun h => hF.out.f10 (by simpa using h), fun h => by have := hF.out.o3_2 (by simpa using h); simpa using this, fun h => by have := hF.out.o5_3 (by simpa using h); simpa using this, fun h => by have := hF.out.o8_6 (by simpa using h); simpa using this, fun h => by have := hF.out.o9_5 (by simpa using h); simpa using this, fun h => by have := hF.out.o9_8 (by simpa using h); simpa using this, fun h => by have := hF.out.o10_9 (by simpa using h); simpa using this, hF.out.bw, fun h h2 => hF.out.r3 (by simpa using h) (by simpa using h2), fun h h2 => hF.out.r5 (by simpa using h) (by simpa using h2), fun h h2 h3 => hF.out.n38 (by simpa using h) (by simpa using h2) (by simpa using h3), fun h h2 => hF.out.r8 (by simpa using h) (by simpa using h2), fun h => hF.out.r9 (by simpa using h)⟩
    · intro d a W hI hd hdep
      obtain ⟨gm, ra1, rc1, gb, ra2, rc2, x5, x6, x7, x8, x9, x10, x11, x12, x13, x14, x15, rfl, hF⟩ := hI
      have hd6 : d 6 = true := dep_of hdep 6 (by kernel_rfl)
      have hd7 : d 7 = true := dep_of hdep 7 (by kernel_rfl)
      obtain rfl := hF.out.f6 hd6
      obtain rfl := hF.out.f7 hd7
      have e8_6 := hd6
      have HD9 : Hid (d 9 = false) := no_later hF.out.o9_8 hd
      clear hdep hd hd6 hd7
      intro K hK
      simp only [Act.put, List.setIfInBounds_toArray, List.set_cons_zero, List.set_cons_succ]
      go_simp
      refine hK.out _ _ ⟨gm, ra1, rc1, W.heap.size, ra2, rc2, x5, x6, x7, x8, x9, x10, x11, (.agg #[.int .i64 x0, .int .i64 x1]), (.agg #[.int .i64 x0, .int .i64 x1]), (.slice (some ⟨W.heap.size, 0, none⟩) 2 2), x15, by first | (simp only [Act.put, List.setIfInBounds_toArray, List.set_cons_zero, List.set_cons_succ]; done) | (simp only [Act.put, List.setIfInBounds_toArray, List.set_cons_zero, List.set_cons_succ]; rfl), ?_⟩
      have hB := below_alloc W (Obj.cells #[.int .i64 x0, .int .i64 x1, .int .i64 x0, .int .i64 x1] 46)
      exact ⟨fun h => hF.out.f0 (by simpa using h), fun h => hF.out.f1 (by simpa using h), fun h => hF.out.f2 (by simpa using h), fun h => hF.out.f3 (by simpa using h), fun h => hF.out.f4 (by simpa using h), fun h => hF.out.f5 (by simpa using h), fun h => hF.out.f6 (by simpa using h), fun h => hF.out.f7 (by simpa using h), fun _ => rfl, fun h => by have := HD9.out; simp [this] at h, fun h => by have := hF.out.o10_9 (by simpa using h); have h9 := HD9.out; simp [this] at h9, fun h => by have := hF.out.o3_2 (by simpa using h); simpa using this, fun h => by have := hF.out.o5_3 (by simpa using h); simpa using this, fun _ => by simpa using e8_6, fun h => by have := hF.out.o9_5 (by simpa using h); simpa using this, fun _ => by simp, fun h => by have := hF.out.o10_9 (by simpa using h); simpa using this, hF.out.bw.trans (hB.mono hF.out.bw.size), fun h h2 => own_below (hF.out.r3 (by simpa using h) (by simpa using h2)) hB, fun h h2 => own_below (hF.out.r5 (by simpa using h) (by simpa using h2)) hB, fun h _ h2 => by have := ((hF.out.r3 (by simpa using h) (by simpa using h2)).lt gm rfl).2; omega, fun _ _ => heap_alloc_new _ _, fun h => by have := HD9.out; simp [this] at h⟩
    · intro d a W hI hd hdep
      obtain ⟨gm, ra1, rc1, gb, ra2, rc2, x5, x6, x7, x8, x9, x10, x11, x12, x13, x14, x15, rfl, hF⟩ := hI
      have hd5 : d 5 = true := dep_of hdep 5 (by kernel_rfl)
      have hd8 : d 8 = true := dep_of hdep 8 (by kernel_rfl)
      obtain rfl := hF.out.f5 hd5
      obtain rfl := hF.out.f8 hd8
      have e9_5 := hd5
      have e9_8 := hd8
      have HD10 : Hid (d 10 = false) := no_later hF.out.o10_9 hd
      have hot : Oth W (some ⟨gb, 0, none⟩) 2 2 (ecs [(x0, x1), (x0, x1)]) := oth_two (hF.out.r8 hd8 hd)
      obtain ⟨ra9, rc9, W2, hrun, hown, hgr, hor⟩ := app_ev (l := [(x0, x1), (x0, x1)]) (hF.out.r5 hd5 hd) hot rfl (by have := HLN.out; omega) hF.out.bw.size
      have hB : Below w2.heap.size w2 W2 := hF.out.bw.grown hgr hF.out.bw.size (fun k e => own_ge (hF.out.r5 hd5 hd) k e)
      have hd9x := hd
      clear hot
      clear hdep hd hd5 hd8
      intro K hK
      refine tstep_call_append (sv := .slice ra1 ln rc1) (xv := .slice (some ⟨gb, 0, none⟩) 2 2) (v := .slice ra9 (ln + 2) rc9) (W1 := W2) (by rfl) _ _ 41 (by rfl) (by first | (simp only [Act.put, List.setIfInBounds_toArray, List.set_cons_zero, List.set_cons_succ]; done) | (simp only [Act.put, List.setIfInBounds_toArray, List.set_cons_zero, List.set_cons_succ]; rfl)) (by first | (simp only [Act.put, List.setIfInBounds_toArray, List.set_cons_zero, List.set_cons_succ]; done) | (simp only [Act.put, List.setIfInBounds_toArray, List.set_cons_zero, List.set_cons_succ]; rfl)) (by exact hrun) ?_
      simp only [Act.put, List.setIfInBounds_toArray, List.set_cons_zero, List.set_cons_succ]
      refine hK.out _ _ ⟨gm, ra1, rc1, gb, ra9, rc9, x5, x6, x7, x8, x9, x10, (.slice ra1 ln rc1), x12, x13, (.slice (some ⟨gb, 0, none⟩) 2 2), (.slice ra9 (ln + 2) rc9), by first | (simp only [Act.put, List.setIfInBounds_toArray, List.set_cons_zero, List.set_cons_succ]; done) | (simp only [Act.put, List.setIfInBounds_toArray, List.set_cons_zero, List.set_cons_succ]; rfl), ?_⟩
      exact ⟨fun h => hF.out.f0 (by simpa using h), fun h => hF.out.f1 (by simpa using h), fun h => hF.out.f2 (by simpa using h), fun h => hF.out.f3 (by simpa using h), fun h => hF.out.f4 (by simpa using h), fun h => hF.out.f5 (by simpa using h), fun h => hF.out.f6 (by simpa using h), fun h => hF.out.f7 (by simpa using h), fun h => hF.out.f8 (by simpa using h), fun _ => rfl, fun h => by have := HD10.out; simp [this] at h, fun h => by have := hF.out.o3_2 (by simpa using h); simpa using this, fun h => by have := hF.out.o5_3 (by simpa using h); simpa using this, fun h => by have := hF.out.o8_6 (by simpa using h); simpa using this, fun _ => by simpa using e9_5, fun _ => by simpa using e9_8, fun _ => by simp, hB, fun _ h => by simp [e9_5] at h, fun _ h => by simp at h, fun _ _ h => by simp [e9_5] at h, fun _ h => by simp at h, fun _ => by rw [ecs_append]; exact hown⟩
    · intro d a W hI hd hdep
      obtain ⟨gm, ra1, rc1, gb, ra2, rc2, x5, x6, x7, x8, x9, x10, x11, x12, x13, x14, x15, rfl, hF⟩ := hI
      have hd9 : d 9 = true := dep_of hdep 9 (by kernel_rfl)
      obtain rfl := hF.out.f9 hd9
      have e10_9 := hd9
      clear hdep hd hd9
      intro K hK
      simp only [Act.put, List.setIfInBounds_toArray, List.set_cons_zero, List.set_cons_succ]
      go_simp
      refine hK.out _ _ ⟨gm, ra1, rc1, gb, ra2, rc2, (.slice ra2 (ln + 2) rc2), x6, x7, x8, x9, x10, x11, x12, x13, x14, (.slice ra2 (ln + 2) rc2), by first | (simp only [Act.put, List.setIfInBounds_toArray, List.set_cons_zero, List.set_cons_succ]; done) | (simp only [Act.put, List.setIfInBounds_toArray, List.set_cons_zero, List.set_cons_succ]; rfl), ?_⟩
      exact ⟨fun h => hF.out.f0 (by simpa using h), fun h => hF.out.f1 (by simpa using h), fun h => hF.out.f2 (by simpa using h), fun h => hF.out.f3 (by simpa using h), fun h => hF.out.f4 (by simpa using h), fun h => hF.out.f5 (by simpa using h), fun h => hF.out.f6 (by simpa using h), fun h => hF.out.f7 (by simpa using h), fun h => hF.out.f8 (by simpa using h), fun h => hF.out.f9 (by simpa using h), fun _ => rfl, fun h => by have := hF.out.o3_2 (by simpa using h); simpa using this, fun h => by have := hF.out.o5_3 (by simpa using h); simpa using this, fun h => by have := hF.out.o8_6 (by simpa using h); simpa using this, fun h => by have := hF.out.o9_5 (by simpa using h); simpa using this, fun h => by have := hF.out.o9_8 (by simpa using h); simpa using this, fun _ => by simpa using e10_9, hF.out.bw, fun h h2 => hF.out.r3 (by simpa using h) (by simpa using h2), fun h h2 => hF.out.r5 (by simpa using h) (by simpa using h2), fun h h2 h3 => hF.out.n38 (by simpa using h) (by simpa using h2) (by simpa using h3), fun h h2 => hF.out.r8 (by simpa using h) (by simpa using h2), fun h => hF.out.r9 (by simpa using h)⟩
  · intro d a W hI hall
    obtain ⟨gm, ra1, rc1, gb, ra2, rc2, x5, x6, x7, x8, x9, x10, x11, x12, x13, x14, x15, rfl, hF⟩ := hI
    simp only [List.length_cons, List.length_nil] at hall
    obtain rfl := hF.out.f0 (hall 0 (by omega))
    obtain rfl := hF.out.f1 (hall 1 (by omega))
    obtain rfl := hF.out.f2 (hall 2 (by omega))
    obtain rfl := hF.out.f3 (hall 3 (by omega))
    obtain rfl := hF.out.f4 (hall 4 (by omega))
    obtain rfl := hF.out.f5 (hall 5 (by omega))
    obtain rfl := hF.out.f6 (hall 6 (by omega))
    obtain rfl := hF.out.f7 (hall 7 (by omega))
    obtain rfl := hF.out.f8 (hall 8 (by omega))
    obtain rfl := hF.out.f9 (hall 9 (by omega))
    obtain rfl := hF.out.f10 (hall 10 (by omega))
    have HW : Hid (Below w2.heap.size w2 W) := hF.out.bw
    have HRR : Hid (W.ownsRow w2.heap.size 46 2 (.slice ra2 (ln + 2) rc2) (ln + 2) (ecs (l ++ [(x0, x1), (x0, x1)]))) := hF.out.r9 (hall 9 (by omega))
    clear hF hall
    simp only [Act.put, List.setIfInBounds_toArray, List.set_cons_zero, List.set_cons_succ]
    obtain ⟨g, HGA⟩ : ∃ g, Hid (ra2 = some ⟨g, 0, none⟩) := by
      rcases HRR.out.2 with ⟨e, -⟩ | ⟨g, cap, cur, e, -⟩
      · simp at e
      · simp only [Value.slice.injEq] at e
        exact ⟨g, e.1⟩
    have HRC : Hid (ln + 2 ≤ rc2) := by
      rcases HRR.out.2 with ⟨e, -⟩ | ⟨g, cap, cur, e, -, -, h, -⟩
      · simp at e
      · simp only [Value.slice.injEq] at e
        obtain ⟨-, -, rfl⟩ := e
        exact h
    have e0 := HGA.out
    subst e0
    have y1 : (ln : Int) ≤ (rc2 : Int) := by have := HRC.out; omega
    have y2 : ln ≤ rc2 := by have := HRC.out; omega
    have y3 : (0 : Int) ≤ (ln : Int) := by omega
    go_wp2_with fail
    go_ret
    exact ⟨g, rc2, rfl, HBW.out.trans (HW.out.mono HBW.out.size), by rw [← HSZ.out]; exact HRR.out, by rw [← HSZ.out]; exact own_ge HRR.out g rfl⟩

set_option maxHeartbeats 4000000 in
set_option maxRecDepth 20000 in
theorem filledE_any (x0 x1 : Int) (g ln rc : Nat) (base : Nat) (l : List Ev) (w : World) (hl : l.length = ln) (hln : ln ≤ 900000) (h : w.ownsRow base 46 2 (.slice (some ⟨g, 0, none⟩) (ln + 2) rc) (ln + 2) (ecs (l ++ [(x0, x1), (x0, x1)]))) :
    Calls Try.prog 19 #[.slice (some ⟨g, 0, none⟩) ln rc, .agg #[.int .i64 x0, .int .i64 x1]] w fun e w' => e = .returned (.bool true) ∧ Below w.heap.size w w' := by
  have hrc : ln + 2 ≤ rc ∧ rc ≤ 9223372036854775807 := by
    rcases h.2 with ⟨e, -⟩ | ⟨g, cap, cur, e, -, -, h, h2, -⟩
    · simp at e
    · simp only [Value.slice.injEq] at e
      obtain ⟨-, -, rfl⟩ := e
      unfold maxLen at h2
      exact ⟨h, h2⟩
  have hev : Evs w (.slice (some ⟨g, 0, none⟩) (ln + 2) rc) (l ++ [(x0, x1), (x0, x1)]) := by
    have hlen : (l ++ [(x0, x1), (x0, x1)]).length = ln + 2 := by simp [hl]
    rw [← hlen] at h ⊢
    exact evs_of_own h (by rw [hlen]; omega)
  obtain ⟨ao, cap, e1, -, hc⟩ := hev
  simp only [Value.slice.injEq] at e1
  obtain ⟨rfl, -, rfl⟩ := e1
  obtain ⟨b, o, e2, hb, hc⟩ := hc.resolve_left (by simp)
  simp only [Option.some.injEq, Addr.mk.injEq, and_true] at e2
  obtain ⟨rfl, rfl⟩ := e2
  have h0 := hc ln (by simp [hl])
  have h1 := hc (ln + 1) (by simp [hl])
  have g0 : (l ++ [(x0, x1), (x0, x1)])[ln]'(by simp [hl]) = (x0, x1) := by subst hl; simp
  have g1 : (l ++ [(x0, x1), (x0, x1)])[ln + 1]'(by simp [hl]) = (x0, x1) := by subst hl; simp
  rw [g0] at h0
  rw [g1] at h1
  simp only [Nat.zero_add] at h0 h1
  have HB : Hid (Below w.heap.size w (w.alloc (Obj.cells #[.int .i64 x0, .int .i64 x1] 46))) := below_alloc _ _
  have c0 : (w.alloc (Obj.cells #[.int .i64 x0, .int .i64 x1] 46)).cell? ⟨g, ln * 2, none⟩ = some (.int .i64 x0) := (HB.out.cell (p := ⟨g, ln * 2, none⟩) hb).trans h0.1
  have c1 : (w.alloc (Obj.cells #[.int .i64 x0, .int .i64 x1] 46)).cell? ⟨g, ln * 2 + 1, none⟩ = some (.int .i64 x1) := (HB.out.cell (p := ⟨g, ln * 2 + 1, none⟩) hb).trans h0.2
  have c2 : (w.alloc (Obj.cells #[.int .i64 x0, .int .i64 x1] 46)).cell? ⟨g, (ln + 1) * 2, none⟩ = some (.int .i64 x0) := (HB.out.cell (p := ⟨g, (ln + 1) * 2, none⟩) hb).trans h1.1
  have c3 : (w.alloc (Obj.cells #[.int .i64 x0, .int .i64 x1] 46)).cell? ⟨g, (ln + 1) * 2 + 1, none⟩ = some (.int .i64 x1) := (HB.out.cell (p := ⟨g, (ln + 1) * 2 + 1, none⟩) hb).trans h1.2
  have d0 := tcell_blk (heap_alloc_new w (Obj.cells #[.int .i64 x0, .int .i64 x1] 46)) 0
  have d1 := tcell_blk (heap_alloc_new w (Obj.cells #[.int .i64 x0, .int .i64 x1] 46)) 1
  simp only [List.getElem?_toArray, List.getElem?_cons_zero, List.getElem?_cons_succ] at d0 d1
  clear hc h h0 h1 g0 g1
  have HC : Hid (ln + 2 ≤ rc) := hrc.1
  have k1 : ((ln : Int) + 2) ≤ (rc : Int) := by omega
  have k2 : (0 : Int) ≤ (ln : Int) + 2 := by omega
  have k3 : ln + 2 ≤ rc := hrc.1
  have k4 : (ln : Int) < ((ln : Int) + 2) := by omega
  have k5 : ((ln : Int) + 1) < ((ln : Int) + 2) := by omega
  have k6 : IntKind.i64.wrap ((ln : Int) + 1) = ((ln + 1 : Nat) : Int) := by rw [IntKind.wrap_i64]; omega
  have k7 : IntKind.i64.wrap ((ln : Int) + 2) = ((ln + 2 : Nat) : Int) := by rw [IntKind.wrap_i64]; omega
  have e0 : (x0 == x0) = true := by simp
  have e1 : (x1 == x1) = true := by simp
  clear hrc
  go_enter Try.func19, Try.ntmps19
  go_upto_region 2 with fail
  generalize w.alloc (Obj.cells #[.int .i64 x0, .int .i64 x1] 46) = w2 at HB c0 c1 c2 c3 d0 d1 ⊢
  go_quiet (fail)
  have HB2 : Hid (Below w.heap.size w (w2.drewN nq)) := HB.out.trans ((Go.Joins.below_draws _ _ _).mono HB.out.size)
  generalize w2.drewN nq = w3 at HB2 ⊢
  clear c0 c1 c2 c3 d0 d1
  go_wp2_with fail
  go_ret
  exact ⟨by simp, HB2.out⟩
end Go.Proofs.Ytldfiofgknmcgab
