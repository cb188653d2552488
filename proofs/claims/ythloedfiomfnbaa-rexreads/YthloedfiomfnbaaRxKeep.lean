/-
  The contracts of pushkeep.letter, star and two; the two fixed texts.
-/
import Derived.Test.YthloedfiomfnbaaRxParse
import Derived.Test.YthloedfiomfnbaaRxPrint
import Derived.Test.YthloedfiomfnbaaSameRex
import Derived.ProofKit
namespace Go.Proofs.Ythloedfiomfnbaa
open Go.RowKit
open Cls Rex Txt

theorem tx1 : text (.alt (.byte (range 97 97)) (.star (.byte (range 98 98)))) = [97, 124, 98, 42] := by kernel_rfl
theorem tx2 : text (.cat (.byte (range 97 97)) (.byte (range 10 10))) = [97, 92, 110] := by kernel_rfl
theorem er1 : err (.mk 5 Cls.empty [.mk 3 (range 97 97) [], .mk 6 Cls.empty [.mk 3 (range 98 98) []]]) = 0 := by kernel_rfl
theorem er2 : err (.mk 4 Cls.empty [.mk 3 (range 97 97) [], .mk 3 (range 10 10) []]) = 0 := by kernel_rfl
theorem ne1 : range 97 97 ≠ Cls.empty := by decide
theorem ne2 : range 98 98 ≠ Cls.empty := by decide
theorem ne3 : range 10 10 ≠ Cls.empty := by decide
theorem err_all {t : T} (h : err t = 0) : ∃ x, Is t x ∧ x.nodes ≤ 100 ∧ x.deep ≤ 30 := by
  unfold err at h
  obtain ⟨x, h1, h2, h3, h4⟩ := chk_right (t := t) (d := 1) (n := 0) (n' := (chk t 1 0).2) (Prod.ext h rfl)
  exact ⟨x, h1, by omega, by omega⟩
theorem is_sz {t : T} {x : E} (h : Is t x) : t.sz = x.nodes := by
  induction h with
  | none => rfl
  | emp => rfl
  | byte h => rfl
  | cat h1 h2 e1 e2 => simp only [T.sz, szL, E.nodes]; omega
  | alt h1 h2 e1 e2 => simp only [T.sz, szL, E.nodes]; omega
  | star h e => simp only [T.sz, szL, E.nodes]; omega
theorem is_same2 {t : T} {x y : E} (h1 : Is t x) (h2 : Is t y) : x = y := by
  induction h1 generalizing y with
  | none => cases h2; rfl
  | emp => cases h2; rfl
  | byte h => cases h2; rfl
  | cat _ _ ih1 ih2 => cases h2 with | cat a b => rw [ih1 a, ih2 b]
  | alt _ _ ih1 ih2 => cases h2 with | alt a b => rw [ih1 a, ih2 b]
  | star _ ih => cases h2 with | star a => rw [ih a]
set_option maxHeartbeats 6400000 in
set_option maxRecDepth 20000 in
theorem letter_any (b : Int) (h1 : 0 ≤ b) (h2 : b < 256) (w : World) :
    Calls Try.prog 15 #[.int .i64 b] w fun e w' => e = .returned (.agg #[.int .i64 3, .int .u64 ((range b b).1.toNat : Int), .int .u64 ((range b b).2.1.toNat : Int), .int .u64 ((range b b).2.2.1.toNat : Int), .int .u64 ((range b b).2.2.2.toNat : Int), .slice none 0 0]) ∧ Below w.heap.size w w' := by
  have HR0 : Hid ((w.alloc (Obj.cells #[.int .i64 0, .int .u64 0, .int .u64 0, .int .u64 0, .int .u64 0, .slice none 0 0] 27)).rowIs w.heap.size 27 6 (fun i => match i with | 0 => .int .i64 0 | 5 => .slice none 0 0 | _ => .int .u64 0)) := row_zero6 w
  have HB0 : Hid (Below w.heap.size w (w.alloc (Obj.cells #[.int .i64 0, .int .u64 0, .int .u64 0, .int .u64 0, .int .u64 0, .slice none 0 0] 27))) := bal _ _
  have hc := range_any b b (by omega) (by omega) (by omega) (w.alloc (Obj.cells #[.int .i64 0, .int .u64 0, .int .u64 0, .int .u64 0, .int .u64 0, .slice none 0 0] 27))
  clear h1 h2
  go_enter Try.func15, Try.ntmps15
  go_wp2_with fail
  refine hc.mono ?_
  rintro _ w1 ⟨rfl, hb1⟩
  have rr := HR0.out.of_block (hb1.block _ HR0.out.lt)
  have HR1 : Hid (w1.rowIs w.heap.size 27 6 (fun i => match i with | 0 => .int .i64 0 | 5 => .slice none 0 0 | _ => .int .u64 0)) := rr
  have a0 := rr.cell (i := 0) (by omega)
  have a1 := rr.cell (i := 1) (by omega)
  have a2 := rr.cell (i := 2) (by omega)
  have a3 := rr.cell (i := 3) (by omega)
  have a4 := rr.cell (i := 4) (by omega)
  have a5 := rr.cell (i := 5) (by omega)
  have f0 := rr.frozen 0
  have f1 := rr.frozen 1
  have f2 := rr.frozen 2
  have f3 := rr.frozen 3
  have f4 := rr.frozen 4
  have f5 := rr.frozen 5
  simp only [] at a0 a1 a2 a3 a4 a5
  have HB1 : Hid (Below w.heap.size w w1) := HB0.out.trans (hb1.mono HB0.out.size)
  clear hc hb1 rr HR0 HB0
  go_wp2_with fail
  obtain ⟨w7, HW7⟩ : ∃ w7, Hid (((((((w1.setCell ⟨w.heap.size, 0, none⟩ (.int .i64 3)).setCell ⟨w.heap.size, 1, none⟩ (.int .u64 ((range b b).1.toNat : Int))).setCell ⟨w.heap.size, 2, none⟩ (.int .u64 ((range b b).2.1.toNat : Int))).setCell ⟨w.heap.size, 3, none⟩ (.int .u64 ((range b b).2.2.1.toNat : Int))).setCell ⟨w.heap.size, 4, none⟩ (.int .u64 ((range b b).2.2.2.toNat : Int))).setCell ⟨w.heap.size, 5, none⟩ (.slice none 0 0)) = w7) := ⟨_, (rfl : _ = _)⟩
  rw [HW7.out]
  have HSET := row_six HR1.out (.int .i64 3) (.int .u64 ((range b b).1.toNat : Int)) (.int .u64 ((range b b).2.1.toNat : Int)) (.int .u64 ((range b b).2.2.1.toNat : Int)) (.int .u64 ((range b b).2.2.2.toNat : Int)) (.slice none 0 0)
  have HBL : Hid (Below w.heap.size w w7) := by
    show Below _ _ _
    rw [← HW7.out]
    exact (((((HB1.out.setCell (Nat.le_refl _) _).setCell (Nat.le_refl _) _).setCell (Nat.le_refl _) _).setCell (Nat.le_refl _) _).setCell (Nat.le_refl _) _).setCell (Nat.le_refl _) _
  rw [HW7.out] at HSET
  have v0 := HSET.cell (i := 0) (by omega)
  have v1 := HSET.cell (i := 1) (by omega)
  have v2 := HSET.cell (i := 2) (by omega)
  have v3 := HSET.cell (i := 3) (by omega)
  have v4 := HSET.cell (i := 4) (by omega)
  have v5 := HSET.cell (i := 5) (by omega)
  simp only [] at v0 v1 v2 v3 v4 v5
  clear HSET a0 a1 a2 a3 a4 a5 f0 f1 f2 f3 f4 f5
  exact bodyPost_ret (v := .agg #[.int .i64 3, .int .u64 ((range b b).1.toNat : Int), .int .u64 ((range b b).2.1.toNat : Int), .int .u64 ((range b b).2.2.1.toNat : Int), .int .u64 ((range b b).2.2.2.toNat : Int), .slice none 0 0]) (by simp [results, Try.results15, go_sem, v0, v1, v2, v3, v4, v5]) rfl ⟨rfl, HBL.out⟩
theorem rx_leaf (w : World) (B : Nat) (k : Int) (c : Cl) (hk : -9223372036854775808 ≤ k ∧ k ≤ 9223372036854775807) : Rx w B (v6 (k, c, none, 0, 0)) (.mk k c []) :=
  Rx.mk k c none 0 [] (fun _ => undef) hk (by simp) (Or.inl rfl) (fun i hi => absurd hi (by simp))
theorem rx_ry {w : World} {B : Nat} {v : Value} {t : T} (h : Rx w B v t) : Ry w (fun b => b < B) v t := by
  induction h with
  | mk k c ao cap kids vals hk hm hc hr ih => exact Ry.mk k c ao cap kids vals hk hm hc ih
set_option maxHeartbeats 6400000 in
set_option maxRecDepth 20000 in
theorem star_any (t : T) (q : R6) (w : World) (hx : Rx w w.heap.size (v6 q) t) :
    Calls Try.prog 16 #[v6 q] w fun e w' => ∃ q2 : R6, e = .returned (v6 q2) ∧ Rx w' w'.heap.size (v6 q2) (.mk 6 Cls.empty [t]) ∧ Below w.heap.size w w' := by
  have HX : Hid (Rx w w.heap.size (v6 q) t) := hx
  have e1 : (w.alloc (Obj.cells #[.int .i64 q.1, .int .u64 (q.2.1.1.toNat : Int), .int .u64 (q.2.1.2.1.toNat : Int), .int .u64 (q.2.1.2.2.1.toNat : Int), .int .u64 (q.2.1.2.2.2.toNat : Int), .slice q.2.2.1 q.2.2.2.1 q.2.2.2.2] 27)).heap.size = w.heap.size + 1 := by simp
  have e2 : ((w.alloc (Obj.cells #[.int .i64 q.1, .int .u64 (q.2.1.1.toNat : Int), .int .u64 (q.2.1.2.1.toNat : Int), .int .u64 (q.2.1.2.2.1.toNat : Int), .int .u64 (q.2.1.2.2.2.toNat : Int), .slice q.2.2.1 q.2.2.2.1 q.2.2.2.2] 27)).alloc (Obj.cells #[.int .i64 6, .int .u64 0, .int .u64 0, .int .u64 0, .int .u64 0, .slice (some ⟨w.heap.size + 1 + 1, 0, none⟩) 1 1] 27)).heap.size = w.heap.size + 1 + 1 := by simp
  have rq := ((row_of6 w (.int .i64 q.1) (.int .u64 (q.2.1.1.toNat : Int)) (.int .u64 (q.2.1.2.1.toNat : Int)) (.int .u64 (q.2.1.2.2.1.toNat : Int)) (.int .u64 (q.2.1.2.2.2.toNat : Int)) (.slice q.2.2.1 q.2.2.2.1 q.2.2.2.2)).alloc (Obj.cells #[.int .i64 0, .int .u64 0, .int .u64 0, .int .u64 0, .int .u64 0, .slice none 0 0] 27))
  have y0 := rq.cell (i := 0) (by omega)
  have y1 := rq.cell (i := 1) (by omega)
  have y2 := rq.cell (i := 2) (by omega)
  have y3 := rq.cell (i := 3) (by omega)
  have y4 := rq.cell (i := 4) (by omega)
  have y5 := rq.cell (i := 5) (by omega)
  simp only [] at y0 y1 y2 y3 y4 y5
  have rz := (row_zero6 (w.alloc (Obj.cells #[.int .i64 q.1, .int .u64 (q.2.1.1.toNat : Int), .int .u64 (q.2.1.2.1.toNat : Int), .int .u64 (q.2.1.2.2.1.toNat : Int), .int .u64 (q.2.1.2.2.2.toNat : Int), .slice q.2.2.1 q.2.2.2.1 q.2.2.2.2] 27))).alloc (Obj.cells #[.int .i64 q.1, .int .u64 (q.2.1.1.toNat : Int), .int .u64 (q.2.1.2.1.toNat : Int), .int .u64 (q.2.1.2.2.1.toNat : Int), .int .u64 (q.2.1.2.2.2.toNat : Int), .slice q.2.2.1 q.2.2.2.1 q.2.2.2.2] 27)
  rw [e1] at rz
  have a0 := rz.cell (i := 0) (by omega)
  have a1 := rz.cell (i := 1) (by omega)
  have a2 := rz.cell (i := 2) (by omega)
  have a3 := rz.cell (i := 3) (by omega)
  have a4 := rz.cell (i := 4) (by omega)
  have a5 := rz.cell (i := 5) (by omega)
  have f0 := rz.frozen 0
  have f1 := rz.frozen 1
  have f2 := rz.frozen 2
  have f3 := rz.frozen 3
  have f4 := rz.frozen 4
  have f5 := rz.frozen 5
  simp only [] at a0 a1 a2 a3 a4 a5
  have hbn := heap_alloc_new ((w.alloc (Obj.cells #[.int .i64 q.1, .int .u64 (q.2.1.1.toNat : Int), .int .u64 (q.2.1.2.1.toNat : Int), .int .u64 (q.2.1.2.2.1.toNat : Int), .int .u64 (q.2.1.2.2.2.toNat : Int), .slice q.2.2.1 q.2.2.2.1 q.2.2.2.2] 27)).alloc (Obj.cells #[.int .i64 6, .int .u64 0, .int .u64 0, .int .u64 0, .int .u64 0, .slice (some ⟨w.heap.size + 1 + 1, 0, none⟩) 1 1] 27)) (Obj.cells #[.int .i64 q.1, .int .u64 (q.2.1.1.toNat : Int), .int .u64 (q.2.1.2.1.toNat : Int), .int .u64 (q.2.1.2.2.1.toNat : Int), .int .u64 (q.2.1.2.2.2.toNat : Int), .slice q.2.2.1 q.2.2.2.1 q.2.2.2.2] 27)
  rw [e2] at hbn
  have rv := (row_of6 (w.alloc (Obj.cells #[.int .i64 q.1, .int .u64 (q.2.1.1.toNat : Int), .int .u64 (q.2.1.2.1.toNat : Int), .int .u64 (q.2.1.2.2.1.toNat : Int), .int .u64 (q.2.1.2.2.2.toNat : Int), .slice q.2.2.1 q.2.2.2.1 q.2.2.2.2] 27)) (.int .i64 6) (.int .u64 0) (.int .u64 0) (.int .u64 0) (.int .u64 0) (.slice (some ⟨w.heap.size + 1 + 1, 0, none⟩) 1 1)).alloc (Obj.cells #[.int .i64 q.1, .int .u64 (q.2.1.1.toNat : Int), .int .u64 (q.2.1.2.1.toNat : Int), .int .u64 (q.2.1.2.2.1.toNat : Int), .int .u64 (q.2.1.2.2.2.toNat : Int), .slice q.2.2.1 q.2.2.2.1 q.2.2.2.2] 27)
  rw [e1] at rv
  obtain ⟨w2, HW2⟩ : ∃ w2, Hid ((((w.alloc (Obj.cells #[.int .i64 q.1, .int .u64 (q.2.1.1.toNat : Int), .int .u64 (q.2.1.2.1.toNat : Int), .int .u64 (q.2.1.2.2.1.toNat : Int), .int .u64 (q.2.1.2.2.2.toNat : Int), .slice q.2.2.1 q.2.2.2.1 q.2.2.2.2] 27)).alloc (Obj.cells #[.int .i64 6, .int .u64 0, .int .u64 0, .int .u64 0, .int .u64 0, .slice (some ⟨w.heap.size + 1 + 1, 0, none⟩) 1 1] 27)).alloc (Obj.cells #[.int .i64 q.1, .int .u64 (q.2.1.1.toNat : Int), .int .u64 (q.2.1.2.1.toNat : Int), .int .u64 (q.2.1.2.2.1.toNat : Int), .int .u64 (q.2.1.2.2.2.toNat : Int), .slice q.2.2.1 q.2.2.2.1 q.2.2.2.2] 27)) = w2) := ⟨_, (rfl : _ = _)⟩
  rw [HW2.out] at hbn rv
  have HB2 : Hid (Below w.heap.size w w2) := by
    show Below _ _ _
    rw [← HW2.out]
    exact ((bal w _).alloc (by simp; try omega) _).alloc (by simp; try omega) _
  have HFIN : Hid (Rx w2 w2.heap.size (v6 (6, Cls.empty, some ⟨w.heap.size + 1 + 1, 0, none⟩, 1, 1)) (.mk 6 Cls.empty [t])) := by
    have hlt : w.heap.size + 1 + 1 < w2.heap.size := by rw [← HW2.out]; simp
    have h1 : Ry w2 (fun b => b < w2.heap.size) (v6 q) t := (rx_ry HX.out).move (fun b hb => Nat.lt_of_lt_of_le hb HB2.out.size) (fun b hb => HB2.out.block b hb)
    exact (Ry.one (b := w.heap.size + 1 + 1) 6 (by omega) hbn hlt h1).rx fun b hb => hb
  have v0 := rv.cell (i := 0) (by omega)
  have v1 := rv.cell (i := 1) (by omega)
  have v2 := rv.cell (i := 2) (by omega)
  have v3 := rv.cell (i := 3) (by omega)
  have v4 := rv.cell (i := 4) (by omega)
  have v5 := rv.cell (i := 5) (by omega)
  simp only [] at v0 v1 v2 v3 v4 v5
  clear rq rz hbn rv e1 e2 hx
  go_enter Try.func16, Try.ntmps16
  go_wp2_with fail
  rw [HW2.out]
  clear a0 a1 a2 a3 a4 a5 f0 f1 f2 f3 f4 f5 y0 y1 y2 y3 y4 y5
  exact bodyPost_ret (v := .agg #[.int .i64 6, .int .u64 0, .int .u64 0, .int .u64 0, .int .u64 0, .slice (some ⟨w.heap.size + 1 + 1, 0, none⟩) 1 1]) (by simp [results, Try.results16, go_sem, v0, v1, v2, v3, v4, v5]) rfl ⟨(6, Cls.empty, some ⟨w.heap.size + 1 + 1, 0, none⟩, 1, 1), rfl, HFIN.out, HB2.out⟩
set_option maxHeartbeats 6400000 in
set_option maxRecDepth 20000 in
theorem two_any (k : Int) (hk : -9223372036854775808 ≤ k ∧ k ≤ 9223372036854775807) (t u : T) (q p : R6) (w : World) (hx : Rx w w.heap.size (v6 q) t) (hx2 : Rx w w.heap.size (v6 p) u) :
    Calls Try.prog 14 #[.int .i64 k, v6 q, v6 p] w fun e w' => ∃ q2 : R6, e = .returned (v6 q2) ∧ Rx w' w'.heap.size (v6 q2) (.mk k Cls.empty [t, u]) ∧ Below w.heap.size w w' := by
  have HX : Hid (Rx w w.heap.size (v6 q) t ∧ Rx w w.heap.size (v6 p) u) := ⟨hx, hx2⟩
  have e1 : ((w.alloc (Obj.cells #[.int .i64 q.1, .int .u64 (q.2.1.1.toNat : Int), .int .u64 (q.2.1.2.1.toNat : Int), .int .u64 (q.2.1.2.2.1.toNat : Int), .int .u64 (q.2.1.2.2.2.toNat : Int), .slice q.2.2.1 q.2.2.2.1 q.2.2.2.2] 27)).alloc (Obj.cells #[.int .i64 p.1, .int .u64 (p.2.1.1.toNat : Int), .int .u64 (p.2.1.2.1.toNat : Int), .int .u64 (p.2.1.2.2.1.toNat : Int), .int .u64 (p.2.1.2.2.2.toNat : Int), .slice p.2.2.1 p.2.2.2.1 p.2.2.2.2] 27)).heap.size = w.heap.size + 1 + 1 := by simp
  have e2 : (((w.alloc (Obj.cells #[.int .i64 q.1, .int .u64 (q.2.1.1.toNat : Int), .int .u64 (q.2.1.2.1.toNat : Int), .int .u64 (q.2.1.2.2.1.toNat : Int), .int .u64 (q.2.1.2.2.2.toNat : Int), .slice q.2.2.1 q.2.2.2.1 q.2.2.2.2] 27)).alloc (Obj.cells #[.int .i64 p.1, .int .u64 (p.2.1.1.toNat : Int), .int .u64 (p.2.1.2.1.toNat : Int), .int .u64 (p.2.1.2.2.1.toNat : Int), .int .u64 (p.2.1.2.2.2.toNat : Int), .slice p.2.2.1 p.2.2.2.1 p.2.2.2.2] 27)).alloc (Obj.cells #[.int .i64 k, .int .u64 0, .int .u64 0, .int .u64 0, .int .u64 0, .slice (some ⟨w.heap.size + 1 + 1 + 1, 0, none⟩) 2 2] 27)).heap.size = w.heap.size + 1 + 1 + 1 := by simp
  have rq := (((row_of6 w (.int .i64 q.1) (.int .u64 (q.2.1.1.toNat : Int)) (.int .u64 (q.2.1.2.1.toNat : Int)) (.int .u64 (q.2.1.2.2.1.toNat : Int)) (.int .u64 (q.2.1.2.2.2.toNat : Int)) (.slice q.2.2.1 q.2.2.2.1 q.2.2.2.2)).alloc (Obj.cells #[.int .i64 p.1, .int .u64 (p.2.1.1.toNat : Int), .int .u64 (p.2.1.2.1.toNat : Int), .int .u64 (p.2.1.2.2.1.toNat : Int), .int .u64 (p.2.1.2.2.2.toNat : Int), .slice p.2.2.1 p.2.2.2.1 p.2.2.2.2] 27)).alloc (Obj.cells #[.int .i64 0, .int .u64 0, .int .u64 0, .int .u64 0, .int .u64 0, .slice none 0 0] 27))
  have y0 := rq.cell (i := 0) (by omega)
  have y1 := rq.cell (i := 1) (by omega)
  have y2 := rq.cell (i := 2) (by omega)
  have y3 := rq.cell (i := 3) (by omega)
  have y4 := rq.cell (i := 4) (by omega)
  have y5 := rq.cell (i := 5) (by omega)
  have rp := ((row_of6 (w.alloc (Obj.cells #[.int .i64 q.1, .int .u64 (q.2.1.1.toNat : Int), .int .u64 (q.2.1.2.1.toNat : Int), .int .u64 (q.2.1.2.2.1.toNat : Int), .int .u64 (q.2.1.2.2.2.toNat : Int), .slice q.2.2.1 q.2.2.2.1 q.2.2.2.2] 27)) (.int .i64 p.1) (.int .u64 (p.2.1.1.toNat : Int)) (.int .u64 (p.2.1.2.1.toNat : Int)) (.int .u64 (p.2.1.2.2.1.toNat : Int)) (.int .u64 (p.2.1.2.2.2.toNat : Int)) (.slice p.2.2.1 p.2.2.2.1 p.2.2.2.2)).alloc (Obj.cells #[.int .i64 0, .int .u64 0, .int .u64 0, .int .u64 0, .int .u64 0, .slice none 0 0] 27))
  rw [show (w.alloc (Obj.cells #[.int .i64 q.1, .int .u64 (q.2.1.1.toNat : Int), .int .u64 (q.2.1.2.1.toNat : Int), .int .u64 (q.2.1.2.2.1.toNat : Int), .int .u64 (q.2.1.2.2.2.toNat : Int), .slice q.2.2.1 q.2.2.2.1 q.2.2.2.2] 27)).heap.size = w.heap.size + 1 by simp] at rp
  have x0 := rp.cell (i := 0) (by omega)
  have x1 := rp.cell (i := 1) (by omega)
  have x2 := rp.cell (i := 2) (by omega)
  have x3 := rp.cell (i := 3) (by omega)
  have x4 := rp.cell (i := 4) (by omega)
  have x5 := rp.cell (i := 5) (by omega)
  simp only [] at y0 y1 y2 y3 y4 y5 x0 x1 x2 x3 x4 x5
  have rz := (row_zero6 ((w.alloc (Obj.cells #[.int .i64 q.1, .int .u64 (q.2.1.1.toNat : Int), .int .u64 (q.2.1.2.1.toNat : Int), .int .u64 (q.2.1.2.2.1.toNat : Int), .int .u64 (q.2.1.2.2.2.toNat : Int), .slice q.2.2.1 q.2.2.2.1 q.2.2.2.2] 27)).alloc (Obj.cells #[.int .i64 p.1, .int .u64 (p.2.1.1.toNat : Int), .int .u64 (p.2.1.2.1.toNat : Int), .int .u64 (p.2.1.2.2.1.toNat : Int), .int .u64 (p.2.1.2.2.2.toNat : Int), .slice p.2.2.1 p.2.2.2.1 p.2.2.2.2] 27))).alloc (Obj.cells #[.int .i64 q.1, .int .u64 (q.2.1.1.toNat : Int), .int .u64 (q.2.1.2.1.toNat : Int), .int .u64 (q.2.1.2.2.1.toNat : Int), .int .u64 (q.2.1.2.2.2.toNat : Int), .slice q.2.2.1 q.2.2.2.1 q.2.2.2.2, .int .i64 p.1, .int .u64 (p.2.1.1.toNat : Int), .int .u64 (p.2.1.2.1.toNat : Int), .int .u64 (p.2.1.2.2.1.toNat : Int), .int .u64 (p.2.1.2.2.2.toNat : Int), .slice p.2.2.1 p.2.2.2.1 p.2.2.2.2] 27)
  rw [e1] at rz
  have a0 := rz.cell (i := 0) (by omega)
  have a1 := rz.cell (i := 1) (by omega)
  have a2 := rz.cell (i := 2) (by omega)
  have a3 := rz.cell (i := 3) (by omega)
  have a4 := rz.cell (i := 4) (by omega)
  have a5 := rz.cell (i := 5) (by omega)
  have f0 := rz.frozen 0
  have f1 := rz.frozen 1
  have f2 := rz.frozen 2
  have f3 := rz.frozen 3
  have f4 := rz.frozen 4
  have f5 := rz.frozen 5
  simp only [] at a0 a1 a2 a3 a4 a5
  have hbn := heap_alloc_new (((w.alloc (Obj.cells #[.int .i64 q.1, .int .u64 (q.2.1.1.toNat : Int), .int .u64 (q.2.1.2.1.toNat : Int), .int .u64 (q.2.1.2.2.1.toNat : Int), .int .u64 (q.2.1.2.2.2.toNat : Int), .slice q.2.2.1 q.2.2.2.1 q.2.2.2.2] 27)).alloc (Obj.cells #[.int .i64 p.1, .int .u64 (p.2.1.1.toNat : Int), .int .u64 (p.2.1.2.1.toNat : Int), .int .u64 (p.2.1.2.2.1.toNat : Int), .int .u64 (p.2.1.2.2.2.toNat : Int), .slice p.2.2.1 p.2.2.2.1 p.2.2.2.2] 27)).alloc (Obj.cells #[.int .i64 k, .int .u64 0, .int .u64 0, .int .u64 0, .int .u64 0, .slice (some ⟨w.heap.size + 1 + 1 + 1, 0, none⟩) 2 2] 27)) (Obj.cells #[.int .i64 q.1, .int .u64 (q.2.1.1.toNat : Int), .int .u64 (q.2.1.2.1.toNat : Int), .int .u64 (q.2.1.2.2.1.toNat : Int), .int .u64 (q.2.1.2.2.2.toNat : Int), .slice q.2.2.1 q.2.2.2.1 q.2.2.2.2, .int .i64 p.1, .int .u64 (p.2.1.1.toNat : Int), .int .u64 (p.2.1.2.1.toNat : Int), .int .u64 (p.2.1.2.2.1.toNat : Int), .int .u64 (p.2.1.2.2.2.toNat : Int), .slice p.2.2.1 p.2.2.2.1 p.2.2.2.2] 27)
  rw [e2] at hbn
  have rv := (row_of6 ((w.alloc (Obj.cells #[.int .i64 q.1, .int .u64 (q.2.1.1.toNat : Int), .int .u64 (q.2.1.2.1.toNat : Int), .int .u64 (q.2.1.2.2.1.toNat : Int), .int .u64 (q.2.1.2.2.2.toNat : Int), .slice q.2.2.1 q.2.2.2.1 q.2.2.2.2] 27)).alloc (Obj.cells #[.int .i64 p.1, .int .u64 (p.2.1.1.toNat : Int), .int .u64 (p.2.1.2.1.toNat : Int), .int .u64 (p.2.1.2.2.1.toNat : Int), .int .u64 (p.2.1.2.2.2.toNat : Int), .slice p.2.2.1 p.2.2.2.1 p.2.2.2.2] 27)) (.int .i64 k) (.int .u64 0) (.int .u64 0) (.int .u64 0) (.int .u64 0) (.slice (some ⟨w.heap.size + 1 + 1 + 1, 0, none⟩) 2 2)).alloc (Obj.cells #[.int .i64 q.1, .int .u64 (q.2.1.1.toNat : Int), .int .u64 (q.2.1.2.1.toNat : Int), .int .u64 (q.2.1.2.2.1.toNat : Int), .int .u64 (q.2.1.2.2.2.toNat : Int), .slice q.2.2.1 q.2.2.2.1 q.2.2.2.2, .int .i64 p.1, .int .u64 (p.2.1.1.toNat : Int), .int .u64 (p.2.1.2.1.toNat : Int), .int .u64 (p.2.1.2.2.1.toNat : Int), .int .u64 (p.2.1.2.2.2.toNat : Int), .slice p.2.2.1 p.2.2.2.1 p.2.2.2.2] 27)
  rw [e1] at rv
  obtain ⟨w2, HW2⟩ : ∃ w2, Hid (((((w.alloc (Obj.cells #[.int .i64 q.1, .int .u64 (q.2.1.1.toNat : Int), .int .u64 (q.2.1.2.1.toNat : Int), .int .u64 (q.2.1.2.2.1.toNat : Int), .int .u64 (q.2.1.2.2.2.toNat : Int), .slice q.2.2.1 q.2.2.2.1 q.2.2.2.2] 27)).alloc (Obj.cells #[.int .i64 p.1, .int .u64 (p.2.1.1.toNat : Int), .int .u64 (p.2.1.2.1.toNat : Int), .int .u64 (p.2.1.2.2.1.toNat : Int), .int .u64 (p.2.1.2.2.2.toNat : Int), .slice p.2.2.1 p.2.2.2.1 p.2.2.2.2] 27)).alloc (Obj.cells #[.int .i64 k, .int .u64 0, .int .u64 0, .int .u64 0, .int .u64 0, .slice (some ⟨w.heap.size + 1 + 1 + 1, 0, none⟩) 2 2] 27)).alloc (Obj.cells #[.int .i64 q.1, .int .u64 (q.2.1.1.toNat : Int), .int .u64 (q.2.1.2.1.toNat : Int), .int .u64 (q.2.1.2.2.1.toNat : Int), .int .u64 (q.2.1.2.2.2.toNat : Int), .slice q.2.2.1 q.2.2.2.1 q.2.2.2.2, .int .i64 p.1, .int .u64 (p.2.1.1.toNat : Int), .int .u64 (p.2.1.2.1.toNat : Int), .int .u64 (p.2.1.2.2.1.toNat : Int), .int .u64 (p.2.1.2.2.2.toNat : Int), .slice p.2.2.1 p.2.2.2.1 p.2.2.2.2] 27)) = w2) := ⟨_, (rfl : _ = _)⟩
  rw [HW2.out] at hbn rv
  have HB2 : Hid (Below w.heap.size w w2) := by
    show Below _ _ _
    rw [← HW2.out]
    exact ((bal2 w _ _).alloc (by simp; try omega) _).alloc (by simp; try omega) _
  have HFIN : Hid (Rx w2 w2.heap.size (v6 (k, Cls.empty, some ⟨w.heap.size + 1 + 1 + 1, 0, none⟩, 2, 2)) (.mk k Cls.empty [t, u])) := by
    have hlt : w.heap.size + 1 + 1 + 1 < w2.heap.size := by rw [← HW2.out]; simp
    have h1 : Ry w2 (fun b => b < w2.heap.size) (v6 q) t := (rx_ry HX.out.1).move (fun b hb => Nat.lt_of_lt_of_le hb HB2.out.size) (fun b hb => HB2.out.block b hb)
    have h2 : Ry w2 (fun b => b < w2.heap.size) (v6 p) u := (rx_ry HX.out.2).move (fun b hb => Nat.lt_of_lt_of_le hb HB2.out.size) (fun b hb => HB2.out.block b hb)
    exact (Ry.two (b := w.heap.size + 1 + 1 + 1) k hk hbn hlt h1 h2).rx fun b hb => hb
  have v0 := rv.cell (i := 0) (by omega)
  have v1 := rv.cell (i := 1) (by omega)
  have v2 := rv.cell (i := 2) (by omega)
  have v3 := rv.cell (i := 3) (by omega)
  have v4 := rv.cell (i := 4) (by omega)
  have v5 := rv.cell (i := 5) (by omega)
  simp only [] at v0 v1 v2 v3 v4 v5
  clear rq rp rz hbn rv e1 e2 hx hx2 hk
  go_enter Try.func14, Try.ntmps14
  go_wp2_with fail
  rw [HW2.out]
  clear a0 a1 a2 a3 a4 a5 f0 f1 f2 f3 f4 f5 y0 y1 y2 y3 y4 y5 x0 x1 x2 x3 x4 x5
  exact bodyPost_ret (v := .agg #[.int .i64 k, .int .u64 0, .int .u64 0, .int .u64 0, .int .u64 0, .slice (some ⟨w.heap.size + 1 + 1 + 1, 0, none⟩) 2 2]) (by simp [results, Try.results14, go_sem, v0, v1, v2, v3, v4, v5]) rfl ⟨(k, Cls.empty, some ⟨w.heap.size + 1 + 1 + 1, 0, none⟩, 2, 2), rfl, HFIN.out, HB2.out⟩
end Go.Proofs.Ythloedfiomfnbaa
