/-
  The contract of rex.Parse.
-/
import Derived.Test.YthloedfiomfnbaaRxApartW
import Derived.Test.YthloedfiomfnbaaPaAll
import Derived.Test.YthloedfiomfnbaaPaBackW
import Derived.Deep.OwnRows
namespace Go.Proofs.Ythloedfiomfnbaa
open Go.RowKit
open Cls Rex

/-- Six cells of a box. -/
theorem row_six {w : World} {g : Nat} {f : Nat → Value} (h : w.rowIs g 27 6 f) (a b c d e x : Value) : ((((((w.setCell ⟨g, 0, none⟩ a).setCell ⟨g, 1, none⟩ b).setCell ⟨g, 2, none⟩ c).setCell ⟨g, 3, none⟩ d).setCell ⟨g, 4, none⟩ e).setCell ⟨g, 5, none⟩ x).rowIs g 27 6 (fun i => match i with | 0 => a | 1 => b | 2 => c | 3 => d | 4 => e | _ => x) := by
  refine ((((((h.set 0 a).set 1 b).set 2 c).set 3 d).set 4 e).set 5 x).congr fun i hi => ?_
  rcases (show i = 0 ∨ i = 1 ∨ i = 2 ∨ i = 3 ∨ i = 4 ∨ i = 5 by omega) with rfl | rfl | rfl | rfl | rfl | rfl <;> rfl
theorem six_other (w : World) (g : Nat) (a b c d e x : Value) (k : Nat) (hk : k ≠ g) : ((((((w.setCell ⟨g, 0, none⟩ a).setCell ⟨g, 1, none⟩ b).setCell ⟨g, 2, none⟩ c).setCell ⟨g, 3, none⟩ d).setCell ⟨g, 4, none⟩ e).setCell ⟨g, 5, none⟩ x).heap[k]? = w.heap[k]? := by
  rw [Go.Deep.blk_setCell_other _ _ _ _ hk, Go.Deep.blk_setCell_other _ _ _ _ hk, Go.Deep.blk_setCell_other _ _ _ _ hk, Go.Deep.blk_setCell_other _ _ _ _ hk, Go.Deep.blk_setCell_other _ _ _ _ hk, Go.Deep.blk_setCell_other _ _ _ _ hk]
theorem row_zero6 (w : World) : (w.alloc (Obj.cells #[.int .i64 0, .int .u64 0, .int .u64 0, .int .u64 0, .int .u64 0, .slice none 0 0] 27)).rowIs w.heap.size 27 6 (fun i => match i with | 0 => .int .i64 0 | 5 => .slice none 0 0 | _ => .int .u64 0) :=
  World.rowIs_alloc w _ 27 _ fun i hi => by
    rcases (show i = 0 ∨ i = 1 ∨ i = 2 ∨ i = 3 ∨ i = 4 ∨ i = 5 by simp at hi; omega) with rfl | rfl | rfl | rfl | rfl | rfl <;> rfl
theorem row_of6 (w : World) (a b c d e x : Value) : (w.alloc (Obj.cells #[a, b, c, d, e, x] 27)).rowIs w.heap.size 27 6 (fun i => match i with | 0 => a | 1 => b | 2 => c | 3 => d | 4 => e | _ => x) :=
  World.rowIs_alloc w _ 27 _ fun i hi => by
    rcases (show i = 0 ∨ i = 1 ∨ i = 2 ∨ i = 3 ∨ i = 4 ∨ i = 5 by simp at hi; omega) with rfl | rfl | rfl | rfl | rfl | rfl <;> rfl
theorem bal (w : World) (o : Obj) : Below w.heap.size w (w.alloc o) := (Below.refl _ _).alloc (Nat.le_refl _) o
theorem bal2 (w : World) (o o' : Obj) : Below w.heap.size w ((w.alloc o).alloc o') := (bal w o).alloc (by simp) o'
/-- The error that Parse tells of a short text. -/
def pe (s : ByteArray) : Nat := if (altN s 30 0).2.2 = 0 then (if (altN s 30 0).2.1 < s.size then 6 else err (altN s 30 0).1) else (altN s 30 0).2.2
set_option maxHeartbeats 6400000 in
set_option maxRecDepth 20000 in
theorem Parse_large (s : ByteArray) (hs : 300 < s.size) (w : World) :
    Calls Try.prog 11 #[.string s] w fun e w' => e = .returned (.tuple #[.agg #[.int .i64 0, .int .u64 0, .int .u64 0, .int .u64 0, .int .u64 0, .slice none 0 0], .int .i64 0, .int .i64 2]) ∧ Below w.heap.size w w' := by
  have b1 : decide ((300 : Int) < (s.size : Int)) = true := by simp; omega
  have HB : Hid (Below w.heap.size w (w.alloc (Obj.cells #[.int .i64 0, .int .u64 0, .int .u64 0, .int .u64 0, .int .u64 0, .slice none 0 0] 27))) := bal _ _
  have r0 := row_zero6 w
  have z0 := r0.cell (i := 0) (by omega)
  have z1 := r0.cell (i := 1) (by omega)
  have z2 := r0.cell (i := 2) (by omega)
  have z3 := r0.cell (i := 3) (by omega)
  have z4 := r0.cell (i := 4) (by omega)
  have z5 := r0.cell (i := 5) (by omega)
  simp only [] at z0 z1 z2 z3 z4 z5
  clear r0
  go_enter Try.func11, Try.ntmps11
  go_wp2_with fail
  exact bodyPost_ret (v := .tuple #[.agg #[.int .i64 0, .int .u64 0, .int .u64 0, .int .u64 0, .int .u64 0, .slice none 0 0], .int .i64 0, .int .i64 2]) (by simp [results, Try.results11, go_sem, z0, z1, z2, z3, z4, z5]) rfl ⟨rfl, HB.out⟩
set_option maxHeartbeats 6400000 in
set_option maxRecDepth 20000 in
theorem Parse_ok (s : ByteArray) (hs : s.size ≤ 300) (t : T) (ha : (altN s 30 0).1 = t ∧ (altN s 30 0).2.2 = 0 ∧ ¬ (altN s 30 0).2.1 < s.size) (he : err t = 0) (hz : t.sz ≤ 200) (w : World) :
    Calls Try.prog 11 #[.string s] w fun e w' => ∃ q : R6, e = .returned (.tuple #[.agg #[.int .i64 q.1, .int .u64 (q.2.1.1.toNat : Int), .int .u64 (q.2.1.2.1.toNat : Int), .int .u64 (q.2.1.2.2.1.toNat : Int), .int .u64 (q.2.1.2.2.2.toNat : Int), .slice q.2.2.1 q.2.2.2.1 q.2.2.2.2], .int .i64 0, .int .i64 0]) ∧ Rx w' w'.heap.size (v6 q) t ∧ Below w.heap.size w w' := by
  have b1 : decide ((300 : Int) < (s.size : Int)) = false := by simp; omega
  have e1 : (w.alloc (Obj.cells #[.int .i64 0, .int .u64 0, .int .u64 0, .int .u64 0, .int .u64 0, .slice none 0 0] 27)).heap.size = w.heap.size + 1 := by simp
  have r0 := (row_zero6 w).alloc (Obj.cells #[.string s, .int .i64 0, .int .i64 0] 51)
  have hps : Ps (w.heap.size + 1) s 0 (.int .i64 0) ((w.alloc (Obj.cells #[.int .i64 0, .int .u64 0, .int .u64 0, .int .u64 0, .int .u64 0, .slice none 0 0] 27)).alloc (Obj.cells #[.string s, .int .i64 0, .int .i64 0] 51)) := by
    have := heap_alloc_new (w.alloc (Obj.cells #[.int .i64 0, .int .u64 0, .int .u64 0, .int .u64 0, .int .u64 0, .slice none 0 0] 27)) (Obj.cells #[.string s, .int .i64 0, .int .i64 0] 51)
    rw [e1] at this; exact this
  have hpc := alt_done s (by omega) (w.heap.size + 1) 0 _ hps (Nat.zero_le _)
  have HR0 : Hid (((w.alloc (Obj.cells #[.int .i64 0, .int .u64 0, .int .u64 0, .int .u64 0, .int .u64 0, .slice none 0 0] 27)).alloc (Obj.cells #[.string s, .int .i64 0, .int .i64 0] 51)).rowIs w.heap.size 27 6 (fun i => match i with | 0 => .int .i64 0 | 5 => .slice none 0 0 | _ => .int .u64 0)) := r0
  have HB0 : Hid (Below w.heap.size w ((w.alloc (Obj.cells #[.int .i64 0, .int .u64 0, .int .u64 0, .int .u64 0, .int .u64 0, .slice none 0 0] 27)).alloc (Obj.cells #[.string s, .int .i64 0, .int .i64 0] 51)) ∧ ((w.alloc (Obj.cells #[.int .i64 0, .int .u64 0, .int .u64 0, .int .u64 0, .int .u64 0, .slice none 0 0] 27)).alloc (Obj.cells #[.string s, .int .i64 0, .int .i64 0] 51)).heap.size = w.heap.size + 2) := ⟨bal2 _ _ _, by simp⟩
  obtain ⟨x, HX⟩ : ∃ x, Hid (altN s 30 0 = x) := ⟨_, (rfl : altN s 30 0 = altN s 30 0)⟩
  rw [HX.out] at hpc
  clear r0 hps e1
  go_enter Try.func11, Try.ntmps11
  go_wp2_with fail
  refine hpc.mono ?_
  rintro _ w3 ⟨q, rfl, hry, hps, hgr⟩
  have HB3 : Hid (Below w.heap.size w w3) := HB0.out.1.trans ⟨hgr.os, hgr.tape, hgr.output, hgr.size, fun k hk => hgr.block k (by have := HB0.out.2; omega) (by simp; omega)⟩
  have r3 := HR0.out.of_block (hgr.block w.heap.size (by have := HB0.out.2; omega) (by simp))
  have hba := bal w3 (Obj.cells #[.int .i64 q.1, .int .u64 (q.2.1.1.toNat : Int), .int .u64 (q.2.1.2.1.toNat : Int), .int .u64 (q.2.1.2.2.1.toNat : Int), .int .u64 (q.2.1.2.2.2.toNat : Int), .slice q.2.2.1 q.2.2.2.1 q.2.2.2.2] 27)
  have rq := row_of6 w3 (.int .i64 q.1) (.int .u64 (q.2.1.1.toNat : Int)) (.int .u64 (q.2.1.2.1.toNat : Int)) (.int .u64 (q.2.1.2.2.1.toNat : Int)) (.int .u64 (q.2.1.2.2.2.toNat : Int)) (.slice q.2.2.1 q.2.2.2.1 q.2.2.2.2)
  obtain ⟨w4, HW4⟩ : ∃ w4, Hid (w3.alloc (Obj.cells #[.int .i64 q.1, .int .u64 (q.2.1.1.toNat : Int), .int .u64 (q.2.1.2.1.toNat : Int), .int .u64 (q.2.1.2.2.1.toNat : Int), .int .u64 (q.2.1.2.2.2.toNat : Int), .slice q.2.2.1 q.2.2.2.1 q.2.2.2.2] 27) = w4) := ⟨_, (rfl : _ = _)⟩
  rw [HW4.out] at hba rq
  have HR4 : Hid (w4.rowIs w.heap.size 27 6 (fun i => match i with | 0 => .int .i64 0 | 5 => .slice none 0 0 | _ => .int .u64 0)) := r3.of_block (hba.block _ r3.lt)
  have HB4 : Hid (Below w.heap.size w w4 ∧ w.heap.size + 2 ≤ w4.heap.size) := ⟨HB3.out.trans (hba.mono HB3.out.size), by have := HB0.out.2; have := hgr.size; have := hba.size; omega⟩
  have HRQ : Hid (w4.rowIs w3.heap.size 27 6 _) := rq
  have HRY : Hid (Rx w4 w4.heap.size (v6 q) x.1) := (hry.move (A' := fun b => b < w4.heap.size) (fun b hb => Nat.lt_of_lt_of_le hb.2 hba.size) (fun b hb => hba.block b hb.2)).rx fun b hb => hb
  have HPS : Hid (Ps (w.heap.size + 1) s x.2.1 (.int .i64 0) w4) := hps.next hba
  have p1 := HPS.out.cells.1.2.1
  rw [← HW4.out] at p1
  clear hpc hry hps hgr r3 hba rq HB3 HR0 HB0
  rw [HX.out] at ha
  obtain ⟨ha1, ha2, ha3⟩ := ha
  rw [ha1] at HRY
  rw [ha2]
  have b3 : decide ((x.2.1 : Int) < (s.size : Int)) = false := by simp; omega
  clear ha1 ha2 HX
  have y0 := HRQ.out.cell (i := 0) (by omega)
  have y1 := HRQ.out.cell (i := 1) (by omega)
  have y2 := HRQ.out.cell (i := 2) (by omega)
  have y3 := HRQ.out.cell (i := 3) (by omega)
  have y4 := HRQ.out.cell (i := 4) (by omega)
  have y5 := HRQ.out.cell (i := 5) (by omega)
  simp only [] at y0 y1 y2 y3 y4 y5
  rw [← HW4.out] at y0 y1 y2 y3 y4 y5
  have HC : Hid (Calls Try.prog 10 #[.agg #[.int .i64 q.1, .int .u64 (q.2.1.1.toNat : Int), .int .u64 (q.2.1.2.1.toNat : Int), .int .u64 (q.2.1.2.2.1.toNat : Int), .int .u64 (q.2.1.2.2.2.toNat : Int), .slice q.2.2.1 q.2.2.2.1 q.2.2.2.2]] w4 fun e w' => e = .returned (.int .i64 0) ∧ Below w4.heap.size w4 w') := by
    have := Check_any t (v6 q) w4.heap.size w4 HRY.out (Nat.le_refl _)
    rw [he] at this; exact this
  go_wp2_with fail
  rw [HW4.out]
  clear y0 y1 y2 y3 y4 y5 p1 HW4
  refine HC.out.mono ?_
  rintro _ w5 ⟨rfl, hb5⟩
  obtain ⟨rb, HRB⟩ : ∃ rb, Hid (w3.heap.size = rb) := ⟨_, (rfl : w3.heap.size = w3.heap.size)⟩
  have rq5 := HRQ.out.of_block (hb5.block _ HRQ.out.lt)
  have y0 := rq5.cell (i := 0) (by omega)
  have y1 := rq5.cell (i := 1) (by omega)
  have y2 := rq5.cell (i := 2) (by omega)
  have y3 := rq5.cell (i := 3) (by omega)
  have y4 := rq5.cell (i := 4) (by omega)
  have y5 := rq5.cell (i := 5) (by omega)
  simp only [] at y0 y1 y2 y3 y4 y5
  have HR5 : Hid (w5.rowIs w.heap.size 27 6 (fun i => match i with | 0 => .int .i64 0 | 5 => .slice none 0 0 | _ => .int .u64 0)) := HR4.out.of_block (hb5.block _ HR4.out.lt)
  have HB5 : Hid (Below w.heap.size w w5 ∧ w.heap.size + 2 ≤ w5.heap.size) := ⟨HB4.out.1.trans (hb5.mono HB4.out.1.size), Nat.le_trans HB4.out.2 hb5.size⟩
  have hap := apart_any t hz (v6 q) w5 ((HRY.out.next hb5).wide hb5.size)
  clear hb5 rq5 HC HRY HR4 HB4 HPS
  go_wp2_with fail
  refine hap.mono ?_
  rintro _ w6 ⟨q2, rfl, hry, hb6⟩
  have rr := HR5.out.of_block (hb6.block _ HR5.out.lt)
  have HR6 : Hid (w6.rowIs w.heap.size 27 6 (fun i => match i with | 0 => .int .i64 0 | 5 => .slice none 0 0 | _ => .int .u64 0)) := rr
  have a0 := rr.cell (i := 0) (by omega)
  have a1 := rr.cell (i := 1) (by omega)
  have a2 := rr.cell (i := 2) (by omega)
  have a3 := rr.cell (i := 3) (by omega)
  have a4 := rr.cell (i := 4) (by omega)
  have a5 := rr.cell (i := 5) (by omega)
  have f0 := rr.frozen 0
  have f1 := rr.frozen 1
  have f2 := rr.frozen 2
  have f3 := rr.frozen 3
  have f4 := rr.frozen 4
  have f5 := rr.frozen 5
  simp only [] at a0 a1 a2 a3 a4 a5
  have HRY : Hid (Ry w6 (fun b => w5.heap.size ≤ b ∧ b < w6.heap.size) (v6 q2) t) := hry
  have HB6 : Hid (Below w.heap.size w w6) := HB5.out.1.trans (hb6.mono HB5.out.1.size)
  clear hap hry hb6 rr y0 y1 y2 y3 y4 y5
  go_wp2_with fail
  obtain ⟨w7, HW7⟩ : ∃ w7, Hid (((((((w6.setCell ⟨w.heap.size, 0, none⟩ (.int .i64 q2.1)).setCell ⟨w.heap.size, 1, none⟩ (.int .u64 (q2.2.1.1.toNat : Int))).setCell ⟨w.heap.size, 2, none⟩ (.int .u64 (q2.2.1.2.1.toNat : Int))).setCell ⟨w.heap.size, 3, none⟩ (.int .u64 (q2.2.1.2.2.1.toNat : Int))).setCell ⟨w.heap.size, 4, none⟩ (.int .u64 (q2.2.1.2.2.2.toNat : Int))).setCell ⟨w.heap.size, 5, none⟩ (.slice q2.2.2.1 q2.2.2.2.1 q2.2.2.2.2)) = w7) := ⟨_, (rfl : _ = _)⟩
  rw [HW7.out]
  have HSET := row_six HR6.out (.int .i64 q2.1) (.int .u64 (q2.2.1.1.toNat : Int)) (.int .u64 (q2.2.1.2.1.toNat : Int)) (.int .u64 (q2.2.1.2.2.1.toNat : Int)) (.int .u64 (q2.2.1.2.2.2.toNat : Int)) (.slice q2.2.2.1 q2.2.2.2.1 q2.2.2.2.2)
  have HOTH := six_other w6 w.heap.size (.int .i64 q2.1) (.int .u64 (q2.2.1.1.toNat : Int)) (.int .u64 (q2.2.1.2.1.toNat : Int)) (.int .u64 (q2.2.1.2.2.1.toNat : Int)) (.int .u64 (q2.2.1.2.2.2.toNat : Int)) (.slice q2.2.2.1 q2.2.2.2.1 q2.2.2.2.2)
  have HSZ : w7.heap.size = w6.heap.size := by rw [← HW7.out]; simp [World.setCell]
  have HBL : Below w.heap.size w w7 := by
    rw [← HW7.out]
    exact (((((HB6.out.setCell (Nat.le_refl _) _).setCell (Nat.le_refl _) _).setCell (Nat.le_refl _) _).setCell (Nat.le_refl _) _).setCell (Nat.le_refl _) _).setCell (Nat.le_refl _) _
  rw [HW7.out] at HSET HOTH
  have HFIN : Hid (Rx w7 w7.heap.size (v6 q2) t ∧ Below w.heap.size w w7) := ⟨(HRY.out.move (A' := fun b => b < w7.heap.size) (fun b hb => by rw [HSZ]; exact hb.2) (fun b hb => HOTH b (by have := HB5.out.2; omega))).rx fun b hb => hb, HBL⟩
  have v0 := HSET.cell (i := 0) (by omega)
  have v1 := HSET.cell (i := 1) (by omega)
  have v2 := HSET.cell (i := 2) (by omega)
  have v3 := HSET.cell (i := 3) (by omega)
  have v4 := HSET.cell (i := 4) (by omega)
  have v5 := HSET.cell (i := 5) (by omega)
  simp only [] at v0 v1 v2 v3 v4 v5
  clear HSET HOTH HBL HSZ a0 a1 a2 a3 a4 a5 f0 f1 f2 f3 f4 f5
  exact bodyPost_ret (v := .tuple #[.agg #[.int .i64 q2.1, .int .u64 (q2.2.1.1.toNat : Int), .int .u64 (q2.2.1.2.1.toNat : Int), .int .u64 (q2.2.1.2.2.1.toNat : Int), .int .u64 (q2.2.1.2.2.2.toNat : Int), .slice q2.2.2.1 q2.2.2.2.1 q2.2.2.2.2], .int .i64 0, .int .i64 0]) (by simp [results, Try.results11, go_sem, v0, v1, v2, v3, v4, v5]) rfl ⟨q2, rfl, HFIN.out.1, HFIN.out.2⟩
set_option maxHeartbeats 6400000 in
set_option maxRecDepth 20000 in
theorem Parse_bad (s : ByteArray) (hs : s.size ≤ 300) (he : pe s ≠ 0) (w : World) :
    Calls Try.prog 11 #[.string s] w fun e w' => ∃ n : Int, e = .returned (.tuple #[.agg #[.int .i64 0, .int .u64 0, .int .u64 0, .int .u64 0, .int .u64 0, .slice none 0 0], .int .i64 n, .int .i64 (pe s : Int)]) ∧ Below w.heap.size w w' := by
  obtain ⟨r, HR⟩ : ∃ r, Hid (pe s = r) := ⟨_, (rfl : pe s = pe s)⟩
  rw [HR.out] at he ⊢
  have b1 : decide ((300 : Int) < (s.size : Int)) = false := by simp; omega
  have e1 : (w.alloc (Obj.cells #[.int .i64 0, .int .u64 0, .int .u64 0, .int .u64 0, .int .u64 0, .slice none 0 0] 27)).heap.size = w.heap.size + 1 := by simp
  have r0 := (row_zero6 w).alloc (Obj.cells #[.string s, .int .i64 0, .int .i64 0] 51)
  have hps : Ps (w.heap.size + 1) s 0 (.int .i64 0) ((w.alloc (Obj.cells #[.int .i64 0, .int .u64 0, .int .u64 0, .int .u64 0, .int .u64 0, .slice none 0 0] 27)).alloc (Obj.cells #[.string s, .int .i64 0, .int .i64 0] 51)) := by
    have := heap_alloc_new (w.alloc (Obj.cells #[.int .i64 0, .int .u64 0, .int .u64 0, .int .u64 0, .int .u64 0, .slice none 0 0] 27)) (Obj.cells #[.string s, .int .i64 0, .int .i64 0] 51)
    rw [e1] at this; exact this
  have hpc := alt_done s (by omega) (w.heap.size + 1) 0 _ hps (Nat.zero_le _)
  have HR0 : Hid (((w.alloc (Obj.cells #[.int .i64 0, .int .u64 0, .int .u64 0, .int .u64 0, .int .u64 0, .slice none 0 0] 27)).alloc (Obj.cells #[.string s, .int .i64 0, .int .i64 0] 51)).rowIs w.heap.size 27 6 (fun i => match i with | 0 => .int .i64 0 | 5 => .slice none 0 0 | _ => .int .u64 0)) := r0
  have HB0 : Hid (Below w.heap.size w ((w.alloc (Obj.cells #[.int .i64 0, .int .u64 0, .int .u64 0, .int .u64 0, .int .u64 0, .slice none 0 0] 27)).alloc (Obj.cells #[.string s, .int .i64 0, .int .i64 0] 51)) ∧ ((w.alloc (Obj.cells #[.int .i64 0, .int .u64 0, .int .u64 0, .int .u64 0, .int .u64 0, .slice none 0 0] 27)).alloc (Obj.cells #[.string s, .int .i64 0, .int .i64 0] 51)).heap.size = w.heap.size + 2) := ⟨bal2 _ _ _, by simp⟩
  obtain ⟨x, HX⟩ : ∃ x, Hid (altN s 30 0 = x) := ⟨_, (rfl : altN s 30 0 = altN s 30 0)⟩
  rw [HX.out] at hpc
  clear r0 hps e1
  go_enter Try.func11, Try.ntmps11
  go_wp2_with fail
  refine hpc.mono ?_
  rintro _ w3 ⟨q, rfl, hry, hps, hgr⟩
  have HB3 : Hid (Below w.heap.size w w3) := HB0.out.1.trans ⟨hgr.os, hgr.tape, hgr.output, hgr.size, fun k hk => hgr.block k (by have := HB0.out.2; omega) (by simp; omega)⟩
  have r3 := HR0.out.of_block (hgr.block w.heap.size (by have := HB0.out.2; omega) (by simp))
  have hba := bal w3 (Obj.cells #[.int .i64 q.1, .int .u64 (q.2.1.1.toNat : Int), .int .u64 (q.2.1.2.1.toNat : Int), .int .u64 (q.2.1.2.2.1.toNat : Int), .int .u64 (q.2.1.2.2.2.toNat : Int), .slice q.2.2.1 q.2.2.2.1 q.2.2.2.2] 27)
  have rq := row_of6 w3 (.int .i64 q.1) (.int .u64 (q.2.1.1.toNat : Int)) (.int .u64 (q.2.1.2.1.toNat : Int)) (.int .u64 (q.2.1.2.2.1.toNat : Int)) (.int .u64 (q.2.1.2.2.2.toNat : Int)) (.slice q.2.2.1 q.2.2.2.1 q.2.2.2.2)
  obtain ⟨w4, HW4⟩ : ∃ w4, Hid (w3.alloc (Obj.cells #[.int .i64 q.1, .int .u64 (q.2.1.1.toNat : Int), .int .u64 (q.2.1.2.1.toNat : Int), .int .u64 (q.2.1.2.2.1.toNat : Int), .int .u64 (q.2.1.2.2.2.toNat : Int), .slice q.2.2.1 q.2.2.2.1 q.2.2.2.2] 27) = w4) := ⟨_, (rfl : _ = _)⟩
  rw [HW4.out] at hba rq
  have HR4 : Hid (w4.rowIs w.heap.size 27 6 (fun i => match i with | 0 => .int .i64 0 | 5 => .slice none 0 0 | _ => .int .u64 0)) := r3.of_block (hba.block _ r3.lt)
  have HB4 : Hid (Below w.heap.size w w4 ∧ w.heap.size + 2 ≤ w4.heap.size) := ⟨HB3.out.trans (hba.mono HB3.out.size), by have := HB0.out.2; have := hgr.size; have := hba.size; omega⟩
  have HRQ : Hid (w4.rowIs w3.heap.size 27 6 _) := rq
  have HRY : Hid (Rx w4 w4.heap.size (v6 q) x.1) := (hry.move (A' := fun b => b < w4.heap.size) (fun b hb => Nat.lt_of_lt_of_le hb.2 hba.size) (fun b hb => hba.block b hb.2)).rx fun b hb => hb
  have HPS : Hid (Ps (w.heap.size + 1) s x.2.1 (.int .i64 0) w4) := hps.next hba
  have p1 := HPS.out.cells.1.2.1
  rw [← HW4.out] at p1
  clear hpc hry hps hgr r3 hba rq HB3 HR0 HB0
  have HPE : Hid (r = if x.2.2 = 0 then (if x.2.1 < s.size then 6 else err x.1) else x.2.2) := by show _ = _; rw [← HR.out]; unfold pe; rw [HX.out]
  clear HR HX
  have HRW : Hid (w4.rowIs w.heap.size 27 6 (fun i => match i with | 0 => .int .i64 0 | 5 => .slice none 0 0 | _ => .int .u64 0)) := HR4.out
  have HPW : Hid (Ps (w.heap.size + 1) s x.2.1 (.int .i64 0) w4) := HPS.out
  have HBW : Hid (Below w.heap.size w w4) := HB4.out.1
  by_cases h1 : x.2.2 = 0
  · have HPE2 : Hid (r = if x.2.1 < s.size then 6 else err x.1) := by show _ = _; rw [HPE.out, if_pos h1]
    rw [h1]
    by_cases h2 : x.2.1 < s.size
    · obtain rfl : r = 6 := by rw [HPE2.out, if_pos h2]
      have b3 : decide ((x.2.1 : Int) < (s.size : Int)) = true := by simp; omega
      go_upto_region 10 with (fail)
      rw [HW4.out]
      have p9 := HPW.out.cells.1.2.1
      have a0 := HRW.out.cell (i := 0) (by omega)
      have a1 := HRW.out.cell (i := 1) (by omega)
      have a2 := HRW.out.cell (i := 2) (by omega)
      have a3 := HRW.out.cell (i := 3) (by omega)
      have a4 := HRW.out.cell (i := 4) (by omega)
      have a5 := HRW.out.cell (i := 5) (by omega)
      have f0 := HRW.out.frozen 0
      have f1 := HRW.out.frozen 1
      have f2 := HRW.out.frozen 2
      have f3 := HRW.out.frozen 3
      have f4 := HRW.out.frozen 4
      have f5 := HRW.out.frozen 5
      simp only [] at a0 a1 a2 a3 a4 a5
      obtain ⟨wz, HWZ⟩ : ∃ wz, Hid (((((((w4.setCell ⟨w.heap.size, 0, none⟩ (.int .i64 0)).setCell ⟨w.heap.size, 1, none⟩ (.int .u64 0)).setCell ⟨w.heap.size, 2, none⟩ (.int .u64 0)).setCell ⟨w.heap.size, 3, none⟩ (.int .u64 0)).setCell ⟨w.heap.size, 4, none⟩ (.int .u64 0)).setCell ⟨w.heap.size, 5, none⟩ (.slice none 0 0)) = wz) := ⟨_, (rfl : _ = _)⟩
      have HSET := row_six HRW.out (.int .i64 0) (.int .u64 0) (.int .u64 0) (.int .u64 0) (.int .u64 0) (.slice none 0 0)
      have HBL : Hid (Below w.heap.size w wz) := by
        show Below _ _ _
        rw [← HWZ.out]
        exact (((((HBW.out.setCell (Nat.le_refl _) _).setCell (Nat.le_refl _) _).setCell (Nat.le_refl _) _).setCell (Nat.le_refl _) _).setCell (Nat.le_refl _) _).setCell (Nat.le_refl _) _
      rw [HWZ.out] at HSET
      have v0 := HSET.cell (i := 0) (by omega)
      have v1 := HSET.cell (i := 1) (by omega)
      have v2 := HSET.cell (i := 2) (by omega)
      have v3 := HSET.cell (i := 3) (by omega)
      have v4 := HSET.cell (i := 4) (by omega)
      have v5 := HSET.cell (i := 5) (by omega)
      simp only [] at v0 v1 v2 v3 v4 v5
      rw [← HWZ.out] at v0 v1 v2 v3 v4 v5 HBL
      clear HSET HWZ
      go_region
      go_wp2_with fail
      refine bodyPost_ret (v := .tuple #[.agg #[.int .i64 0, .int .u64 0, .int .u64 0, .int .u64 0, .int .u64 0, .slice none 0 0], .int .i64 (x.2.1 : Int), .int .i64 6]) (by simp [results, Try.results11, go_sem, v0, v1, v2, v3, v4, v5]) rfl ⟨(x.2.1 : Int), rfl, ?_⟩
      exact HBL.out.drew
    · have b3 : decide ((x.2.1 : Int) < (s.size : Int)) = false := by simp; omega
      have her : err x.1 = r := by rw [HPE2.out, if_neg h2]
      have y0 := HRQ.out.cell (i := 0) (by omega)
      have y1 := HRQ.out.cell (i := 1) (by omega)
      have y2 := HRQ.out.cell (i := 2) (by omega)
      have y3 := HRQ.out.cell (i := 3) (by omega)
      have y4 := HRQ.out.cell (i := 4) (by omega)
      have y5 := HRQ.out.cell (i := 5) (by omega)
      simp only [] at y0 y1 y2 y3 y4 y5
      rw [← HW4.out] at y0 y1 y2 y3 y4 y5
      have HC : Hid (Calls Try.prog 10 #[.agg #[.int .i64 q.1, .int .u64 (q.2.1.1.toNat : Int), .int .u64 (q.2.1.2.1.toNat : Int), .int .u64 (q.2.1.2.2.1.toNat : Int), .int .u64 (q.2.1.2.2.2.toNat : Int), .slice q.2.2.1 q.2.2.2.1 q.2.2.2.2]] w4 fun e w' => e = .returned (.int .i64 (r : Int)) ∧ Below w4.heap.size w4 w') := by
        have := Check_any x.1 (v6 q) w4.heap.size w4 HRY.out (Nat.le_refl _)
        rw [her] at this; exact this
      have b4 : ((r : Int) != 0) = true := bne_iff_ne.2 (by omega)
      clear her
      clear HPE HPE2
      go_wp2_with fail
      rw [HW4.out]
      clear y0 y1 y2 y3 y4 y5 p1 HW4
      refine HC.out.mono ?_
      rintro _ w5 ⟨rfl, hb5⟩
      replace HRW : Hid (w5.rowIs w.heap.size 27 6 (fun i => match i with | 0 => .int .i64 0 | 5 => .slice none 0 0 | _ => .int .u64 0)) := HRW.out.of_block (hb5.block _ HRW.out.lt)
      replace HPW : Hid (Ps (w.heap.size + 1) s x.2.1 (.int .i64 0) w5) := HPW.out.next hb5
      replace HBW : Hid (Below w.heap.size w w5) := HBW.out.trans (hb5.mono HBW.out.size)
      clear hb5 HC
      go_upto_region 10 with (fail)
      have p9 := HPW.out.cells.1.2.1
      have a0 := HRW.out.cell (i := 0) (by omega)
      have a1 := HRW.out.cell (i := 1) (by omega)
      have a2 := HRW.out.cell (i := 2) (by omega)
      have a3 := HRW.out.cell (i := 3) (by omega)
      have a4 := HRW.out.cell (i := 4) (by omega)
      have a5 := HRW.out.cell (i := 5) (by omega)
      have f0 := HRW.out.frozen 0
      have f1 := HRW.out.frozen 1
      have f2 := HRW.out.frozen 2
      have f3 := HRW.out.frozen 3
      have f4 := HRW.out.frozen 4
      have f5 := HRW.out.frozen 5
      simp only [] at a0 a1 a2 a3 a4 a5
      obtain ⟨wz, HWZ⟩ : ∃ wz, Hid (((((((w5.setCell ⟨w.heap.size, 0, none⟩ (.int .i64 0)).setCell ⟨w.heap.size, 1, none⟩ (.int .u64 0)).setCell ⟨w.heap.size, 2, none⟩ (.int .u64 0)).setCell ⟨w.heap.size, 3, none⟩ (.int .u64 0)).setCell ⟨w.heap.size, 4, none⟩ (.int .u64 0)).setCell ⟨w.heap.size, 5, none⟩ (.slice none 0 0)) = wz) := ⟨_, (rfl : _ = _)⟩
      have HSET := row_six HRW.out (.int .i64 0) (.int .u64 0) (.int .u64 0) (.int .u64 0) (.int .u64 0) (.slice none 0 0)
      have HBL : Hid (Below w.heap.size w wz) := by
        show Below _ _ _
        rw [← HWZ.out]
        exact (((((HBW.out.setCell (Nat.le_refl _) _).setCell (Nat.le_refl _) _).setCell (Nat.le_refl _) _).setCell (Nat.le_refl _) _).setCell (Nat.le_refl _) _).setCell (Nat.le_refl _) _
      rw [HWZ.out] at HSET
      have v0 := HSET.cell (i := 0) (by omega)
      have v1 := HSET.cell (i := 1) (by omega)
      have v2 := HSET.cell (i := 2) (by omega)
      have v3 := HSET.cell (i := 3) (by omega)
      have v4 := HSET.cell (i := 4) (by omega)
      have v5 := HSET.cell (i := 5) (by omega)
      simp only [] at v0 v1 v2 v3 v4 v5
      rw [← HWZ.out] at v0 v1 v2 v3 v4 v5 HBL
      clear HSET HWZ
      go_region
      go_wp2_with fail
      refine bodyPost_ret (v := .tuple #[.agg #[.int .i64 0, .int .u64 0, .int .u64 0, .int .u64 0, .int .u64 0, .slice none 0 0], .int .i64 (x.2.1 : Int), .int .i64 (r : Int)]) (by simp [results, Try.results11, go_sem, v0, v1, v2, v3, v4, v5]) rfl ⟨(x.2.1 : Int), rfl, ?_⟩
      exact HBL.out.drew
  · have her : x.2.2 = r := by rw [HPE.out, if_neg h1]
    rw [her]
    have b4 : ((r : Int) != 0) = true := bne_iff_ne.2 (by omega)
    have b5 : ((r : Int) == 0) = false := beq_eq_false_iff_ne.2 (by omega)
    clear her
    clear HPE h1
    go_upto_region 10 with (fail)
    rw [HW4.out]
    have p9 := HPW.out.cells.1.2.1
    have a0 := HRW.out.cell (i := 0) (by omega)
    have a1 := HRW.out.cell (i := 1) (by omega)
    have a2 := HRW.out.cell (i := 2) (by omega)
    have a3 := HRW.out.cell (i := 3) (by omega)
    have a4 := HRW.out.cell (i := 4) (by omega)
    have a5 := HRW.out.cell (i := 5) (by omega)
    have f0 := HRW.out.frozen 0
    have f1 := HRW.out.frozen 1
    have f2 := HRW.out.frozen 2
    have f3 := HRW.out.frozen 3
    have f4 := HRW.out.frozen 4
    have f5 := HRW.out.frozen 5
    simp only [] at a0 a1 a2 a3 a4 a5
    obtain ⟨wz, HWZ⟩ : ∃ wz, Hid (((((((w4.setCell ⟨w.heap.size, 0, none⟩ (.int .i64 0)).setCell ⟨w.heap.size, 1, none⟩ (.int .u64 0)).setCell ⟨w.heap.size, 2, none⟩ (.int .u64 0)).setCell ⟨w.heap.size, 3, none⟩ (.int .u64 0)).setCell ⟨w.heap.size, 4, none⟩ (.int .u64 0)).setCell ⟨w.heap.size, 5, none⟩ (.slice none 0 0)) = wz) := ⟨_, (rfl : _ = _)⟩
    have HSET := row_six HRW.out (.int .i64 0) (.int .u64 0) (.int .u64 0) (.int .u64 0) (.int .u64 0) (.slice none 0 0)
    have HBL : Hid (Below w.heap.size w wz) := by
      show Below _ _ _
      rw [← HWZ.out]
      exact (((((HBW.out.setCell (Nat.le_refl _) _).setCell (Nat.le_refl _) _).setCell (Nat.le_refl _) _).setCell (Nat.le_refl _) _).setCell (Nat.le_refl _) _).setCell (Nat.le_refl _) _
    rw [HWZ.out] at HSET
    have v0 := HSET.cell (i := 0) (by omega)
    have v1 := HSET.cell (i := 1) (by omega)
    have v2 := HSET.cell (i := 2) (by omega)
    have v3 := HSET.cell (i := 3) (by omega)
    have v4 := HSET.cell (i := 4) (by omega)
    have v5 := HSET.cell (i := 5) (by omega)
    simp only [] at v0 v1 v2 v3 v4 v5
    rw [← HWZ.out] at v0 v1 v2 v3 v4 v5 HBL
    clear HSET HWZ
    go_region
    go_wp2_with fail
    refine bodyPost_ret (v := .tuple #[.agg #[.int .i64 0, .int .u64 0, .int .u64 0, .int .u64 0, .int .u64 0, .slice none 0 0], .int .i64 (x.2.1 : Int), .int .i64 (r : Int)]) (by simp [results, Try.results11, go_sem, v0, v1, v2, v3, v4, v5]) rfl ⟨(x.2.1 : Int), rfl, ?_⟩
    exact HBL.out.drew
end Go.Proofs.Ythloedfiomfnbaa
