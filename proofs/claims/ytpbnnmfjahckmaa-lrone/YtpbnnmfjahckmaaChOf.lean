/-
  The contract of chart.of.
-/
import Derived.Test.YtpbnnmfjahckmaaChHold
namespace Go.Proofs.Ytpbnnmfjahckmaa
open Go.RowKit
open Cg

theorem Ints.cell {w : World} {ao : Option Addr} {k c : Nat} {l : List Int} (h : Ints w (.slice ao k c) l) {i : Nat} (hi : i < l.length) : ∃ b o, ao = some ⟨b, o, none⟩ ∧ b < w.heap.size ∧ w.cell? ⟨b, o + i, none⟩ = some (.int .i64 (l[i])) := by
  obtain ⟨ao', cap, hv, hm, h | ⟨b, o, h1, h2, h3⟩⟩ := h
  · subst h; simp at hi
  · injection hv with e1 e2 e3
    subst e1
    exact ⟨b, o, h1, h2, h3 i hi⟩

set_option maxHeartbeats 4000000 in
set_option maxRecDepth 20000 in
theorem of_any (w0 : World) (y : Lay) (t : Int) (n : Nat) (pv wv : Value) (ps : List Pd) (ws : List Int) (op : Bool) (N : TbN) (B : Nat → Nat → Nat → Nat → Nat) (w : World) (rc : Rc w0 t n pv wv ps ws) (h : Ch w0 y t n pv wv ps ws op N B w) (s0 s1 : Int) (hs : (s0 = 1 ∧ 0 ≤ s1 ∧ s1 < t) ∨ (s0 = 2 ∧ 0 ≤ s1 ∧ s1 < (n : Int))) (i j : Nat) (hij : i ≤ j) (hj : j ≤ ws.length) :
    Calls Try.prog 96 #[.pointer (some ⟨y.q, 0, none⟩), .agg #[.int .i64 s0, .int .i64 s1], .int .i64 (i : Int), .int .i64 (j : Int)] w fun e w' => e = .returned (.int .u8 ((on1 (lf op ws) N (s0, s1) i j : Nat) : Int)) ∧ Below w.heap.size w w' := by
  obtain ⟨r, HR⟩ : ∃ r, Hid (((on1 (lf op ws) N (s0, s1) i j : Nat) : Int) = r) := ⟨_, (rfl : _ = _)⟩
  rw [HR.out]
  have hwl := rc.wl
  obtain ⟨wao, wc, rfl, hwm, -⟩ := id rc.wrd
  have HI : Hid (Ints w0 (.slice wao ws.length wc) ws) := rc.wrd
  have hch : Ch w0 y t n pv (.slice wao ws.length wc) ps ws op N B (w.alloc (Obj.cells #[.int .i64 s0, .int .i64 s1] 80)) := h.next (below_alloc _ _)
  have HB0 : Hid (Below w.heap.size w (w.alloc (Obj.cells #[.int .i64 s0, .int .i64 s1] 80))) := below_alloc _ _
  have g0 := cell_new w #[.int .i64 s0, .int .i64 s1] 80
  obtain ⟨wb, HWB⟩ : ∃ wb, Hid (w.alloc (Obj.cells #[.int .i64 s0, .int .i64 s1] 80) = wb) := ⟨_, (rfl : _ = _)⟩
  rw [HWB.out] at hch g0 HB0
  have y0 : wb.cell? ⟨w.heap.size, 0, none⟩ = some (.int .i64 s0) := g0 0
  have y1 : wb.cell? ⟨w.heap.size, 1, none⟩ = some (.int .i64 s1) := g0 1
  have z3 : wb.cell? ⟨y.q, 3, none⟩ = some (.slice wao ws.length wc) := hch.bcell 3
  have z4 : wb.cell? ⟨y.q, 4, none⟩ = some (.bool op) := hch.bcell 4
  have z5 : wb.cell? ⟨y.q, 5, none⟩ = some (.slice (some ⟨y.bn, 0, none⟩) n n) := hch.bcell 5
  have HC : Hid (Ch w0 y t n pv (.slice wao ws.length wc) ps ws op N B wb) := hch
  clear hch g0 h rc
  rcases hs with ⟨rfl, h0, h1⟩ | ⟨rfl, h0, h1⟩
  · have HR2 : Hid (r = if lf op ws s1 i j then 1 else 0) := by
      show _ = _
      rw [← HR.out]; unfold on1
      rw [if_neg (by show ¬ (1 : Int) = 2; decide)]
      split <;> rfl
    clear HR
    have HL : Hid (lf op ws s1 i j = (decide (j = i + 1 ∧ ws[i]? = some s1) || (op && decide (i = ws.length)))) := by
      show _ = _
      unfold lf
      cases op
      · simp [leafC]
      · simp only [if_true, leafO]
        by_cases e1 : i = ws.length
        · have : j = ws.length := by omega
          simp [e1, this]
        · simp [e1]
    skip
    by_cases h2 : j = i + 1
    · have hi : i < ws.length := by omega
      obtain ⟨b, o, rfl, hb, hc⟩ := HI.out.cell hi
      have hc2 : wb.cell? ⟨b, o + i, none⟩ = some (.int .i64 ws[i]) := (HC.out.bel.cell (p := ⟨b, o + i, none⟩) hb).trans hc
      have hi2 : (i : Int) < (ws.length : Int) := by omega
      obtain ⟨x, HX⟩ : ∃ x, Hid (ws[i] = x) := ⟨_, (rfl : ws[i] = ws[i])⟩
      have HL2 : Hid (lf op ws s1 i j = decide (x = s1)) := by
        show _ = _
        rw [HL.out]
        have : (decide (i = ws.length)) = false := by simp; omega
        rw [this, Bool.and_false, Bool.or_false, List.getElem?_eq_getElem hi, HX.out]
        simp [h2]
      rw [HX.out] at hc2
      subst h2
      clear hc HI HL
      have hg : ((i : Int) + 1 == ((i + 1 : Nat) : Int)) = true := by simp
      by_cases h3 : x = s1
      · subst h3
        obtain rfl : r = 1 := by rw [HR2.out, HL2.out]; simp
        go_enter Try.func96, Try.ntmps96
        go_wp2_with fail
        rw [HWB.out]
        go_wp2_with (go_quiet (fail))
        go_ret
        exact ⟨rfl, HB0.out.trans ⟨rfl, rfl, rfl, Nat.le_refl _, fun _ _ => rfl⟩⟩
      · have hb3 : (x == s1) = false := by simp; exact h3
        have hb4 : ((i : Int) == (ws.length : Int)) = false := by simp; omega
        obtain rfl : r = 0 := by rw [HR2.out, HL2.out]; simp [h3]
        go_enter Try.func96, Try.ntmps96
        go_wp2_with fail
        rw [HWB.out]
        clear HWB
        cases op
        all_goals
          go_wp2_with (go_quiet (fail))
          go_ret
          exact ⟨rfl, HB0.out.trans ⟨rfl, rfl, rfl, Nat.le_refl _, fun _ _ => rfl⟩⟩
    · have hg : ((i : Int) + 1 == (j : Int)) = false := by simp; omega
      have HL2 : Hid (lf op ws s1 i j = (op && decide (i = ws.length))) := by
        show _ = _
        rw [HL.out]; simp [h2]
      clear HI HL
      by_cases h3 : i = ws.length
      · have hb4 : ((i : Int) == (ws.length : Int)) = true := by simp; omega
        have HR3 : Hid (r = if op then 1 else 0) := by show _ = _; rw [HR2.out, HL2.out]; simp [h3]
        rw [← h3] at z3 hwm
        clear hb4
        have hj2 : i ≤ 20 := by omega
        have hj3 : j ≤ 20 := by omega
        clear hj hwl h3
        go_enter Try.func96, Try.ntmps96
        go_wp2_with fail
        rw [HWB.out]
        clear HWB
        cases op
        all_goals
          have hr := HR3.out
          simp at hr
          subst hr
          go_wp2_with (go_quiet (fail))
          go_ret
          exact ⟨rfl, HB0.out.trans ⟨rfl, rfl, rfl, Nat.le_refl _, fun _ _ => rfl⟩⟩
      · have hb4 : ((i : Int) == (ws.length : Int)) = false := by simp; omega
        obtain rfl : r = 0 := by rw [HR2.out, HL2.out]; simp [h3]
        go_enter Try.func96, Try.ntmps96
        go_wp2_with fail
        rw [HWB.out]
        clear HWB
        cases op
        all_goals
          go_wp2_with (go_quiet (fail))
          go_ret
          exact ⟨rfl, HB0.out.trans ⟨rfl, rfl, rfl, Nat.le_refl _, fun _ _ => rfl⟩⟩
  · obtain ⟨a, rfl⟩ : ∃ a : Nat, s1 = (a : Int) := ⟨s1.toNat, by omega⟩
    have ha : a < n := by omega
    have c0 := HC.out.ncell (i := i) (j := j) ha (by omega) (by omega)
    obtain rfl : r = ((N (a : Int) i j : Nat) : Int) := by rw [← HR.out]; unfold on1; rw [if_pos rfl]
    have hi2 : (i : Int) < 21 := by omega
    have hj2 : (j : Int) < 21 := by omega
    go_enter Try.func96, Try.ntmps96
    go_wp2_with fail
    rw [HWB.out]
    go_wp2_with (go_quiet (fail))
    go_ret
    exact ⟨rfl, HB0.out.trans ⟨rfl, rfl, rfl, Nat.le_refl _, fun _ _ => rfl⟩⟩
end Go.Proofs.Ytpbnnmfjahckmaa
