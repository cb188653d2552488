/-
  The contracts of slices.Equal at events and at what is ahead, and of pushref.SameClimber where both are the same.
-/
import Derived.Test.YtpfehghicaaghaaClA
import Derived.BigQuiet
import Derived.Deep.Cut
import Derived.Lib.SmallJoins
import Derived.Deep.QuietTactic
namespace Go.Proofs.Ytpfehghicaaghaa
open Go.RowKit
open Cg

set_option maxHeartbeats 4000000 in
set_option maxRecDepth 20000 in
theorem equalE_any (a b : Value) (l m : List Ev) (w : World) (ha : Evs w a l) (hb : Evs w b m) :
    Calls Try.prog 53 #[a, b] w fun e w' => e = .returned (.bool (decide (l = m))) ∧ Below w.heap.size w w' := by
  obtain ⟨aa, ac, rfl, ham, hac⟩ := ha
  obtain ⟨ba, bc, rfl, hbm, hbc⟩ := hb
  obtain ⟨r, HR⟩ : ∃ r, Hid (decide (l = m) = r) := ⟨_, (rfl : decide (l = m) = _)⟩
  rw [HR.out]
  by_cases hl : l.length = m.length
  · obtain ⟨n, HN⟩ : ∃ n, Hid (l.length = n) := ⟨_, (rfl : l.length = _)⟩
    have HM : Hid (m.length = n) := by show _ = _; rw [← hl]; exact HN.out
    rw [HN.out, HM.out]
    rw [HN.out] at ham
    clear hl hbm
    have hb1 : ((n : Int) != (n : Int)) = false := by simp
    have HAC : Hid (l = [] ∨ ∃ b o, aa = some ⟨b, o, none⟩ ∧ b < w.heap.size ∧ ∀ i (hi : i < l.length), w.cell? ⟨b, o + i * 2, none⟩ = some (.int .i64 l[i].1) ∧ w.cell? ⟨b, o + i * 2 + 1, none⟩ = some (.int .i64 l[i].2)) := hac
    have HBC : Hid (m = [] ∨ ∃ b o, ba = some ⟨b, o, none⟩ ∧ b < w.heap.size ∧ ∀ i (hi : i < m.length), w.cell? ⟨b, o + i * 2, none⟩ = some (.int .i64 m[i].1) ∧ w.cell? ⟨b, o + i * 2 + 1, none⟩ = some (.int .i64 m[i].2)) := hbc
    clear hac hbc
    go_enter Try.func53, Try.ntmps53
    go_wp2_with fail
    go_loopw [13] (fun y wr => ∃ i : Nat, i ≤ n ∧ y = .int .i64 (i : Int) ∧ Hid (Below w.heap.size w wr ∧ l.take i = m.take i)) (fun y _ => n - (intOf y).toNat)
    case atStart => exact ⟨0, by omega, rfl, Below.refl _ _, by simp⟩
    case round =>
      obtain ⟨i, hi, rfl, HI⟩ := hrel
      by_cases hlt : i < n
      · have hil : i < l.length := by rw [HN.out]; exact hlt
        have him : i < m.length := by rw [HM.out]; exact hlt
        obtain ⟨b1, o1, rfl, q1, q2⟩ := HAC.out.resolve_left (by intro e; subst e; simp at hil)
        obtain ⟨b2, o2, rfl, q3, q4⟩ := HBC.out.resolve_left (by intro e; subst e; simp at him)
        have hk1 : (i : Int) < (n : Int) := by omega
        have hk0 : (0 : Int) ≤ (i : Int) := by omega
        have HS1 : Hid (l[i] = m[i] → l.take (i + 1) = m.take (i + 1)) := fun e => by
          rw [List.take_succ_eq_append_getElem hil, List.take_succ_eq_append_getElem him, HI.out.2, e]
        have HS2 : Hid (l[i] ≠ m[i] → r = false) := fun e => by
          rw [← HR.out]; simp; intro e2; subst e2; exact e rfl
        have c1 : wr.cell? ⟨b1, o1 + i * 2, none⟩ = some (.int .i64 l[i].1) := (HI.out.1.cell (p := ⟨b1, o1 + i * 2, none⟩) q1).trans (q2 i hil).1
        have c2 : wr.cell? ⟨b1, o1 + i * 2 + 1, none⟩ = some (.int .i64 l[i].2) := (HI.out.1.cell (p := ⟨b1, o1 + i * 2 + 1, none⟩) q1).trans (q2 i hil).2
        have c3 : wr.cell? ⟨b2, o2 + i * 2, none⟩ = some (.int .i64 m[i].1) := (HI.out.1.cell (p := ⟨b2, o2 + i * 2, none⟩) q3).trans (q4 i him).1
        have c4 : wr.cell? ⟨b2, o2 + i * 2 + 1, none⟩ = some (.int .i64 m[i].2) := (HI.out.1.cell (p := ⟨b2, o2 + i * 2 + 1, none⟩) q3).trans (q4 i him).2
        generalize l[i] = x at c1 c2 HS1 HS2
        generalize m[i] = y at c3 c4 HS1 HS2
        obtain ⟨x0, x1⟩ := x
        obtain ⟨y0, y1⟩ := y
        simp only at c1 c2 c3 c4
        clear q2 q4
        by_cases h0 : x0 = y0
        · subst h0
          have hb2 : (x0 == x0) = true := by simp
          by_cases h1 : x1 = y1
          · subst h1
            have hb3 : (x1 == x1) = true := by simp
            have HS3 : Hid (l.take (i + 1) = m.take (i + 1)) := HS1.out rfl
            clear HS1
            go_wp2_with fail
            go_quiet (fail)
            have HB2 : Hid (Below w.heap.size w (wr.drewN nq)) := HI.out.1.trans (Go.Joins.below_draws _ _ _)
            generalize wr.drewN nq = w2 at HB2 ⊢
            clear c1 c2 c3 c4
            go_wp2_with fail
            go_roundw
            case rel => exact ⟨i + 1, by omega, by go_num, HB2.out, HS3.out⟩
            case measure => simp [intOf]; omega
          · have hb3 : (x1 == y1) = false := by simp; exact h1
            obtain rfl := HS2.out (by simp; exact h1)
            go_wp2_with fail
            go_quiet (fail)
            have HB2 : Hid (Below w.heap.size w (wr.drewN nq)) := HI.out.1.trans (Go.Joins.below_draws _ _ _)
            generalize wr.drewN nq = w2 at HB2 ⊢
            clear c1 c2 c3 c4
            go_wp2_with fail
            go_ret
            exact ⟨by simp, HB2.out⟩
        · have hb3 : (x0 == y0) = false := by simp; exact h0
          obtain rfl := HS2.out (by simp; intro e; exact absurd e h0)
          go_wp2_with fail
          go_quiet (fail)
          have HB2 : Hid (Below w.heap.size w (wr.drewN nq)) := HI.out.1.trans (Go.Joins.below_draws _ _ _)
          generalize wr.drewN nq = w2 at HB2 ⊢
          clear c1 c2 c3 c4
          go_wp2_with fail
          go_ret
          exact ⟨by simp, HB2.out⟩
      · have hk1 : ¬ (i : Int) < (n : Int) := by omega
        obtain rfl : r = true := by
          have := HI.out.2
          rw [List.take_of_length_le (by rw [HN.out]; omega), List.take_of_length_le (by rw [HM.out]; omega)] at this
          rw [← HR.out]; simp [this]
        have HB := HI.out.1
        clear HI
        go_wp2_with fail
        go_ret
        exact ⟨by simp, HB⟩
  · obtain rfl : r = false := by rw [← HR.out]; simp; intro e; subst e; exact hl rfl
    obtain ⟨x, HN⟩ : ∃ n, Hid (l.length = n) := ⟨_, (rfl : l.length = _)⟩
    obtain ⟨y, HM⟩ : ∃ n, Hid (m.length = n) := ⟨_, (rfl : m.length = _)⟩
    rw [HN.out, HM.out] at hl
    rw [HN.out, HM.out]
    have hb1 : ((x : Int) != (y : Int)) = true := by simp; omega
    clear hl
    go_enter Try.func53, Try.ntmps53
    go_wp2_with fail
    go_ret
    exact ⟨by simp, Below.refl _ _⟩
theorem equalE_same (a b : Value) (l : List Ev) (w : World) (ha : Evs w a l) (hb : Evs w b l) :
    Calls Try.prog 53 #[a, b] w fun e w' => e = .returned (.bool true) ∧ Below w.heap.size w w' := by
  have := equalE_any a b l l w ha hb
  rwa [show decide (l = l) = true by simp] at this
set_option maxHeartbeats 4000000 in
set_option maxRecDepth 20000 in
theorem equalT_same (a b : Value) (l : List Td) (w : World) (ha : Tds w a l) (hb : Tds w b l) :
    Calls Try.prog 43 #[a, b] w fun e w' => e = .returned (.bool true) ∧ Below w.heap.size w w' := by
  obtain ⟨aa, ac, rfl, ham, hac⟩ := ha
  obtain ⟨ba, bc, rfl, hbm, hbc⟩ := hb
  obtain ⟨n, HN⟩ : ∃ n, Hid (l.length = n) := ⟨_, (rfl : l.length = _)⟩
  rw [HN.out]
  have hn : n ≤ 9223372036854775807 := by rw [← HN.out]; exact ham.1
  have hb1 : ((n : Int) != (n : Int)) = false := by simp
  have HAC : Hid _ := hac
  have HBC : Hid _ := hbc
  clear hac hbc ham hbm
  go_enter Try.func43, Try.ntmps43
  go_wp2_with fail
  go_loopw [13] (fun y wr => ∃ i : Nat, i ≤ n ∧ y = .int .i64 (i : Int) ∧ Hid (Below w.heap.size w wr)) (fun y _ => n - (intOf y).toNat)
  case atStart => exact ⟨0, by omega, rfl, Below.refl _ _⟩
  case round =>
    obtain ⟨i, hi, rfl, HI⟩ := hrel
    by_cases hlt : i < n
    · have hil : i < l.length := by rw [HN.out]; exact hlt
      obtain ⟨b1, o1, rfl, q1, q2⟩ := HAC.out.resolve_left (by intro e; subst e; simp at hil)
      obtain ⟨b2, o2, rfl, q3, q4⟩ := HBC.out.resolve_left (by intro e; subst e; simp at hil)
      have hk1 : (i : Int) < (n : Int) := by omega
      have hk0 : (0 : Int) ≤ (i : Int) := by omega
      obtain ⟨c1, c2, c3, c4⟩ := q2 i hil
      obtain ⟨d1, d2, d3, d4⟩ := q4 i hil
      replace c1 : wr.cell? ⟨b1, o1 + i * 4, none⟩ = _ := (HI.out.cell (p := ⟨b1, o1 + i * 4, none⟩) q1).trans c1
      replace c2 : wr.cell? ⟨b1, o1 + i * 4 + 1, none⟩ = _ := (HI.out.cell (p := ⟨b1, o1 + i * 4 + 1, none⟩) q1).trans c2
      replace c3 : wr.cell? ⟨b1, o1 + i * 4 + 2, none⟩ = _ := (HI.out.cell (p := ⟨b1, o1 + i * 4 + 2, none⟩) q1).trans c3
      replace c4 : wr.cell? ⟨b1, o1 + i * 4 + 3, none⟩ = _ := (HI.out.cell (p := ⟨b1, o1 + i * 4 + 3, none⟩) q1).trans c4
      replace d1 : wr.cell? ⟨b2, o2 + i * 4, none⟩ = _ := (HI.out.cell (p := ⟨b2, o2 + i * 4, none⟩) q3).trans d1
      replace d2 : wr.cell? ⟨b2, o2 + i * 4 + 1, none⟩ = _ := (HI.out.cell (p := ⟨b2, o2 + i * 4 + 1, none⟩) q3).trans d2
      replace d3 : wr.cell? ⟨b2, o2 + i * 4 + 2, none⟩ = _ := (HI.out.cell (p := ⟨b2, o2 + i * 4 + 2, none⟩) q3).trans d3
      replace d4 : wr.cell? ⟨b2, o2 + i * 4 + 3, none⟩ = _ := (HI.out.cell (p := ⟨b2, o2 + i * 4 + 3, none⟩) q3).trans d4
      generalize l[i] = x at c1 c2 c3 c4 d1 d2 d3 d4
      obtain ⟨x0, x1, x2, x3⟩ := x
      simp only at c1 c2 c3 c4 d1 d2 d3 d4
      clear q2 q4
      have e1 : (x1 == x1) = true := by simp
      have e2 : (x2 == x2) = true := by simp
      have e3 : (x3 == x3) = true := by simp
      have e0 : (x0 == x0) = true := by simp
      go_wp2_with fail
      go_quiet (fail)
      have HB2 : Hid (Below w.heap.size w (wr.drewN nq)) := HI.out.trans (Go.Joins.below_draws _ _ _)
      generalize wr.drewN nq = w2 at HB2 ⊢
      clear c1 c2 c3 c4 d1 d2 d3 d4 e0 e1 e2 e3
      go_wp2_with fail
      go_roundw
      case rel => exact ⟨i + 1, by omega, by go_num, HB2⟩
      case measure => simp [intOf]; omega
    · have hk1 : ¬ (i : Int) < (n : Int) := by omega
      go_wp2_with fail
      go_ret
      exact ⟨rfl, HI.out⟩
set_option maxHeartbeats 4000000 in
set_option maxRecDepth 20000 in
theorem sameClimber_same (a b : Value) (l : List Td) (sn ov : Int) (dn : Bool) (w : World) (ha : Tds w a l) (hb : Tds w b l) :
    Calls Try.prog 16 #[.agg #[a, .int .i64 sn, .int .i64 ov, .bool dn], .agg #[b, .int .i64 sn, .int .i64 ov, .bool dn]] w fun e w' => e = .returned (.bool true) ∧ Below w.heap.size w w' := by
  have HA : Hid (Tds w a l) := ha
  have HB : Hid (Tds w b l) := hb
  obtain ⟨aa, ac, rfl, ham, -⟩ := ha
  obtain ⟨ba, bc, rfl, hbm, -⟩ := hb
  have HB2 : Hid (Below w.heap.size w ((w.alloc (Obj.cells #[.slice aa l.length ac, .int .i64 sn, .int .i64 ov, .bool dn] 43)).alloc (Obj.cells #[.slice ba l.length bc, .int .i64 sn, .int .i64 ov, .bool dn] 43))) := below_alloc2 _ _ _
  have hcall := equalT_same _ _ l _ (HA.out.below HB2.out) (HB.out.below HB2.out)
  have c1 : ((w.alloc (Obj.cells #[.slice aa l.length ac, .int .i64 sn, .int .i64 ov, .bool dn] 43)).alloc (Obj.cells #[.slice ba l.length bc, .int .i64 sn, .int .i64 ov, .bool dn] 43)).heap[w.heap.size]? = some (.cells #[.slice aa l.length ac, .int .i64 sn, .int .i64 ov, .bool dn] 43) := tbox_next (heap_alloc_new _ _) (below_alloc _ _)
  have c2 := heap_alloc2_new w (Obj.cells #[.slice aa l.length ac, .int .i64 sn, .int .i64 ov, .bool dn] 43) (Obj.cells #[.slice ba l.length bc, .int .i64 sn, .int .i64 ov, .bool dn] 43)
  go_enter Try.func16, Try.ntmps16
  go_upto_region 1 with fail
  generalize ((w.alloc (Obj.cells #[.slice aa l.length ac, .int .i64 sn, .int .i64 ov, .bool dn] 43)).alloc (Obj.cells #[.slice ba l.length bc, .int .i64 sn, .int .i64 ov, .bool dn] 43)) = w1 at c1 c2 hcall HB2 ⊢
  obtain ⟨g, HG⟩ : ∃ g, Hid (w.heap.size = g) := ⟨_, (rfl : w.heap.size = w.heap.size)⟩
  rw [HG.out] at c1 c2 ⊢
  have HC : Hid (w1.heap[g]? = some (.cells #[.slice aa l.length ac, .int .i64 sn, .int .i64 ov, .bool dn] 43) ∧ w1.heap[g + 1]? = some (.cells #[.slice ba l.length bc, .int .i64 sn, .int .i64 ov, .bool dn] 43)) := ⟨c1, c2⟩
  have q0 := tcell_blk c1 0
  have p0 := tcell_blk c2 0
  simp only [List.getElem?_toArray, List.getElem?_cons_zero] at q0 p0
  clear c1 c2
  go_wp2_with fail
  refine hcall.mono ?_
  rintro _ w2 ⟨rfl, hb2⟩
  have HB3 : Hid (Below w.heap.size w w2) := HB2.out.trans (hb2.mono HB2.out.size)
  have q := tbox_next HC.out.1 hb2
  have p := tbox_next HC.out.2 hb2
  have q1 := tcell_blk q 1
  have q2 := tcell_blk q 2
  have q3 := tcell_blk q 3
  have p1 := tcell_blk p 1
  have p2 := tcell_blk p 2
  have p3 := tcell_blk p 3
  simp only [List.getElem?_toArray, List.getElem?_cons_zero, List.getElem?_cons_succ] at q1 p1 q2 p2 q3 p3
  have e1 : (sn == sn) = true := by simp
  have e2 : (ov == ov) = true := by simp
  have e3 : (dn == dn) = true := by simp
  clear hcall hb2 q0 p0 q p
  go_wp2_with fail
  go_ret
  exact ⟨by simp, HB3.out⟩
end Go.Proofs.Ytpfehghicaaghaa
