/-
  The contracts of cfg.isNon, isSym, checkProd, Check and of pushref.RightSym.
-/
import Derived.Test.YtpfehghicaaghaaOpens
namespace Go.Proofs.Ytpfehghicaaghaa
open Go.RowKit
open Cg

set_option maxHeartbeats 1600000 in
set_option maxRecDepth 20000 in
theorem isNon_any (t n : Int) (ao : Option Addr) (k c : Nat) (x : Int) (w : World) :
    Calls Try.prog 90 #[.agg #[.int .i64 t, .int .i64 n, .slice ao k c], .int .i64 x] w fun e w' => e = .returned (.bool (okN n x)) ∧ Below w.heap.size w w' := by
  obtain ⟨r, HR⟩ : ∃ r, Hid (okN n x = r) := ⟨_, (rfl : okN n x = okN n x)⟩
  rw [HR.out]
  by_cases h1 : 0 ≤ x
  · by_cases h2 : x < n
    · obtain rfl : r = true := by rw [← HR.out]; unfold okN; simp; omega
      go_enter Try.func90, Try.ntmps90
      go_wp2_with fail
      go_ret
      exact ⟨by simp, below_alloc _ _⟩
    · obtain rfl : r = false := by rw [← HR.out]; unfold okN; simp; omega
      go_enter Try.func90, Try.ntmps90
      go_wp2_with fail
      go_ret
      exact ⟨by simp, below_alloc _ _⟩
  · obtain rfl : r = false := by rw [← HR.out]; unfold okN; simp; omega
    go_enter Try.func90, Try.ntmps90
    go_wp2_with fail
    go_ret
    exact ⟨by simp, below_alloc _ _⟩

theorem below_alloc2 (w : World) (o o' : Obj) : Below w.heap.size w ((w.alloc o).alloc o') := (below_alloc w o).alloc (by simp) o'

set_option maxHeartbeats 1600000 in
set_option maxRecDepth 20000 in
theorem isSym_any (t n : Int) (ao : Option Addr) (k c : Nat) (s0 s1 : Int) (w : World) :
    Calls Try.prog 65 #[.agg #[.int .i64 t, .int .i64 n, .slice ao k c], .agg #[.int .i64 s0, .int .i64 s1]] w fun e w' => e = .returned (.bool (okSy t n (s0, s1))) ∧ Below w.heap.size w w' := by
  obtain ⟨r, HR⟩ : ∃ r, Hid (okSy t n (s0, s1) = r) := ⟨_, (rfl : okSy t n (s0, s1) = okSy t n (s0, s1))⟩
  rw [HR.out]
  by_cases h1 : s0 = 1
  · subst h1
    by_cases h2 : 0 ≤ s1
    · by_cases h3 : s1 < t
      · obtain rfl : r = true := by rw [← HR.out]; unfold okSy okN; simp; omega
        go_enter Try.func65, Try.ntmps65
        go_wp2_with fail
        go_ret
        exact ⟨by simp, below_alloc2 _ _ _⟩
      · obtain rfl : r = false := by rw [← HR.out]; unfold okSy okN; simp; omega
        go_enter Try.func65, Try.ntmps65
        go_wp2_with fail
        go_ret
        exact ⟨by simp, below_alloc2 _ _ _⟩
    · obtain rfl : r = false := by rw [← HR.out]; unfold okSy okN; simp; omega
      go_enter Try.func65, Try.ntmps65
      go_wp2_with fail
      go_ret
      exact ⟨by simp, below_alloc2 _ _ _⟩
  · have hb1 : (s0 == 1) = false := by simp; exact h1
    by_cases h2 : s0 = 2
    · subst h2
      have HR2 : Hid (okN n s1 = r) := by show _ = _; rw [← HR.out]; unfold okSy; simp
      clear h1 HR
      go_enter Try.func65, Try.ntmps65
      go_wp2_with fail
      have hc := isNon_any t n ao k c s1 ((w.alloc (Obj.cells #[.int .i64 t, .int .i64 n, .slice ao k c] 24)).alloc (Obj.cells #[.int .i64 2, .int .i64 s1] 47))
      rw [HR2.out] at hc
      refine hc.mono ?_
      rintro _ w1 ⟨rfl, hb⟩
      have hB := (below_alloc2 w _ _).trans (hb.mono (by simp; omega))
      clear hb hc
      go_wp2_with fail
      go_ret
      exact ⟨by simp, hB⟩
    · have hb2 : (s0 == 2) = false := by simp; exact h2
      obtain rfl : r = false := by rw [← HR.out]; unfold okSy; simp [h1, h2]
      clear h1 h2
      go_enter Try.func65, Try.ntmps65
      go_wp2_with fail
      go_ret
      exact ⟨by simp, below_alloc2 _ _ _⟩

set_option maxHeartbeats 1600000 in
set_option maxRecDepth 20000 in
theorem rightSym_any (t n : Int) (ao : Option Addr) (k c : Nat) (s0 s1 : Int) (w : World) :
    Calls Try.prog 64 #[.agg #[.int .i64 t, .int .i64 n, .slice ao k c], .agg #[.int .i64 s0, .int .i64 s1]] w fun e w' => e = .returned (.bool (okSy t n (s0, s1))) ∧ Below w.heap.size w w' := by
  obtain ⟨r, HR⟩ : ∃ r, Hid (okSy t n (s0, s1) = r) := ⟨_, (rfl : okSy t n (s0, s1) = okSy t n (s0, s1))⟩
  rw [HR.out]
  by_cases h0 : 0 ≤ s1
  · by_cases h1 : s0 = 1
    · subst h1
      by_cases h3 : s1 < t
      · obtain rfl : r = true := by rw [← HR.out]; unfold okSy okN; simp; omega
        go_enter Try.func64, Try.ntmps64
        go_wp2_with fail
        go_ret
        exact ⟨by simp, below_alloc2 _ _ _⟩
      · obtain rfl : r = false := by rw [← HR.out]; unfold okSy okN; simp; omega
        go_enter Try.func64, Try.ntmps64
        go_wp2_with fail
        go_ret
        exact ⟨by simp, below_alloc2 _ _ _⟩
    · have hb1 : (s0 == 1) = false := by simp; exact h1
      by_cases h2 : s0 = 2
      · subst h2
        by_cases h3 : s1 < n
        · obtain rfl : r = true := by rw [← HR.out]; unfold okSy okN; simp; omega
          go_enter Try.func64, Try.ntmps64
          go_wp2_with fail
          go_ret
          exact ⟨by simp, below_alloc2 _ _ _⟩
        · obtain rfl : r = false := by rw [← HR.out]; unfold okSy okN; simp; omega
          go_enter Try.func64, Try.ntmps64
          go_wp2_with fail
          go_ret
          exact ⟨by simp, below_alloc2 _ _ _⟩
      · have hb2 : (s0 == 2) = false := by simp; exact h2
        obtain rfl : r = false := by rw [← HR.out]; unfold okSy; simp [h1, h2]
        clear h1 h2
        go_enter Try.func64, Try.ntmps64
        go_wp2_with fail
        go_ret
        exact ⟨by simp, below_alloc2 _ _ _⟩
  · obtain rfl : r = false := by
      rw [← HR.out]; unfold okSy okN
      have : decide (0 ≤ s1) = false := by simp; omega
      simp [this]
    go_enter Try.func64, Try.ntmps64
    go_wp2_with fail
    go_ret
    exact ⟨by simp, below_alloc2 _ _ _⟩

set_option maxHeartbeats 1600000 in
set_option maxRecDepth 20000 in
theorem checkProd_any (t n : Int) (ao : Option Addr) (k c : Nat) (x : Int) (u : Value) (l : List Sy) (w : World) (h : Syms w u l) :
    Calls Try.prog 80 #[.agg #[.int .i64 t, .int .i64 n, .slice ao k c], .agg #[.int .i64 x, u]] w fun e w' => e = .returned (.int .i64 (chkP t n (x, l))) ∧ Below w.heap.size w w' := by
  obtain ⟨bo, bc, rfl, hm, hcs⟩ := h
  obtain ⟨r, HR⟩ : ∃ r, Hid (chkP t n (x, l) = r) := ⟨_, (rfl : chkP t n (x, l) = chkP t n (x, l))⟩
  rw [HR.out]
  by_cases h8 : 8 < l.length
  · obtain rfl : r = 2 := by rw [← HR.out]; unfold chkP; rw [if_pos h8]
    have h9 : decide ((8 : Int) < (l.length : Int)) = true := by simp; omega
    go_enter Try.func80, Try.ntmps80
    go_wp2_with fail
    go_ret
    exact ⟨by simp, below_alloc2 _ _ _⟩
  · have h9 : decide ((8 : Int) < (l.length : Int)) = false := by simp; omega
    obtain ⟨q, HQ⟩ : ∃ q, Hid (okN n x = q) := ⟨_, (rfl : okN n x = okN n x)⟩
    have hb0 := below_alloc2 w (Obj.cells #[.int .i64 t, .int .i64 n, .slice ao k c] 24) (Obj.cells #[.int .i64 x, .slice bo l.length bc] 88)
    have HB0 : Hid (Below w.heap.size w ((w.alloc (Obj.cells #[.int .i64 t, .int .i64 n, .slice ao k c] 24)).alloc (Obj.cells #[.int .i64 x, .slice bo l.length bc] 88))) := hb0
    have g0 := cell_new w #[.int .i64 t, .int .i64 n, .slice ao k c] 24
    have g1 := cell_new (w.alloc (Obj.cells #[.int .i64 t, .int .i64 n, .slice ao k c] 24)) #[.int .i64 x, .slice bo l.length bc] 88
    have g2 : ∀ i, ((w.alloc (Obj.cells #[.int .i64 t, .int .i64 n, .slice ao k c] 24)).alloc (Obj.cells #[.int .i64 x, .slice bo l.length bc] 88)).cell? ⟨w.heap.size, i, none⟩ = _ := fun i => ((below_alloc (w.alloc (Obj.cells #[.int .i64 t, .int .i64 n, .slice ao k c] 24)) _).cell (p := ⟨w.heap.size, i, none⟩) (by simp)).trans (g0 i)
    have hsz : ((w.alloc (Obj.cells #[.int .i64 t, .int .i64 n, .slice ao k c] 24)).alloc (Obj.cells #[.int .i64 x, .slice bo l.length bc] 88)).heap.size = w.heap.size + 2 := by simp
    have hsz1 : (w.alloc (Obj.cells #[.int .i64 t, .int .i64 n, .slice ao k c] 24)).heap.size = w.heap.size + 1 := by simp
    rw [hsz1] at g1
    have HSZ : Hid (_ = w.heap.size + 2) := hsz
    clear hsz hsz1 g0 hb0
    go_enter Try.func80, Try.ntmps80
    go_wp2_with fail
    have hc := isNon_any t n ao k c x ((w.alloc (Obj.cells #[.int .i64 t, .int .i64 n, .slice ao k c] 24)).alloc (Obj.cells #[.int .i64 x, .slice bo l.length bc] 88))
    rw [HQ.out] at hc
    refine hc.mono ?_
    rintro _ w1 ⟨rfl, hb⟩
    rw [HSZ.out] at hb
    have hsb := hb.size
    have y0 : w1.cell? ⟨w.heap.size, 0, none⟩ = some (.int .i64 t) := (hb.cell (p := ⟨w.heap.size, 0, none⟩) (by simp)).trans (g2 0)
    have y1 : w1.cell? ⟨w.heap.size, 1, none⟩ = some (.int .i64 n) := (hb.cell (p := ⟨w.heap.size, 1, none⟩) (by simp)).trans (g2 1)
    have y2 : w1.cell? ⟨w.heap.size, 2, none⟩ = some (.slice ao k c) := (hb.cell (p := ⟨w.heap.size, 2, none⟩) (by simp)).trans (g2 2)
    have y3 : w1.cell? ⟨w.heap.size + 1, 0, none⟩ = some (.int .i64 x) := (hb.cell (p := ⟨w.heap.size + 1, 0, none⟩) (by simp)).trans (g1 0)
    have y4 : w1.cell? ⟨w.heap.size + 1, 1, none⟩ = some (.slice bo l.length bc) := (hb.cell (p := ⟨w.heap.size + 1, 1, none⟩) (by simp)).trans (g1 1)
    have HB1 : Hid (Below w.heap.size w w1 ∧ w.heap.size + 2 ≤ w1.heap.size) := ⟨HB0.out.trans (hb.mono (by omega)), by rw [HSZ.out] at hsb; exact hsb⟩
    clear hb hc g1 g2 HB0 hsb HSZ
    cases q with
    | false =>
      obtain rfl : r = 1 := by rw [← HR.out]; unfold chkP; rw [if_neg h8, HQ.out]; rfl
      go_wp2_with fail
      go_ret
      exact ⟨by simp, HB1.out.1⟩
    | true =>
      have HR2 : Hid (r = if l.all (okSy t n) = true then 0 else 1) := by show _ = _; rw [← HR.out]; unfold chkP; rw [if_neg h8, HQ.out]; rfl
      clear HR HQ
      go_wp2_with fail
      go_loopw [19] (fun i wr => ∃ q : Nat, q ≤ l.length ∧ i = .int .i64 (q : Int) ∧ Hid ((l.take q).all (okSy t n) = true) ∧ Below w1.heap.size w1 wr) (fun i _ => l.length - (intOf i).toNat)
      case atStart => exact ⟨0, by omega, rfl, rfl, Below.refl _ _⟩
      case round =>
        obtain ⟨q, hq, rfl, HA, hbel⟩ := hrel
        have hsb := hbel.size
        have HW1 : Hid (w.heap.size + 2 ≤ w1.heap.size) := HB1.out.2
        by_cases hlt : q < l.length
        · obtain ⟨b, o, rfl, hb, hc⟩ := hcs.resolve_left (by intro e; subst e; simp at hlt)
          have hbw : Below w.heap.size w wr := HB1.out.1.trans (hbel.mono (by have := HW1.out; omega))
          obtain ⟨c0, c1⟩ := hc q hlt
          have HS : Hid ((l.take (q + 1)).all (okSy t n) = okSy t n (l[q].1, l[q].2)) := by
            show _ = _
            rw [List.take_succ_eq_append_getElem hlt, List.all_append, HA.out]; simp
          have HF : Hid (okSy t n (l[q].1, l[q].2) = false → l.all (okSy t n) = false) := fun e => by
            rw [List.all_eq_false]; exact ⟨l[q], List.getElem_mem hlt, by simpa using e⟩
          generalize l[q].1 = s0 at c0 HS HF
          generalize l[q].2 = s1 at c1 HS HF
          replace c0 : wr.cell? ⟨b, o + q * 2, none⟩ = _ := (hbw.cell (p := ⟨b, o + q * 2, none⟩) hb).trans c0
          replace c1 : wr.cell? ⟨b, o + q * 2 + 1, none⟩ = _ := (hbw.cell (p := ⟨b, o + q * 2 + 1, none⟩) hb).trans c1
          have hbA : Below w1.heap.size w1 (wr.alloc (Obj.cells #[.int .i64 s0, .int .i64 s1] 47)) := hbel.alloc hsb _
          have z0 : (wr.alloc (Obj.cells #[.int .i64 s0, .int .i64 s1] 47)).cell? ⟨w.heap.size, 0, none⟩ = some (.int .i64 t) := (hbA.cell (p := ⟨w.heap.size, 0, none⟩) (by have := HW1.out; simp; omega)).trans y0
          have z1 : (wr.alloc (Obj.cells #[.int .i64 s0, .int .i64 s1] 47)).cell? ⟨w.heap.size, 1, none⟩ = some (.int .i64 n) := (hbA.cell (p := ⟨w.heap.size, 1, none⟩) (by have := HW1.out; simp; omega)).trans y1
          have z2 : (wr.alloc (Obj.cells #[.int .i64 s0, .int .i64 s1] 47)).cell? ⟨w.heap.size, 2, none⟩ = some (.slice ao k c) := (hbA.cell (p := ⟨w.heap.size, 2, none⟩) (by have := HW1.out; simp; omega)).trans y2
          have hk1 : (q : Int) < (l.length : Int) := by omega
          obtain ⟨rr, HRR⟩ : ∃ rr, Hid (okSy t n (s0, s1) = rr) := ⟨_, (rfl : okSy t n (s0, s1) = okSy t n (s0, s1))⟩
          rw [HRR.out] at HS HF
          have HWB : Hid (w.heap.size < wr.heap.size ∧ b < wr.heap.size) := ⟨by have := HW1.out; omega, by have := HW1.out; omega⟩
          have HBL : Hid (Below w1.heap.size w1 (wr.alloc (Obj.cells #[.int .i64 s0, .int .i64 s1] 47)) ∧ w1.heap.size ≤ (wr.alloc (Obj.cells #[.int .i64 s0, .int .i64 s1] 47)).heap.size) := ⟨hbA, hbA.size⟩
          clear hcs hc y0 y1 y2 y3 y4 hbel hbw hsb hbA
          go_wp2_with fail
          have hcc := isSym_any t n ao k c s0 s1 (wr.alloc (Obj.cells #[.int .i64 s0, .int .i64 s1] 47))
          rw [HRR.out] at hcc
          refine hcc.mono ?_
          rintro _ w2 ⟨rfl, hb2⟩
          have HB2 : Hid (Below w1.heap.size w1 w2) := HBL.out.1.trans (hb2.mono HBL.out.2)
          clear hcc hb2 z0 z1 z2 c0 c1
          cases rr with
          | true =>
            go_wp2_with fail
            go_roundw
            case rel => exact ⟨q + 1, by omega, by go_num, HS.out, HB2.out⟩
            case measure => simp [intOf]; omega
          | false =>
            obtain rfl : r = 1 := by rw [HR2.out, HF.out rfl]; rfl
            go_wp2_with fail
            go_ret
            exact ⟨by simp, HB1.out.1.trans (HB2.out.mono (by have := HW1.out; omega))⟩
        · obtain rfl : r = 0 := by rw [HR2.out, ← List.take_of_length_le (i := q) (l := l) (by omega), HA.out]; rfl
          go_wp2_with fail
          go_ret
          exact ⟨by simp, HB1.out.1.trans (hbel.mono (by have := HW1.out; omega))⟩

end Go.Proofs.Ytpfehghicaaghaa
