/-
  The contracts of cfg.isNon, isSym, checkProd, Check and of pushref.RightSym. A region that draws its order, whose operations only read and whose callees leave what lay below the heap's end: one walk in the order of the text serves, whatever is held of the world. No function is walked here. A region that draws its order, whose operations but the last one only read, whose callees leave what is held of the world, and whose last one waits for all others: one walk in the order of the text serves, and then the last one. No function is walked here. A region that draws its order, by what holds whichever of its operations are done: each operation is run once, from what those ahead of it have left. No function is walked here. As before, of a region some of whose edges bind other orders than ours: those are passed by. No function is walked here. The contracts of cfg.Check and of pushref.Cfg.
-/
import Derived.Test.YtpfehghicaaghaaOpens
import Derived.BigQuiet
import Derived.Deep.RegionHeld
namespace Go.Proofs.Ytpfehghicaaghaa
open Go.RowKit
open Cg

set_option maxHeartbeats 1600000 in
set_option maxRecDepth 20000 in
theorem isNon_any (t n : Int) (ao : Option Addr) (k c : Nat) (x : Int) (w : World) :
    Calls Try.prog 90 #[.agg #[.int .i64 t, .int .i64 n, .slice ao k c], .int .i64 x] w fun e w' => e = .returned (.bool (okN n x)) ∧ Below w.heap.size w w' := by
  obtain ⟨r, HR⟩ : ∃ r, Hid (okN n x = r) := ⟨_, (rfl : okN n x = okN n x)⟩
  rw [HR.out]
  by_cases h1 : 0 ≤ x
  · by_cases h2 : x < n
    · obtain rfl : r = true := by rw [← HR.out]; unfold okN; simp; omega
      go_enter Try.func90, Try.ntmps90
      go_wp2_with fail
      go_ret
      exact ⟨by simp, below_alloc _ _⟩
    · obtain rfl : r = false := by rw [← HR.out]; unfold okN; simp; omega
      go_enter Try.func90, Try.ntmps90
      go_wp2_with fail
      go_ret
      exact ⟨by simp, below_alloc _ _⟩
  · obtain rfl : r = false := by rw [← HR.out]; unfold okN; simp; omega
    go_enter Try.func90, Try.ntmps90
    go_wp2_with fail
    go_ret
    exact ⟨by simp, below_alloc _ _⟩

theorem below_alloc2 (w : World) (o o' : Obj) : Below w.heap.size w ((w.alloc o).alloc o') := (below_alloc w o).alloc (by simp) o'

set_option maxHeartbeats 1600000 in
set_option maxRecDepth 20000 in
theorem isSym_any (t n : Int) (ao : Option Addr) (k c : Nat) (s0 s1 : Int) (w : World) :
    Calls Try.prog 65 #[.agg #[.int .i64 t, .int .i64 n, .slice ao k c], .agg #[.int .i64 s0, .int .i64 s1]] w fun e w' => e = .returned (.bool (okSy t n (s0, s1))) ∧ Below w.heap.size w w' := by
  obtain ⟨r, HR⟩ : ∃ r, Hid (okSy t n (s0, s1) = r) := ⟨_, (rfl : okSy t n (s0, s1) = okSy t n (s0, s1))⟩
  rw [HR.out]
  by_cases h1 : s0 = 1
  · subst h1
    by_cases h2 : 0 ≤ s1
    · by_cases h3 : s1 < t
      · obtain rfl : r = true := by rw [← HR.out]; unfold okSy okN; simp; omega
        go_enter Try.func65, Try.ntmps65
        go_wp2_with fail
        go_ret
        exact ⟨by simp, below_alloc2 _ _ _⟩
      · obtain rfl : r = false := by rw [← HR.out]; unfold okSy okN; simp; omega
        go_enter Try.func65, Try.ntmps65
        go_wp2_with fail
        go_ret
        exact ⟨by simp, below_alloc2 _ _ _⟩
    · obtain rfl : r = false := by rw [← HR.out]; unfold okSy okN; simp; omega
      go_enter Try.func65, Try.ntmps65
      go_wp2_with fail
      go_ret
      exact ⟨by simp, below_alloc2 _ _ _⟩
  · have hb1 : (s0 == 1) = false := by simp; exact h1
    by_cases h2 : s0 = 2
    · subst h2
      have HR2 : Hid (okN n s1 = r) := by show _ = _; rw [← HR.out]; unfold okSy; simp
      clear h1 HR
      go_enter Try.func65, Try.ntmps65
      go_wp2_with fail
      have hc := isNon_any t n ao k c s1 ((w.alloc (Obj.cells #[.int .i64 t, .int .i64 n, .slice ao k c] 24)).alloc (Obj.cells #[.int .i64 2, .int .i64 s1] 47))
      rw [HR2.out] at hc
      refine hc.mono ?_
      rintro _ w1 ⟨rfl, hb⟩
      have hB := (below_alloc2 w _ _).trans (hb.mono (by simp; omega))
      clear hb hc
      go_wp2_with fail
      go_ret
      exact ⟨by simp, hB⟩
    · have hb2 : (s0 == 2) = false := by simp; exact h2
      obtain rfl : r = false := by rw [← HR.out]; unfold okSy; simp [h1, h2]
      clear h1 h2
      go_enter Try.func65, Try.ntmps65
      go_wp2_with fail
      go_ret
      exact ⟨by simp, below_alloc2 _ _ _⟩

set_option maxHeartbeats 1600000 in
set_option maxRecDepth 20000 in
theorem rightSym_any (t n : Int) (ao : Option Addr) (k c : Nat) (s0 s1 : Int) (w : World) :
    Calls Try.prog 64 #[.agg #[.int .i64 t, .int .i64 n, .slice ao k c], .agg #[.int .i64 s0, .int .i64 s1]] w fun e w' => e = .returned (.bool (okSy t n (s0, s1))) ∧ Below w.heap.size w w' := by
  obtain ⟨r, HR⟩ : ∃ r, Hid (okSy t n (s0, s1) = r) := ⟨_, (rfl : okSy t n (s0, s1) = okSy t n (s0, s1))⟩
  rw [HR.out]
  by_cases h0 : 0 ≤ s1
  · by_cases h1 : s0 = 1
    · subst h1
      by_cases h3 : s1 < t
      · obtain rfl : r = true := by rw [← HR.out]; unfold okSy okN; simp; omega
        go_enter Try.func64, Try.ntmps64
        go_wp2_with fail
        go_ret
        exact ⟨by simp, below_alloc2 _ _ _⟩
      · obtain rfl : r = false := by rw [← HR.out]; unfold okSy okN; simp; omega
        go_enter Try.func64, Try.ntmps64
        go_wp2_with fail
        go_ret
        exact ⟨by simp, below_alloc2 _ _ _⟩
    · have hb1 : (s0 == 1) = false := by simp; exact h1
      by_cases h2 : s0 = 2
      · subst h2
        by_cases h3 : s1 < n
        · obtain rfl : r = true := by rw [← HR.out]; unfold okSy okN; simp; omega
          go_enter Try.func64, Try.ntmps64
          go_wp2_with fail
          go_ret
          exact ⟨by simp, below_alloc2 _ _ _⟩
        · obtain rfl : r = false := by rw [← HR.out]; unfold okSy okN; simp; omega
          go_enter Try.func64, Try.ntmps64
          go_wp2_with fail
          go_ret
          exact ⟨by simp, below_alloc2 _ _ _⟩
      · have hb2 : (s0 == 2) = false := by simp; exact h2
        obtain rfl : r = false := by rw [← HR.out]; unfold okSy; simp [h1, h2]
        clear h1 h2
        go_enter Try.func64, Try.ntmps64
        go_wp2_with fail
        go_ret
        exact ⟨by simp, below_alloc2 _ _ _⟩
  · obtain rfl : r = false := by
      rw [← HR.out]; unfold okSy okN
      have : decide (0 ≤ s1) = false := by simp; omega
      simp [this]
    go_enter Try.func64, Try.ntmps64
    go_wp2_with fail
    go_ret
    exact ⟨by simp, below_alloc2 _ _ _⟩

set_option maxHeartbeats 1600000 in
set_option maxRecDepth 20000 in
theorem checkProd_any (t n : Int) (ao : Option Addr) (k c : Nat) (x : Int) (u : Value) (l : List Sy) (w : World) (h : Syms w u l) :
    Calls Try.prog 80 #[.agg #[.int .i64 t, .int .i64 n, .slice ao k c], .agg #[.int .i64 x, u]] w fun e w' => e = .returned (.int .i64 (chkP t n (x, l))) ∧ Below w.heap.size w w' := by
  obtain ⟨bo, bc, rfl, hm, hcs⟩ := h
  obtain ⟨r, HR⟩ : ∃ r, Hid (chkP t n (x, l) = r) := ⟨_, (rfl : chkP t n (x, l) = chkP t n (x, l))⟩
  rw [HR.out]
  by_cases h8 : 8 < l.length
  · obtain rfl : r = 2 := by rw [← HR.out]; unfold chkP; rw [if_pos h8]
    have h9 : decide ((8 : Int) < (l.length : Int)) = true := by simp; omega
    go_enter Try.func80, Try.ntmps80
    go_wp2_with fail
    go_ret
    exact ⟨by simp, below_alloc2 _ _ _⟩
  · have h9 : decide ((8 : Int) < (l.length : Int)) = false := by simp; omega
    obtain ⟨q, HQ⟩ : ∃ q, Hid (okN n x = q) := ⟨_, (rfl : okN n x = okN n x)⟩
    have hb0 := below_alloc2 w (Obj.cells #[.int .i64 t, .int .i64 n, .slice ao k c] 24) (Obj.cells #[.int .i64 x, .slice bo l.length bc] 88)
    have HB0 : Hid (Below w.heap.size w ((w.alloc (Obj.cells #[.int .i64 t, .int .i64 n, .slice ao k c] 24)).alloc (Obj.cells #[.int .i64 x, .slice bo l.length bc] 88))) := hb0
    have g0 := cell_new w #[.int .i64 t, .int .i64 n, .slice ao k c] 24
    have g1 := cell_new (w.alloc (Obj.cells #[.int .i64 t, .int .i64 n, .slice ao k c] 24)) #[.int .i64 x, .slice bo l.length bc] 88
    have g2 : ∀ i, ((w.alloc (Obj.cells #[.int .i64 t, .int .i64 n, .slice ao k c] 24)).alloc (Obj.cells #[.int .i64 x, .slice bo l.length bc] 88)).cell? ⟨w.heap.size, i, none⟩ = _ := fun i => ((below_alloc (w.alloc (Obj.cells #[.int .i64 t, .int .i64 n, .slice ao k c] 24)) _).cell (p := ⟨w.heap.size, i, none⟩) (by simp)).trans (g0 i)
    have hsz : ((w.alloc (Obj.cells #[.int .i64 t, .int .i64 n, .slice ao k c] 24)).alloc (Obj.cells #[.int .i64 x, .slice bo l.length bc] 88)).heap.size = w.heap.size + 2 := by simp
    have hsz1 : (w.alloc (Obj.cells #[.int .i64 t, .int .i64 n, .slice ao k c] 24)).heap.size = w.heap.size + 1 := by simp
    rw [hsz1] at g1
    have HSZ : Hid (_ = w.heap.size + 2) := hsz
    clear hsz hsz1 g0 hb0
    go_enter Try.func80, Try.ntmps80
    go_wp2_with fail
    have hc := isNon_any t n ao k c x ((w.alloc (Obj.cells #[.int .i64 t, .int .i64 n, .slice ao k c] 24)).alloc (Obj.cells #[.int .i64 x, .slice bo l.length bc] 88))
    rw [HQ.out] at hc
    refine hc.mono ?_
    rintro _ w1 ⟨rfl, hb⟩
    rw [HSZ.out] at hb
    have hsb := hb.size
    have y0 : w1.cell? ⟨w.heap.size, 0, none⟩ = some (.int .i64 t) := (hb.cell (p := ⟨w.heap.size, 0, none⟩) (by simp)).trans (g2 0)
    have y1 : w1.cell? ⟨w.heap.size, 1, none⟩ = some (.int .i64 n) := (hb.cell (p := ⟨w.heap.size, 1, none⟩) (by simp)).trans (g2 1)
    have y2 : w1.cell? ⟨w.heap.size, 2, none⟩ = some (.slice ao k c) := (hb.cell (p := ⟨w.heap.size, 2, none⟩) (by simp)).trans (g2 2)
    have y3 : w1.cell? ⟨w.heap.size + 1, 0, none⟩ = some (.int .i64 x) := (hb.cell (p := ⟨w.heap.size + 1, 0, none⟩) (by simp)).trans (g1 0)
    have y4 : w1.cell? ⟨w.heap.size + 1, 1, none⟩ = some (.slice bo l.length bc) := (hb.cell (p := ⟨w.heap.size + 1, 1, none⟩) (by simp)).trans (g1 1)
    have HB1 : Hid (Below w.heap.size w w1 ∧ w.heap.size + 2 ≤ w1.heap.size) := ⟨HB0.out.trans (hb.mono (by omega)), by rw [HSZ.out] at hsb; exact hsb⟩
    clear hb hc g1 g2 HB0 hsb HSZ
    cases q with
    | false =>
      obtain rfl : r = 1 := by rw [← HR.out]; unfold chkP; rw [if_neg h8, HQ.out]; rfl
      go_wp2_with fail
      go_ret
      exact ⟨by simp, HB1.out.1⟩
    | true =>
      have HR2 : Hid (r = if l.all (okSy t n) = true then 0 else 1) := by show _ = _; rw [← HR.out]; unfold chkP; rw [if_neg h8, HQ.out]; rfl
      clear HR HQ
      go_wp2_with fail
      go_loopw [19] (fun i wr => ∃ q : Nat, q ≤ l.length ∧ i = .int .i64 (q : Int) ∧ Hid ((l.take q).all (okSy t n) = true) ∧ Below w1.heap.size w1 wr) (fun i _ => l.length - (intOf i).toNat)
      case atStart => exact ⟨0, by omega, rfl, rfl, Below.refl _ _⟩
      case round =>
        obtain ⟨q, hq, rfl, HA, hbel⟩ := hrel
        have hsb := hbel.size
        have HW1 : Hid (w.heap.size + 2 ≤ w1.heap.size) := HB1.out.2
        by_cases hlt : q < l.length
        · obtain ⟨b, o, rfl, hb, hc⟩ := hcs.resolve_left (by intro e; subst e; simp at hlt)
          have hbw : Below w.heap.size w wr := HB1.out.1.trans (hbel.mono (by have := HW1.out; omega))
          obtain ⟨c0, c1⟩ := hc q hlt
          have HS : Hid ((l.take (q + 1)).all (okSy t n) = okSy t n (l[q].1, l[q].2)) := by
            show _ = _
            rw [List.take_succ_eq_append_getElem hlt, List.all_append, HA.out]; simp
          have HF : Hid (okSy t n (l[q].1, l[q].2) = false → l.all (okSy t n) = false) := fun e => by
            rw [List.all_eq_false]; exact ⟨l[q], List.getElem_mem hlt, by simpa using e⟩
          generalize l[q].1 = s0 at c0 HS HF
          generalize l[q].2 = s1 at c1 HS HF
          replace c0 : wr.cell? ⟨b, o + q * 2, none⟩ = _ := (hbw.cell (p := ⟨b, o + q * 2, none⟩) hb).trans c0
          replace c1 : wr.cell? ⟨b, o + q * 2 + 1, none⟩ = _ := (hbw.cell (p := ⟨b, o + q * 2 + 1, none⟩) hb).trans c1
          have hbA : Below w1.heap.size w1 (wr.alloc (Obj.cells #[.int .i64 s0, .int .i64 s1] 47)) := hbel.alloc hsb _
          have z0 : (wr.alloc (Obj.cells #[.int .i64 s0, .int .i64 s1] 47)).cell? ⟨w.heap.size, 0, none⟩ = some (.int .i64 t) := (hbA.cell (p := ⟨w.heap.size, 0, none⟩) (by have := HW1.out; simp; omega)).trans y0
          have z1 : (wr.alloc (Obj.cells #[.int .i64 s0, .int .i64 s1] 47)).cell? ⟨w.heap.size, 1, none⟩ = some (.int .i64 n) := (hbA.cell (p := ⟨w.heap.size, 1, none⟩) (by have := HW1.out; simp; omega)).trans y1
          have z2 : (wr.alloc (Obj.cells #[.int .i64 s0, .int .i64 s1] 47)).cell? ⟨w.heap.size, 2, none⟩ = some (.slice ao k c) := (hbA.cell (p := ⟨w.heap.size, 2, none⟩) (by have := HW1.out; simp; omega)).trans y2
          have hk1 : (q : Int) < (l.length : Int) := by omega
          obtain ⟨rr, HRR⟩ : ∃ rr, Hid (okSy t n (s0, s1) = rr) := ⟨_, (rfl : okSy t n (s0, s1) = okSy t n (s0, s1))⟩
          rw [HRR.out] at HS HF
          have HWB : Hid (w.heap.size < wr.heap.size ∧ b < wr.heap.size) := ⟨by have := HW1.out; omega, by have := HW1.out; omega⟩
          have HBL : Hid (Below w1.heap.size w1 (wr.alloc (Obj.cells #[.int .i64 s0, .int .i64 s1] 47)) ∧ w1.heap.size ≤ (wr.alloc (Obj.cells #[.int .i64 s0, .int .i64 s1] 47)).heap.size) := ⟨hbA, hbA.size⟩
          clear hcs hc y0 y1 y2 y3 y4 hbel hbw hsb hbA
          go_wp2_with fail
          have hcc := isSym_any t n ao k c s0 s1 (wr.alloc (Obj.cells #[.int .i64 s0, .int .i64 s1] 47))
          rw [HRR.out] at hcc
          refine hcc.mono ?_
          rintro _ w2 ⟨rfl, hb2⟩
          have HB2 : Hid (Below w1.heap.size w1 w2) := HBL.out.1.trans (hb2.mono HBL.out.2)
          clear hcc hb2 z0 z1 z2 c0 c1
          cases rr with
          | true =>
            go_wp2_with fail
            go_roundw
            case rel => exact ⟨q + 1, by omega, by go_num, HS.out, HB2.out⟩
            case measure => simp [intOf]; omega
          | false =>
            obtain rfl : r = 1 := by rw [HR2.out, HF.out rfl]; rfl
            go_wp2_with fail
            go_ret
            exact ⟨by simp, HB1.out.1.trans (HB2.out.mono (by have := HW1.out; omega))⟩
        · obtain rfl : r = 0 := by rw [HR2.out, ← List.take_of_length_le (i := q) (l := l) (by omega), HA.out]; rfl
          go_wp2_with fail
          go_ret
          exact ⟨by simp, HB1.out.1.trans (hbel.mono (by have := HW1.out; omega))⟩

end Go.Proofs.Ytpfehghicaaghaa

namespace Go.Proofs.Ytpfehghicaaghaa
open Go.RowKit

/-- A world of which S holds. -/
structure Kp (S : World → Prop) where
  W : World
  h : S W

theorem wp_region_kept {P : Program} {S : World → Prop} {id : Nat} {Q : Exit → Act → World → Prop} {a : Act} {w : World} {l : List Oper} (hm : P.follows .mixedOrders = true) (hB : Region.lexB .any l.toArray = true) (h0 : S w.drew)
    (h : wpQuiet P l.toArray (fun w' => ∃ p : Kp S, w' = p.W) (fun a' => ∀ w', (∃ p : Kp S, w' = p.W) → Q .normal a' w') l a) : (Code.region id l.toArray true).wp P Q a w :=
  wp_region_quiet (C := fun w' => ∃ p : Kp S, w' = p.W) hm hB ⟨⟨_, h0⟩, rfl⟩ (by simpa using h)

theorem Kp.calls {P : Program} {f : FuncId} {args : Array Value} {S : World → Prop} {v : Value} (p : Kp S) (hS : ∀ W W', S W → Below W.heap.size W W' → S W')
    (h : Calls P f args p.W fun e w' => e = .returned v ∧ Below p.W.heap.size p.W w') : Calls P f args p.W fun e w'' => e = .returned v ∧ ∃ q : Kp S, w'' = q.W :=
  h.mono fun _ w' ⟨h1, h2⟩ => ⟨h1, ⟨w', hS _ _ p.h h2⟩, rfl⟩
theorem mixed : Try.prog.follows .mixedOrders = true := by kernel_rfl
/-- The same memory. -/
structure Sm (w W : World) : Prop where
  heap : W.heap = w.heap
  os : W.os = w.os
  tape : W.tape = w.tape
  output : W.output = w.output
theorem Sm.drew (w : World) : Sm w w.drew := ⟨rfl, rfl, rfl, rfl⟩
theorem Sm.cell {w W : World} (h : Sm w W) (a : Addr) : W.cell? a = w.cell? a := by simp [World.cell?, h.heap]
theorem Sm.frozen {w W : World} (h : Sm w W) (a : Addr) : W.frozen? a = w.frozen? a := by simp [World.frozen?, h.heap]
theorem Sm.below {w W : World} (h : Sm w W) (B : Nat) : Below B w W := ⟨h.os, h.tape, h.output, by rw [h.heap]; exact Nat.le_refl _, fun k _ => by rw [h.heap]⟩
/-- What lay there is as it was. -/
def Sb (w W : World) : Prop := Below w.heap.size w W
theorem Sb.next {w : World} (W W' : World) (h : Sb w W) (hb : Below W.heap.size W W') : Sb w W' := Below.trans h (hb.mono (Below.size h))
theorem Sb.refl (w : World) : Sb w w := Below.refl _ _
theorem Sb.drew (w : World) : Sb w w.drew := ⟨rfl, rfl, rfl, Nat.le_refl _, fun _ _ => rfl⟩
theorem no_way {p : Prop} (h : false = true) : p := by cases h
theorem dep_of {l : List Edge} {d : Nat → Bool} (h : ∀ e ∈ l, Region.binds .any e = true → d e.on = true) (j : Nat) (hj : l.any (fun e => Region.binds .any e && e.on == j) = true) : d j = true := by
  obtain ⟨e, he, h2⟩ := List.any_eq_true.1 hj
  simp only [Bool.and_eq_true, beq_iff_eq] at h2
  rw [← h2.2]; exact h e he h2.1
theorem no_later {d : Nat → Bool} {i j : Nat} (h : d j = true → d i = true) (hi : d i = false) : d j = false := by
  cases e : d j with
  | false => rfl
  | true => rw [h e] at hi; cases hi
end Go.Proofs.Ytpfehghicaaghaa

namespace Go.Proofs.Ytpfehghicaaghaa
open Go.RowKit

variable {P : Program} {ops : Array Oper} {md : Region.Mode} {C : World → Prop} {LE : Array Bool} {QQ : Act → Prop}

/-- Whatever order is picked for the next n operations: then just those of LE are listed, and QQ holds. -/
def wpT (P : Program) (md : Region.Mode) (ops : Array Oper) (C : World → Prop) (LE : Array Bool) (QQ : Act → Prop) : Nat → Array Bool → Act → Prop
  | 0, listed, a => listed = LE ∧ QQ a
  | fuel + 1, listed, a => Region.ready md ops listed ≠ [] ∧ ∀ i ∈ Region.ready md ops listed, qOp P ops C i (wpT P md ops C LE QQ fuel (listed.setIfInBounds i true)) a

theorem wpAny_of_T {Q' : Exit → Act → World → Prop} {m : Nat} (hR : ∀ a w, C w → QQ a → wpAny P md ops Q' m LE a w) : ∀ (n : Nat) (listed : Array Bool) (a : Act) (w : World), C w → wpT P md ops C LE QQ n listed a → wpAny P md ops Q' (n + m) listed a w
  | 0, listed, a, w, hw, h => by
    obtain ⟨rfl, h⟩ := h
    rw [Nat.zero_add]; exact hR a w hw h
  | n + 1, listed, a, w, hw, h => by
    rw [show n + 1 + m = (n + m) + 1 by omega]
    exact ⟨fun h0 => absurd h0 h.1, fun i hi => wpOp_of_qOp hw (fun a' w' hw' => wpAny_of_T hR n _ a' w' hw') (h.2 i hi)⟩

theorem wpT_first {t i : Nat} {oi ot : Oper} {v : Value} (ht : ops[t]? = some ot) (hready : Region.ready md ops LE = [t]) (hwait : ∃ e ∈ ot.after, Region.binds md e = true ∧ e.on = i)
    (hi : ops[i]? = some oi) (hsel : ∀ (j : Nat) (o : Oper) cs b, ops[j]? = some o → o.op ≠ .select cs b) :
    ∀ (fuel : Nat) (listed : Array Bool) (a : Act),
      (∀ j oj, ops[j]? = some oj → j ≠ i → listed.getD j true = false → (∀ e ∈ oj.after, Region.binds md e = true → e.on ≠ i) → oi.apart ops oj = true) →
      i ∈ Region.ready md ops listed → YieldsIn P ops C oi v a →
      wpT P md ops C LE QQ fuel (listed.setIfInBounds i true) (a.put oi.dst v) → wpT P md ops C LE QQ (fuel + 1) listed a := by
  intro fuel
  induction fuel with
  | zero =>
    intro listed a _ hr hy H
    refine ⟨fun h => (by rw [h] at hr; cases hr), fun j hj => ?_⟩
    by_cases hji : j = i
    · subst hji; exact hy.qOp hi H
    · have hm := ready_mono hj hji
      rw [H.1, hready] at hm
      have ejt : j = t := by simpa using hm
      subst ejt
      obtain ⟨hjun, oj, hoj, hall⟩ := mem_ready.1 hj
      rw [ht] at hoj
      cases hoj
      obtain ⟨e, he, hb, heq⟩ := hwait
      have h1 := hall e he hb
      have h0 := (mem_ready.1 hr).1
      rw [heq] at h1
      rcases Nat.lt_or_ge i listed.size with h' | h'
      · simp [h'] at h0 h1; rw [h0] at h1; cases h1
      · simp [Array.getElem?_eq_none h'] at h1
  | succ fuel ih =>
    intro listed a hfree hr hy H
    refine ⟨fun h => (by rw [h] at hr; cases hr), fun j hj => ?_⟩
    by_cases hji : j = i
    · subst hji; exact hy.qOp hi H
    · have h1 := H.2 j (ready_mono hj hji)
      obtain ⟨hjun, oj, hoj, hall⟩ := mem_ready.1 hj
      have hnot : ∀ e ∈ oj.after, Region.binds md e = true → e.on ≠ i := fun e he hb heq => by
        have h1 := hall e he hb
        have h0 := (mem_ready.1 hr).1
        rw [heq] at h1
        rcases Nat.lt_or_ge i listed.size with h' | h'
        · simp [h'] at h0 h1; rw [h0] at h1; cases h1
        · simp [Array.getElem?_eq_none h'] at h1
      have h2 := qOp_put hoj (hfree j oj hoj hji hjun hnot) (fun cs b => hsel i oi cs b hi) (fun cs b => hsel j oj cs b hoj) hy h1
      have hfree' : ∀ k ok, ops[k]? = some ok → k ≠ i → (listed.setIfInBounds j true).getD k true = false →
          (∀ e ∈ ok.after, Region.binds md e = true → e.on ≠ i) → oi.apart ops ok = true := fun k ok hk hki hun hno => by
        refine hfree k ok hk hki ?_ hno
        by_cases hjk : j = k
        · subst hjk; exact hjun
        · rw [getD_set_ne true hjk] at hun; exact hun
      refine qOp_mono (fun a' h3 => ih (listed.setIfInBounds j true) a' hfree' (ready_mono hr (Ne.symm hji)) h3.1 ?_) h2
      rw [Array.setIfInBounds_comm _ _ hji]
      exact h3.2

/-- The lexical order, up to the last one. -/
def lexPart (md : Region.Mode) (ops : Array Oper) : Nat → Nat → Array Bool → Bool
  | 0, _, _ => true
  | fuel + 1, k, listed => (Region.ready md ops listed).contains k && Region.free md ops listed k && lexPart md ops fuel (k + 1) (listed.setIfInBounds k true)
def fillFrom : Nat → Nat → Array Bool → Array Bool
  | 0, _, listed => listed
  | n + 1, k, listed => fillFrom n (k + 1) (listed.setIfInBounds k true)

theorem wpT_lex {t : Nat} {ot : Oper} (hs : Region.noSelect ops = true) (ht : ops[t]? = some ot) (hready : Region.ready md ops LE = [t]) (hwait : ∀ i, i < t → ∃ e ∈ ot.after, Region.binds md e = true ∧ e.on = i) :
    ∀ (l : List Oper) (k : Nat) (listed : Array Bool) (a : Act), k + l.length = t → (∀ j, j < l.length → l[j]? = ops[k + j]?) → lexPart md ops l.length k listed = true → fillFrom l.length k listed = LE → wpQuiet P ops C QQ l a → wpT P md ops C LE QQ l.length listed a
  | [], _, _, _, _, _, _, hL, h => ⟨hL, h⟩
  | o :: l, k, listed, a, hk, hl, hB, hL, h => by
    have h0 : ops[k]? = some o := by simpa using (hl 0 (by simp)).symm
    simp only [List.length_cons, lexPart, Bool.and_eq_true] at hB
    obtain ⟨⟨hr, hf⟩, hB'⟩ := hB
    have hst : qOp P ops C k (wpQuiet P ops C QQ l) a := by unfold qOp; simp only [h0]; exact h
    obtain ⟨v, hy, hK⟩ := yieldsIn_of_qOp h0 hst
    exact wpT_first ht hready (hwait k (by simp at hk; omega)) h0 (Region.noSelect_spec hs) l.length listed a (Region.free_spec h0 hf) (by simpa using hr) hy
      (wpT_lex hs ht hready hwait l (k + 1) _ _ (by simp at hk; omega) (fun j hj => by have := hl (j + 1) (by simp; omega); simpa [Nat.add_assoc, Nat.add_comm 1 j] using this) hB' hL hK)

/-- The last operation waits for each of the others. -/
def waitsAll (ot : Oper) (n : Nat) : Bool := (List.range n).all fun i => ot.after.any fun e => Region.binds .any e && e.on == i
theorem waitsAll_spec {ot : Oper} {n : Nat} (h : waitsAll ot n = true) (i : Nat) (hi : i < n) : ∃ e ∈ ot.after, Region.binds .any e = true ∧ e.on = i := by
  have := List.all_eq_true.1 h i (List.mem_range.2 hi)
  obtain ⟨e, he, h2⟩ := Array.any_eq_true'.1 this
  simp only [Bool.and_eq_true, beq_iff_eq] at h2
  exact ⟨e, he, h2.1, h2.2⟩

def tailB (l : List Oper) (ot : Oper) : Bool :=
  Region.noSelect (l ++ [ot]).toArray && lexPart .any (l ++ [ot]).toArray l.length 0 (Array.replicate (l.length + 1) false) && waitsAll ot l.length &&
  (Region.ready .any (l ++ [ot]).toArray (fillFrom l.length 0 (Array.replicate (l.length + 1) false)) == [l.length]) &&
  (Region.ready .any (l ++ [ot]).toArray ((fillFrom l.length 0 (Array.replicate (l.length + 1) false)).setIfInBounds l.length true)).isEmpty

theorem wp_region_tail {P : Program} {S : World → Prop} {id : Nat} {Q : Exit → Act → World → Prop} {a : Act} {w : World} (l : List Oper) (ot : Oper) (hg : ot.guard = none) (hm : P.follows .mixedOrders = true) (hB : tailB l ot = true) (h0 : S w.drew)
    (h : wpQuiet P (l ++ [ot]).toArray (fun w' => ∃ p : Kp S, w' = p.W) (fun a' => ∀ p : Kp S, Oper.wp P ot a' p.W (fun a'' w'' => Q .normal a'' w'') Q) l a) : (Code.region id (l ++ [ot]).toArray true).wp P Q a w := by
  unfold tailB at hB
  simp only [Bool.and_eq_true, beq_iff_eq, List.isEmpty_iff] at hB
  obtain ⟨⟨⟨⟨h1, h2⟩, h3⟩, h4⟩, h5⟩ := hB
  have ht : (l ++ [ot]).toArray[l.length]? = some ot := by simp
  refine wp_region_any hm ?_
  have hsz : (l ++ [ot]).toArray.size = l.length + 1 := by simp
  rw [hsz]
  refine wpAny_of_T (C := fun w' => ∃ p : Kp S, w' = p.W) (LE := fillFrom l.length 0 (Array.replicate (l.length + 1) false)) (QQ := fun a' => ∀ p : Kp S, Oper.wp P ot a' p.W (fun a'' w'' => Q .normal a'' w'') Q) ?_ l.length _ a _ ⟨⟨_, h0⟩, rfl⟩ ?_
  · rintro a' w' ⟨p, rfl⟩ hq
    refine ⟨fun e => (by rw [h4] at e; cases e), fun i hi => ?_⟩
    rw [h4] at hi
    have : i = l.length := by simpa using hi
    subst this
    unfold wpOp
    simp only [ht]
    have hwant : Region.wanted ot (yielded (l ++ [ot]).toArray a'.tmps) = true := by unfold Region.wanted; rw [hg]
    rw [if_pos hwant]
    exact Or.inl (Oper.wp_mono (fun a'' w'' hQ => ⟨h5, hQ⟩) (hq p))
  · exact wpT_lex h1 ht h4 (waitsAll_spec h3) l 0 _ a (by simp) (fun j hj => by simp [List.getElem?_append_left hj]) h2 rfl h
end Go.Proofs.Ytpfehghicaaghaa

namespace Go.Proofs.Ytpfehghicaaghaa
open Go.RowKit

/-- One operation, wherever it comes up. -/
def StepAt (P : Program) (ops : Array Oper) (Q : Exit → Act → World → Prop) (I : (Nat → Bool) → Act → World → Prop) (i : Nat) (o : Oper) : Prop :=
  ∀ d a w, I d a w → d i = false → (∀ e ∈ o.after.toList, Region.binds .any e = true → d e.on = true) →
    ∀ K : Act → World → Prop, Shut (∀ a' w', I (fun j => if j = i then true else d j) a' w' → K a' w') → if Region.wanted o (yielded ops a.tmps) = true then Oper.wp P o a w K Q else K (a.put o.dst undef) w
/-- All of them. -/
def StepAll (P : Program) (ops : Array Oper) (Q : Exit → Act → World → Prop) (I : (Nat → Bool) → Act → World → Prop) : Nat → List Oper → Prop
  | _, [] => True
  | i, o :: l => StepAt P ops Q I i o ∧ StepAll P ops Q I (i + 1) l
theorem StepAll.at {P : Program} {ops : Array Oper} {Q : Exit → Act → World → Prop} {I : (Nat → Bool) → Act → World → Prop} : ∀ {l : List Oper} {i : Nat}, StepAll P ops Q I i l → ∀ {j : Nat} {o : Oper}, l[j]? = some o → StepAt P ops Q I (i + j) o
  | [], _, _, _, _, h => by simp at h
  | x :: l, i, hs, 0, o, h => by
    simp at h; subst h
    exact hs.1
  | x :: l, i, hs, j + 1, o, h => by
    have := StepAll.at (l := l) (i := i + 1) hs.2 (j := j) (o := o) (by simpa using h)
    rwa [show i + 1 + j = i + (j + 1) by omega] at this
/-- Each operation waits for elder ones alone. -/
def backB (ops : List Oper) : Bool := (List.range ops.length).all fun i => match ops[i]? with | some o => o.after.toList.all (fun e => decide (e.on < i)) | none => true
def left (n : Nat) (listed : Array Bool) : Nat := ((List.range n).filter fun i => !listed.getD i true).length
theorem filter_drop {p q : Nat → Bool} : ∀ {l : List Nat} {i : Nat}, i ∈ l → p i = true → q i = false → (∀ j, q j = true → p j = true) → (l.filter q).length < (l.filter p).length
  | x :: l, i, hm, hp, hq, hi => by
    have hle : ∀ l : List Nat, (l.filter q).length ≤ (l.filter p).length := fun l => by
      induction l with
      | nil => simp
      | cons y l ih =>
        by_cases h : q y = true
        · simp [h, hi y h]; exact ih
        · simp only [List.filter_cons, h]
          by_cases h2 : p y = true
          · simp [h2]; omega
          · simp [h2]; exact ih
    rcases List.mem_cons.1 hm with rfl | hm
    · simp only [List.filter_cons, hp, hq, if_true, List.length_cons]
      have := hle l
      simp; omega
    · have ih := filter_drop hm hp hq hi
      by_cases h : q x = true
      · simp [h, hi x h]; exact ih
      · simp only [List.filter_cons, h]
        by_cases h2 : p x = true
        · simp [h2]; omega
        · simp [h2]; exact ih
theorem left_set {n i : Nat} {listed : Array Bool} (hi : i < n) (h : listed.getD i true = false) : left n (listed.setIfInBounds i true) < left n listed := by
  have hs : i < listed.size := by
    rcases Nat.lt_or_ge i listed.size with h' | h'
    · exact h'
    · simp [Array.getElem?_eq_none h'] at h
  refine filter_drop (List.mem_range.2 hi) (by simp only [h]; rfl) (by simp [hs]) fun j hj => ?_
  by_cases e : i = j
  · subst e; simp [hs] at hj
  · rwa [getD_set_ne true e] at hj
theorem done_of_ready {ops : Array Oper} {listed : Array Bool} (hB : backB ops.toList = true) (hsz : listed.size = ops.size) (h : Region.ready .any ops listed = []) : ∀ i, i < ops.size → listed.getD i false = true := by
  intro i
  induction i using Nat.strongRecOn with
  | ind i ih =>
    intro hi
    cases hl : listed.getD i true with
    | true => simpa [hsz, hi] using hl
    | false =>
      exfalso
      have hm : i ∈ Region.ready .any ops listed := by
        rw [mem_ready]
        refine ⟨hl, ops[i], by simp [hi], fun e he hb => ?_⟩
        have h1 := List.all_eq_true.1 hB i (List.mem_range.2 (by simpa using hi))
        simp only [Array.length_toList, hi, List.getElem?_eq_getElem, Array.getElem_toList] at h1
        have h2 := List.all_eq_true.1 h1 e (by simpa using he)
        have h3 : e.on < i := by simpa using h2
        exact ih e.on h3 (by omega)
      rw [h] at hm; cases hm
theorem wpAny_inv {P : Program} {ops : Array Oper} {Q : Exit → Act → World → Prop} {I : (Nat → Bool) → Act → World → Prop} (hB : backB ops.toList = true) (hS : StepAll P ops Q I 0 ops.toList) (hE : ∀ d a w, I d a w → (∀ i, i < ops.size → d i = true) → Q .normal a w) :
    ∀ (fuel : Nat) (listed : Array Bool) (a : Act) (w : World), listed.size = ops.size → left ops.size listed ≤ fuel → I (fun i => listed.getD i false) a w → wpAny P .any ops Q fuel listed a w
  | 0, listed, a, w, hsz, hl, hI => by
    have hr : Region.ready .any ops listed = [] := by
      refine List.eq_nil_iff_forall_not_mem.2 fun i hi => ?_
      have h1 := mem_ready.1 hi
      obtain ⟨h2, o, ho, _⟩ := h1
      have := left_set (listed := listed) (Array.getElem?_eq_some_iff.1 ho).1 h2
      omega
    exact ⟨hr, hE _ _ _ hI (done_of_ready hB hsz hr)⟩
  | fuel + 1, listed, a, w, hsz, hl, hI => by
    refine ⟨fun hr => hE _ _ _ hI (done_of_ready hB hsz hr), fun i hi => ?_⟩
    obtain ⟨h2, o, ho, hdep⟩ := mem_ready.1 hi
    have hlt : i < ops.size := (Array.getElem?_eq_some_iff.1 ho).1
    have hst := StepAll.at hS (j := i) (o := o) (by simpa using ho)
    rw [Nat.zero_add] at hst
    have h2' : listed.getD i false = false := by simpa [hsz, hlt] using h2
    refine wpOp_step ho fun K hK => ?_
    refine hst _ a w hI h2' (fun e he hb => hdep e (by simpa using he) hb) K fun a' w' hI' => hK a' w' ?_
    refine wpAny_inv hB hS hE fuel _ a' w' (by simpa using hsz) (by have := left_set (n := ops.size) hlt h2; omega) ?_
    have : (fun j => (listed.setIfInBounds i true).getD j false) = fun j => if j = i then true else listed.getD j false := by
      funext j
      by_cases e : j = i
      · subst e; simp [hsz, hlt]
      · rw [if_neg e, getD_set_ne false (Ne.symm e)]
    rw [this]; exact hI'
theorem wp_region_inv {P : Program} {id : Nat} {l : List Oper} {Q : Exit → Act → World → Prop} {a : Act} {w : World} (hm : P.follows .mixedOrders = true) (I : Act → (Nat → Bool) → Act → World → Prop) (hB : backB l = true) (h0 : I a (fun _ => false) a w.drew)
    (hS : StepAll P l.toArray Q (I a) 0 l) (hE : ∀ d a' w', I a d a' w' → (∀ i, i < l.length → d i = true) → Q .normal a' w') : (Code.region id l.toArray true).wp P Q a w := by
  refine wp_region_any hm ?_
  refine wpAny_inv (I := I a) (by simpa using hB) (by simpa using hS) (by simpa using hE) _ _ a _ (by simp) ?_ ?_
  · unfold left
    have := List.length_filter_le (fun i => !(Array.replicate l.toArray.size false).getD i true) (List.range l.toArray.size)
    simpa using this
  · have : (fun i => (Array.replicate l.toArray.size false).getD i false) = fun _ => false := by
      funext i
      by_cases h : i < l.toArray.size
      · simp at h; simp [h]
      · simp at h; simp [h]
    rw [this]; exact h0
end Go.Proofs.Ytpfehghicaaghaa

namespace Go.Proofs.Ytpfehghicaaghaa
open Go.RowKit

/-- Each operation waits for elder ones alone, as far as an edge binds. -/
def backF (ops : List Oper) : Bool := (List.range ops.length).all fun i => match ops[i]? with | some o => o.after.toList.all (fun e => !Region.binds .any e || decide (e.on < i)) | none => true
theorem ready_done {ops : Array Oper} {listed : Array Bool} (hB : backF ops.toList = true) (hsz : listed.size = ops.size) (h : Region.ready .any ops listed = []) : ∀ i, i < ops.size → listed.getD i false = true := by
  intro i
  induction i using Nat.strongRecOn with
  | ind i ih =>
    intro hi
    cases hl : listed.getD i true with
    | true => simpa [hsz, hi] using hl
    | false =>
      exfalso
      have hm : i ∈ Region.ready .any ops listed := by
        rw [mem_ready]
        refine ⟨hl, ops[i], by simp [hi], fun e he hb => ?_⟩
        have h1 := List.all_eq_true.1 hB i (List.mem_range.2 (by simpa using hi))
        simp only [Array.length_toList, hi, List.getElem?_eq_getElem, Array.getElem_toList] at h1
        have h2 := List.all_eq_true.1 h1 e (by simpa using he)
        rw [hb] at h2
        have h3 : e.on < i := by simpa using h2
        exact ih e.on h3 (by omega)
      rw [h] at hm; cases hm
theorem wpAny_free {P : Program} {ops : Array Oper} {Q : Exit → Act → World → Prop} {I : (Nat → Bool) → Act → World → Prop} (hB : backF ops.toList = true) (hS : StepAll P ops Q I 0 ops.toList) (hE : ∀ d a w, I d a w → (∀ i, i < ops.size → d i = true) → Q .normal a w) :
    ∀ (fuel : Nat) (listed : Array Bool) (a : Act) (w : World), listed.size = ops.size → left ops.size listed ≤ fuel → I (fun i => listed.getD i false) a w → wpAny P .any ops Q fuel listed a w
  | 0, listed, a, w, hsz, hl, hI => by
    have hr : Region.ready .any ops listed = [] := by
      refine List.eq_nil_iff_forall_not_mem.2 fun i hi => ?_
      have h1 := mem_ready.1 hi
      obtain ⟨h2, o, ho, _⟩ := h1
      have := left_set (listed := listed) (Array.getElem?_eq_some_iff.1 ho).1 h2
      omega
    exact ⟨hr, hE _ _ _ hI (ready_done hB hsz hr)⟩
  | fuel + 1, listed, a, w, hsz, hl, hI => by
    refine ⟨fun hr => hE _ _ _ hI (ready_done hB hsz hr), fun i hi => ?_⟩
    obtain ⟨h2, o, ho, hdep⟩ := mem_ready.1 hi
    have hlt : i < ops.size := (Array.getElem?_eq_some_iff.1 ho).1
    have hst := StepAll.at hS (j := i) (o := o) (by simpa using ho)
    rw [Nat.zero_add] at hst
    have h2' : listed.getD i false = false := by simpa [hsz, hlt] using h2
    refine wpOp_step ho fun K hK => ?_
    refine hst _ a w hI h2' (fun e he hb => hdep e (by simpa using he) hb) K fun a' w' hI' => hK a' w' ?_
    refine wpAny_free hB hS hE fuel _ a' w' (by simpa using hsz) (by have := left_set (n := ops.size) hlt h2; omega) ?_
    have : (fun j => (listed.setIfInBounds i true).getD j false) = fun j => if j = i then true else listed.getD j false := by
      funext j
      by_cases e : j = i
      · subst e; simp [hsz, hlt]
      · rw [if_neg e, getD_set_ne false (Ne.symm e)]
    rw [this]; exact hI'
theorem wp_region_free {P : Program} {id : Nat} {l : List Oper} {Q : Exit → Act → World → Prop} {a : Act} {w : World} (hm : P.follows .mixedOrders = true) (I : Act → (Nat → Bool) → Act → World → Prop) (hB : backF l = true) (h0 : I a (fun _ => false) a w.drew)
    (hS : StepAll P l.toArray Q (I a) 0 l) (hE : ∀ d a' w', I a d a' w' → (∀ i, i < l.length → d i = true) → Q .normal a' w') : (Code.region id l.toArray true).wp P Q a w := by
  refine wp_region_any hm ?_
  refine wpAny_free (I := I a) (by simpa using hB) (by simpa using hS) (by simpa using hE) _ _ a _ (by simp) ?_ ?_
  · unfold left
    have := List.length_filter_le (fun i => !(Array.replicate l.toArray.size false).getD i true) (List.range l.toArray.size)
    simpa using this
  · have : (fun i => (Array.replicate l.toArray.size false).getD i false) = fun _ => false := by
      funext i
      by_cases h : i < l.toArray.size
      · simp at h; simp [h]
      · simp at h; simp [h]
    rw [this]; exact h0
end Go.Proofs.Ytpfehghicaaghaa

namespace Go.Proofs.Ytpfehghicaaghaa
open Go.RowKit
open Cg

/-- A production's box. -/
structure Pb (p : Nat) (x : Int) (u : Value) (l : List Sy) (w : World) : Prop where
  lt : p < w.heap.size
  c0 : w.cell? ⟨p, 0, none⟩ = some (.int .i64 x)
  c1 : w.cell? ⟨p, 1, none⟩ = some u
  sy : Syms w u l
theorem Pb.next {p : Nat} {x : Int} {u : Value} {l : List Sy} {w : World} (h : Pb p x u l w) {w' : World} (hb : Below w.heap.size w w') : Pb p x u l w' :=
  ⟨Nat.lt_of_lt_of_le h.lt hb.size, (hb.cell (p := ⟨p, 0, none⟩) h.lt).trans h.c0, (hb.cell (p := ⟨p, 1, none⟩) h.lt).trans h.c1, h.sy.below hb⟩
theorem Pb.box {w : World} {u : Value} {l : List Sy} (h : Syms w u l) (x : Int) : Pb w.heap.size x u l (w.alloc (Obj.cells #[.int .i64 x, u] 88)) :=
  ⟨by simp, cell_new w _ 88 0, cell_new w _ 88 1, h.below (below_alloc _ _)⟩

set_option maxHeartbeats 3200000 in
set_option maxRecDepth 20000 in
theorem Check_any (t n : Int) (pv : Value) (ps : List Pd) (w : World) (h : Pds w pv ps) :
    Calls Try.prog 56 #[.agg #[.int .i64 t, .int .i64 n, pv]] w fun e w' => e = .returned (.int .i64 (chk t n ps)) ∧ Below w.heap.size w w' := by
  have HG0 : Hid (Gb w w.heap.size t n pv ps (w.alloc (Obj.cells #[.int .i64 t, .int .i64 n, pv] 24))) := Gb.box h t n
  have h' := h
  obtain ⟨ao, c, rfl, hm, hcs⟩ := h
  obtain ⟨r, HR⟩ : ∃ r, Hid (chk t n ps = r) := ⟨_, (rfl : chk t n ps = chk t n ps)⟩
  rw [HR.out]
  by_cases h1 : t < 0
  · have b1 : decide (t < 0) = true := by simp; omega
    obtain rfl : r = 1 := by rw [← HR.out]; unfold chk okTN; rw [if_neg (by simp; omega)]
    go_enter Try.func56, Try.ntmps56
    go_wp2_with fail
    go_ret
    exact ⟨by simp, below_alloc _ _⟩
  · have b1 : decide (t < 0) = false := by simp; omega
    by_cases h2 : 30 < t
    · have b2 : decide ((30 : Int) < t) = true := by simp; omega
      obtain rfl : r = 1 := by rw [← HR.out]; unfold chk okTN; rw [if_neg (by simp; omega)]
      go_enter Try.func56, Try.ntmps56
      go_wp2_with fail
      go_ret
      exact ⟨by simp, below_alloc _ _⟩
    · have b2 : decide ((30 : Int) < t) = false := by simp; omega
      by_cases h3 : n < 1
      · have b3 : decide (n < 1) = true := by simp; omega
        obtain rfl : r = 1 := by rw [← HR.out]; unfold chk okTN; rw [if_neg (by simp; omega)]
        go_enter Try.func56, Try.ntmps56
        go_wp2_with fail
        go_ret
        exact ⟨by simp, below_alloc _ _⟩
      · have b3 : decide (n < 1) = false := by simp; omega
        by_cases h4 : 20 < n
        · have b4 : decide ((20 : Int) < n) = true := by simp; omega
          obtain rfl : r = 1 := by rw [← HR.out]; unfold chk okTN; rw [if_neg (by simp; omega)]
          go_enter Try.func56, Try.ntmps56
          go_wp2_with fail
          go_ret
          exact ⟨by simp, below_alloc _ _⟩
        · have b4 : decide ((20 : Int) < n) = false := by simp; omega
          have HT : Hid (okTN t n = true) := by show _ = _; unfold okTN; simp; omega
          clear h1 h2 h3 h4
          by_cases h5 : 40 < ps.length
          · have b5 : decide ((40 : Int) < (ps.length : Int)) = true := by simp; omega
            obtain rfl : r = 2 := by rw [← HR.out]; unfold chk; rw [if_pos HT.out, if_pos h5]
            go_enter Try.func56, Try.ntmps56
            go_wp2_with fail
            go_ret
            exact ⟨by simp, below_alloc _ _⟩
          · have b5 : decide ((40 : Int) < (ps.length : Int)) = false := by simp; omega
            have HP : Hid (chkPs t n ps = r) := by show _ = _; rw [← HR.out]; unfold chk; rw [if_pos HT.out, if_neg h5]
            clear HR HT
            go_enter Try.func56, Try.ntmps56
            go_wp2_with fail
            clear b1 b2 b3 b4 b5 h5
            generalize (w.alloc (Obj.cells #[.int .i64 t, .int .i64 n, .slice ao ps.length c] 24)) = wb at HG0 ⊢
            go_loopw [31] (fun i wr => ∃ q : Nat, q ≤ ps.length ∧ i = .int .i64 (q : Int) ∧ Hid (chkPs t n (ps.drop q) = r) ∧ Hid (Gb w w.heap.size t n (.slice ao ps.length c) ps wr)) (fun i _ => ps.length - (intOf i).toNat)
            case atStart => exact ⟨0, by omega, rfl, HP, HG0⟩
            case round =>
              obtain ⟨q, hq, rfl, HA, HG⟩ := hrel
              by_cases hlt : q < ps.length
              · clear HP HG0
                have hsb := HG.out.lt
                have hbw := HG.out.below
                obtain ⟨b, o, rfl, hb, hc⟩ := hcs.resolve_left (by intro e; subst e; simp at hlt)
                obtain ⟨d0, u, d1, hsy⟩ := hc q hlt
                have HSY : Hid (Syms wr u ps[q].2) := hsy.below hbw
                have HPS : Hid (chkPs t n (ps.drop q) = if chkP t n (ps[q].1, ps[q].2) = 0 then chkPs t n (ps.drop (q + 1)) else chkP t n (ps[q].1, ps[q].2)) := by
                  show _ = _
                  rw [← List.getElem_cons_drop hlt]; rfl
                generalize ps[q].1 = x at d0 HPS
                generalize ps[q].2 = l at HSY HPS
                replace d0 : wr.cell? ⟨b, o + q * 2, none⟩ = _ := (hbw.cell (p := ⟨b, o + q * 2, none⟩) hb).trans d0
                replace d1 : wr.cell? ⟨b, o + q * 2 + 1, none⟩ = _ := (hbw.cell (p := ⟨b, o + q * 2 + 1, none⟩) hb).trans d1
                clear hsy hc hcs
                have hk1 : (q : Int) < (ps.length : Int) := by omega
                have HG2 : Hid (Gb w w.heap.size t n (.slice (some ⟨b, o, none⟩) ps.length c) ps (wr.alloc (Obj.cells #[.int .i64 x, u] 88))) := HG.out.next (below_alloc _ _)
                have HSY2 : Hid (Syms (wr.alloc (Obj.cells #[.int .i64 x, u] 88)) u l) := HSY.out.below (below_alloc _ _)
                obtain ⟨uo, uc, rfl, hum, -⟩ := HSY.out
                have z0 := HG2.out.c0
                have z1 := HG2.out.c1
                have z2 := HG2.out.c2
                clear HSY HG hbw
                go_wp2_with fail
                obtain ⟨rr, HRR⟩ : ∃ rr, Hid (chkP t n (x, l) = rr) := ⟨_, (rfl : chkP t n (x, l) = chkP t n (x, l))⟩
                have hcc := checkProd_any t n (some ⟨b, o, none⟩) ps.length c x _ l _ HSY2.out
                rw [HRR.out] at HPS hcc
                refine hcc.mono ?_
                rintro _ w2 ⟨rfl, hb2⟩
                have HG3 : Hid (Gb w w.heap.size t n (.slice (some ⟨b, o, none⟩) ps.length c) ps w2) := HG2.out.next hb2
                clear hcc hb2 z0 z1 z2 d0 d1 HG2 HSY2
                by_cases hz : rr = 0
                · subst hz
                  go_wp2_with fail
                  go_roundw
                  case rel => exact ⟨q + 1, by omega, by go_num, by show _ = _; rw [← HA.out, HPS.out]; rfl, HG3⟩
                  case measure => simp [intOf]; omega
                · have hzb : (rr != 0) = true := by simp; exact hz
                  obtain rfl : r = rr := by rw [← HA.out, HPS.out, if_neg hz]
                  clear hz
                  go_wp2_with fail
                  go_ret
                  exact ⟨by simp, HG3.out.below⟩
              · obtain rfl : r = 0 := by rw [← HA.out, List.drop_of_length_le (by omega)]; rfl
                go_wp2_with fail
                go_ret
                exact ⟨by simp, HG.out.below⟩

set_option maxHeartbeats 3200000 in
set_option maxRecDepth 20000 in
theorem Cfg_any (t n : Int) (pv : Value) (ps : List Pd) (w : World) (h : Pds w pv ps) :
    Calls Try.prog 30 #[.agg #[.int .i64 t, .int .i64 n, pv]] w fun e w' => e = .returned (.int .i64 (chk t n ps)) ∧ Below w.heap.size w w' := by
  have HG0 : Hid (Gb w w.heap.size t n pv ps (w.alloc (Obj.cells #[.int .i64 t, .int .i64 n, pv] 24))) := Gb.box h t n
  have h' := h
  obtain ⟨ao, c, rfl, hm, hcs⟩ := h
  obtain ⟨r, HR⟩ : ∃ r, Hid (chk t n ps = r) := ⟨_, (rfl : chk t n ps = chk t n ps)⟩
  rw [HR.out]
  by_cases h1 : t < 0
  · have b1 : decide (t < 0) = true := by simp; omega
    obtain rfl : r = 1 := by rw [← HR.out]; unfold chk okTN; rw [if_neg (by simp; omega)]
    go_enter Try.func30, Try.ntmps30
    go_wp2_with fail
    go_ret
    exact ⟨by simp, below_alloc _ _⟩
  · have b1 : decide (t < 0) = false := by simp; omega
    by_cases h2 : 30 < t
    · have b2 : decide ((30 : Int) < t) = true := by simp; omega
      obtain rfl : r = 1 := by rw [← HR.out]; unfold chk okTN; rw [if_neg (by simp; omega)]
      go_enter Try.func30, Try.ntmps30
      go_wp2_with fail
      go_ret
      exact ⟨by simp, below_alloc _ _⟩
    · have b2 : decide ((30 : Int) < t) = false := by simp; omega
      by_cases h3 : n < 1
      · have b3 : decide (n < 1) = true := by simp; omega
        obtain rfl : r = 1 := by rw [← HR.out]; unfold chk okTN; rw [if_neg (by simp; omega)]
        go_enter Try.func30, Try.ntmps30
        go_wp2_with fail
        go_ret
        exact ⟨by simp, below_alloc _ _⟩
      · have b3 : decide (n < 1) = false := by simp; omega
        by_cases h4 : 20 < n
        · have b4 : decide ((20 : Int) < n) = true := by simp; omega
          obtain rfl : r = 1 := by rw [← HR.out]; unfold chk okTN; rw [if_neg (by simp; omega)]
          go_enter Try.func30, Try.ntmps30
          go_wp2_with fail
          go_ret
          exact ⟨by simp, below_alloc _ _⟩
        · have b4 : decide ((20 : Int) < n) = false := by simp; omega
          have HT : Hid (okTN t n = true) := by show _ = _; unfold okTN; simp; omega
          clear h1 h2 h3 h4
          by_cases h5 : 40 < ps.length
          · have b5 : decide ((40 : Int) < (ps.length : Int)) = true := by simp; omega
            obtain rfl : r = 2 := by rw [← HR.out]; unfold chk; rw [if_pos HT.out, if_pos h5]
            go_enter Try.func30, Try.ntmps30
            go_wp2_with fail
            go_ret
            exact ⟨by simp, below_alloc _ _⟩
          · have b5 : decide ((40 : Int) < (ps.length : Int)) = false := by simp; omega
            have HP : Hid (chkPs t n ps = r) := by show _ = _; rw [← HR.out]; unfold chk; rw [if_pos HT.out, if_neg h5]
            clear HR HT
            go_enter Try.func30, Try.ntmps30
            go_wp2_with fail
            clear b1 b2 b3 b4 b5 h5
            generalize (w.alloc (Obj.cells #[.int .i64 t, .int .i64 n, .slice ao ps.length c] 24)) = wb at HG0 ⊢
            go_loopw [3] (fun i wr => ∃ q : Nat, q ≤ ps.length ∧ i = .int .i64 (q : Int) ∧ Hid (chkPs t n (ps.drop q) = r) ∧ Hid (Gb w w.heap.size t n (.slice ao ps.length c) ps wr)) (fun i _ => ps.length - (intOf i).toNat)
            case atStart => exact ⟨0, by omega, rfl, HP, HG0⟩
            case round =>
              obtain ⟨q, hq, rfl, HA, HG⟩ := hrel
              have z2 := HG.out.c2
              by_cases hlt : q < ps.length
              · clear HP HG0
                have hsb := HG.out.lt
                have hbw := HG.out.below
                obtain ⟨b, o, rfl, hb, hc⟩ := hcs.resolve_left (by intro e; subst e; simp at hlt)
                obtain ⟨d0, u, d1, hsy⟩ := hc q hlt
                have HSY : Hid (Syms wr u ps[q].2) := hsy.below hbw
                have HPS : Hid (chkPs t n (ps.drop q) = if chkP t n (ps[q].1, ps[q].2) = 0 then chkPs t n (ps.drop (q + 1)) else chkP t n (ps[q].1, ps[q].2)) := by
                  show _ = _
                  rw [← List.getElem_cons_drop hlt]; rfl
                generalize ps[q].1 = x at d0 HPS
                generalize ps[q].2 = l at HSY HPS
                replace d0 : wr.cell? ⟨b, o + q * 2, none⟩ = _ := (hbw.cell (p := ⟨b, o + q * 2, none⟩) hb).trans d0
                replace d1 : wr.cell? ⟨b, o + q * 2 + 1, none⟩ = _ := (hbw.cell (p := ⟨b, o + q * 2 + 1, none⟩) hb).trans d1
                clear hsy hc hcs
                have hk1 : (q : Int) < (ps.length : Int) := by omega
                have HG2 : Hid (Gb w w.heap.size t n (.slice (some ⟨b, o, none⟩) ps.length c) ps (wr.alloc (Obj.cells #[.int .i64 x, u] 88))) := HG.out.next (below_alloc _ _)
                have HSY2 : Hid (Syms (wr.alloc (Obj.cells #[.int .i64 x, u] 88)) u l) := HSY.out.below (below_alloc _ _)
                have HG2P : Hid (Pb wr.heap.size x u l (wr.alloc (Obj.cells #[.int .i64 x, u] 88))) := Pb.box HSY.out x
                obtain ⟨uo, uc, rfl, hum, -⟩ := HSY.out
                have zz0 := HG2.out.c0
                have zz1 := HG2.out.c1
                have zz2 := HG2.out.c2
                have zp0 := HG2P.out.c0
                have zp1 := HG2P.out.c1
                clear HSY HG hbw hsb HSY2
                by_cases h8 : 8 < l.length
                · have b8 : decide ((8 : Int) < (l.length : Int)) = true := by simp; omega
                  obtain rfl : r = 2 := by rw [← HA.out, HPS.out]; unfold chkP; rw [if_pos h8]; rfl
                  go_wp2_with fail
                  go_ret
                  exact ⟨by simp, HG2.out.below⟩
                · have b8 : decide ((8 : Int) < (l.length : Int)) = false := by simp; omega
                  go_wp2_with fail
                  clear zz0 zz1 zz2 zp0 zp1 d0 d1 z2 b8
                  obtain ⟨rr, HRR⟩ : ∃ rr, Hid (okN n x = rr) := ⟨_, (rfl : okN n x = okN n x)⟩
                  have hcc := rightSym_any t n (some ⟨b, o, none⟩) ps.length c 2 x (wr.alloc (Obj.cells #[.int .i64 x, .slice uo l.length uc] 88))
                  rw [show okSy t n (2, x) = rr from HRR.out] at hcc
                  refine hcc.mono ?_
                  rintro _ w2 ⟨rfl, hb2⟩
                  have HG3 : Hid (Gb w w.heap.size t n (.slice (some ⟨b, o, none⟩) ps.length c) ps w2) := HG2.out.next hb2
                  have HP3 : Hid (Pb wr.heap.size x (.slice uo l.length uc) l w2) := HG2P.out.next hb2
                  clear hcc hb2 HG2 HG2P
                  have HPS2 : Hid (r = if rr = true then (if l.all (okSy t n) = true then chkPs t n (ps.drop (q + 1)) else 1) else 1) := by
                    show _ = _
                    rw [← HA.out, HPS.out]; unfold chkP; simp only [if_neg h8, HRR.out]
                    cases rr with
                    | false => simp
                    | true => simp only [if_true]; split <;> simp
                  clear HPS
                  cases rr with
                  | false =>
                    obtain rfl : r = 1 := by rw [HPS2.out]; rfl
                    go_wp2_with fail
                    go_ret
                    exact ⟨by simp, HG3.out.below⟩
                  | true =>
                    generalize wr.heap.size = p at HP3 ⊢
                    go_wp2_with fail
                    go_loopw [5] (fun i wr => ∃ y : Nat, y ≤ l.length ∧ i = .int .i64 (y : Int) ∧ Hid ((l.take y).all (okSy t n) = true) ∧ Hid (Gb w w.heap.size t n (.slice (some ⟨b, o, none⟩) ps.length c) ps wr ∧ Pb p x (.slice uo l.length uc) l wr)) (fun i _ => l.length - (intOf i).toNat)
                    case atStart => exact ⟨0, by omega, rfl, rfl, HG3.out, HP3.out⟩
                    case round =>
                      obtain ⟨y, hy, rfl, HB, HGP⟩ := hrel
                      clear HG3 HP3
                      have k0 := HGP.out.1.c0
                      have k1 := HGP.out.1.c1
                      have k2 := HGP.out.1.c2
                      have k3 := HGP.out.2.c1
                      by_cases hylt : y < l.length
                      · have HWS : Hid (_ ∧ _) := HGP
                        obtain ⟨eo, ec, he, -, hcells⟩ := HGP.out.2.sy
                        cases he
                        obtain ⟨b2, o2, rfl, hb2, hcc2⟩ := hcells.resolve_left (by intro e; subst e; simp at hylt)
                        obtain ⟨f0, f1⟩ := hcc2 y hylt
                        have HS : Hid ((l.take (y + 1)).all (okSy t n) = okSy t n (l[y].1, l[y].2)) := by
                          show _ = _
                          rw [List.take_succ_eq_append_getElem hylt, List.all_append, HB.out]; simp
                        have HF : Hid (okSy t n (l[y].1, l[y].2) = false → l.all (okSy t n) = false) := fun e => by
                          rw [List.all_eq_false]; exact ⟨l[y], List.getElem_mem hylt, by simpa using e⟩
                        generalize l[y].1 = s0 at f0 HS HF
                        generalize l[y].2 = s1 at f1 HS HF
                        have hky : (y : Int) < (l.length : Int) := by omega
                        obtain ⟨r2, HR2⟩ : ∃ r2, Hid (okSy t n (s0, s1) = r2) := ⟨_, (rfl : okSy t n (s0, s1) = okSy t n (s0, s1))⟩
                        rw [HR2.out] at HS HF
                        clear hcells hcc2
                        have m0 : ∀ p_1 : Kp (Sb wr), p_1.W.cell? ⟨w.heap.size, 0, none⟩ = some (.int .i64 t) := fun p_1 => (Below.cell p_1.h (p := ⟨w.heap.size, 0, none⟩) HGP.out.1.lt).trans k0
                        have m1 : ∀ p_1 : Kp (Sb wr), p_1.W.cell? ⟨w.heap.size, 1, none⟩ = some (.int .i64 n) := fun p_1 => (Below.cell p_1.h (p := ⟨w.heap.size, 1, none⟩) HGP.out.1.lt).trans k1
                        have m2 : ∀ p_1 : Kp (Sb wr), p_1.W.cell? ⟨w.heap.size, 2, none⟩ = some (.slice (some ⟨b, o, none⟩) ps.length c) := fun p_1 => (Below.cell p_1.h (p := ⟨w.heap.size, 2, none⟩) HGP.out.1.lt).trans k2
                        have m3 : ∀ p_1 : Kp (Sb wr), p_1.W.cell? ⟨p, 1, none⟩ = some (.slice (some ⟨b2, o2, none⟩) l.length uc) := fun p_1 => (Below.cell p_1.h (p := ⟨p, 1, none⟩) HGP.out.2.lt).trans k3
                        have m4 : ∀ p_1 : Kp (Sb wr), p_1.W.cell? ⟨b2, o2 + y * 2, none⟩ = some (.int .i64 s0) := fun p_1 => (Below.cell p_1.h (p := ⟨b2, o2 + y * 2, none⟩) hb2).trans f0
                        have m5 : ∀ p_1 : Kp (Sb wr), p_1.W.cell? ⟨b2, o2 + y * 2 + 1, none⟩ = some (.int .i64 s1) := fun p_1 => (Below.cell p_1.h (p := ⟨b2, o2 + y * 2 + 1, none⟩) hb2).trans f1
                        have hne : Nonempty (Kp (Sb wr)) := ⟨⟨_, Sb.drew wr⟩⟩
                        have HCA : Hid (∀ p_1 : Kp (Sb wr), Calls Try.prog 64 #[.agg #[.int .i64 t, .int .i64 n, .slice (some ⟨b, o, none⟩) ps.length c], .agg #[.int .i64 s0, .int .i64 s1]] p_1.W fun e w'' => e = .returned (.bool r2) ∧ ∃ q : Kp (Sb wr), w'' = q.W) := fun p_1 => by
                          have := rightSym_any t n (some ⟨b, o, none⟩) ps.length c s0 s1 p_1.W
                          rw [HR2.out] at this
                          exact Kp.calls p_1 Sb.next this
                        go_wp2_with fail
                        refine wp_region_kept mixed (by kernel_rfl) (Sb.drew wr) ?_
                        repeat (go_big_quiet_step (first | (go_at_call 64; with_reducible exact HCA.out _)))
                        refine wpQuiet_nil ?_
                        intro W2 hw2
                        obtain ⟨⟨W2, HS2⟩, rfl⟩ := hw2
                        have HG4 : Hid (Gb w w.heap.size t n (.slice (some ⟨b, o, none⟩) ps.length c) ps W2 ∧ Pb p x (.slice (some ⟨b2, o2, none⟩) l.length uc) l W2) := ⟨HGP.out.1.next HS2, HGP.out.2.next HS2⟩
                        clear HS2 hne m0 m1 m2 m3 m4 m5 HCA k0 k1 k2 k3 f0 f1 HGP
                        cases r2 with
                        | true =>
                          go_wp2_with fail
                          go_roundw
                          case rel => exact ⟨y + 1, by omega, by go_num, HS.out, HG4.out⟩
                          case measure => simp [intOf]; omega
                        | false =>
                          obtain rfl : r = 1 := by rw [HPS2.out, HF.out rfl]; rfl
                          go_wp2_with fail
                          go_ret
                          exact ⟨by simp, HG4.out.1.below⟩
                      · have HALL : Hid (l.all (okSy t n) = true) := by show _ = _; rw [← List.take_of_length_le (i := y) (l := l) (by omega), HB.out]
                        go_wp2_with fail
                        go_roundw
                        case rel => exact ⟨q + 1, by omega, by go_num, by show _ = _; rw [HPS2.out, HALL.out]; rfl, HGP.out.1⟩
                        case measure => simp [intOf]; omega
              · obtain rfl : r = 0 := by rw [← HA.out, List.drop_of_length_le (by omega)]; rfl
                go_wp2_with fail
                go_ret
                exact ⟨by simp, HG.out.below⟩
end Go.Proofs.Ytpfehghicaaghaa
