/-
  The contracts of slices.Equal (classes, Bools), slices.EqualFunc, pushlaw.SamePosn where both are one, and of pushkeep.spoil.
-/
import Derived.Test.YtgdaegmmapljgaaPmLaw0
import Derived.Deep.QuietTactic
import Derived.Lib.SmallJoins
namespace Go.Proofs.Ytgdaegmmapljgaa
open Go.RowKit
open Cls Po

theorem eqI (w : World) (v1 v2 : Value) (l : List Int) (h1 : Ints w v1 l) (h2 : Ints w v2 l) : Calls Try.prog 15 #[v1, v2] w fun e w' => e = .returned (.bool true) ∧ Below w.heap.size w w' := by
  have := equal_any v1 v2 l l w h1 h2
  rwa [decide_eq_true rfl] at this
set_option maxHeartbeats 800000 in
set_option maxRecDepth 20000 in
theorem equalC_true (w : World) (v1 v2 : Value) (fs : List Cl) (h1 : Cs w v1 fs) (h2 : Cs w v2 fs) :
    Calls Try.prog 33 #[v1, v2] w fun e w' => e = .returned (.bool true) ∧ Below w.heap.size w w' := by
  obtain ⟨a1, c1, rfl, m1, h1⟩ := h1
  obtain ⟨a2, c2, rfl, m2, h2⟩ := h2
  go_enter Try.func33, Try.ntmps33
  go_wp2_with fail
  go_loopw [13] (fun i wr => ∃ (k : Nat), k ≤ fs.length ∧ i = .int .i64 (k : Int) ∧ Below w.heap.size w wr) (fun i _ => fs.length - (intOf i).toNat)
  case atStart => exact ⟨0, by omega, rfl, Below.refl _ _⟩
  case round =>
    obtain ⟨k, hk, rfl, hbel⟩ := hrel
    by_cases hlt : k < fs.length
    · have hne : fs ≠ [] := by intro e; subst e; simp at hlt
      obtain ⟨b1, o1, rfl, hb1, hc1⟩ := h1.resolve_left hne
      obtain ⟨b2, o2, rfl, hb2, hc2⟩ := h2.resolve_left hne
      have x0 := hc1 k hlt 0 (by omega)
      have x1 := hc1 k hlt 1 (by omega)
      have x2 := hc1 k hlt 2 (by omega)
      have x3 := hc1 k hlt 3 (by omega)
      have y0 := hc2 k hlt 0 (by omega)
      have y1 := hc2 k hlt 1 (by omega)
      have y2 := hc2 k hlt 2 (by omega)
      have y3 := hc2 k hlt 3 (by omega)
      simp only [Nat.add_zero] at x0 y0
      generalize fs[k] = c at x0 y0 x1 y1 x2 y2 x3 y3
      have z0 : wr.cell? ⟨b1, o1 + k * 4, none⟩ = some (.int .u64 (c.1.toNat : Int)) := (hbel.cell (p := ⟨b1, o1 + k * 4, none⟩) hb1).trans x0
      have t0 : wr.cell? ⟨b2, o2 + k * 4, none⟩ = some (.int .u64 (c.1.toNat : Int)) := (hbel.cell (p := ⟨b2, o2 + k * 4, none⟩) hb2).trans y0
      have z1 : wr.cell? ⟨b1, o1 + k * 4 + 1, none⟩ = some (.int .u64 (c.2.1.toNat : Int)) := (hbel.cell (p := ⟨b1, o1 + k * 4 + 1, none⟩) hb1).trans x1
      have t1 : wr.cell? ⟨b2, o2 + k * 4 + 1, none⟩ = some (.int .u64 (c.2.1.toNat : Int)) := (hbel.cell (p := ⟨b2, o2 + k * 4 + 1, none⟩) hb2).trans y1
      have z2 : wr.cell? ⟨b1, o1 + k * 4 + 2, none⟩ = some (.int .u64 (c.2.2.1.toNat : Int)) := (hbel.cell (p := ⟨b1, o1 + k * 4 + 2, none⟩) hb1).trans x2
      have t2 : wr.cell? ⟨b2, o2 + k * 4 + 2, none⟩ = some (.int .u64 (c.2.2.1.toNat : Int)) := (hbel.cell (p := ⟨b2, o2 + k * 4 + 2, none⟩) hb2).trans y2
      have z3 : wr.cell? ⟨b1, o1 + k * 4 + 3, none⟩ = some (.int .u64 (c.2.2.2.toNat : Int)) := (hbel.cell (p := ⟨b1, o1 + k * 4 + 3, none⟩) hb1).trans x3
      have t3 : wr.cell? ⟨b2, o2 + k * 4 + 3, none⟩ = some (.int .u64 (c.2.2.2.toNat : Int)) := (hbel.cell (p := ⟨b2, o2 + k * 4 + 3, none⟩) hb2).trans y3
      have hk0 : (0 : Int) ≤ (k : Int) := by omega
      have hk1 : (k : Int) < (fs.length : Int) := by omega
      clear h1 h2 hc1 hc2 x0 y0 x1 y1 x2 y2 x3 y3
      have hq : ∀ W, (Op.equalIn 10000 42 (.agg #[.int .u64 (c.1.toNat : Int), .int .u64 (c.2.1.toNat : Int), .int .u64 (c.2.2.1.toNat : Int), .int .u64 (c.2.2.2.toNat : Int)]) (.agg #[.int .u64 (c.1.toNat : Int), .int .u64 (c.2.1.toNat : Int), .int .u64 (c.2.2.1.toNat : Int), .int .u64 (c.2.2.2.toNat : Int)])).run Try.prog W = .ok true W := fun W => by rw [eqIn24, decide_eq_true rfl]
      go_wp2_with fail
      go_quiet (fail)
      have hb2 : Below w.heap.size w (wr.drewN nq) := hbel.trans (Go.Joins.below_draws _ _ _)
      generalize wr.drewN nq = w2 at hb2 ⊢
      clear z0 t0 z1 t1 z2 t2 z3 t3 hbel
      go_wp2_with fail
      go_roundw
      case rel => exact ⟨k + 1, by omega, by go_num, hb2⟩
      case measure => simp [intOf]; omega
    · go_wp2_with fail
      go_ret
      exact ⟨rfl, hbel⟩
set_option maxHeartbeats 800000 in
set_option maxRecDepth 20000 in
theorem equalB_true (w : World) (v1 v2 : Value) (fs : List Bool) (h1 : Bls w v1 fs) (h2 : Bls w v2 fs) :
    Calls Try.prog 35 #[v1, v2] w fun e w' => e = .returned (.bool true) ∧ Below w.heap.size w w' := by
  obtain ⟨a1, c1, rfl, m1, h1⟩ := h1
  obtain ⟨a2, c2, rfl, m2, h2⟩ := h2
  go_enter Try.func35, Try.ntmps35
  go_wp2_with fail
  go_loopw [13] (fun i wr => ∃ (k : Nat), k ≤ fs.length ∧ i = .int .i64 (k : Int) ∧ Below w.heap.size w wr) (fun i _ => fs.length - (intOf i).toNat)
  case atStart => exact ⟨0, by omega, rfl, Below.refl _ _⟩
  case round =>
    obtain ⟨k, hk, rfl, hbel⟩ := hrel
    by_cases hlt : k < fs.length
    · have hne : fs ≠ [] := by intro e; subst e; simp at hlt
      obtain ⟨b1, o1, rfl, hb1, hc1⟩ := h1.resolve_left hne
      obtain ⟨b2, o2, rfl, hb2, hc2⟩ := h2.resolve_left hne
      have x0 := hc1 k hlt
      have y0 := hc2 k hlt
      generalize fs[k] = f at x0 y0
      have z0 : wr.cell? ⟨b1, o1 + k, none⟩ = some (.bool f) := (hbel.cell (p := ⟨b1, o1 + k, none⟩) hb1).trans x0
      have t0 : wr.cell? ⟨b2, o2 + k, none⟩ = some (.bool f) := (hbel.cell (p := ⟨b2, o2 + k, none⟩) hb2).trans y0
      have hk0 : (0 : Int) ≤ (k : Int) := by omega
      have hk1 : (k : Int) < (fs.length : Int) := by omega
      clear h1 h2 hc1 hc2 x0 y0
      go_wp2_with fail
      go_quiet (fail)
      have hb2 : Below w.heap.size w (wr.drewN nq) := hbel.trans (Go.Joins.below_draws _ _ _)
      generalize wr.drewN nq = w2 at hb2 ⊢
      clear z0 t0 hbel
      go_wp2_with fail
      go_roundw
      case rel => exact ⟨k + 1, by omega, by go_num, hb2⟩
      case measure => simp [intOf]; omega
    · go_wp2_with fail
      go_ret
      exact ⟨rfl, hbel⟩
set_option maxHeartbeats 1600000 in
set_option maxRecDepth 20000 in
theorem equalF_true (w : World) (v1 v2 : Value) (rs : List (List Int)) (h1 : Fw w v1 rs) (h2 : Fw w v2 rs) :
    Calls Try.prog 34 #[v1, v2, .func (.func 15) #[] #[]] w fun e w' => e = .returned (.bool true) ∧ Below w.heap.size w w' := by
  obtain ⟨a1, c1, rfl, m1, h1⟩ := h1
  obtain ⟨a2, c2, rfl, m2, h2⟩ := h2
  go_enter Try.func34, Try.ntmps34
  go_wp2_with fail
  go_loopw [17] (fun i wr => ∃ (k : Nat), k ≤ rs.length ∧ i = .int .i64 (k : Int) ∧ Below w.heap.size w wr) (fun i _ => rs.length - (intOf i).toNat)
  case atStart => exact ⟨0, by omega, rfl, Below.refl _ _⟩
  case round =>
    obtain ⟨k, hk, rfl, hbel⟩ := hrel
    by_cases hlt : k < rs.length
    · have hne : rs ≠ [] := by intro e; subst e; simp at hlt
      obtain ⟨b1, o1, rfl, hb1, hc1⟩ := h1.resolve_left hne
      obtain ⟨b2, o2, rfl, hb2, hc2⟩ := h2.resolve_left hne
      obtain ⟨u, x0, hu⟩ := hc1 k hlt
      obtain ⟨v, y0, hv⟩ := hc2 k hlt
      generalize rs[k] = f at hu hv
      have hq := equal_any u v f f wr (hu.below hbel) (hv.below hbel)
      rw [decide_eq_true rfl] at hq
      obtain ⟨ua, uc, rfl, -, -⟩ := hu
      obtain ⟨va, vc, rfl, -, -⟩ := hv
      have z0 : wr.cell? ⟨b1, o1 + k, none⟩ = some (.slice ua f.length uc) := (hbel.cell (p := ⟨b1, o1 + k, none⟩) hb1).trans x0
      have z3 : wr.cell? ⟨b2, o2 + k, none⟩ = some (.slice va f.length vc) := (hbel.cell (p := ⟨b2, o2 + k, none⟩) hb2).trans y0
      have hk0 : (0 : Int) ≤ (k : Int) := by omega
      have hk1 : (k : Int) < (rs.length : Int) := by omega
      clear h1 h2 hc1 hc2 x0 y0
      go_wp2_with (go_quiet (fail))
      refine hq.mono ?_
      rintro _ w2 ⟨rfl, hB⟩
      have hb2 : Below w.heap.size w w2 := hbel.trans (hB.mono hbel.size)
      clear z0 z3 hbel hB hq
      go_wp2_with fail
      go_roundw
      case rel => exact ⟨k + 1, by omega, by go_num, hb2⟩
      case measure => simp [intOf]; omega
    · go_wp2_with fail
      go_ret
      exact ⟨rfl, hbel⟩
set_option maxHeartbeats 4000000 in
set_option maxRecDepth 20000 in
theorem same_posn (a0 a1 a2 a3 a4 a5 : Option Addr) (m0 m1 m2 m3 m4 m5 d0 d1 d2 d3 d4 d5 : Nat) (e0 e1 e2 e3 e4 e5 : Option Addr) (l0 l1 l2 l3 l4 l5 q0 q1 q2 q3 q4 q5 : Nat) (p : P) (w : World) (h1 : Pn w (.slice a0 m0 d0) (.slice a1 m1 d1) (.slice a2 m2 d2) (.slice a3 m3 d3) (.slice a4 m4 d4) (.slice a5 m5 d5) p) (h2 : Pn w (.slice e0 l0 q0) (.slice e1 l1 q1) (.slice e2 l2 q2) (.slice e3 l3 q3) (.slice e4 l4 q4) (.slice e5 l5 q5) p) :
    Calls Try.prog 10 #[.agg #[.slice a0 m0 d0, .slice a1 m1 d1, .slice a2 m2 d2, .slice a3 m3 d3, .slice a4 m4 d4, .slice a5 m5 d5], .agg #[.slice e0 l0 q0, .slice e1 l1 q1, .slice e2 l2 q2, .slice e3 l3 q3, .slice e4 l4 q4, .slice e5 l5 q5]] w fun e w' => e = .returned (.bool true) ∧ Below w.heap.size w w' := by
  have hb0 := ((Below.refl w.heap.size w).alloc (Nat.le_refl _) (Obj.cells #[.slice a0 m0 d0, .slice a1 m1 d1, .slice a2 m2 d2, .slice a3 m3 d3, .slice a4 m4 d4, .slice a5 m5 d5] 28)).alloc (by simp) (Obj.cells #[.slice e0 l0 q0, .slice e1 l1 q1, .slice e2 l2 q2, .slice e3 l3 q3, .slice e4 l4 q4, .slice e5 l5 q5] 28)
  have hx : ((w.alloc (Obj.cells #[.slice a0 m0 d0, .slice a1 m1 d1, .slice a2 m2 d2, .slice a3 m3 d3, .slice a4 m4 d4, .slice a5 m5 d5] 28)).alloc (Obj.cells #[.slice e0 l0 q0, .slice e1 l1 q1, .slice e2 l2 q2, .slice e3 l3 q3, .slice e4 l4 q4, .slice e5 l5 q5] 28)).heap[w.heap.size]? = some (.cells #[.slice a0 m0 d0, .slice a1 m1 d1, .slice a2 m2 d2, .slice a3 m3 d3, .slice a4 m4 d4, .slice a5 m5 d5] 28) := (alloc_old _ _ (by simp)).trans (new_at _ _ rfl)
  have hy : ((w.alloc (Obj.cells #[.slice a0 m0 d0, .slice a1 m1 d1, .slice a2 m2 d2, .slice a3 m3 d3, .slice a4 m4 d4, .slice a5 m5 d5] 28)).alloc (Obj.cells #[.slice e0 l0 q0, .slice e1 l1 q1, .slice e2 l2 q2, .slice e3 l3 q3, .slice e4 l4 q4, .slice e5 l5 q5] 28)).heap[w.heap.size + 1]? = some (.cells #[.slice e0 l0 q0, .slice e1 l1 q1, .slice e2 l2 q2, .slice e3 l3 q3, .slice e4 l4 q4, .slice e5 l5 q5] 28) := new_at _ _ (by simp)
  obtain ⟨w0, HW0⟩ : ∃ z, Hid ((w.alloc (Obj.cells #[.slice a0 m0 d0, .slice a1 m1 d1, .slice a2 m2 d2, .slice a3 m3 d3, .slice a4 m4 d4, .slice a5 m5 d5] 28)).alloc (Obj.cells #[.slice e0 l0 q0, .slice e1 l1 q1, .slice e2 l2 q2, .slice e3 l3 q3, .slice e4 l4 q4, .slice e5 l5 q5] 28) = z) := ⟨_, (rfl : _ = _)⟩
  rw [HW0.out] at hb0 hx hy
  have HX0 : Hid (w0.heap[w.heap.size]? = some (.cells #[.slice a0 m0 d0, .slice a1 m1 d1, .slice a2 m2 d2, .slice a3 m3 d3, .slice a4 m4 d4, .slice a5 m5 d5] 28) ∧ w0.heap[w.heap.size + 1]? = some (.cells #[.slice e0 l0 q0, .slice e1 l1 q1, .slice e2 l2 q2, .slice e3 l3 q3, .slice e4 l4 q4, .slice e5 l5 q5] 28)) := ⟨hx, hy⟩
  have HB0 : Hid (Below w.heap.size w w0) := hb0
  have HP : Hid (Pn w0 (.slice a0 m0 d0) (.slice a1 m1 d1) (.slice a2 m2 d2) (.slice a3 m3 d3) (.slice a4 m4 d4) (.slice a5 m5 d5) p ∧ Pn w0 (.slice e0 l0 q0) (.slice e1 l1 q1) (.slice e2 l2 q2) (.slice e3 l3 q3) (.slice e4 l4 q4) (.slice e5 l5 q5) p) := ⟨h1.below hb0, h2.below hb0⟩
  clear h1 h2 hb0 hx hy
  go_enter Try.func10, Try.ntmps10
  go_wp2_with fail
  rw [HW0.out]
  clear HW0
  refine (equalC_true w0 _ _ _ HP.out.1.cls HP.out.2.cls).mono ?_
  rintro _ w1 ⟨rfl, hb1⟩
  have HX1 : Hid (w1.heap[w.heap.size]? = some (.cells #[.slice a0 m0 d0, .slice a1 m1 d1, .slice a2 m2 d2, .slice a3 m3 d3, .slice a4 m4 d4, .slice a5 m5 d5] 28) ∧ w1.heap[w.heap.size + 1]? = some (.cells #[.slice e0 l0 q0, .slice e1 l1 q1, .slice e2 l2 q2, .slice e3 l3 q3, .slice e4 l4 q4, .slice e5 l5 q5] 28)) := ⟨(hb1.block _ ((Array.getElem?_eq_some_iff.1 HX0.out.1).1)).trans HX0.out.1, (hb1.block _ ((Array.getElem?_eq_some_iff.1 HX0.out.2).1)).trans HX0.out.2⟩
  have HB1 : Hid (Below w.heap.size w w1) := HB0.out.trans (hb1.mono HB0.out.size)
  have HP1 : Hid (Pn w1 (.slice a0 m0 d0) (.slice a1 m1 d1) (.slice a2 m2 d2) (.slice a3 m3 d3) (.slice a4 m4 d4) (.slice a5 m5 d5) p ∧ Pn w1 (.slice e0 l0 q0) (.slice e1 l1 q1) (.slice e2 l2 q2) (.slice e3 l3 q3) (.slice e4 l4 q4) (.slice e5 l5 q5) p) := ⟨HP.out.1.below hb1, HP.out.2.below hb1⟩
  clear hb1 HX0 HB0
  obtain ⟨⟨x0, x1, x2, x3, x4, x5⟩, -⟩ := cells6 HX1.out.1
  obtain ⟨⟨y0, y1, y2, y3, y4, y5⟩, -⟩ := cells6 HX1.out.2
  go_wp2_with fail
  clear x0 x1 x2 x3 x4 x5 y0 y1 y2 y3 y4 y5
  refine (eqI w1 _ _ _ HP1.out.1.rules HP1.out.2.rules).mono ?_
  rintro _ w2 ⟨rfl, hb2⟩
  have HX2 : Hid (w2.heap[w.heap.size]? = some (.cells #[.slice a0 m0 d0, .slice a1 m1 d1, .slice a2 m2 d2, .slice a3 m3 d3, .slice a4 m4 d4, .slice a5 m5 d5] 28) ∧ w2.heap[w.heap.size + 1]? = some (.cells #[.slice e0 l0 q0, .slice e1 l1 q1, .slice e2 l2 q2, .slice e3 l3 q3, .slice e4 l4 q4, .slice e5 l5 q5] 28)) := ⟨(hb2.block _ ((Array.getElem?_eq_some_iff.1 HX1.out.1).1)).trans HX1.out.1, (hb2.block _ ((Array.getElem?_eq_some_iff.1 HX1.out.2).1)).trans HX1.out.2⟩
  have HB2 : Hid (Below w.heap.size w w2) := HB1.out.trans (hb2.mono HB1.out.size)
  have HP2 : Hid (Pn w2 (.slice a0 m0 d0) (.slice a1 m1 d1) (.slice a2 m2 d2) (.slice a3 m3 d3) (.slice a4 m4 d4) (.slice a5 m5 d5) p ∧ Pn w2 (.slice e0 l0 q0) (.slice e1 l1 q1) (.slice e2 l2 q2) (.slice e3 l3 q3) (.slice e4 l4 q4) (.slice e5 l5 q5) p) := ⟨HP1.out.1.below hb2, HP1.out.2.below hb2⟩
  clear hb2 HX1 HB1
  obtain ⟨⟨x0, x1, x2, x3, x4, x5⟩, -⟩ := cells6 HX2.out.1
  obtain ⟨⟨y0, y1, y2, y3, y4, y5⟩, -⟩ := cells6 HX2.out.2
  go_wp2_with fail
  clear x0 x1 x2 x3 x4 x5 y0 y1 y2 y3 y4 y5
  refine (eqI w2 _ _ _ HP2.out.1.first HP2.out.2.first).mono ?_
  rintro _ w3 ⟨rfl, hb3⟩
  have HX3 : Hid (w3.heap[w.heap.size]? = some (.cells #[.slice a0 m0 d0, .slice a1 m1 d1, .slice a2 m2 d2, .slice a3 m3 d3, .slice a4 m4 d4, .slice a5 m5 d5] 28) ∧ w3.heap[w.heap.size + 1]? = some (.cells #[.slice e0 l0 q0, .slice e1 l1 q1, .slice e2 l2 q2, .slice e3 l3 q3, .slice e4 l4 q4, .slice e5 l5 q5] 28)) := ⟨(hb3.block _ ((Array.getElem?_eq_some_iff.1 HX2.out.1).1)).trans HX2.out.1, (hb3.block _ ((Array.getElem?_eq_some_iff.1 HX2.out.2).1)).trans HX2.out.2⟩
  have HB3 : Hid (Below w.heap.size w w3) := HB2.out.trans (hb3.mono HB2.out.size)
  have HP3 : Hid (Pn w3 (.slice a0 m0 d0) (.slice a1 m1 d1) (.slice a2 m2 d2) (.slice a3 m3 d3) (.slice a4 m4 d4) (.slice a5 m5 d5) p ∧ Pn w3 (.slice e0 l0 q0) (.slice e1 l1 q1) (.slice e2 l2 q2) (.slice e3 l3 q3) (.slice e4 l4 q4) (.slice e5 l5 q5) p) := ⟨HP2.out.1.below hb3, HP2.out.2.below hb3⟩
  clear hb3 HX2 HB2
  obtain ⟨⟨x0, x1, x2, x3, x4, x5⟩, -⟩ := cells6 HX3.out.1
  obtain ⟨⟨y0, y1, y2, y3, y4, y5⟩, -⟩ := cells6 HX3.out.2
  go_wp2_with fail
  clear x0 x1 x2 x3 x4 x5 y0 y1 y2 y3 y4 y5
  refine (equalF_true w3 _ _ _ HP3.out.1.follow HP3.out.2.follow).mono ?_
  rintro _ w4 ⟨rfl, hb4⟩
  have HX4 : Hid (w4.heap[w.heap.size]? = some (.cells #[.slice a0 m0 d0, .slice a1 m1 d1, .slice a2 m2 d2, .slice a3 m3 d3, .slice a4 m4 d4, .slice a5 m5 d5] 28) ∧ w4.heap[w.heap.size + 1]? = some (.cells #[.slice e0 l0 q0, .slice e1 l1 q1, .slice e2 l2 q2, .slice e3 l3 q3, .slice e4 l4 q4, .slice e5 l5 q5] 28)) := ⟨(hb4.block _ ((Array.getElem?_eq_some_iff.1 HX3.out.1).1)).trans HX3.out.1, (hb4.block _ ((Array.getElem?_eq_some_iff.1 HX3.out.2).1)).trans HX3.out.2⟩
  have HB4 : Hid (Below w.heap.size w w4) := HB3.out.trans (hb4.mono HB3.out.size)
  have HP4 : Hid (Pn w4 (.slice a0 m0 d0) (.slice a1 m1 d1) (.slice a2 m2 d2) (.slice a3 m3 d3) (.slice a4 m4 d4) (.slice a5 m5 d5) p ∧ Pn w4 (.slice e0 l0 q0) (.slice e1 l1 q1) (.slice e2 l2 q2) (.slice e3 l3 q3) (.slice e4 l4 q4) (.slice e5 l5 q5) p) := ⟨HP3.out.1.below hb4, HP3.out.2.below hb4⟩
  clear hb4 HX3 HB3
  obtain ⟨⟨x0, x1, x2, x3, x4, x5⟩, -⟩ := cells6 HX4.out.1
  obtain ⟨⟨y0, y1, y2, y3, y4, y5⟩, -⟩ := cells6 HX4.out.2
  go_wp2_with fail
  clear x0 x1 x2 x3 x4 x5 y0 y1 y2 y3 y4 y5
  refine (equalB_true w4 _ _ _ HP4.out.1.last HP4.out.2.last).mono ?_
  rintro _ w5 ⟨rfl, hb5⟩
  have HX5 : Hid (w5.heap[w.heap.size]? = some (.cells #[.slice a0 m0 d0, .slice a1 m1 d1, .slice a2 m2 d2, .slice a3 m3 d3, .slice a4 m4 d4, .slice a5 m5 d5] 28) ∧ w5.heap[w.heap.size + 1]? = some (.cells #[.slice e0 l0 q0, .slice e1 l1 q1, .slice e2 l2 q2, .slice e3 l3 q3, .slice e4 l4 q4, .slice e5 l5 q5] 28)) := ⟨(hb5.block _ ((Array.getElem?_eq_some_iff.1 HX4.out.1).1)).trans HX4.out.1, (hb5.block _ ((Array.getElem?_eq_some_iff.1 HX4.out.2).1)).trans HX4.out.2⟩
  have HB5 : Hid (Below w.heap.size w w5) := HB4.out.trans (hb5.mono HB4.out.size)
  have HP5 : Hid (Pn w5 (.slice a0 m0 d0) (.slice a1 m1 d1) (.slice a2 m2 d2) (.slice a3 m3 d3) (.slice a4 m4 d4) (.slice a5 m5 d5) p ∧ Pn w5 (.slice e0 l0 q0) (.slice e1 l1 q1) (.slice e2 l2 q2) (.slice e3 l3 q3) (.slice e4 l4 q4) (.slice e5 l5 q5) p) := ⟨HP4.out.1.below hb5, HP4.out.2.below hb5⟩
  clear hb5 HX4 HB4
  obtain ⟨⟨x0, x1, x2, x3, x4, x5⟩, -⟩ := cells6 HX5.out.1
  obtain ⟨⟨y0, y1, y2, y3, y4, y5⟩, -⟩ := cells6 HX5.out.2
  go_wp2_with fail
  clear x0 x1 x2 x3 x4 x5 y0 y1 y2 y3 y4 y5
  refine (equalB_true w5 _ _ _ HP5.out.1.empty HP5.out.2.empty).mono ?_
  rintro _ w6 ⟨rfl, hb6⟩
  have HX6 : Hid (w6.heap[w.heap.size]? = some (.cells #[.slice a0 m0 d0, .slice a1 m1 d1, .slice a2 m2 d2, .slice a3 m3 d3, .slice a4 m4 d4, .slice a5 m5 d5] 28) ∧ w6.heap[w.heap.size + 1]? = some (.cells #[.slice e0 l0 q0, .slice e1 l1 q1, .slice e2 l2 q2, .slice e3 l3 q3, .slice e4 l4 q4, .slice e5 l5 q5] 28)) := ⟨(hb6.block _ ((Array.getElem?_eq_some_iff.1 HX5.out.1).1)).trans HX5.out.1, (hb6.block _ ((Array.getElem?_eq_some_iff.1 HX5.out.2).1)).trans HX5.out.2⟩
  have HB6 : Hid (Below w.heap.size w w6) := HB5.out.trans (hb6.mono HB5.out.size)
  have HP6 : Hid (Pn w6 (.slice a0 m0 d0) (.slice a1 m1 d1) (.slice a2 m2 d2) (.slice a3 m3 d3) (.slice a4 m4 d4) (.slice a5 m5 d5) p ∧ Pn w6 (.slice e0 l0 q0) (.slice e1 l1 q1) (.slice e2 l2 q2) (.slice e3 l3 q3) (.slice e4 l4 q4) (.slice e5 l5 q5) p) := ⟨HP5.out.1.below hb6, HP5.out.2.below hb6⟩
  clear hb6 HX5 HB5
  go_wp2_with fail
  go_ret
  exact ⟨by simp, HB6.out⟩
set_option maxHeartbeats 1600000 in
set_option maxRecDepth 20000 in
theorem spoilI_own (x : Int) (base n : Nat) (v : Value) (xs : List Value) (w : World) (h : w.ownsRow base 3 1 v n xs) :
    Calls Try.prog 22 #[v, .int .i64 x] w fun e w' => e = .returned (.tuple #[]) ∧ w.grownBy w' v.ownBlock := by
  rcases h.2 with ⟨rfl, -⟩ | ⟨g, cap, cur, rfl, hg, hh, hn, hc, hs, ht⟩
  · go_enter Try.func22, Try.ntmps22
    go_wp2_with fail
    go_loopw [11] (fun z wr => z = .int .i64 0 ∧ wr = w) (fun _ _ => 0)
    case atStart => exact ⟨rfl, rfl⟩
    case round =>
      obtain ⟨rfl, rfl⟩ := hrel
      go_wp2_with fail
      go_end0
      exact ⟨rfl, World.grownBy.refl _ _⟩
  · have HG : Hid (w.rowIs g 3 cap (fun i => cur.getD i undef)) := ⟨cur, hh, by omega, fun i hi => by simp [show i < cur.size by omega]⟩
    have hcm : cap ≤ 9223372036854775807 := by unfold maxLen at hc; omega
    have hc1 : (cap : Int) ≤ (cap : Int) := Int.le_refl _
    clear h hh hs ht hc
    show Calls _ _ _ _ fun e w' => e = .returned (.tuple #[]) ∧ w.grownBy w' (some g)
    go_enter Try.func22, Try.ntmps22
    go_wp2_with fail
    go_loopw [11] (fun z wr => ∃ k : Nat, k ≤ cap ∧ z = .int .i64 (k : Int) ∧ Hid ((∃ f', wr.rowIs g 3 cap f') ∧ w.grownBy wr (some g))) (fun z _ => cap - (intOf z).toNat)
    case atStart => exact ⟨0, by omega, rfl, ⟨_, HG.out⟩, World.grownBy.refl _ _⟩
    case round =>
      obtain ⟨k, hk, rfl, HR⟩ := hrel
      by_cases hlt : k < cap
      · have hk0 : (0 : Int) ≤ (k : Int) := by omega
        have hk1 : (k : Int) < (cap : Int) := by omega
        obtain ⟨⟨f', h1⟩, h2⟩ := HR.out
        have y0 := h1.cell (i := k) (by omega)
        have y1 := h1.frozen k
        have HNX : Hid ((∃ f', (wr.setCell ⟨g, k, none⟩ (.int .i64 x)).rowIs g 3 cap f') ∧ w.grownBy (wr.setCell ⟨g, k, none⟩ (.int .i64 x)) (some g)) :=
          ⟨⟨_, h1.set k _⟩, h2.os, h2.tape, h2.output, by simp only [World.setCell, Array.size_modify]; exact h2.size, fun q hq hq2 => (Below.heap_setCell _ _ _ _ (by simp at hq2; simpa using hq2)).trans (h2.block q hq hq2)⟩
        clear h1 h2 HR
        go_wp2_with fail
        go_roundw
        case rel => exact ⟨k + 1, by omega, by go_num, HNX⟩
        case measure => simp [intOf]; omega
      · have hk1 : ¬ (k : Int) < (cap : Int) := by omega
        go_wp2_with fail
        go_end0
        exact ⟨rfl, HR.out.2⟩
set_option maxHeartbeats 1600000 in
set_option maxRecDepth 20000 in
theorem spoilB_own (x : Bool) (base n : Nat) (v : Value) (xs : List Value) (w : World) (h : w.ownsRow base 4 1 v n xs) :
    Calls Try.prog 24 #[v, .bool x] w fun e w' => e = .returned (.tuple #[]) ∧ w.grownBy w' v.ownBlock := by
  rcases h.2 with ⟨rfl, -⟩ | ⟨g, cap, cur, rfl, hg, hh, hn, hc, hs, ht⟩
  · go_enter Try.func24, Try.ntmps24
    go_wp2_with fail
    go_loopw [11] (fun z wr => z = .int .i64 0 ∧ wr = w) (fun _ _ => 0)
    case atStart => exact ⟨rfl, rfl⟩
    case round =>
      obtain ⟨rfl, rfl⟩ := hrel
      go_wp2_with fail
      go_end0
      exact ⟨rfl, World.grownBy.refl _ _⟩
  · have HG : Hid (w.rowIs g 4 cap (fun i => cur.getD i undef)) := ⟨cur, hh, by omega, fun i hi => by simp [show i < cur.size by omega]⟩
    have hcm : cap ≤ 9223372036854775807 := by unfold maxLen at hc; omega
    have hc1 : (cap : Int) ≤ (cap : Int) := Int.le_refl _
    clear h hh hs ht hc
    show Calls _ _ _ _ fun e w' => e = .returned (.tuple #[]) ∧ w.grownBy w' (some g)
    go_enter Try.func24, Try.ntmps24
    go_wp2_with fail
    go_loopw [11] (fun z wr => ∃ k : Nat, k ≤ cap ∧ z = .int .i64 (k : Int) ∧ Hid ((∃ f', wr.rowIs g 4 cap f') ∧ w.grownBy wr (some g))) (fun z _ => cap - (intOf z).toNat)
    case atStart => exact ⟨0, by omega, rfl, ⟨_, HG.out⟩, World.grownBy.refl _ _⟩
    case round =>
      obtain ⟨k, hk, rfl, HR⟩ := hrel
      by_cases hlt : k < cap
      · have hk0 : (0 : Int) ≤ (k : Int) := by omega
        have hk1 : (k : Int) < (cap : Int) := by omega
        obtain ⟨⟨f', h1⟩, h2⟩ := HR.out
        have y0 := h1.cell (i := k) (by omega)
        have y1 := h1.frozen k
        have HNX : Hid ((∃ f', (wr.setCell ⟨g, k, none⟩ (.bool x)).rowIs g 4 cap f') ∧ w.grownBy (wr.setCell ⟨g, k, none⟩ (.bool x)) (some g)) :=
          ⟨⟨_, h1.set k _⟩, h2.os, h2.tape, h2.output, by simp only [World.setCell, Array.size_modify]; exact h2.size, fun q hq hq2 => (Below.heap_setCell _ _ _ _ (by simp at hq2; simpa using hq2)).trans (h2.block q hq hq2)⟩
        clear h1 h2 HR
        go_wp2_with fail
        go_roundw
        case rel => exact ⟨k + 1, by omega, by go_num, HNX⟩
        case measure => simp [intOf]; omega
      · have hk1 : ¬ (k : Int) < (cap : Int) := by omega
        go_wp2_with fail
        go_end0
        exact ⟨rfl, HR.out.2⟩
set_option maxHeartbeats 4000000 in
set_option maxRecDepth 20000 in
theorem spoilC_own (base n : Nat) (v : Value) (xs : List Value) (w : World) (h : w.ownsRow base 42 4 v n xs) :
    Calls Try.prog 23 #[v, .agg #[(.int .u64 0), (.int .u64 0), (.int .u64 0), (.int .u64 0)]] w fun e w' => e = .returned (.tuple #[]) ∧ w.grownBy w' v.ownBlock := by
  rcases h.2 with ⟨rfl, -⟩ | ⟨g, cap, cur, rfl, hg, hh, hn, hc, hs, ht⟩
  · go_enter Try.func23, Try.ntmps23
    go_wp2_with fail
    go_loopw [11] (fun z wr => z = .int .i64 0 ∧ wr = w.alloc (Obj.cells #[(.int .u64 0), (.int .u64 0), (.int .u64 0), (.int .u64 0)] 42)) (fun _ _ => 0)
    case atStart => exact ⟨rfl, rfl⟩
    case round =>
      obtain ⟨rfl, rfl⟩ := hrel
      go_wp2_with fail
      go_end0
      exact ⟨rfl, World.grownBy_alloc _ _ _⟩
  · have HG : Hid ((w.alloc (Obj.cells #[(.int .u64 0), (.int .u64 0), (.int .u64 0), (.int .u64 0)] 42)).rowIs g 42 (cap * 4) (fun i => cur.getD i undef)) := World.rowIs.of_block (w := w) ⟨cur, hh, by omega, fun i hi => by simp [show i < cur.size by omega]⟩ (alloc_old _ _ (Array.getElem?_eq_some_iff.1 hh).1)
    have HB : Hid ((w.alloc (Obj.cells #[(.int .u64 0), (.int .u64 0), (.int .u64 0), (.int .u64 0)] 42)).heap[w.heap.size]? = some (.cells #[(.int .u64 0), (.int .u64 0), (.int .u64 0), (.int .u64 0)] 42) ∧ g < w.heap.size) := ⟨new_at _ _ rfl, (Array.getElem?_eq_some_iff.1 hh).1⟩
    have hcm : cap ≤ 9223372036854775807 := by unfold maxLen at hc; omega
    have hc1 : (cap : Int) ≤ (cap : Int) := Int.le_refl _
    have HGR : Hid (w.grownBy (w.alloc (Obj.cells #[(.int .u64 0), (.int .u64 0), (.int .u64 0), (.int .u64 0)] 42)) (some g)) := World.grownBy_alloc _ _ _
    clear h hh hs ht hc
    show Calls _ _ _ _ fun e w' => e = .returned (.tuple #[]) ∧ w.grownBy w' (some g)
    go_enter Try.func23, Try.ntmps23
    go_wp2_with fail
    go_loopw [11] (fun z wr => ∃ k : Nat, k ≤ cap ∧ z = .int .i64 (k : Int) ∧ Hid ((∃ f', wr.rowIs g 42 (cap * 4) f') ∧ wr.heap[w.heap.size]? = some (.cells #[(.int .u64 0), (.int .u64 0), (.int .u64 0), (.int .u64 0)] 42) ∧ w.grownBy wr (some g))) (fun z _ => cap - (intOf z).toNat)
    case atStart => exact ⟨0, by omega, rfl, ⟨_, HG.out⟩, HB.out.1, HGR.out⟩
    case round =>
      obtain ⟨k, hk, rfl, HR⟩ := hrel
      by_cases hlt : k < cap
      · have hk0 : (0 : Int) ≤ (k : Int) := by omega
        have hk1 : (k : Int) < (cap : Int) := by omega
        obtain ⟨⟨f', h1⟩, h3, h2⟩ := HR.out
        have y0 := h1.cell (i := k * 4) (by omega)
        have y1 := h1.cell (i := k * 4 + 1) (by omega)
        have y2 := h1.cell (i := k * 4 + 2) (by omega)
        have y3 := h1.cell (i := k * 4 + 3) (by omega)
        have u0 := h1.frozen (k * 4)
        have u1 := h1.frozen (k * 4 + 1)
        have u2 := h1.frozen (k * 4 + 2)
        have u3 := h1.frozen (k * 4 + 3)
        have c0 : wr.cell? ⟨w.heap.size, 0, none⟩ = some (.int .u64 0) := by simp [World.cell?, h3]
        have c1 : wr.cell? ⟨w.heap.size, 1, none⟩ = some (.int .u64 0) := by simp [World.cell?, h3]
        have c2 : wr.cell? ⟨w.heap.size, 2, none⟩ = some (.int .u64 0) := by simp [World.cell?, h3]
        have c3 : wr.cell? ⟨w.heap.size, 3, none⟩ = some (.int .u64 0) := by simp [World.cell?, h3]
        have hoth : ∀ q, q ≠ g → ((((wr.setCell ⟨g, k * 4, none⟩ (.int .u64 0)).setCell ⟨g, k * 4 + 1, none⟩ (.int .u64 0)).setCell ⟨g, k * 4 + 2, none⟩ (.int .u64 0)).setCell ⟨g, k * 4 + 3, none⟩ (.int .u64 0)).heap[q]? = wr.heap[q]? := fun q hq => by rw [Below.heap_setCell _ _ _ _ hq, Below.heap_setCell _ _ _ _ hq, Below.heap_setCell _ _ _ _ hq, Below.heap_setCell _ _ _ _ hq]
        have hsz : ((((wr.setCell ⟨g, k * 4, none⟩ (.int .u64 0)).setCell ⟨g, k * 4 + 1, none⟩ (.int .u64 0)).setCell ⟨g, k * 4 + 2, none⟩ (.int .u64 0)).setCell ⟨g, k * 4 + 3, none⟩ (.int .u64 0)).heap.size = wr.heap.size := by simp [World.setCell]
        have HNX : Hid ((∃ f', ((((wr.setCell ⟨g, k * 4, none⟩ (.int .u64 0)).setCell ⟨g, k * 4 + 1, none⟩ (.int .u64 0)).setCell ⟨g, k * 4 + 2, none⟩ (.int .u64 0)).setCell ⟨g, k * 4 + 3, none⟩ (.int .u64 0)).rowIs g 42 (cap * 4) f') ∧ ((((wr.setCell ⟨g, k * 4, none⟩ (.int .u64 0)).setCell ⟨g, k * 4 + 1, none⟩ (.int .u64 0)).setCell ⟨g, k * 4 + 2, none⟩ (.int .u64 0)).setCell ⟨g, k * 4 + 3, none⟩ (.int .u64 0)).heap[w.heap.size]? = some (.cells #[(.int .u64 0), (.int .u64 0), (.int .u64 0), (.int .u64 0)] 42) ∧ w.grownBy ((((wr.setCell ⟨g, k * 4, none⟩ (.int .u64 0)).setCell ⟨g, k * 4 + 1, none⟩ (.int .u64 0)).setCell ⟨g, k * 4 + 2, none⟩ (.int .u64 0)).setCell ⟨g, k * 4 + 3, none⟩ (.int .u64 0)) (some g)) :=
          ⟨⟨_, (((h1.set (k * 4) _).set (k * 4 + 1) _).set (k * 4 + 2) _).set (k * 4 + 3) _⟩, (hoth _ (by have := HB.out.2; omega)).trans h3, h2.os, h2.tape, h2.output, by rw [hsz]; exact h2.size, fun q hq hq2 => (hoth q (by simp at hq2; exact hq2)).trans (h2.block q hq hq2)⟩
        clear h1 h2 h3 HR hoth hsz
        go_wp2_with fail
        go_roundw
        case rel => exact ⟨k + 1, by omega, by go_num, HNX⟩
        case measure => simp [intOf]; omega
      · have hk1 : ¬ (k : Int) < (cap : Int) := by omega
        go_wp2_with fail
        go_end0
        exact ⟨rfl, HR.out.2.2⟩
end Go.Proofs.Ytgdaegmmapljgaa
