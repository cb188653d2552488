/-
  The contract of chart.cuts.
-/
import Derived.Test.YtpfehghicaaghaaChCutm
namespace Go.Proofs.Ytpfehghicaaghaa
open Go.RowKit
open Cg

/-- What the inner loop holds. -/
structure Cq (wr w0 : World) (y : Lay) (t : Int) (n : Nat) (pv wv : Value) (ps : List Pd) (ws : List Int) (op : Bool) (N : Tb) (B : Nat → Nat → Nat → Nat → Nat) (W : World) : Prop where
  ch : Ch w0 y t n pv wv ps ws op N B W
  bl : Below wr.heap.size wr W
theorem Cq.next {wr w0 : World} {y : Lay} {t : Int} {n : Nat} {pv wv : Value} {ps : List Pd} {ws : List Int} {op : Bool} {N : Tb} {B : Nat → Nat → Nat → Nat → Nat} (W W' : World) (h : Cq wr w0 y t n pv wv ps ws op N B W) (hb : Below W.heap.size W W') : Cq wr w0 y t n pv wv ps ws op N B W' := ⟨h.ch.next hb, h.bl.trans (hb.mono h.bl.size)⟩
set_option maxHeartbeats 8000000 in
set_option maxRecDepth 20000 in
theorem cuts_any (w0 : World) (y : Lay) (t : Int) (n : Nat) (pv wv : Value) (ps : List Pd) (ws : List Int) (op : Bool) (N : Tb) (B : Nat → Nat → Nat → Nat → Nat) (w : World) (rc : Rc w0 t n pv wv ps ws) (h : Ch w0 y t n pv wv ps ws op N B w) (hN : ∀ a i j, N a i j ≤ 2) (hlow : ∀ a i j, j < i → N a i j = 0)
    (hB : ∀ p k i j, p < ps.length → k ≤ (ps.getD p (0, [])).2.length → i ≤ j → j < ws.length + 1 → B p k i j = vB ps (ws.length + 1) (on1 (lf op ws) N) p i j k)
    (p i j : Nat) (hij : i ≤ j) (hj : j ≤ ws.length) (hp : p < ps.length) (h2 : vB ps (ws.length + 1) (on1 (lf op ws) N) p i j (ps.getD p (0, [])).2.length ≠ 0) :
    Calls Try.prog 93 #[.pointer (some ⟨y.q, 0, none⟩), .int .i64 (p : Int), .int .i64 (i : Int), .int .i64 (j : Int)] w fun e w' => ∃ g f, e = .returned (.slice (some ⟨g, 0, none⟩) ((ps.getD p (0, [])).2.length + 1) ((ps.getD p (0, [])).2.length + 1)) ∧ w'.rowIs g 3 ((ps.getD p (0, [])).2.length + 1) (fun x => .int .i64 ((f x : Nat) : Int)) ∧ Cu2 ps (ws.length + 1) (on1 (lf op ws) N) p i j 0 f ∧ w.heap.size ≤ g ∧ Below w.heap.size w w' := by
  have hwl := rc.wl
  have hpl := rc.pl
  have HT : Hid (Tri (on1 (lf op ws) N)) := on1_tri (lf_tri op ws) hlow
  have HRC : Hid (Rc w0 t n pv wv ps ws) := rc
  have HN : Hid (∀ a i j, N a i j ≤ 2) := hN
  have HBB : Hid (∀ p k i j, p < ps.length → k ≤ (ps.getD p (0, [])).2.length → i ≤ j → j < ws.length + 1 → B p k i j = vB ps (ws.length + 1) (on1 (lf op ws) N) p i j k) := hB
  have HV : Hid (vB ps (ws.length + 1) (on1 (lf op ws) N) p i j (ps.getD p (0, [])).2.length ≠ 0) := h2
  obtain ⟨pao, pc, rfl, hpm, -⟩ := id rc.pds
  obtain ⟨pb, po, uo, uc, rfl, hpb, hc0, hc1, hsy⟩ := rc.cell hp
  obtain ⟨hok, hbl8, -, -⟩ := rc.at hp
  have HOK : Hid (OkL t n (ps.getD p (0, [])).2) := hok
  have HP : Hid (p < ps.length) := hp
  have HC : Hid (Ch w0 y t n (.slice (some ⟨pb, po, none⟩) ps.length pc) wv ps ws op N B w) := h
  have HSY : Hid (Syms w0 (.slice uo (ps.getD p (0, [])).2.length uc) (ps.getD p (0, [])).2) := hsy
  have z2 : w.cell? ⟨y.q, 2, none⟩ = some (.slice (some ⟨pb, po, none⟩) ps.length pc) := h.bcell 2
  replace hc1 : w.cell? ⟨pb, po + p * 2 + 1, none⟩ = some (.slice uo (ps.getD p (0, [])).2.length uc) := (h.bel.cell (p := ⟨pb, po + p * 2 + 1, none⟩) hpb).trans hc1
  have hp2 : (p : Int) < (ps.length : Int) := by omega
  obtain ⟨bl, HBLN⟩ : ∃ bl, Hid ((ps.getD p (0, [])).2.length = bl) := ⟨_, (rfl : (ps.getD p (0, [])).2.length = _)⟩
  rw [HBLN.out] at hc1 hbl8 HSY ⊢
  have hmk := run_make_row' (P := Try.prog) 25 3 (.int .i64 0) 8 Try.underlying25 info3 rfl .i64 .i64 (bl + 1) (by omega) (by omega)
  rw [Int.natCast_succ] at hmk
  have hk2 : (bl : Int) < (bl : Int) + 1 := by omega
  clear h rc hok hsy hpm hc0 hB hN hlow h2
  have hrm := World.rowIs_made w (.int .i64 0) (bl + 1) 3
  have c0 := hrm.cell (i := bl) (by omega)
  have fz0 := World.rowIs.frozen hrm bl
  go_enter Try.func93, Try.ntmps93
  go_wp2_with fail
  have HRW : Hid ((w.alloc (.cells ((madeCells #[Value.int .i64 0] (bl + 1)).setIfInBounds bl (.int .i64 (j : Int))) 3)).rowIs w.heap.size 3 (bl + 1) (fun x => .int .i64 (((if x = bl then j else 0 : Nat)) : Int))) := (row_madei w (.int .i64 0) (.int .i64 (j : Int)) (bl + 1) 3 bl).congr fun x _ => by
    by_cases e : x = bl
    · rw [if_pos e, if_pos e]
    · rw [if_neg e, if_neg e]; rfl
  have HBW : Hid (Below w.heap.size w (w.alloc (.cells ((madeCells #[Value.int .i64 0] (bl + 1)).setIfInBounds bl (.int .i64 (j : Int))) 3))) := below_alloc _ _
  have HCU : Hid (Cu2 ps (ws.length + 1) (on1 (lf op ws) N) p i j bl (fun x => if x = bl then j else 0)) := by
    have e := HBLN.out
    refine ⟨by rw [e]; simp, fun x h1 h2 => ?_, fun x h1 h2 => by rw [e] at h2; omega⟩
    rw [e] at h2
    obtain rfl : x = bl := by omega
    have := HV.out
    rw [e] at this
    simp only [if_pos]
    exact ⟨hij, Nat.le_refl _, this⟩
  generalize w.alloc (.cells ((madeCells #[Value.int .i64 0] (bl + 1)).setIfInBounds bl (.int .i64 (j : Int))) 3) = w1 at HRW HBW ⊢
  obtain ⟨g, HG⟩ : ∃ g, Hid (w.heap.size = g) := ⟨_, (rfl : w.heap.size = _)⟩
  rw [HG.out] at HRW ⊢
  clear hmk z2 hc1
  go_loopw [11] (fun v wr => ∃ (k : Nat) (f : Nat → Nat), k ≤ bl ∧ v = .int .i64 ((k : Int) - 1) ∧ Hid (Cu2 ps (ws.length + 1) (on1 (lf op ws) N) p i j k f) ∧ Hid (Below w.heap.size w wr) ∧ Hid (wr.rowIs g 3 (bl + 1) (fun x => .int .i64 ((f x : Nat) : Int)))) (fun v _ => (intOf v + 1).toNat)
  case atStart => exact ⟨bl, _, Nat.le_refl _, rfl, HCU, HBW, HRW⟩
  case round =>
    obtain ⟨k, f, hk, rfl, HCF, HBF, HRF⟩ := hrel
    cases k with
    | zero =>
      have hfin : Hid (g = w.heap.size) := HG.out.symm
      go_wp2_with fail
      go_ret
      refine ⟨g, f, by simp, HRF.out, HCF.out, by rw [hfin.out]; exact Nat.le_refl _, HBF.out⟩
    | succ m =>
      have hi0 : (0 : Int) ≤ ((m + 1 : Nat) : Int) - 1 := by omega
      have hi1 : ((m + 1 : Nat) : Int) - 1 = (m : Int) := by omega
      rw [hi1]
      have hmb : m < bl := by omega
      have hm1 : (m : Int) < (bl : Int) := by omega
      have hm2 : (m : Int) + 1 < (bl : Int) + 1 := by omega
      have hm3 : (m : Int) < (bl : Int) + 1 := by omega
      have d0 := HRF.out.cell (i := m + 1) (by omega)
      obtain ⟨fc, HFC⟩ : ∃ fc, Hid (f (m + 1) = fc) := ⟨_, (rfl : f (m + 1) = _)⟩
      obtain ⟨g1, g2, g3⟩ := HCF.out.ge (m + 1) (Nat.le_refl _) (by rw [HBLN.out]; omega)
      rw [HFC.out] at d0 g1 g2 g3
      obtain ⟨wit, c1, c2, c3, c4⟩ := vB_cut HT.out (by omega) (by omega) (by rw [HBLN.out]; exact hmb) g3
      have HW : Hid (i ≤ wit ∧ wit ≤ fc ∧ vB ps (ws.length + 1) (on1 (lf op ws) N) p i wit m ≠ 0 ∧ on1 (lf op ws) N ((ps.getD p (0, [])).2.getD m (0, 0)) wit fc ≠ 0) := ⟨c1, c2, c3, c4⟩
      have hfc20 : fc ≤ ws.length := by omega
      clear hi0 hi1 g1 g2 g3 c1 c2 c3 c4
      obtain ⟨b2, o2, rfl, hb2, e0, e1⟩ := HSY.out.cell (i := m) (by rw [HBLN.out]; exact hmb)
      have hs := HOK.out _ (List.getElem_mem (show m < (ps.getD p (0, [])).2.length by rw [HBLN.out]; exact hmb))
      have HGE : Hid ((ps.getD p (0, [])).2.getD m (0, 0) = (ps.getD p (0, [])).2[m]'(by rw [HBLN.out]; exact hmb)) := by
        show _ = _
        rw [List.getD_eq_getElem?_getD, List.getElem?_eq_getElem (by rw [HBLN.out]; exact hmb)]; rfl
      generalize (ps.getD p (0, [])).2[m]'(by rw [HBLN.out]; exact hmb) = sy at e0 e1 hs HGE
      obtain ⟨s0, s1⟩ := sy
      have HS : Hid ((s0 = 1 ∧ 0 ≤ s1 ∧ s1 < t) ∨ (s0 = 2 ∧ 0 ≤ s1 ∧ s1 < (n : Int))) := hs
      have HE0 : Hid (w0.cell? ⟨b2, o2 + m * 2, none⟩ = some (.int .i64 s0)) := e0
      have HE1 : Hid (w0.cell? ⟨b2, o2 + m * 2 + 1, none⟩ = some (.int .i64 s1)) := e1
      have HD0 : Hid (wr.cell? ⟨g, m + 1, none⟩ = some (.int .i64 (fc : Int))) := d0
      have HCQ : Hid (Cq wr w0 y t n (.slice (some ⟨pb, po, none⟩) ps.length pc) wv ps ws op N B wr) := ⟨HC.out.next HBF.out, Below.refl _ _⟩
      clear hs e0 e1
      go_wp2_with fail
      obtain ⟨wr0, HWR⟩ : ∃ wr0, Hid (wr = wr0) := ⟨_, (rfl : wr = wr)⟩
      have HD0' : Hid (wr0.cell? ⟨g, m + 1, none⟩ = some (.int .i64 (fc : Int))) := by rw [← HWR.out]; exact HD0.out
      have HCQ' : Hid (Cq wr0 w0 y t n (.slice (some ⟨pb, po, none⟩) ps.length pc) wv ps ws op N B wr0) := by rw [← HWR.out]; exact HCQ.out
      have HBF' : Hid (Below w.heap.size w wr0) := by rw [← HWR.out]; exact HBF.out
      have HRF' : Hid (wr0.rowIs g 3 (bl + 1) (fun x => .int .i64 ((f x : Nat) : Int))) := by rw [← HWR.out]; exact HRF.out
      clear HD0 HCQ HBF HRF d0
      go_loopw [12] (fun a W => ∃ cc : Nat, wit ≤ cc ∧ cc ≤ fc ∧ a = .int .i64 (cc : Int) ∧ Cq wr0 w0 y t n (.slice (some ⟨pb, po, none⟩) ps.length pc) wv ps ws op N B W) (fun a _ => (intOf a).toNat)
      case atStart => exact ⟨fc, HW.out.2.1, Nat.le_refl _, rfl, by rw [HWR.out]; exact HCQ'.out⟩
      case round =>
        obtain ⟨cc, h1, h2, rfl, hcq⟩ := hrel
        have hic : i ≤ cc := Nat.le_trans HW.out.1 h1
        have HCW : Hid (cc = wit → vB ps (ws.length + 1) (on1 (lf op ws) N) p i cc m ≠ 0 ∧ on1 (lf op ws) N ((ps.getD p (0, [])).2.getD m (0, 0)) cc fc ≠ 0) := fun e => by rw [e]; exact HW.out.2.2
        have HRS : Hid (vB ps (ws.length + 1) (on1 (lf op ws) N) p i cc m ≠ 0 → on1 (lf op ws) N ((ps.getD p (0, [])).2.getD m (0, 0)) cc fc ≠ 0 → Cu2 ps (ws.length + 1) (on1 (lf op ws) N) p i j m (fun x => if x = m then cc else f x)) := fun e1 e2 => HCF.out.put (by rw [HBLN.out]; exact hmb) hic (by rw [HFC.out]; exact h2) e1 (by rw [HFC.out]; exact e2)
        rw [HGE.out] at HCW HRS
        have hx : B p m i cc = vB ps (ws.length + 1) (on1 (lf op ws) N) p i cc m := HBB.out p m i cc HP.out (by rw [HBLN.out]; omega) hic (by omega)
        have a2 := vB_le (ps := ps) (K := ws.length + 1) (M := on1 (lf op ws) N) (p := p) (i := i) (j := cc) (k := m)
        have a3 : on1 (lf op ws) N (s0, s1) cc fc ≤ 2 := by
          unfold on1
          split
          · exact HN.out _ _ _
          · split <;> omega
        have HOF : Hid (∀ W, Cq wr0 w0 y t n (.slice (some ⟨pb, po, none⟩) ps.length pc) wv ps ws op N B W → Calls Try.prog 112 #[.pointer (some ⟨y.q, 0, none⟩), .agg #[.int .i64 s0, .int .i64 s1], .int .i64 (cc : Int), .int .i64 (fc : Int)] W fun e w' => e = .returned (.int .u8 ((on1 (lf op ws) N (s0, s1) cc fc : Nat) : Int)) ∧ Below W.heap.size W w') := fun W hW => of_any w0 y t n _ wv ps ws op N _ W HRC.out hW.ch s0 s1 HS.out cc fc h2 hfc20
        have p0 : ∀ q : Kp (Cq wr0 w0 y t n (.slice (some ⟨pb, po, none⟩) ps.length pc) wv ps ws op N B), q.W.cell? ⟨y.bs p, m * 441 + i * 21 + cc, none⟩ = some (.int .u8 ((vB ps (ws.length + 1) (on1 (lf op ws) N) p i cc m : Nat) : Int)) := fun q => by
          have := q.h.ch.scell HP.out (k := m) (i := i) (j := cc) (by rw [HBLN.out]; omega) (by omega) (by omega)
          rw [hx] at this; exact this
        have p1 : ∀ q : Kp (Cq wr0 w0 y t n (.slice (some ⟨pb, po, none⟩) ps.length pc) wv ps ws op N B), q.W.cell? ⟨b2, o2 + m * 2, none⟩ = some (.int .i64 s0) := fun q => (q.h.ch.bel.cell (p := ⟨b2, o2 + m * 2, none⟩) hb2).trans HE0.out
        have p2 : ∀ q : Kp (Cq wr0 w0 y t n (.slice (some ⟨pb, po, none⟩) ps.length pc) wv ps ws op N B), q.W.cell? ⟨b2, o2 + m * 2 + 1, none⟩ = some (.int .i64 s1) := fun q => (q.h.ch.bel.cell (p := ⟨b2, o2 + m * 2 + 1, none⟩) hb2).trans HE1.out
        have p3 : ∀ q : Kp (Cq wr0 w0 y t n (.slice (some ⟨pb, po, none⟩) ps.length pc) wv ps ws op N B), q.W.cell? ⟨g, m + 1, none⟩ = some (.int .i64 (fc : Int)) := fun q => (q.h.bl.cell (p := ⟨g, m + 1, none⟩) HRF'.out.lt).trans HD0'.out
        have p4 : ∀ q : Kp (Cq wr0 w0 y t n (.slice (some ⟨pb, po, none⟩) ps.length pc) wv ps ws op N B), q.W.cell? ⟨y.q, 6, none⟩ = some (.slice (some ⟨y.bb, 0, none⟩) ps.length ps.length) := fun q => q.h.ch.bcell 6
        have p5 : ∀ q : Kp (Cq wr0 w0 y t n (.slice (some ⟨pb, po, none⟩) ps.length pc) wv ps ws op N B), q.W.cell? ⟨y.bb, p, none⟩ = some (.slice (some ⟨y.bs p, 0, none⟩) (bl + 1) (bl + 1)) := fun q => by
          have := q.h.ch.bods.cell HP.out
          rw [HBLN.out] at this; exact this
        clear hx
        generalize vB ps (ws.length + 1) (on1 (lf op ws) N) p i cc m = x2 at a2 p0 HCW HRS
        generalize on1 (lf op ws) N (s0, s1) cc fc = x3 at a3 HOF HCW HRS
        obtain ⟨x4, hx4⟩ : ∃ x4, x4 = x2 * x3 := ⟨_, rfl⟩
        have a4 : x4 ≤ 4 := by rw [hx4]; exact Nat.mul_le_mul a2 a3
        have hmu : IntKind.u8.wrap ((x2 : Int) * (x3 : Int)) = (x4 : Int) := by
          rw [show ((x2 : Int) * (x3 : Int)) = (x4 : Int) by rw [hx4]; simp]
          simp [IntKind.wrap, IntKind.bits, IntKind.signed]; omega
        have S1' : Cq wr0 w0 y t n (.slice (some ⟨pb, po, none⟩) ps.length pc) wv ps ws op N B wr.drew := hcq.next _ _ ((Below.refl _ _).drew)
        have hne : Nonempty (Kp (Cq wr0 w0 y t n (.slice (some ⟨pb, po, none⟩) ps.length pc) wv ps ws op N B)) := ⟨⟨_, S1'⟩⟩
        have k1 : (cc : Int) < 21 := by omega
        have k2 : (i : Int) < 21 := by omega
        have k4 : (fc : Int) < 21 := by omega
        have HX : Hid (x4 = x2 * x3) := hx4
        have HA : Hid (wit ≤ cc ∧ cc ≤ fc ∧ i ≤ cc) := ⟨h1, h2, hic⟩
        clear hx4 a2 a3
        go_upto_region 8 with fail
        refine wp_region_kept mixed (by kernel_rfl) S1' ?_
        repeat (go_big_quiet_step (first | (go_at_call 112; with_reducible exact Kp.calls _ Cq.next (HOF.out _ (Kp.h _)))))
        refine wpQuiet_nil ?_
        intro W1 hw1
        obtain ⟨⟨W1, HS3⟩, rfl⟩ := hw1
        have HS4 : Hid (Cq wr0 w0 y t n (.slice (some ⟨pb, po, none⟩) ps.length pc) wv ps ws op N B W1) := HS3
        clear p0 p1 p2 p3 p4 p5 hne HS3 S1' hcq
        have q1 := HA.out.2.1
        by_cases e4 : x4 = 0
        · have hb : ((x4 : Int) == 0) = true := by simp; exact e4
          have hlt2 : wit < cc := by
            rcases Nat.lt_or_ge wit cc with h | h
            · exact h
            · obtain ⟨u1, u2⟩ := HCW.out (by have := HA.out.1; omega)
              have u3 := HX.out
              rw [e4] at u3
              rcases Nat.mul_eq_zero.1 u3.symm with h | h
              · exact absurd h u1
              · exact absurd h u2
          clear e4
          go_wp2_with fail
          go_roundw
          case rel => exact ⟨cc - 1, by omega, by omega, by go_num, HS4.out⟩
          case measure => simp [intOf]; omega
        · have hb : ((x4 : Int) == 0) = false := by simp; exact e4
          have hcu := HRS.out (fun e => e4 (by rw [HX.out, e, Nat.zero_mul])) (fun e => e4 (by rw [HX.out, e, Nat.mul_zero]))
          have HCU2 : Hid (Cu2 ps (ws.length + 1) (on1 (lf op ws) N) p i j m (fun x => if x = m then cc else f x)) := hcu
          have hr1 := World.rowIs.of_block HRF'.out (HS4.out.bl.block g HRF'.out.lt)
          have c5 := hr1.cell (i := m) (by omega)
          have f5 := World.rowIs.frozen hr1 m
          have HR5 : Hid ((W1.setCell ⟨g, m, none⟩ (.int .i64 (cc : Int))).rowIs g 3 (bl + 1) (fun x => .int .i64 (((if x = m then cc else f x : Nat)) : Int))) := World.rowIs.congr (World.rowIs.set hr1 m (.int .i64 (cc : Int))) fun x _ => by
            by_cases e : x = m
            · subst e; simp
            · simp [e]
          have HB5 : Hid (Below w.heap.size w (W1.setCell ⟨g, m, none⟩ (.int .i64 (cc : Int)))) := (HBF'.out.trans (HS4.out.bl.mono HBF'.out.size)).setCell (by rw [HG.out]; exact Nat.le_refl _) _
          clear e4 hcu hr1
          go_wp2_with fail
          go_roundw
          case rel => exact ⟨m, _, by omega, rfl, HCU2, HB5, HR5⟩
          case measure => simp [intOf]
end Go.Proofs.Ytpfehghicaaghaa
