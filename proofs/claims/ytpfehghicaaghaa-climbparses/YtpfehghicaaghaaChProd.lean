/-
  The contract of chart.prod.
-/
import Derived.Test.YtpfehghicaaghaaChC
namespace Go.Proofs.Ytpfehghicaaghaa
open Go.RowKit
open Cg

set_option maxHeartbeats 4000000 in
set_option maxRecDepth 20000 in
theorem prod_any (w0 : World) (y : Lay) (t : Int) (n : Nat) (pv wv : Value) (ps : List Pd) (ws : List Int) (op : Bool) (N : Tb) (B : Nat → Nat → Nat → Nat → Nat) (w : World) (rc : Rc w0 t n pv wv ps ws) (h : Ch w0 y t n pv wv ps ws op N B w) (a i j : Nat) (hij : i ≤ j) (hj : j ≤ ws.length) (q0 : Nat) (hq0 : q0 < ps.length) (h1 : (ps.getD q0 (0, [])).1 = (a : Int)) (h2 : B q0 (ps.getD q0 (0, [])).2.length i j ≠ 0) :
    Calls Try.prog 92 #[.pointer (some ⟨y.q, 0, none⟩), .int .i64 (a : Int), .int .i64 (i : Int), .int .i64 (j : Int)] w fun e w' => ∃ q : Nat, e = .returned (.int .i64 (q : Int)) ∧ q < ps.length ∧ (ps.getD q (0, [])).1 = (a : Int) ∧ B q (ps.getD q (0, [])).2.length i j ≠ 0 ∧ Below w.heap.size w w' := by
  have hwl := rc.wl
  have hpl := rc.pl
  have HRC : Hid (Rc w0 t n pv wv ps ws) := rc
  have HQ : Hid (q0 < ps.length ∧ (ps.getD q0 (0, [])).1 = (a : Int) ∧ B q0 (ps.getD q0 (0, [])).2.length i j ≠ 0) := ⟨hq0, h1, h2⟩
  obtain ⟨pao, pc, rfl, hpm, -⟩ := id rc.pds
  have HC : Hid (Ch w0 y t n (.slice pao ps.length pc) wv ps ws op N B w) := h
  have k2 : (i : Int) < 21 := by omega
  have k3 : (j : Int) < 21 := by omega
  clear h rc h1 h2 hpm
  go_enter Try.func92, Try.ntmps92
  go_wp2_with fail
  go_loopw [9] (fun v wr => ∃ m : Nat, m ≤ q0 ∧ v = .int .i64 (m : Int) ∧ Below w.heap.size w wr) (fun v _ => q0 + 1 - (intOf v).toNat)
  case atStart => exact ⟨0, by omega, rfl, Below.refl _ _⟩
  case round =>
    obtain ⟨m, hm, rfl, hbl⟩ := hrel
    have HBL : Hid (Below w.heap.size w wr) := hbl
    have hch := HC.out.next hbl
    have hrc := HRC.out
    have hlt : m < ps.length := by omega
    obtain ⟨pb, po, uo, uc, rfl, hpb, hc0, hc1, hsy⟩ := hrc.cell hlt
    replace hc0 : wr.cell? ⟨pb, po + m * 2, none⟩ = some (.int .i64 (ps.getD m (0, [])).1) := (hch.bel.cell (p := ⟨pb, po + m * 2, none⟩) hpb).trans hc0
    replace hc1 : wr.cell? ⟨pb, po + m * 2 + 1, none⟩ = some (.slice uo (ps.getD m (0, [])).2.length uc) := (hch.bel.cell (p := ⟨pb, po + m * 2 + 1, none⟩) hpb).trans hc1
    have z2 : wr.cell? ⟨y.q, 2, none⟩ = some (.slice (some ⟨pb, po, none⟩) ps.length pc) := hch.bcell 2
    have z6 : wr.cell? ⟨y.q, 6, none⟩ = some (.slice (some ⟨y.bb, 0, none⟩) ps.length ps.length) := hch.bcell 6
    have zb : wr.cell? ⟨y.bb, m, none⟩ = some (.slice (some ⟨y.bs m, 0, none⟩) ((ps.getD m (0, [])).2.length + 1) ((ps.getD m (0, [])).2.length + 1)) := hch.bods.cell hlt
    have zc := hch.scell hlt (k := (ps.getD m (0, [])).2.length) (i := i) (j := j) (by omega) (by omega) (by omega)
    have HM : Hid (m = q0 → (ps.getD m (0, [])).1 = (a : Int) ∧ B m (ps.getD m (0, [])).2.length i j ≠ 0) := fun e => by rw [e]; exact HQ.out.2
    have HR : Hid ((ps.getD m (0, [])).1 = (a : Int) → B m (ps.getD m (0, [])).2.length i j ≠ 0 → ∃ q : Nat, (m : Int) = (q : Int) ∧ q < ps.length ∧ (ps.getD q (0, [])).1 = (a : Int) ∧ B q (ps.getD q (0, [])).2.length i j ≠ 0) := fun e1 e2 => ⟨m, rfl, hlt, e1, e2⟩
    generalize (ps.getD m (0, [])).1 = hd at hc0 HM HR
    generalize (ps.getD m (0, [])).2.length = bl at hc1 zb zc HM HR
    generalize B m bl i j = x at zc HM HR
    have hk1 : (m : Int) < (ps.length : Int) := by omega
    have hk2 : (bl : Int) < (bl : Int) + 1 := by omega
    clear hch hrc hsy hbl
    by_cases e1 : hd = (a : Int)
    · have hb1 : (hd != (a : Int)) = false := by simp; exact e1
      by_cases e2 : x = 0
      · have hne : m < q0 := by
          rcases Nat.lt_or_ge m q0 with h | h
          · exact h
          · exact absurd e2 (HM.out (by omega)).2
        have hb2 : ((x : Int) == 0) = true := by simp; exact e2
        clear e1 e2
        go_wp2_with (go_quiet (fail))
        go_roundw
        case rel => exact ⟨m + 1, by omega, by go_num, HBL.out.trans ⟨rfl, rfl, rfl, Nat.le_refl _, fun _ _ => rfl⟩⟩
        case measure => simp [intOf]; omega
      · have hb2 : ((x : Int) == 0) = false := by simp; exact e2
        obtain ⟨q, g1, g2, g3, g4⟩ := HR.out e1 e2
        have HG : Hid ((m : Int) = (q : Int) ∧ q < ps.length ∧ (ps.getD q (0, [])).1 = (a : Int) ∧ B q (ps.getD q (0, [])).2.length i j ≠ 0) := ⟨g1, g2, g3, g4⟩
        clear e1 e2 g1 g2 g3 g4
        go_wp2_with (go_quiet (fail))
        go_ret
        exact ⟨q, by simp; exact HG.out.1, HG.out.2.1, HG.out.2.2.1, HG.out.2.2.2, HBL.out.trans ⟨rfl, rfl, rfl, Nat.le_refl _, fun _ _ => rfl⟩⟩
    · have hb1 : (hd != (a : Int)) = true := by simp; exact e1
      have hne : m < q0 := by
        rcases Nat.lt_or_ge m q0 with h | h
        · exact h
        · exact absurd (HM.out (by omega)).1 e1
      clear e1
      go_wp2_with (go_quiet (fail))
      go_roundw
      case rel => exact ⟨m + 1, by omega, by go_num, HBL.out.trans ⟨rfl, rfl, rfl, Nat.le_refl _, fun _ _ => rfl⟩⟩
      case measure => simp [intOf]; omega
end Go.Proofs.Ytpfehghicaaghaa
