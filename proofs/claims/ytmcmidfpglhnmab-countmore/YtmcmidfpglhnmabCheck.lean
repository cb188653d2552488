/-
  The contracts of cfg.Check and of pushref.Cfg.
-/
import Derived.Test.YtmcmidfpglhnmabKeeps
namespace Go.Proofs.Ytmcmidfpglhnmab
open Go.RowKit
open Cg

/-- A production's box. -/
structure Pb (p : Nat) (x : Int) (u : Value) (l : List Sy) (w : World) : Prop where
  lt : p < w.heap.size
  c0 : w.cell? ⟨p, 0, none⟩ = some (.int .i64 x)
  c1 : w.cell? ⟨p, 1, none⟩ = some u
  sy : Syms w u l
theorem Pb.next {p : Nat} {x : Int} {u : Value} {l : List Sy} {w : World} (h : Pb p x u l w) {w' : World} (hb : Below w.heap.size w w') : Pb p x u l w' :=
  ⟨Nat.lt_of_lt_of_le h.lt hb.size, (hb.cell (p := ⟨p, 0, none⟩) h.lt).trans h.c0, (hb.cell (p := ⟨p, 1, none⟩) h.lt).trans h.c1, h.sy.below hb⟩
theorem Pb.box {w : World} {u : Value} {l : List Sy} (h : Syms w u l) (x : Int) : Pb w.heap.size x u l (w.alloc (Obj.cells #[.int .i64 x, u] 36)) :=
  ⟨by simp, cell_new w _ 36 0, cell_new w _ 36 1, h.below (below_alloc _ _)⟩

set_option maxHeartbeats 3200000 in
set_option maxRecDepth 20000 in
theorem Check_any (t n : Int) (pv : Value) (ps : List Pd) (w : World) (h : Pds w pv ps) :
    Calls Try.prog 15 #[.agg #[.int .i64 t, .int .i64 n, pv]] w fun e w' => e = .returned (.int .i64 (chk t n ps)) ∧ Below w.heap.size w w' := by
  have HG0 : Hid (Gb w w.heap.size t n pv ps (w.alloc (Obj.cells #[.int .i64 t, .int .i64 n, pv] 24))) := Gb.box h t n
  have h' := h
  obtain ⟨ao, c, rfl, hm, hcs⟩ := h
  obtain ⟨r, HR⟩ : ∃ r, Hid (chk t n ps = r) := ⟨_, (rfl : chk t n ps = chk t n ps)⟩
  rw [HR.out]
  by_cases h1 : t < 0
  · have b1 : decide (t < 0) = true := by simp; omega
    obtain rfl : r = 1 := by rw [← HR.out]; unfold chk okTN; rw [if_neg (by simp; omega)]
    go_enter Try.func15, Try.ntmps15
    go_wp2_with fail
    go_ret
    exact ⟨by simp, below_alloc _ _⟩
  · have b1 : decide (t < 0) = false := by simp; omega
    by_cases h2 : 30 < t
    · have b2 : decide ((30 : Int) < t) = true := by simp; omega
      obtain rfl : r = 1 := by rw [← HR.out]; unfold chk okTN; rw [if_neg (by simp; omega)]
      go_enter Try.func15, Try.ntmps15
      go_wp2_with fail
      go_ret
      exact ⟨by simp, below_alloc _ _⟩
    · have b2 : decide ((30 : Int) < t) = false := by simp; omega
      by_cases h3 : n < 1
      · have b3 : decide (n < 1) = true := by simp; omega
        obtain rfl : r = 1 := by rw [← HR.out]; unfold chk okTN; rw [if_neg (by simp; omega)]
        go_enter Try.func15, Try.ntmps15
        go_wp2_with fail
        go_ret
        exact ⟨by simp, below_alloc _ _⟩
      · have b3 : decide (n < 1) = false := by simp; omega
        by_cases h4 : 20 < n
        · have b4 : decide ((20 : Int) < n) = true := by simp; omega
          obtain rfl : r = 1 := by rw [← HR.out]; unfold chk okTN; rw [if_neg (by simp; omega)]
          go_enter Try.func15, Try.ntmps15
          go_wp2_with fail
          go_ret
          exact ⟨by simp, below_alloc _ _⟩
        · have b4 : decide ((20 : Int) < n) = false := by simp; omega
          have HT : Hid (okTN t n = true) := by show _ = _; unfold okTN; simp; omega
          clear h1 h2 h3 h4
          by_cases h5 : 40 < ps.length
          · have b5 : decide ((40 : Int) < (ps.length : Int)) = true := by simp; omega
            obtain rfl : r = 2 := by rw [← HR.out]; unfold chk; rw [if_pos HT.out, if_pos h5]
            go_enter Try.func15, Try.ntmps15
            go_wp2_with fail
            go_ret
            exact ⟨by simp, below_alloc _ _⟩
          · have b5 : decide ((40 : Int) < (ps.length : Int)) = false := by simp; omega
            have HP : Hid (chkPs t n ps = r) := by show _ = _; rw [← HR.out]; unfold chk; rw [if_pos HT.out, if_neg h5]
            clear HR HT
            go_enter Try.func15, Try.ntmps15
            go_wp2_with fail
            clear b1 b2 b3 b4 b5 h5
            generalize (w.alloc (Obj.cells #[.int .i64 t, .int .i64 n, .slice ao ps.length c] 24)) = wb at HG0 ⊢
            go_loopw [31] (fun i wr => ∃ q : Nat, q ≤ ps.length ∧ i = .int .i64 (q : Int) ∧ Hid (chkPs t n (ps.drop q) = r) ∧ Hid (Gb w w.heap.size t n (.slice ao ps.length c) ps wr)) (fun i _ => ps.length - (intOf i).toNat)
            case atStart => exact ⟨0, by omega, rfl, HP, HG0⟩
            case round =>
              obtain ⟨q, hq, rfl, HA, HG⟩ := hrel
              by_cases hlt : q < ps.length
              · clear HP HG0
                have hsb := HG.out.lt
                have hbw := HG.out.below
                obtain ⟨b, o, rfl, hb, hc⟩ := hcs.resolve_left (by intro e; subst e; simp at hlt)
                obtain ⟨d0, u, d1, hsy⟩ := hc q hlt
                have HSY : Hid (Syms wr u ps[q].2) := hsy.below hbw
                have HPS : Hid (chkPs t n (ps.drop q) = if chkP t n (ps[q].1, ps[q].2) = 0 then chkPs t n (ps.drop (q + 1)) else chkP t n (ps[q].1, ps[q].2)) := by
                  show _ = _
                  rw [← List.getElem_cons_drop hlt]; rfl
                generalize ps[q].1 = x at d0 HPS
                generalize ps[q].2 = l at HSY HPS
                replace d0 : wr.cell? ⟨b, o + q * 2, none⟩ = _ := (hbw.cell (p := ⟨b, o + q * 2, none⟩) hb).trans d0
                replace d1 : wr.cell? ⟨b, o + q * 2 + 1, none⟩ = _ := (hbw.cell (p := ⟨b, o + q * 2 + 1, none⟩) hb).trans d1
                clear hsy hc hcs
                have hk1 : (q : Int) < (ps.length : Int) := by omega
                have HG2 : Hid (Gb w w.heap.size t n (.slice (some ⟨b, o, none⟩) ps.length c) ps (wr.alloc (Obj.cells #[.int .i64 x, u] 36))) := HG.out.next (below_alloc _ _)
                have HSY2 : Hid (Syms (wr.alloc (Obj.cells #[.int .i64 x, u] 36)) u l) := HSY.out.below (below_alloc _ _)
                obtain ⟨uo, uc, rfl, hum, -⟩ := HSY.out
                have z0 := HG2.out.c0
                have z1 := HG2.out.c1
                have z2 := HG2.out.c2
                clear HSY HG hbw
                go_wp2_with fail
                obtain ⟨rr, HRR⟩ : ∃ rr, Hid (chkP t n (x, l) = rr) := ⟨_, (rfl : chkP t n (x, l) = chkP t n (x, l))⟩
                have hcc := checkProd_any t n (some ⟨b, o, none⟩) ps.length c x _ l _ HSY2.out
                rw [HRR.out] at HPS hcc
                refine hcc.mono ?_
                rintro _ w2 ⟨rfl, hb2⟩
                have HG3 : Hid (Gb w w.heap.size t n (.slice (some ⟨b, o, none⟩) ps.length c) ps w2) := HG2.out.next hb2
                clear hcc hb2 z0 z1 z2 d0 d1 HG2 HSY2
                by_cases hz : rr = 0
                · subst hz
                  go_wp2_with fail
                  go_roundw
                  case rel => exact ⟨q + 1, by omega, by go_num, by show _ = _; rw [← HA.out, HPS.out]; rfl, HG3⟩
                  case measure => simp [intOf]; omega
                · have hzb : (rr != 0) = true := by simp; exact hz
                  obtain rfl : r = rr := by rw [← HA.out, HPS.out, if_neg hz]
                  clear hz
                  go_wp2_with fail
                  go_ret
                  exact ⟨by simp, HG3.out.below⟩
              · obtain rfl : r = 0 := by rw [← HA.out, List.drop_of_length_le (by omega)]; rfl
                go_wp2_with fail
                go_ret
                exact ⟨by simp, HG.out.below⟩

end Go.Proofs.Ytmcmidfpglhnmab
