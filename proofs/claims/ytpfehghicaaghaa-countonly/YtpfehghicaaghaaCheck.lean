/-
  The contracts of cfg.Check and of pushref.Cfg.
-/
import Derived.Test.YtpfehghicaaghaaKeeps
namespace Go.Proofs.Ytpfehghicaaghaa
open Go.RowKit
open Cg

/-- A production's box. -/
structure Pb (p : Nat) (x : Int) (u : Value) (l : List Sy) (w : World) : Prop where
  lt : p < w.heap.size
  c0 : w.cell? ⟨p, 0, none⟩ = some (.int .i64 x)
  c1 : w.cell? ⟨p, 1, none⟩ = some u
  sy : Syms w u l
theorem Pb.next {p : Nat} {x : Int} {u : Value} {l : List Sy} {w : World} (h : Pb p x u l w) {w' : World} (hb : Below w.heap.size w w') : Pb p x u l w' :=
  ⟨Nat.lt_of_lt_of_le h.lt hb.size, (hb.cell (p := ⟨p, 0, none⟩) h.lt).trans h.c0, (hb.cell (p := ⟨p, 1, none⟩) h.lt).trans h.c1, h.sy.below hb⟩
theorem Pb.box {w : World} {u : Value} {l : List Sy} (h : Syms w u l) (x : Int) : Pb w.heap.size x u l (w.alloc (Obj.cells #[.int .i64 x, u] 88)) :=
  ⟨by simp, cell_new w _ 88 0, cell_new w _ 88 1, h.below (below_alloc _ _)⟩

set_option maxHeartbeats 3200000 in
set_option maxRecDepth 20000 in
theorem Check_any (t n : Int) (pv : Value) (ps : List Pd) (w : World) (h : Pds w pv ps) :
    Calls Try.prog 56 #[.agg #[.int .i64 t, .int .i64 n, pv]] w fun e w' => e = .returned (.int .i64 (chk t n ps)) ∧ Below w.heap.size w w' := by
  have HG0 : Hid (Gb w w.heap.size t n pv ps (w.alloc (Obj.cells #[.int .i64 t, .int .i64 n, pv] 24))) := Gb.box h t n
  have h' := h
  obtain ⟨ao, c, rfl, hm, hcs⟩ := h
  obtain ⟨r, HR⟩ : ∃ r, Hid (chk t n ps = r) := ⟨_, (rfl : chk t n ps = chk t n ps)⟩
  rw [HR.out]
  by_cases h1 : t < 0
  · have b1 : decide (t < 0) = true := by simp; omega
    obtain rfl : r = 1 := by rw [← HR.out]; unfold chk okTN; rw [if_neg (by simp; omega)]
    go_enter Try.func56, Try.ntmps56
    go_wp2_with fail
    go_ret
    exact ⟨by simp, below_alloc _ _⟩
  · have b1 : decide (t < 0) = false := by simp; omega
    by_cases h2 : 30 < t
    · have b2 : decide ((30 : Int) < t) = true := by simp; omega
      obtain rfl : r = 1 := by rw [← HR.out]; unfold chk okTN; rw [if_neg (by simp; omega)]
      go_enter Try.func56, Try.ntmps56
      go_wp2_with fail
      go_ret
      exact ⟨by simp, below_alloc _ _⟩
    · have b2 : decide ((30 : Int) < t) = false := by simp; omega
      by_cases h3 : n < 1
      · have b3 : decide (n < 1) = true := by simp; omega
        obtain rfl : r = 1 := by rw [← HR.out]; unfold chk okTN; rw [if_neg (by simp; omega)]
        go_enter Try.func56, Try.ntmps56
        go_wp2_with fail
        go_ret
        exact ⟨by simp, below_alloc _ _⟩
      · have b3 : decide (n < 1) = false := by simp; omega
        by_cases h4 : 20 < n
        · have b4 : decide ((20 : Int) < n) = true := by simp; omega
          obtain rfl : r = 1 := by rw [← HR.out]; unfold chk okTN; rw [if_neg (by simp; omega)]
          go_enter Try.func56, Try.ntmps56
          go_wp2_with fail
          go_ret
          exact ⟨by simp, below_alloc _ _⟩
        · have b4 : decide ((20 : Int) < n) = false := by simp; omega
          have HT : Hid (okTN t n = true) := by show _ = _; unfold okTN; simp; omega
          clear h1 h2 h3 h4
          by_cases h5 : 40 < ps.length
          · have b5 : decide ((40 : Int) < (ps.length : Int)) = true := by simp; omega
            obtain rfl : r = 2 := by rw [← HR.out]; unfold chk; rw [if_pos HT.out, if_pos h5]
            go_enter Try.func56, Try.ntmps56
            go_wp2_with fail
            go_ret
            exact ⟨by simp, below_alloc _ _⟩
          · have b5 : decide ((40 : Int) < (ps.length : Int)) = false := by simp; omega
            have HP : Hid (chkPs t n ps = r) := by show _ = _; rw [← HR.out]; unfold chk; rw [if_pos HT.out, if_neg h5]
            clear HR HT
            go_enter Try.func56, Try.ntmps56
            go_wp2_with fail
            clear b1 b2 b3 b4 b5 h5
            generalize (w.alloc (Obj.cells #[.int .i64 t, .int .i64 n, .slice ao ps.length c] 24)) = wb at HG0 ⊢
            go_loopw [31] (fun i wr => ∃ q : Nat, q ≤ ps.length ∧ i = .int .i64 (q : Int) ∧ Hid (chkPs t n (ps.drop q) = r) ∧ Hid (Gb w w.heap.size t n (.slice ao ps.length c) ps wr)) (fun i _ => ps.length - (intOf i).toNat)
            case atStart => exact ⟨0, by omega, rfl, HP, HG0⟩
            case round =>
              obtain ⟨q, hq, rfl, HA, HG⟩ := hrel
              by_cases hlt : q < ps.length
              · clear HP HG0
                have hsb := HG.out.lt
                have hbw := HG.out.below
                obtain ⟨b, o, rfl, hb, hc⟩ := hcs.resolve_left (by intro e; subst e; simp at hlt)
                obtain ⟨d0, u, d1, hsy⟩ := hc q hlt
                have HSY : Hid (Syms wr u ps[q].2) := hsy.below hbw
                have HPS : Hid (chkPs t n (ps.drop q) = if chkP t n (ps[q].1, ps[q].2) = 0 then chkPs t n (ps.drop (q + 1)) else chkP t n (ps[q].1, ps[q].2)) := by
                  show _ = _
                  rw [← List.getElem_cons_drop hlt]; rfl
                generalize ps[q].1 = x at d0 HPS
                generalize ps[q].2 = l at HSY HPS
                replace d0 : wr.cell? ⟨b, o + q * 2, none⟩ = _ := (hbw.cell (p := ⟨b, o + q * 2, none⟩) hb).trans d0
                replace d1 : wr.cell? ⟨b, o + q * 2 + 1, none⟩ = _ := (hbw.cell (p := ⟨b, o + q * 2 + 1, none⟩) hb).trans d1
                clear hsy hc hcs
                have hk1 : (q : Int) < (ps.length : Int) := by omega
                have HG2 : Hid (Gb w w.heap.size t n (.slice (some ⟨b, o, none⟩) ps.length c) ps (wr.alloc (Obj.cells #[.int .i64 x, u] 88))) := HG.out.next (below_alloc _ _)
                have HSY2 : Hid (Syms (wr.alloc (Obj.cells #[.int .i64 x, u] 88)) u l) := HSY.out.below (below_alloc _ _)
                obtain ⟨uo, uc, rfl, hum, -⟩ := HSY.out
                have z0 := HG2.out.c0
                have z1 := HG2.out.c1
                have z2 := HG2.out.c2
                clear HSY HG hbw
                go_wp2_with fail
                obtain ⟨rr, HRR⟩ : ∃ rr, Hid (chkP t n (x, l) = rr) := ⟨_, (rfl : chkP t n (x, l) = chkP t n (x, l))⟩
                have hcc := checkProd_any t n (some ⟨b, o, none⟩) ps.length c x _ l _ HSY2.out
                rw [HRR.out] at HPS hcc
                refine hcc.mono ?_
                rintro _ w2 ⟨rfl, hb2⟩
                have HG3 : Hid (Gb w w.heap.size t n (.slice (some ⟨b, o, none⟩) ps.length c) ps w2) := HG2.out.next hb2
                clear hcc hb2 z0 z1 z2 d0 d1 HG2 HSY2
                by_cases hz : rr = 0
                · subst hz
                  go_wp2_with fail
                  go_roundw
                  case rel => exact ⟨q + 1, by omega, by go_num, by show _ = _; rw [← HA.out, HPS.out]; rfl, HG3⟩
                  case measure => simp [intOf]; omega
                · have hzb : (rr != 0) = true := by simp; exact hz
                  obtain rfl : r = rr := by rw [← HA.out, HPS.out, if_neg hz]
                  clear hz
                  go_wp2_with fail
                  go_ret
                  exact ⟨by simp, HG3.out.below⟩
              · obtain rfl : r = 0 := by rw [← HA.out, List.drop_of_length_le (by omega)]; rfl
                go_wp2_with fail
                go_ret
                exact ⟨by simp, HG.out.below⟩

set_option maxHeartbeats 3200000 in
set_option maxRecDepth 20000 in
theorem Cfg_any (t n : Int) (pv : Value) (ps : List Pd) (w : World) (h : Pds w pv ps) :
    Calls Try.prog 30 #[.agg #[.int .i64 t, .int .i64 n, pv]] w fun e w' => e = .returned (.int .i64 (chk t n ps)) ∧ Below w.heap.size w w' := by
  have HG0 : Hid (Gb w w.heap.size t n pv ps (w.alloc (Obj.cells #[.int .i64 t, .int .i64 n, pv] 24))) := Gb.box h t n
  have h' := h
  obtain ⟨ao, c, rfl, hm, hcs⟩ := h
  obtain ⟨r, HR⟩ : ∃ r, Hid (chk t n ps = r) := ⟨_, (rfl : chk t n ps = chk t n ps)⟩
  rw [HR.out]
  by_cases h1 : t < 0
  · have b1 : decide (t < 0) = true := by simp; omega
    obtain rfl : r = 1 := by rw [← HR.out]; unfold chk okTN; rw [if_neg (by simp; omega)]
    go_enter Try.func30, Try.ntmps30
    go_wp2_with fail
    go_ret
    exact ⟨by simp, below_alloc _ _⟩
  · have b1 : decide (t < 0) = false := by simp; omega
    by_cases h2 : 30 < t
    · have b2 : decide ((30 : Int) < t) = true := by simp; omega
      obtain rfl : r = 1 := by rw [← HR.out]; unfold chk okTN; rw [if_neg (by simp; omega)]
      go_enter Try.func30, Try.ntmps30
      go_wp2_with fail
      go_ret
      exact ⟨by simp, below_alloc _ _⟩
    · have b2 : decide ((30 : Int) < t) = false := by simp; omega
      by_cases h3 : n < 1
      · have b3 : decide (n < 1) = true := by simp; omega
        obtain rfl : r = 1 := by rw [← HR.out]; unfold chk okTN; rw [if_neg (by simp; omega)]
        go_enter Try.func30, Try.ntmps30
        go_wp2_with fail
        go_ret
        exact ⟨by simp, below_alloc _ _⟩
      · have b3 : decide (n < 1) = false := by simp; omega
        by_cases h4 : 20 < n
        · have b4 : decide ((20 : Int) < n) = true := by simp; omega
          obtain rfl : r = 1 := by rw [← HR.out]; unfold chk okTN; rw [if_neg (by simp; omega)]
          go_enter Try.func30, Try.ntmps30
          go_wp2_with fail
          go_ret
          exact ⟨by simp, below_alloc _ _⟩
        · have b4 : decide ((20 : Int) < n) = false := by simp; omega
          have HT : Hid (okTN t n = true) := by show _ = _; unfold okTN; simp; omega
          clear h1 h2 h3 h4
          by_cases h5 : 40 < ps.length
          · have b5 : decide ((40 : Int) < (ps.length : Int)) = true := by simp; omega
            obtain rfl : r = 2 := by rw [← HR.out]; unfold chk; rw [if_pos HT.out, if_pos h5]
            go_enter Try.func30, Try.ntmps30
            go_wp2_with fail
            go_ret
            exact ⟨by simp, below_alloc _ _⟩
          · have b5 : decide ((40 : Int) < (ps.length : Int)) = false := by simp; omega
            have HP : Hid (chkPs t n ps = r) := by show _ = _; rw [← HR.out]; unfold chk; rw [if_pos HT.out, if_neg h5]
            clear HR HT
            go_enter Try.func30, Try.ntmps30
            go_wp2_with fail
            clear b1 b2 b3 b4 b5 h5
            generalize (w.alloc (Obj.cells #[.int .i64 t, .int .i64 n, .slice ao ps.length c] 24)) = wb at HG0 ⊢
            go_loopw [3] (fun i wr => ∃ q : Nat, q ≤ ps.length ∧ i = .int .i64 (q : Int) ∧ Hid (chkPs t n (ps.drop q) = r) ∧ Hid (Gb w w.heap.size t n (.slice ao ps.length c) ps wr)) (fun i _ => ps.length - (intOf i).toNat)
            case atStart => exact ⟨0, by omega, rfl, HP, HG0⟩
            case round =>
              obtain ⟨q, hq, rfl, HA, HG⟩ := hrel
              have z2 := HG.out.c2
              by_cases hlt : q < ps.length
              · clear HP HG0
                have hsb := HG.out.lt
                have hbw := HG.out.below
                obtain ⟨b, o, rfl, hb, hc⟩ := hcs.resolve_left (by intro e; subst e; simp at hlt)
                obtain ⟨d0, u, d1, hsy⟩ := hc q hlt
                have HSY : Hid (Syms wr u ps[q].2) := hsy.below hbw
                have HPS : Hid (chkPs t n (ps.drop q) = if chkP t n (ps[q].1, ps[q].2) = 0 then chkPs t n (ps.drop (q + 1)) else chkP t n (ps[q].1, ps[q].2)) := by
                  show _ = _
                  rw [← List.getElem_cons_drop hlt]; rfl
                generalize ps[q].1 = x at d0 HPS
                generalize ps[q].2 = l at HSY HPS
                replace d0 : wr.cell? ⟨b, o + q * 2, none⟩ = _ := (hbw.cell (p := ⟨b, o + q * 2, none⟩) hb).trans d0
                replace d1 : wr.cell? ⟨b, o + q * 2 + 1, none⟩ = _ := (hbw.cell (p := ⟨b, o + q * 2 + 1, none⟩) hb).trans d1
                clear hsy hc hcs
                have hk1 : (q : Int) < (ps.length : Int) := by omega
                have HG2 : Hid (Gb w w.heap.size t n (.slice (some ⟨b, o, none⟩) ps.length c) ps (wr.alloc (Obj.cells #[.int .i64 x, u] 88))) := HG.out.next (below_alloc _ _)
                have HSY2 : Hid (Syms (wr.alloc (Obj.cells #[.int .i64 x, u] 88)) u l) := HSY.out.below (below_alloc _ _)
                have HG2P : Hid (Pb wr.heap.size x u l (wr.alloc (Obj.cells #[.int .i64 x, u] 88))) := Pb.box HSY.out x
                obtain ⟨uo, uc, rfl, hum, -⟩ := HSY.out
                have zz0 := HG2.out.c0
                have zz1 := HG2.out.c1
                have zz2 := HG2.out.c2
                have zp0 := HG2P.out.c0
                have zp1 := HG2P.out.c1
                clear HSY HG hbw hsb HSY2
                by_cases h8 : 8 < l.length
                · have b8 : decide ((8 : Int) < (l.length : Int)) = true := by simp; omega
                  obtain rfl : r = 2 := by rw [← HA.out, HPS.out]; unfold chkP; rw [if_pos h8]; rfl
                  go_wp2_with fail
                  go_ret
                  exact ⟨by simp, HG2.out.below⟩
                · have b8 : decide ((8 : Int) < (l.length : Int)) = false := by simp; omega
                  go_wp2_with fail
                  clear zz0 zz1 zz2 zp0 zp1 d0 d1 z2 b8
                  obtain ⟨rr, HRR⟩ : ∃ rr, Hid (okN n x = rr) := ⟨_, (rfl : okN n x = okN n x)⟩
                  have hcc := rightSym_any t n (some ⟨b, o, none⟩) ps.length c 2 x (wr.alloc (Obj.cells #[.int .i64 x, .slice uo l.length uc] 88))
                  rw [show okSy t n (2, x) = rr from HRR.out] at hcc
                  refine hcc.mono ?_
                  rintro _ w2 ⟨rfl, hb2⟩
                  have HG3 : Hid (Gb w w.heap.size t n (.slice (some ⟨b, o, none⟩) ps.length c) ps w2) := HG2.out.next hb2
                  have HP3 : Hid (Pb wr.heap.size x (.slice uo l.length uc) l w2) := HG2P.out.next hb2
                  clear hcc hb2 HG2 HG2P
                  have HPS2 : Hid (r = if rr = true then (if l.all (okSy t n) = true then chkPs t n (ps.drop (q + 1)) else 1) else 1) := by
                    show _ = _
                    rw [← HA.out, HPS.out]; unfold chkP; simp only [if_neg h8, HRR.out]
                    cases rr with
                    | false => simp
                    | true => simp only [if_true]; split <;> simp
                  clear HPS
                  cases rr with
                  | false =>
                    obtain rfl : r = 1 := by rw [HPS2.out]; rfl
                    go_wp2_with fail
                    go_ret
                    exact ⟨by simp, HG3.out.below⟩
                  | true =>
                    generalize wr.heap.size = p at HP3 ⊢
                    go_wp2_with fail
                    go_loopw [5] (fun i wr => ∃ y : Nat, y ≤ l.length ∧ i = .int .i64 (y : Int) ∧ Hid ((l.take y).all (okSy t n) = true) ∧ Hid (Gb w w.heap.size t n (.slice (some ⟨b, o, none⟩) ps.length c) ps wr ∧ Pb p x (.slice uo l.length uc) l wr)) (fun i _ => l.length - (intOf i).toNat)
                    case atStart => exact ⟨0, by omega, rfl, rfl, HG3.out, HP3.out⟩
                    case round =>
                      obtain ⟨y, hy, rfl, HB, HGP⟩ := hrel
                      clear HG3 HP3
                      have k0 := HGP.out.1.c0
                      have k1 := HGP.out.1.c1
                      have k2 := HGP.out.1.c2
                      have k3 := HGP.out.2.c1
                      by_cases hylt : y < l.length
                      · have HWS : Hid (_ ∧ _) := HGP
                        obtain ⟨eo, ec, he, -, hcells⟩ := HGP.out.2.sy
                        cases he
                        obtain ⟨b2, o2, rfl, hb2, hcc2⟩ := hcells.resolve_left (by intro e; subst e; simp at hylt)
                        obtain ⟨f0, f1⟩ := hcc2 y hylt
                        have HS : Hid ((l.take (y + 1)).all (okSy t n) = okSy t n (l[y].1, l[y].2)) := by
                          show _ = _
                          rw [List.take_succ_eq_append_getElem hylt, List.all_append, HB.out]; simp
                        have HF : Hid (okSy t n (l[y].1, l[y].2) = false → l.all (okSy t n) = false) := fun e => by
                          rw [List.all_eq_false]; exact ⟨l[y], List.getElem_mem hylt, by simpa using e⟩
                        generalize l[y].1 = s0 at f0 HS HF
                        generalize l[y].2 = s1 at f1 HS HF
                        have hky : (y : Int) < (l.length : Int) := by omega
                        obtain ⟨r2, HR2⟩ : ∃ r2, Hid (okSy t n (s0, s1) = r2) := ⟨_, (rfl : okSy t n (s0, s1) = okSy t n (s0, s1))⟩
                        rw [HR2.out] at HS HF
                        clear hcells hcc2
                        have m0 : ∀ p_1 : Kp (Sb wr), p_1.W.cell? ⟨w.heap.size, 0, none⟩ = some (.int .i64 t) := fun p_1 => (Below.cell p_1.h (p := ⟨w.heap.size, 0, none⟩) HGP.out.1.lt).trans k0
                        have m1 : ∀ p_1 : Kp (Sb wr), p_1.W.cell? ⟨w.heap.size, 1, none⟩ = some (.int .i64 n) := fun p_1 => (Below.cell p_1.h (p := ⟨w.heap.size, 1, none⟩) HGP.out.1.lt).trans k1
                        have m2 : ∀ p_1 : Kp (Sb wr), p_1.W.cell? ⟨w.heap.size, 2, none⟩ = some (.slice (some ⟨b, o, none⟩) ps.length c) := fun p_1 => (Below.cell p_1.h (p := ⟨w.heap.size, 2, none⟩) HGP.out.1.lt).trans k2
                        have m3 : ∀ p_1 : Kp (Sb wr), p_1.W.cell? ⟨p, 1, none⟩ = some (.slice (some ⟨b2, o2, none⟩) l.length uc) := fun p_1 => (Below.cell p_1.h (p := ⟨p, 1, none⟩) HGP.out.2.lt).trans k3
                        have m4 : ∀ p_1 : Kp (Sb wr), p_1.W.cell? ⟨b2, o2 + y * 2, none⟩ = some (.int .i64 s0) := fun p_1 => (Below.cell p_1.h (p := ⟨b2, o2 + y * 2, none⟩) hb2).trans f0
                        have m5 : ∀ p_1 : Kp (Sb wr), p_1.W.cell? ⟨b2, o2 + y * 2 + 1, none⟩ = some (.int .i64 s1) := fun p_1 => (Below.cell p_1.h (p := ⟨b2, o2 + y * 2 + 1, none⟩) hb2).trans f1
                        have hne : Nonempty (Kp (Sb wr)) := ⟨⟨_, Sb.drew wr⟩⟩
                        have HCA : Hid (∀ p_1 : Kp (Sb wr), Calls Try.prog 64 #[.agg #[.int .i64 t, .int .i64 n, .slice (some ⟨b, o, none⟩) ps.length c], .agg #[.int .i64 s0, .int .i64 s1]] p_1.W fun e w'' => e = .returned (.bool r2) ∧ ∃ q : Kp (Sb wr), w'' = q.W) := fun p_1 => by
                          have := rightSym_any t n (some ⟨b, o, none⟩) ps.length c s0 s1 p_1.W
                          rw [HR2.out] at this
                          exact Kp.calls p_1 Sb.next this
                        go_wp2_with fail
                        refine wp_region_kept mixed (by kernel_rfl) (Sb.drew wr) ?_
                        repeat (go_big_quiet_step (first | (go_at_call 64; with_reducible exact HCA.out _)))
                        refine wpQuiet_nil ?_
                        intro W2 hw2
                        obtain ⟨⟨W2, HS2⟩, rfl⟩ := hw2
                        have HG4 : Hid (Gb w w.heap.size t n (.slice (some ⟨b, o, none⟩) ps.length c) ps W2 ∧ Pb p x (.slice (some ⟨b2, o2, none⟩) l.length uc) l W2) := ⟨HGP.out.1.next HS2, HGP.out.2.next HS2⟩
                        clear HS2 hne m0 m1 m2 m3 m4 m5 HCA k0 k1 k2 k3 f0 f1 HGP
                        cases r2 with
                        | true =>
                          go_wp2_with fail
                          go_roundw
                          case rel => exact ⟨y + 1, by omega, by go_num, HS.out, HG4.out⟩
                          case measure => simp [intOf]; omega
                        | false =>
                          obtain rfl : r = 1 := by rw [HPS2.out, HF.out rfl]; rfl
                          go_wp2_with fail
                          go_ret
                          exact ⟨by simp, HG4.out.1.below⟩
                      · have HALL : Hid (l.all (okSy t n) = true) := by show _ = _; rw [← List.take_of_length_le (i := y) (l := l) (by omega), HB.out]
                        go_wp2_with fail
                        go_roundw
                        case rel => exact ⟨q + 1, by omega, by go_num, by show _ = _; rw [HPS2.out, HALL.out]; rfl, HGP.out.1⟩
                        case measure => simp [intOf]; omega
              · obtain rfl : r = 0 := by rw [← HA.out, List.drop_of_length_le (by omega)]; rfl
                go_wp2_with fail
                go_ret
                exact ⟨by simp, HG.out.below⟩
end Go.Proofs.Ytpfehghicaaghaa
