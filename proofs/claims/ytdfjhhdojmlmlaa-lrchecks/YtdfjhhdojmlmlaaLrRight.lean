/-
  The contract of pushref.RightTable.
-/
import Derived.Test.YtdfjhhdojmlmlaaLrActs
import Derived.Test.YtdfjhhdojmlmlaaCheck
import Derived.Test.YtdfjhhdojmlmlaaKeeps
import Derived.Lib.SmallJoins
namespace Go.Proofs.Ytdfjhhdojmlmlaa
open Go.RowKit
open Cg

set_option maxHeartbeats 6400000 in
set_option maxRecDepth 20000 in
theorem RightTable_any (t n : Int) (pv : Value) (ps : List Pd) (av gv : Value) (al : List (List Sy)) (gs : List (List Int)) (w : World) (hp : Pds w pv ps) (ha : Ars w av al) (hg : Rws w gv gs) :
    Calls Try.prog 5 #[.agg #[.int .i64 t, .int .i64 n, pv], .agg #[av, gv]] w fun e w' => e = .returned (.int .i64 (chkT t n ps al gs)) ∧ Below w.heap.size w w' := by
  have HTB := Tb.box hp t n av gv
  have hcall := Cfg_any t n _ ps ((w.alloc (Obj.cells #[.int .i64 t, .int .i64 n, pv] 24)).alloc (Obj.cells #[av, gv] 28)) (hp.below (below_alloc2 w _ _))
  have HPS : Hid (Pds w pv ps) := hp
  obtain ⟨ao, c, rfl, hm, -⟩ := hp
  have HAV : Hid (Ars w av al) := ha
  have HGV : Hid (Rws w gv gs) := hg
  obtain ⟨ro, rc, rfl, hrm, hcs⟩ := ha
  obtain ⟨so, sc, rfl, hsm, hds⟩ := hg
  have HT0 : Hid (Tb w w.heap.size (w.heap.size + 1) t n (.slice ao ps.length c) ps (.slice ro al.length rc) (.slice so gs.length sc) ((w.alloc (Obj.cells #[.int .i64 t, .int .i64 n, .slice ao ps.length c] 24)).alloc (Obj.cells #[.slice ro al.length rc, .slice so gs.length sc] 28))) := HTB
  clear HTB
  obtain ⟨r, HR⟩ : ∃ r, Hid (chkT t n ps al gs = r) := ⟨_, (rfl : chkT t n ps al gs = chkT t n ps al gs)⟩
  rw [HR.out]
  by_cases h0 : chk t n ps = 0
  · rw [h0] at hcall
    have HOK : Hid (0 ≤ t ∧ t ≤ 30 ∧ 1 ≤ n ∧ n ≤ 20) := okTN_le (chk_zero h0).1
    by_cases hl : 200 < al.length
    · have b0 : decide ((200 : Int) < (al.length : Int)) = true := by simp; omega
      obtain rfl : r = 2 := by rw [← HR.out]; unfold chkT; rw [if_pos h0, if_pos hl]
      clear HR hl h0 hcs hds
      go_enter Try.func5, Try.ntmps5
      go_wp2_with fail
      refine hcall.mono ?_
      rintro _ w1 ⟨rfl, hb1⟩
      have HT1 : Hid (Tb w w.heap.size (w.heap.size + 1) t n (.slice ao ps.length c) ps (.slice ro al.length rc) (.slice so gs.length sc) w1) := HT0.out.next hb1
      clear hb1 hcall HT0
      have z0 := HT1.out.gb.c0
      have z1 := HT1.out.gb.c1
      have z2 := HT1.out.gb.c2
      have d0 := HT1.out.d0
      have d1 := HT1.out.d1
      go_wp2_with fail
      go_ret
      exact ⟨by simp, HT1.out.gb.below⟩
    · have b0 : decide ((200 : Int) < (al.length : Int)) = false := by simp; omega
      by_cases hl0 : al.length = 0
      · have b1 : ((al.length : Int) == 0) = true := by simp [hl0]
        obtain rfl : r = 1 := by rw [← HR.out]; unfold chkT; rw [if_pos h0, if_neg hl, if_pos hl0]
        clear HR hl h0 hcs hds hl0
        go_enter Try.func5, Try.ntmps5
        go_wp2_with fail
        refine hcall.mono ?_
        rintro _ w1 ⟨rfl, hb1⟩
        have HT1 : Hid (Tb w w.heap.size (w.heap.size + 1) t n (.slice ao ps.length c) ps (.slice ro al.length rc) (.slice so gs.length sc) w1) := HT0.out.next hb1
        clear hb1 hcall HT0
        have z0 := HT1.out.gb.c0
        have z1 := HT1.out.gb.c1
        have z2 := HT1.out.gb.c2
        have d0 := HT1.out.d0
        have d1 := HT1.out.d1
        go_wp2_with fail
        go_ret
        exact ⟨by simp, HT1.out.gb.below⟩
      · have b1 : ((al.length : Int) == 0) = false := by simp; intro e; subst e; simp at hl0
        by_cases hl1 : gs.length = al.length
        · have b2 : ((gs.length : Int) != (al.length : Int)) = false := by simp [hl1]
          have HR2 : Hid ((if okTab t n (al.length : Int) (ps.length : Int) al gs = true then (0 : Int) else 1) = r) := by show _ = _; rw [← HR.out]; unfold chkT; rw [if_pos h0, if_neg hl, if_neg hl0, if_pos hl1]
          have HL : Hid (gs.length = al.length ∧ al.length ≤ 200) := ⟨hl1, by omega⟩
          clear HR hl h0 hl0 hl1
          go_enter Try.func5, Try.ntmps5
          go_wp2_with fail
          refine hcall.mono ?_
          rintro _ w1 ⟨rfl, hb1⟩
          have HT1 : Hid (Tb w w.heap.size (w.heap.size + 1) t n (.slice ao ps.length c) ps (.slice ro al.length rc) (.slice so gs.length sc) w1) := HT0.out.next hb1
          clear hb1 hcall HT0
          have z0 := HT1.out.gb.c0
          have z1 := HT1.out.gb.c1
          have z2 := HT1.out.gb.c2
          have d0 := HT1.out.d0
          have d1 := HT1.out.d1
          go_wp2_with fail
          clear b0 b1 b2 z0 z1 z2 d0 d1
          go_loopw [7] (fun i wr => ∃ q : Nat, q ≤ al.length ∧ i = .int .i64 (q : Int) ∧ Hid (okTab t n (al.length : Int) (ps.length : Int) al gs = okTab t n (al.length : Int) (ps.length : Int) (al.drop q) (gs.drop q)) ∧ Hid (Tb w w.heap.size (w.heap.size + 1) t n (.slice ao ps.length c) ps (.slice ro al.length rc) (.slice so gs.length sc) wr)) (fun i _ => al.length - (intOf i).toNat)
          case atStart => exact ⟨0, by omega, rfl, rfl, HT1⟩
          case round =>
            obtain ⟨q, hq, rfl, HA, HT⟩ := hrel
            clear HT1
            by_cases hlt : q < al.length
            · have hlt2 : q < gs.length := by have := HL.out; omega
              obtain ⟨b2, o, rfl, hb, hc⟩ := hcs.resolve_left (by intro e; subst e; simp at hlt)
              obtain ⟨b3, o3, rfl, hb3, hc3⟩ := hds.resolve_left (by intro e; subst e; simp at hlt2)
              obtain ⟨u, c0, hu⟩ := hc q hlt
              obtain ⟨v, c1, hv⟩ := hc3 q hlt2
              have HAS : Hid (okTab t n (al.length : Int) (ps.length : Int) al gs = (okActs t (al.length : Int) (ps.length : Int) al[q] && okNext n (al.length : Int) gs[q] && okTab t n (al.length : Int) (ps.length : Int) (al.drop (q + 1)) (gs.drop (q + 1)))) := by
                show _ = _
                rw [HA.out, okTab_at hlt hlt2]
              have HB : Hid (b2 < w.heap.size ∧ b3 < w.heap.size) := ⟨hb, hb3⟩
              generalize al[q] = row at HAS hu
              generalize gs[q] = got at HAS hv
              obtain ⟨ux, uz, rfl, hum, huc⟩ := hu
              obtain ⟨vx, vz, rfl, hvm, hvc⟩ := hv
              have HC0 : Hid (w.cell? ⟨b2, o + q, none⟩ = some (.slice ux row.length uz) ∧ w.cell? ⟨b3, o3 + q, none⟩ = some (.slice vx got.length vz)) := ⟨c0, c1⟩
              have y0 : wr.cell? ⟨b2, o + q, none⟩ = some (.slice ux row.length uz) := (HT.out.gb.below.cell (p := ⟨b2, o + q, none⟩) HB.out.1).trans HC0.out.1
              have y1 : wr.cell? ⟨b3, o3 + q, none⟩ = some (.slice vx got.length vz) := (HT.out.gb.below.cell (p := ⟨b3, o3 + q, none⟩) HB.out.2).trans HC0.out.2
              have z0 := HT.out.gb.c0
              have z1 := HT.out.gb.c1
              have d0 := HT.out.d0
              have d1 := HT.out.d1
              have hk1 : (q : Int) < (al.length : Int) := by omega
              have hk2 : (q : Int) < (gs.length : Int) := by omega
              have hk0 : (0 : Int) ≤ (q : Int) := by omega
              have hov : t + 1 ≤ 31 := by have := HOK.out; omega
              have hov0 : 0 ≤ t := HOK.out.1
              clear hcs hds hc hc3 c0 c1 hb hb3 HA
              by_cases hrl : (row.length : Int) = t + 1
              · have b1 : ((row.length : Int) != t + 1) = false := by simp [hrl]
                by_cases hgl : (got.length : Int) = n
                · have b4 : ((got.length : Int) != n) = false := by simp [hgl]
                  have HLN : Hid ((row.length : Int) = t + 1 ∧ (got.length : Int) = n) := ⟨hrl, hgl⟩
                  have HAS2 : Hid (okTab t n (al.length : Int) (ps.length : Int) al gs = (okFrom t (al.length : Int) (ps.length : Int) 0 row && got.all (okTo (al.length : Int)) && okTab t n (al.length : Int) (ps.length : Int) (al.drop (q + 1)) (gs.drop (q + 1)))) := by
                    show _ = _
                    rw [HAS.out]; unfold okActs okNext; rw [decide_eq_true hrl, decide_eq_true hgl, Bool.true_and, Bool.true_and]
                  clear hrl hgl HAS
                  go_wp2_with fail
                  go_quiet (fail)
                  have hb3 : Below wr.heap.size wr (wr.drewN nq) := Go.Joins.below_draws _ _ _
                  generalize wr.drewN nq = w3 at hb3 ⊢
                  have HT3 : Hid (Tb w w.heap.size (w.heap.size + 1) t n (.slice ao ps.length c) ps (.slice (some ⟨b2, o, none⟩) al.length rc) (.slice (some ⟨b3, o3, none⟩) gs.length sc) w3) := HT.out.next hb3
                  clear hb3 HT y0 y1 z0 z1 d0 d1
                  clear b1 b4
                  go_wp2_with fail
                  go_loopw [8] (fun i wr => ∃ k : Nat, k ≤ row.length ∧ i = .int .i64 (k : Int) ∧ Hid (okFrom t (al.length : Int) (ps.length : Int) 0 row = okFrom t (al.length : Int) (ps.length : Int) k (row.drop k)) ∧ Hid (Tb w w.heap.size (w.heap.size + 1) t n (.slice ao ps.length c) ps (.slice (some ⟨b2, o, none⟩) al.length rc) (.slice (some ⟨b3, o3, none⟩) gs.length sc) wr)) (fun i _ => row.length - (intOf i).toNat)
                  case atStart => exact ⟨0, by omega, rfl, rfl, HT3⟩
                  case round =>
                    obtain ⟨k, hk, rfl, HA, HT⟩ := hrel
                    clear HT3
                    by_cases hkl : k < row.length
                    · obtain ⟨b5, o5, rfl, hb5, hc5⟩ := huc.resolve_left (by intro e; subst e; simp at hkl)
                      obtain ⟨e0, e1⟩ := hc5 k hkl
                      have HAT : Hid (okFrom t (al.length : Int) (ps.length : Int) 0 row = (okAct (al.length : Int) (ps.length : Int) ((k : Int) == t) (row[k].1, row[k].2) && okFrom t (al.length : Int) (ps.length : Int) (k + 1) (row.drop (k + 1)))) := by
                        show _ = _
                        rw [HA.out, okFrom_at hkl]
                      generalize row[k].1 = x0 at e0 HAT
                      generalize row[k].2 = x1 at e1 HAT
                      replace e0 : wr.cell? ⟨b5, o5 + k * 2, none⟩ = _ := (HT.out.gb.below.cell (p := ⟨b5, o5 + k * 2, none⟩) hb5).trans e0
                      replace e1 : wr.cell? ⟨b5, o5 + k * 2 + 1, none⟩ = _ := (HT.out.gb.below.cell (p := ⟨b5, o5 + k * 2 + 1, none⟩) hb5).trans e1
                      have y0 : wr.cell? ⟨b2, o + q, none⟩ = some (.slice (some ⟨b5, o5, none⟩) row.length uz) := (HT.out.gb.below.cell (p := ⟨b2, o + q, none⟩) HB.out.1).trans HC0.out.1
                      have HT2 : Hid (Tb w w.heap.size (w.heap.size + 1) t n (.slice ao ps.length c) ps (.slice (some ⟨b2, o, none⟩) al.length rc) (.slice (some ⟨b3, o3, none⟩) gs.length sc) (wr.alloc (Obj.cells #[.int .i64 x0, .int .i64 x1] 38))) := HT.out.next (below_alloc _ _)
                      have z0 := HT2.out.gb.c0
                      have z2 := HT2.out.gb.c2
                      have q0 := HT.out.gb.c0
                      have d0 := HT.out.d0
                      have hkt : decide ((k : Int) ≤ t) = true := by have := HLN.out.1; simp; omega
                      have hkk0 : (0 : Int) ≤ (k : Int) := by omega
                      have hkk1 : (k : Int) < (row.length : Int) := by omega
                      have hrow : Hid (k < row.length) := hkl
                      clear huc hc5 HA hb5 hkl
                      by_cases h0 : x0 = 0
                      · subst h0
                        by_cases h1 : x1 = 0
                        · subst h1
                          have HOKA : Hid (okAct (al.length : Int) (ps.length : Int) ((k : Int) == t) (0, 0) = true) := by show _ = _; rfl
                          rw [HOKA.out] at HAT
                          clear HOKA
                          go_wp2_with fail
                          go_roundw
                          case rel => exact ⟨k + 1, by have := hrow.out; omega, by go_num, by show _ = _; rw [HAT.out, Bool.true_and], HT2⟩
                          case measure => have := hrow.out; simp [intOf]; omega
                        · have b1 : (x1 == 0) = false := by simpa using h1
                          have HOKA : Hid (okAct (al.length : Int) (ps.length : Int) ((k : Int) == t) (0, x1) = false) := by show _ = _; unfold okAct; simp [h1]
                          obtain rfl : r = 1 := by rw [← HR2.out, HAS2.out, HAT.out, HOKA.out]; rfl
                          clear HOKA
                          clear h1
                          go_wp2_with fail
                          go_ret
                          exact ⟨by simp, HT2.out.gb.below⟩
                      · have b0 : (x0 == 0) = false := by simpa using h0
                        by_cases h1 : x0 = 1
                        · subst h1
                          by_cases h2 : (k : Int) < t
                          · have g0 : decide ((k : Int) < t) = true := by simpa using h2
                            have g9 : ((k : Int) == t) = false := by simp; omega
                            by_cases h3 : 0 ≤ x1
                            · have g1 : decide ((0 : Int) ≤ x1) = true := by simpa using h3
                              by_cases h4 : x1 < (al.length : Int)
                              · have g2 : decide (x1 < (al.length : Int)) = true := by simpa using h4
                                have HOKA : Hid (okAct (al.length : Int) (ps.length : Int) ((k : Int) == t) (1, x1) = true) := by show _ = _; rw [g9]; unfold okAct okN; simp; omega
                                rw [HOKA.out] at HAT
                                clear HOKA
                                clear h0 h2 h3 h4 g9
                                go_wp2_with fail
                                go_roundw
                                case rel => exact ⟨k + 1, by have := hrow.out; omega, by go_num, by show _ = _; rw [HAT.out, Bool.true_and], HT2⟩
                                case measure => have := hrow.out; simp [intOf]; omega
                              · have g2 : decide (x1 < (al.length : Int)) = false := by simpa using h4
                                have HOKA : Hid (okAct (al.length : Int) (ps.length : Int) ((k : Int) == t) (1, x1) = false) := by show _ = _; rw [g9]; unfold okAct okN; simp; omega
                                obtain rfl : r = 1 := by rw [← HR2.out, HAS2.out, HAT.out, HOKA.out]; rfl
                                clear HOKA
                                clear h0 h2 h3 h4 g9
                                go_wp2_with fail
                                go_ret
                                exact ⟨by simp, HT2.out.gb.below⟩
                            · have g1 : decide ((0 : Int) ≤ x1) = false := by simpa using h3
                              have HOKA : Hid (okAct (al.length : Int) (ps.length : Int) ((k : Int) == t) (1, x1) = false) := by show _ = _; rw [g9]; unfold okAct okN; simp; omega
                              obtain rfl : r = 1 := by rw [← HR2.out, HAS2.out, HAT.out, HOKA.out]; rfl
                              clear HOKA
                              clear h0 h2 h3 g9
                              go_wp2_with fail
                              go_ret
                              exact ⟨by simp, HT2.out.gb.below⟩
                          · have g0 : decide ((k : Int) < t) = false := by simpa using h2
                            have g9 : ((k : Int) == t) = true := by have := HLN.out.1; have := hrow.out; simp; omega
                            have HOKA : Hid (okAct (al.length : Int) (ps.length : Int) ((k : Int) == t) (1, x1) = false) := by show _ = _; rw [g9]; rfl
                            obtain rfl : r = 1 := by rw [← HR2.out, HAS2.out, HAT.out, HOKA.out]; rfl
                            clear HOKA
                            clear h0 h2 g9
                            go_wp2_with fail
                            go_ret
                            exact ⟨by simp, HT2.out.gb.below⟩
                        · have b1 : (x0 == 1) = false := by simpa using h1
                          by_cases h2 : x0 = 2
                          · subst h2
                            by_cases h3 : 0 ≤ x1
                            · have g1 : decide ((0 : Int) ≤ x1) = true := by simpa using h3
                              by_cases h4 : x1 < (ps.length : Int)
                              · have g2 : decide (x1 < (ps.length : Int)) = true := by simpa using h4
                                have HOKA : Hid (okAct (al.length : Int) (ps.length : Int) ((k : Int) == t) (2, x1) = true) := by show _ = _; unfold okAct okN; simp; omega
                                rw [HOKA.out] at HAT
                                clear HOKA
                                clear h0 h1 h3 h4
                                go_wp2_with fail
                                go_roundw
                                case rel => exact ⟨k + 1, by have := hrow.out; omega, by go_num, by show _ = _; rw [HAT.out, Bool.true_and], HT2⟩
                                case measure => have := hrow.out; simp [intOf]; omega
                              · have g2 : decide (x1 < (ps.length : Int)) = false := by simpa using h4
                                have HOKA : Hid (okAct (al.length : Int) (ps.length : Int) ((k : Int) == t) (2, x1) = false) := by show _ = _; unfold okAct okN; simp; omega
                                obtain rfl : r = 1 := by rw [← HR2.out, HAS2.out, HAT.out, HOKA.out]; rfl
                                clear HOKA
                                clear h0 h1 h3 h4
                                go_wp2_with fail
                                go_ret
                                exact ⟨by simp, HT2.out.gb.below⟩
                            · have g1 : decide ((0 : Int) ≤ x1) = false := by simpa using h3
                              have HOKA : Hid (okAct (al.length : Int) (ps.length : Int) ((k : Int) == t) (2, x1) = false) := by show _ = _; unfold okAct okN; simp; omega
                              obtain rfl : r = 1 := by rw [← HR2.out, HAS2.out, HAT.out, HOKA.out]; rfl
                              clear HOKA
                              clear h0 h1 h3
                              go_wp2_with fail
                              go_ret
                              exact ⟨by simp, HT2.out.gb.below⟩
                          · have b2 : (x0 == 2) = false := by simpa using h2
                            by_cases h3 : x0 = 3
                            · subst h3
                              by_cases h4 : x1 = 0
                              · subst h4
                                by_cases h5 : (k : Int) = t
                                · have g9 : ((k : Int) == t) = true := by simpa using h5
                                  have HOKA : Hid (okAct (al.length : Int) (ps.length : Int) ((k : Int) == t) (3, 0) = true) := by show _ = _; rw [g9]; rfl
                                  rw [HOKA.out] at HAT
                                  clear HOKA
                                  clear h0 h1 h2 h5
                                  go_wp2_with fail
                                  go_roundw
                                  case rel => exact ⟨k + 1, by have := hrow.out; omega, by go_num, by show _ = _; rw [HAT.out, Bool.true_and], HT2⟩
                                  case measure => have := hrow.out; simp [intOf]; omega
                                · have g9 : ((k : Int) == t) = false := by simpa using h5
                                  have HOKA : Hid (okAct (al.length : Int) (ps.length : Int) ((k : Int) == t) (3, 0) = false) := by show _ = _; rw [g9]; rfl
                                  obtain rfl : r = 1 := by rw [← HR2.out, HAS2.out, HAT.out, HOKA.out]; rfl
                                  clear HOKA
                                  clear h0 h1 h2 h5
                                  go_wp2_with fail
                                  go_ret
                                  exact ⟨by simp, HT2.out.gb.below⟩
                              · have b4 : (x1 == 0) = false := by simpa using h4
                                have HOKA : Hid (okAct (al.length : Int) (ps.length : Int) ((k : Int) == t) (3, x1) = false) := by show _ = _; unfold okAct; simp [h4]
                                obtain rfl : r = 1 := by rw [← HR2.out, HAS2.out, HAT.out, HOKA.out]; rfl
                                clear HOKA
                                clear h0 h1 h2 h4
                                go_wp2_with fail
                                go_ret
                                exact ⟨by simp, HT2.out.gb.below⟩
                            · have b3 : (x0 == 3) = false := by simpa using h3
                              have HOKA : Hid (okAct (al.length : Int) (ps.length : Int) ((k : Int) == t) (x0, x1) = false) := by show _ = _; unfold okAct; simp [h0, h1, h2, h3]
                              obtain rfl : r = 1 := by rw [← HR2.out, HAS2.out, HAT.out, HOKA.out]; rfl
                              clear HOKA
                              clear h0 h1 h2 h3
                              go_wp2_with fail
                              go_ret
                              exact ⟨by simp, HT2.out.gb.below⟩
                    · have hkt : decide ((k : Int) ≤ t) = false := by have := HLN.out.1; simp; omega
                      have HAS3 : Hid (okTab t n (al.length : Int) (ps.length : Int) al gs = (got.all (okTo (al.length : Int)) && okTab t n (al.length : Int) (ps.length : Int) (al.drop (q + 1)) (gs.drop (q + 1)))) := by
                        show _ = _
                        rw [HAS2.out, HA.out, List.drop_of_length_le (by omega)]; rfl
                      have q0 := HT.out.gb.c0
                      have HT4 : Hid (Tb w w.heap.size (w.heap.size + 1) t n (.slice ao ps.length c) ps (.slice (some ⟨b2, o, none⟩) al.length rc) (.slice (some ⟨b3, o3, none⟩) gs.length sc) wr) := HT
                      clear HAS2 HA huc hkl HT hk
                      go_wp2_with fail
                      clear q0 hkt
                      go_loopw [11] (fun i wr => ∃ k : Nat, k ≤ got.length ∧ i = .int .i64 (k : Int) ∧ Hid ((got.take k).all (okTo (al.length : Int)) = true) ∧ Hid (Tb w w.heap.size (w.heap.size + 1) t n (.slice ao ps.length c) ps (.slice (some ⟨b2, o, none⟩) al.length rc) (.slice (some ⟨b3, o3, none⟩) gs.length sc) wr)) (fun i _ => got.length - (intOf i).toNat)
                      case atStart => exact ⟨0, by omega, rfl, rfl, HT4⟩
                      case round =>
                        obtain ⟨k, hk, rfl, HA, HT⟩ := hrel
                        clear HT4
                        have q1 := HT.out.gb.c1
                        by_cases hkl : k < got.length
                        · obtain ⟨b5, o5, rfl, hb5, hc5⟩ := hvc.resolve_left (by intro e; subst e; simp at hkl)
                          have e0 := hc5 k hkl
                          have HAT : Hid ((got.take (k + 1)).all (okTo (al.length : Int)) = okTo (al.length : Int) got[k]) := by
                            show _ = _
                            rw [List.take_succ_eq_append_getElem hkl, List.all_append, HA.out]; simp
                          have HF : Hid (okTo (al.length : Int) got[k] = false → got.all (okTo (al.length : Int)) = false) := fun e => by
                            rw [List.all_eq_false]; exact ⟨got[k], List.getElem_mem hkl, by rw [e]; decide⟩
                          generalize got[k] = x at e0 HAT HF
                          replace e0 : wr.cell? ⟨b5, o5 + k, none⟩ = _ := (HT.out.gb.below.cell (p := ⟨b5, o5 + k, none⟩) hb5).trans e0
                          have y1 : wr.cell? ⟨b3, o3 + q, none⟩ = some (.slice (some ⟨b5, o5, none⟩) got.length vz) := (HT.out.gb.below.cell (p := ⟨b3, o3 + q, none⟩) HB.out.2).trans HC0.out.2
                          have d1 := HT.out.d1
                          have hkt : decide ((k : Int) < n) = true := by have := HLN.out.2; simp; omega
                          have hkk0 : (0 : Int) ≤ (k : Int) := by omega
                          have hkk1 : (k : Int) < (got.length : Int) := by omega
                          have hrow : Hid (k < got.length) := hkl
                          clear hvc hc5 HA hb5 hkl
                          by_cases h1 : x < -1
                          · have g1 : decide (x < (-1 : Int)) = true := by simpa using h1
                            obtain rfl : r = 1 := by rw [← HR2.out, HAS3.out, HF.out (by unfold okTo okN; simp; omega)]; rfl
                            clear h1
                            go_wp2_with fail
                            go_ret
                            exact ⟨by simp, HT.out.gb.below⟩
                          · have g1 : decide (x < (-1 : Int)) = false := by simpa using h1
                            by_cases h2 : (al.length : Int) ≤ x
                            · have g2 : decide ((al.length : Int) ≤ x) = true := by simpa using h2
                              obtain rfl : r = 1 := by rw [← HR2.out, HAS3.out, HF.out (by unfold okTo okN; simp; omega)]; rfl
                              clear h1 h2
                              go_wp2_with fail
                              go_ret
                              exact ⟨by simp, HT.out.gb.below⟩
                            · have g2 : decide ((al.length : Int) ≤ x) = false := by simpa using h2
                              have HXK : Hid (okTo (al.length : Int) x = true) := by show _ = _; unfold okTo okN; simp; omega
                              clear h1 h2
                              go_wp2_with fail
                              go_roundw
                              case rel => exact ⟨k + 1, by have := hrow.out; omega, by go_num, HAT.out.trans HXK.out, HT⟩
                              case measure => have := hrow.out; simp [intOf]; omega
                        · have hkt : decide ((k : Int) < n) = false := by have := HLN.out.2; simp; omega
                          have HN : Hid (okTab t n (al.length : Int) (ps.length : Int) al gs = okTab t n (al.length : Int) (ps.length : Int) (al.drop (q + 1)) (gs.drop (q + 1))) := by
                            show _ = _
                            rw [HAS3.out, show got.all (okTo (al.length : Int)) = true by rw [← HA.out, List.take_of_length_le (by omega)], Bool.true_and]
                          clear HAS3 HA hvc hkl
                          go_wp2_with fail
                          go_roundw
                          case rel => exact ⟨q + 1, by omega, by go_num, HN, HT⟩
                          case measure => simp [intOf]; omega
                · have b4 : ((got.length : Int) != n) = true := by simp [hgl]
                  obtain rfl : r = 1 := by rw [← HR2.out, HAS.out]; unfold okNext; rw [decide_eq_false hgl]; simp
                  clear hrl hgl HAS huc hvc
                  go_wp2_with fail
                  go_quiet (fail)
                  have hb3 : Below wr.heap.size wr (wr.drewN nq) := Go.Joins.below_draws _ _ _
                  generalize wr.drewN nq = w3 at hb3 ⊢
                  have HT3 : Hid (Tb w w.heap.size (w.heap.size + 1) t n (.slice ao ps.length c) ps (.slice (some ⟨b2, o, none⟩) al.length rc) (.slice (some ⟨b3, o3, none⟩) gs.length sc) w3) := HT.out.next hb3
                  clear hb3 HT y0 y1 z0 z1 d0 d1
                  go_wp2_with fail
                  go_ret
                  exact ⟨by simp, HT3.out.gb.below⟩
              · have b1 : ((row.length : Int) != t + 1) = true := by simp [hrl]
                obtain rfl : r = 1 := by rw [← HR2.out, HAS.out]; unfold okActs; rw [decide_eq_false hrl]; simp
                clear hrl HAS huc hvc
                go_wp2_with fail
                go_quiet (fail)
                have hb3 : Below wr.heap.size wr (wr.drewN nq) := Go.Joins.below_draws _ _ _
                generalize wr.drewN nq = w3 at hb3 ⊢
                have HT3 : Hid (Tb w w.heap.size (w.heap.size + 1) t n (.slice ao ps.length c) ps (.slice (some ⟨b2, o, none⟩) al.length rc) (.slice (some ⟨b3, o3, none⟩) gs.length sc) w3) := HT.out.next hb3
                clear hb3 HT y0 y1 z0 z1 d0 d1
                go_wp2_with fail
                go_ret
                exact ⟨by simp, HT3.out.gb.below⟩
            · obtain rfl : r = 0 := by rw [← HR2.out, HA.out, okTab_end (by omega)]; rfl
              clear hcs hds
              go_wp2_with fail
              go_ret
              exact ⟨by simp, HT.out.gb.below⟩
        · have b2 : ((gs.length : Int) != (al.length : Int)) = true := by simp; omega
          obtain rfl : r = 1 := by rw [← HR.out]; unfold chkT; rw [if_pos h0, if_neg hl, if_neg hl0, if_neg hl1]
          clear HR hl h0 hcs hds hl0 hl1
          go_enter Try.func5, Try.ntmps5
          go_wp2_with fail
          refine hcall.mono ?_
          rintro _ w1 ⟨rfl, hb1⟩
          have HT1 : Hid (Tb w w.heap.size (w.heap.size + 1) t n (.slice ao ps.length c) ps (.slice ro al.length rc) (.slice so gs.length sc) w1) := HT0.out.next hb1
          clear hb1 hcall HT0
          have z0 := HT1.out.gb.c0
          have z1 := HT1.out.gb.c1
          have z2 := HT1.out.gb.c2
          have d0 := HT1.out.d0
          have d1 := HT1.out.d1
          go_wp2_with fail
          go_ret
          exact ⟨by simp, HT1.out.gb.below⟩
  · obtain rfl : r = chk t n ps := by rw [← HR.out]; unfold chkT; rw [if_neg h0]
    obtain ⟨rr, HRR⟩ : ∃ rr, Hid (chk t n ps = rr) := ⟨_, (rfl : chk t n ps = chk t n ps)⟩
    rw [HRR.out] at hcall h0 ⊢
    have hk2 : (rr != 0) = true := by simpa using h0
    clear h0 HR hcs hds
    go_enter Try.func5, Try.ntmps5
    go_wp2_with fail
    refine hcall.mono ?_
    rintro _ w1 ⟨rfl, hb1⟩
    have HT1 : Hid (Tb w w.heap.size (w.heap.size + 1) t n (.slice ao ps.length c) ps (.slice ro al.length rc) (.slice so gs.length sc) w1) := HT0.out.next hb1
    clear hb1 hcall HT0
    have z0 := HT1.out.gb.c0
    have z1 := HT1.out.gb.c1
    have z2 := HT1.out.gb.c2
    have d0 := HT1.out.d0
    have d1 := HT1.out.d1
    go_wp2_with fail
    go_ret
    exact ⟨by simp, HT1.out.gb.below⟩
end Go.Proofs.Ytdfjhhdojmlmlaa
