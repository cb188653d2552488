/-
  The contract of pushref.RightRows.
-/
import Derived.Test.YtpfehghicaaghaaLlA
namespace Go.Proofs.Ytpfehghicaaghaa
open Go.RowKit
open Cg

set_option maxHeartbeats 6400000 in
set_option maxRecDepth 20000 in
theorem RightRows_any (t n : Int) (pv : Value) (ps : List Pd) (rv : Value) (rows : List (List Int)) (w : World) (hp : Pds w pv ps) (hr : Rws w rv rows) :
    Calls Try.prog 44 #[.agg #[.int .i64 t, .int .i64 n, pv], rv] w fun e w' => e = .returned (.int .i64 (chkR t n ps rows)) ∧ Below w.heap.size w w' := by
  have HGB := Gb.box hp t n
  have hcall := Cfg_any t n _ ps (w.alloc (Obj.cells #[.int .i64 t, .int .i64 n, pv] 24)) (hp.below (below_alloc w _))
  have HPS : Hid (Pds w pv ps) := hp
  obtain ⟨ao, c, rfl, hm, hpc⟩ := hp
  have HG0 : Hid (Gb w w.heap.size t n (.slice ao ps.length c) ps (w.alloc (Obj.cells #[.int .i64 t, .int .i64 n, .slice ao ps.length c] 24))) := HGB
  obtain ⟨ro, rc, rfl, hrm, hcs⟩ := hr
  clear HGB
  obtain ⟨r, HR⟩ : ∃ r, Hid (chkR t n ps rows = r) := ⟨_, (rfl : chkR t n ps rows = chkR t n ps rows)⟩
  rw [HR.out]
  by_cases h0 : chk t n ps = 0
  · rw [h0] at hcall
    have HOK : Hid (0 ≤ t ∧ t ≤ 30 ∧ 1 ≤ n ∧ n ≤ 20) := okTN_le (chk_zero h0).1
    by_cases hl : (rows.length : Int) = n
    · have b0 : ((rows.length : Int) != n) = false := by simp [hl]
      have HR2 : Hid ((if okRows t ps 0 rows = true then (0 : Int) else 1) = r) := by show _ = _; rw [← HR.out]; unfold chkR; rw [if_pos h0, if_pos hl]
      clear HR hl h0
      go_enter Try.func44, Try.ntmps44
      go_wp2_with fail
      refine hcall.mono ?_
      rintro _ w1 ⟨rfl, hb1⟩
      have HG1 : Hid (Gb w w.heap.size t n (.slice ao ps.length c) ps w1) := HG0.out.next hb1
      clear hb1 hcall HG0
      have z0 := HG1.out.c0
      have z1 := HG1.out.c1
      have z2 := HG1.out.c2
      go_wp2_with fail
      clear b0 z0 z1 z2
      go_loopw [6] (fun i wr => ∃ q : Nat, q ≤ rows.length ∧ i = .int .i64 (q : Int) ∧ Hid (okRows t ps 0 rows = okRows t ps q (rows.drop q)) ∧ Hid (Gb w w.heap.size t n (.slice ao ps.length c) ps wr)) (fun i _ => rows.length - (intOf i).toNat)
      case atStart => exact ⟨0, by omega, rfl, rfl, HG1⟩
      case round =>
        obtain ⟨q, hq, rfl, HA, HG⟩ := hrel
        clear HG1
        by_cases hlt : q < rows.length
        · obtain ⟨b2, o, rfl, hb, hc⟩ := hcs.resolve_left (by intro e; subst e; simp at hlt)
          obtain ⟨u, c0, hu⟩ := hc q hlt
          have HAS : Hid (okRows t ps 0 rows = (okRow t ps (q : Int) rows[q] && okRows t ps (q + 1) (rows.drop (q + 1)))) := by
            show _ = _
            rw [HA.out, okRows_at hlt]
          have HC0 : Hid (w.cell? ⟨b2, o + q, none⟩ = some u ∧ b2 < w.heap.size) := ⟨c0, hb⟩
          generalize rows[q] = row at HAS hu
          obtain ⟨uo, uc, rfl, hul, huc⟩ := hu
          have y0 : wr.cell? ⟨b2, o + q, none⟩ = some (.slice uo row.length uc) := (HG.out.below.cell (p := ⟨b2, o + q, none⟩) hb).trans c0
          have z0 := HG.out.c0
          have hq0 : (0 : Int) ≤ (q : Int) := by omega
          have hk1 : (q : Int) < (rows.length : Int) := by omega
          by_cases hrl : (row.length : Int) = t + 1
          · have b1 : ((row.length : Int) != t + 1) = false := by simp [hrl]
            have HAS2 : Hid (okRows t ps 0 rows = (row.all (okX ps (q : Int)) && okRows t ps (q + 1) (rows.drop (q + 1)))) := by
              show _ = _
              rw [HAS.out]; unfold okRow; rw [decide_eq_true hrl, Bool.true_and]
            have hov : t + 1 ≤ 31 := by have := HOK.out; omega
            have hov0 : 0 ≤ t := HOK.out.1
            clear hrl hcs hc HAS HA c0
            go_wp2_with fail
            go_quiet (fail)
            have hb3 : Below wr.heap.size wr (wr.drewN nq) := Go.Joins.below_draws _ _ _
            generalize wr.drewN nq = w3 at hb3 ⊢
            have HG3 : Hid (Gb w w.heap.size t n (.slice ao ps.length c) ps w3) := HG.out.next hb3
            clear hb3 HG y0 z0 b1
            go_wp2_with fail
            go_loopw [7] (fun i wr => ∃ k : Nat, k ≤ row.length ∧ i = .int .i64 (k : Int) ∧ Hid ((row.take k).all (okX ps (q : Int)) = true) ∧ Hid (Gb w w.heap.size t n (.slice ao ps.length c) ps wr)) (fun i _ => row.length - (intOf i).toNat)
            case atStart => exact ⟨0, by omega, rfl, rfl, HG3⟩
            case round =>
              obtain ⟨k, hk, rfl, HB, HG⟩ := hrel
              clear HG3
              have y0 : wr.cell? ⟨b2, o + q, none⟩ = some (.slice uo row.length uc) := (HG.out.below.cell (p := ⟨b2, o + q, none⟩) HC0.out.2).trans HC0.out.1
              by_cases hkl : k < row.length
              · obtain ⟨b3, o3, rfl, hb3, hc3⟩ := huc.resolve_left (by intro e; subst e; simp at hkl)
                have c1 := hc3 k hkl
                have HBS : Hid ((row.take (k + 1)).all (okX ps (q : Int)) = okX ps (q : Int) row[k]) := by
                  show _ = _
                  rw [List.take_succ_eq_append_getElem hkl, List.all_append, HB.out]; simp
                have HF : Hid (okX ps (q : Int) row[k] = false → row.all (okX ps (q : Int)) = false) := fun e => by
                  rw [List.all_eq_false]; exact ⟨row[k], List.getElem_mem hkl, by rw [e]; decide⟩
                generalize row[k] = x at c1 HBS HF
                replace c1 : wr.cell? ⟨b3, o3 + k, none⟩ = _ := (HG.out.below.cell (p := ⟨b3, o3 + k, none⟩) hb3).trans c1
                have z2 := HG.out.c2
                have hk0 : (0 : Int) ≤ (k : Int) := by omega
                have hk2 : (k : Int) < (row.length : Int) := by omega
                clear huc hc3 HB
                by_cases hx : x = -1
                · have b1 : (x != -1) = false := by simp [hx]
                  have HXK : Hid (okX ps (q : Int) x = true) := by show _ = _; unfold okX; rw [hx]; rfl
                  clear hx hpc
                  go_wp2_with fail
                  go_roundw
                  case rel => exact ⟨k + 1, by omega, by go_num, HBS.out.trans HXK.out, HG⟩
                  case measure => simp [intOf]; omega
                · have b1 : (x != -1) = true := by simp [hx]
                  have HX1 : Hid (okX ps (q : Int) x = okP ps (q : Int) x) := by show _ = _; unfold okX; rw [show (x == -1) = false by simp [hx]]; rfl
                  clear hx
                  by_cases hx0 : x < 0
                  · have b2 : decide (x < (0 : Int)) = true := by simpa using hx0
                    obtain rfl : r = 1 := by
                      rw [← HR2.out, HAS2.out, HF.out (by rw [HX1.out]; unfold okP; rw [decide_eq_false (by omega)]; rfl)]; rfl
                    clear hx0 hpc
                    go_wp2_with fail
                    go_ret
                    exact ⟨by simp, HG.out.below⟩
                  · have b2 : decide (x < (0 : Int)) = false := by simpa using hx0
                    by_cases hx1 : x < (ps.length : Int)
                    · have b3 : decide ((ps.length : Int) ≤ x) = false := by simpa using hx1
                      obtain ⟨j, rfl⟩ : ∃ j : Nat, x = (j : Int) := ⟨x.toNat, by omega⟩
                      have hj : j < ps.length := by omega
                      obtain ⟨b4, o4, rfl, hb4, hc4⟩ := hpc.resolve_left (by intro e; subst e; simp at hj)
                      obtain ⟨d0, -⟩ := hc4 j hj
                      replace d0 : wr.cell? ⟨b4, o4 + j * 2, none⟩ = _ := (HG.out.below.cell (p := ⟨b4, o4 + j * 2, none⟩) hb4).trans d0
                      have HX2 : Hid (okX ps (q : Int) (j : Int) = (ps[j].1 == (q : Int))) := by
                        show _ = _
                        rw [HX1.out]
                        have e : ps.getD j (0, []) = ps[j] := by rw [List.getD_eq_getElem?_getD, List.getElem?_eq_getElem hj]; rfl
                        unfold okP; simp only [Int.toNat_natCast, e]; rw [decide_eq_true (by omega), decide_eq_true (by omega)]; simp; exact Bool.eq_iff_iff.2 (by simp)
                      generalize ps[j].1 = h at d0 HX2
                      have hj0 : (0 : Int) ≤ (j : Int) := by omega
                      have hj1 : (j : Int) < (ps.length : Int) := by omega
                      clear hx0 hx1 hpc hc4 HX1
                      by_cases hh : h = (q : Int)
                      · have b4 : (h != (q : Int)) = false := by simp [hh]
                        have HXK : Hid (okX ps (q : Int) (j : Int) = true) := by show _ = _; rw [HX2.out]; simp [hh]
                        clear hh
                        go_wp2_with fail
                        go_roundw
                        case rel => exact ⟨k + 1, by omega, by go_num, HBS.out.trans HXK.out, HG⟩
                        case measure => simp [intOf]; omega
                      · have b4 : (h != (q : Int)) = true := by simp [hh]
                        obtain rfl : r = 1 := by
                          rw [← HR2.out, HAS2.out, HF.out (by rw [HX2.out]; simp [hh])]; rfl
                        clear hh
                        go_wp2_with fail
                        go_ret
                        exact ⟨by simp, HG.out.below⟩
                    · have b3 : decide ((ps.length : Int) ≤ x) = true := by simpa using hx1
                      obtain rfl : r = 1 := by
                        rw [← HR2.out, HAS2.out, HF.out (by rw [HX1.out]; unfold okP; rw [decide_eq_false (p := x < (ps.length : Int)) (by omega)]; simp)]; rfl
                      clear hx0 hx1 hpc
                      go_wp2_with fail
                      go_ret
                      exact ⟨by simp, HG.out.below⟩
              · have HN : Hid (okRows t ps 0 rows = okRows t ps (q + 1) (rows.drop (q + 1))) := by
                  show _ = _
                  rw [HAS2.out, show row.all (okX ps (q : Int)) = true by rw [← HB.out, List.take_of_length_le (by omega)], Bool.true_and]
                clear huc hpc HB
                go_wp2_with fail
                go_roundw
                case rel => exact ⟨q + 1, by omega, by go_num, HN, HG⟩
                case measure => simp [intOf]; omega
          · have b1 : ((row.length : Int) != t + 1) = true := by simp [hrl]
            obtain rfl : r = 1 := by rw [← HR2.out, HAS.out]; unfold okRow; rw [decide_eq_false hrl]; rfl
            have hov : t + 1 ≤ 31 := by have := HOK.out; omega
            have hov0 : 0 ≤ t := HOK.out.1
            clear hrl hcs hc HAS HA c0 hpc
            go_wp2_with fail
            go_quiet (fail)
            have hb3 : Below wr.heap.size wr (wr.drewN nq) := Go.Joins.below_draws _ _ _
            generalize wr.drewN nq = w3 at hb3 ⊢
            have HG3 : Hid (Gb w w.heap.size t n (.slice ao ps.length c) ps w3) := HG.out.next hb3
            clear hb3 HG y0 z0 b1
            go_wp2_with fail
            go_ret
            exact ⟨by simp, HG3.out.below⟩
        · obtain rfl : r = 0 := by rw [← HR2.out, HA.out, List.drop_of_length_le (by omega)]; rfl
          clear hcs hpc
          go_wp2_with fail
          go_ret
          exact ⟨by simp, HG.out.below⟩
    · have b0 : ((rows.length : Int) != n) = true := by simp [hl]
      obtain rfl : r = 1 := by rw [← HR.out]; unfold chkR; rw [if_pos h0, if_neg hl]
      clear HR hl hcs h0 hpc
      go_enter Try.func44, Try.ntmps44
      go_wp2_with fail
      refine hcall.mono ?_
      rintro _ w1 ⟨rfl, hb1⟩
      have HG1 : Hid (Gb w w.heap.size t n (.slice ao ps.length c) ps w1) := HG0.out.next hb1
      clear hb1 hcall HG0
      have z0 := HG1.out.c0
      have z1 := HG1.out.c1
      have z2 := HG1.out.c2
      go_wp2_with fail
      go_ret
      exact ⟨by simp, HG1.out.below⟩
  · obtain rfl : r = chk t n ps := by rw [← HR.out]; unfold chkR; rw [if_neg h0]
    obtain ⟨rr, HRR⟩ : ∃ rr, Hid (chk t n ps = rr) := ⟨_, (rfl : chk t n ps = chk t n ps)⟩
    rw [HRR.out] at hcall h0 ⊢
    have hk2 : (rr != 0) = true := by simpa using h0
    clear h0 HR hcs hpc
    go_enter Try.func44, Try.ntmps44
    go_wp2_with fail
    refine hcall.mono ?_
    rintro _ w1 ⟨rfl, hb1⟩
    have HG1 : Hid (Gb w w.heap.size t n (.slice ao ps.length c) ps w1) := HG0.out.next hb1
    clear hb1 hcall HG0
    go_wp2_with fail
    go_ret
    exact ⟨by simp, HG1.out.below⟩
end Go.Proofs.Ytpfehghicaaghaa
