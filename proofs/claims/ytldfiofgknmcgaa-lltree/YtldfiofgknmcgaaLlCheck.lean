/-
  The contracts of ll.Check and pushref.RightRows: both answer chkR.
-/
import Derived.Test.YtldfiofgknmcgaaLlBit
import Derived.Test.YtldfiofgknmcgaaFcMade
namespace Go.Proofs.Ytldfiofgknmcgaa
open Go.RowKit
open Cg

set_option maxHeartbeats 3200000 in
set_option maxRecDepth 20000 in
theorem LCheck_any (t n : Int) (pv : Value) (ps : List Pd) (rv : Value) (rows : List (List Int)) (w : World) (hp : Pds w pv ps) (hr : Rws w rv rows) :
    Calls Try.prog 27 #[.agg #[.int .i64 t, .int .i64 n, pv], rv] w fun e w' => e = .returned (.int .i64 (chkR t n ps rows)) ∧ Below w.heap.size w w' := by
  have HGB := Gb.box hp t n
  have hcall := Check_any t n _ ps (w.alloc (Obj.cells #[.int .i64 t, .int .i64 n, pv] 24)) (hp.below (below_alloc w _))
  obtain ⟨ao, c, rfl, hm, -⟩ := hp
  have HG0 : Hid (Gb w w.heap.size t n (.slice ao ps.length c) ps (w.alloc (Obj.cells #[.int .i64 t, .int .i64 n, .slice ao ps.length c] 24))) := HGB
  have HRW : Hid (Rws w rv rows) := hr
  obtain ⟨ro, rc, rfl, hrm, hcs⟩ := hr
  clear HGB
  obtain ⟨r, HR⟩ : ∃ r, Hid (chkR t n ps rows = r) := ⟨_, (rfl : chkR t n ps rows = chkR t n ps rows)⟩
  rw [HR.out]
  by_cases h0 : chk t n ps = 0
  · rw [h0] at hcall
    have HOK : Hid (0 ≤ t ∧ t ≤ 30 ∧ 1 ≤ n ∧ n ≤ 20) := okTN_le (chk_zero h0).1
    by_cases hl : (rows.length : Int) = n
    · have b0 : ((rows.length : Int) != n) = false := by simp [hl]
      have HR2 : Hid ((if okRows t ps 0 rows = true then (0 : Int) else 1) = r) := by show _ = _; rw [← HR.out]; unfold chkR; rw [if_pos h0, if_pos hl]
      have HL : Hid ((rows.length : Int) = n) := hl
      clear HR hl h0
      go_enter Try.func27, Try.ntmps27
      go_wp2_with fail
      refine hcall.mono ?_
      rintro _ w1 ⟨rfl, hb1⟩
      have HG1 : Hid (Gb w w.heap.size t n (.slice ao ps.length c) ps w1) := HG0.out.next hb1
      clear hb1 hcall HG0
      have z0 := HG1.out.c0
      have z1 := HG1.out.c1
      have z2 := HG1.out.c2
      go_wp2_with fail
      clear b0 z0 z1 z2
      go_loopw [20] (fun i wr => ∃ q : Nat, q ≤ rows.length ∧ i = .int .i64 (q : Int) ∧ Hid (okRows t ps 0 rows = okRows t ps q (rows.drop q)) ∧ Hid (Gb w w.heap.size t n (.slice ao ps.length c) ps wr)) (fun i _ => rows.length - (intOf i).toNat)
      case atStart => exact ⟨0, by omega, rfl, rfl, HG1⟩
      case round =>
        obtain ⟨q, hq, rfl, HA, HG⟩ := hrel
        clear HG1
        by_cases hlt : q < rows.length
        · obtain ⟨b2, o, rfl, hb, hc⟩ := hcs.resolve_left (by intro e; subst e; simp at hlt)
          obtain ⟨u, c0, hu⟩ := hc q hlt
          have HAS : Hid (okRows t ps 0 rows = (okRow t ps (q : Int) rows[q] && okRows t ps (q + 1) (rows.drop (q + 1)))) := by
            show _ = _
            rw [HA.out, okRows_at hlt]
          replace c0 : wr.cell? ⟨b2, o + q, none⟩ = _ := (HG.out.below.cell (p := ⟨b2, o + q, none⟩) hb).trans c0
          have hcc := isRow_any t n HOK.out.1 HOK.out.2.1 (.slice ao ps.length c) ps (q : Int) u rows[q] wr HG.out.pds (hu.below HG.out.below)
          obtain ⟨rr, HRR⟩ : ∃ rr, Hid (okRow t ps (q : Int) rows[q] = rr) := ⟨_, (rfl : okRow t ps (q : Int) rows[q] = okRow t ps (q : Int) rows[q])⟩
          rw [HRR.out] at hcc HAS
          obtain ⟨uo, uc, rfl, -, -⟩ := hu
          generalize rows[q].length = ul at c0 hcc
          have z0 := HG.out.c0
          have z1 := HG.out.c1
          have z2 := HG.out.c2
          have hk1 : (q : Int) < (rows.length : Int) := by omega
          clear hcs hc HRR HA
          go_wp2_with fail
          refine hcc.mono ?_
          rintro _ w2 ⟨rfl, hb2⟩
          have HG3 : Hid (Gb w w.heap.size t n (.slice ao ps.length c) ps w2) := HG.out.next hb2
          clear hcc hb2 z0 z1 z2 c0 HG
          cases rr with
          | true =>
            go_wp2_with fail
            go_roundw
            case rel => exact ⟨q + 1, by omega, by go_num, by rw [HAS.out, Bool.true_and]; exact (rfl : _ = _), HG3⟩
            case measure => simp [intOf]; omega
          | false =>
            obtain rfl : r = 1 := by rw [← HR2.out, HAS.out]; rfl
            go_wp2_with fail
            go_ret
            exact ⟨by simp, HG3.out.below⟩
        · obtain rfl : r = 0 := by rw [← HR2.out, HA.out, List.drop_of_length_le (by omega)]; rfl
          clear hcs
          go_wp2_with fail
          go_ret
          exact ⟨by simp, HG.out.below⟩
    · have b0 : ((rows.length : Int) != n) = true := by simp [hl]
      obtain rfl : r = 1 := by rw [← HR.out]; unfold chkR; rw [if_pos h0, if_neg hl]
      clear HR hl hcs h0
      go_enter Try.func27, Try.ntmps27
      go_wp2_with fail
      refine hcall.mono ?_
      rintro _ w1 ⟨rfl, hb1⟩
      have HG1 : Hid (Gb w w.heap.size t n (.slice ao ps.length c) ps w1) := HG0.out.next hb1
      clear hb1 hcall HG0
      have z0 := HG1.out.c0
      have z1 := HG1.out.c1
      have z2 := HG1.out.c2
      go_wp2_with fail
      go_ret
      exact ⟨by simp, HG1.out.below⟩
  · obtain rfl : r = chk t n ps := by rw [← HR.out]; unfold chkR; rw [if_neg h0]
    obtain ⟨rr, HRR⟩ : ∃ rr, Hid (chk t n ps = rr) := ⟨_, (rfl : chk t n ps = chk t n ps)⟩
    rw [HRR.out] at hcall h0 ⊢
    have hk2 : (rr != 0) = true := by simpa using h0
    clear h0 HR hcs
    go_enter Try.func27, Try.ntmps27
    go_wp2_with fail
    refine hcall.mono ?_
    rintro _ w1 ⟨rfl, hb1⟩
    have HG1 : Hid (Gb w w.heap.size t n (.slice ao ps.length c) ps w1) := HG0.out.next hb1
    clear hb1 hcall HG0
    go_wp2_with fail
    go_ret
    exact ⟨by simp, HG1.out.below⟩
end Go.Proofs.Ytldfiofgknmcgaa
