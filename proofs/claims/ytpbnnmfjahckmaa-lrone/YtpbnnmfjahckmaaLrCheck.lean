/-
  The contract of lr.Check.
-/
import Derived.Test.YtpbnnmfjahckmaaLrActs
import Derived.Test.YtpbnnmfjahckmaaGrA
namespace Go.Proofs.Ytpbnnmfjahckmaa
open Go.RowKit
open Cg

set_option maxHeartbeats 6400000 in
set_option maxRecDepth 20000 in
theorem LCheck_any (t n : Int) (pv : Value) (ps : List Pd) (av gv : Value) (al : List (List Sy)) (gs : List (List Int)) (w : World) (hp : Pds w pv ps) (ha : Ars w av al) (hg : Rws w gv gs) :
    Calls Try.prog 15 #[.agg #[.int .i64 t, .int .i64 n, pv], .agg #[av, gv]] w fun e w' => e = .returned (.int .i64 (chkT t n ps al gs)) ∧ Below w.heap.size w w' := by
  have HTB := Tb.box hp t n av gv
  have hcall := Check_any t n _ ps ((w.alloc (Obj.cells #[.int .i64 t, .int .i64 n, pv] 24)).alloc (Obj.cells #[av, gv] 28)) (hp.below (below_alloc2 w _ _))
  have HPS : Hid (Pds w pv ps) := hp
  obtain ⟨ao, c, rfl, hm, -⟩ := hp
  have HAV : Hid (Ars w av al) := ha
  have HGV : Hid (Rws w gv gs) := hg
  obtain ⟨ro, rc, rfl, hrm, hcs⟩ := ha
  obtain ⟨so, sc, rfl, hsm, hds⟩ := hg
  have HT0 : Hid (Tb w w.heap.size (w.heap.size + 1) t n (.slice ao ps.length c) ps (.slice ro al.length rc) (.slice so gs.length sc) ((w.alloc (Obj.cells #[.int .i64 t, .int .i64 n, .slice ao ps.length c] 24)).alloc (Obj.cells #[.slice ro al.length rc, .slice so gs.length sc] 28))) := HTB
  clear HTB
  obtain ⟨r, HR⟩ : ∃ r, Hid (chkT t n ps al gs = r) := ⟨_, (rfl : chkT t n ps al gs = chkT t n ps al gs)⟩
  rw [HR.out]
  by_cases h0 : chk t n ps = 0
  · rw [h0] at hcall
    have HOK : Hid (0 ≤ t ∧ t ≤ 30 ∧ 1 ≤ n ∧ n ≤ 20) := okTN_le (chk_zero h0).1
    by_cases hl : 200 < al.length
    · have b0 : decide ((200 : Int) < (al.length : Int)) = true := by simp; omega
      obtain rfl : r = 2 := by rw [← HR.out]; unfold chkT; rw [if_pos h0, if_pos hl]
      clear HR hl h0 hcs hds
      go_enter Try.func15, Try.ntmps15
      go_wp2_with fail
      refine hcall.mono ?_
      rintro _ w1 ⟨rfl, hb1⟩
      have HT1 : Hid (Tb w w.heap.size (w.heap.size + 1) t n (.slice ao ps.length c) ps (.slice ro al.length rc) (.slice so gs.length sc) w1) := HT0.out.next hb1
      clear hb1 hcall HT0
      have z0 := HT1.out.gb.c0
      have z1 := HT1.out.gb.c1
      have z2 := HT1.out.gb.c2
      have d0 := HT1.out.d0
      have d1 := HT1.out.d1
      go_wp2_with fail
      go_ret
      exact ⟨by simp, HT1.out.gb.below⟩
    · have b0 : decide ((200 : Int) < (al.length : Int)) = false := by simp; omega
      by_cases hl0 : al.length = 0
      · have b1 : ((al.length : Int) == 0) = true := by simp [hl0]
        obtain rfl : r = 1 := by rw [← HR.out]; unfold chkT; rw [if_pos h0, if_neg hl, if_pos hl0]
        clear HR hl h0 hcs hds hl0
        go_enter Try.func15, Try.ntmps15
        go_wp2_with fail
        refine hcall.mono ?_
        rintro _ w1 ⟨rfl, hb1⟩
        have HT1 : Hid (Tb w w.heap.size (w.heap.size + 1) t n (.slice ao ps.length c) ps (.slice ro al.length rc) (.slice so gs.length sc) w1) := HT0.out.next hb1
        clear hb1 hcall HT0
        have z0 := HT1.out.gb.c0
        have z1 := HT1.out.gb.c1
        have z2 := HT1.out.gb.c2
        have d0 := HT1.out.d0
        have d1 := HT1.out.d1
        go_wp2_with fail
        go_ret
        exact ⟨by simp, HT1.out.gb.below⟩
      · have b1 : ((al.length : Int) == 0) = false := by simp; intro e; subst e; simp at hl0
        by_cases hl1 : gs.length = al.length
        · have b2 : ((gs.length : Int) != (al.length : Int)) = false := by simp [hl1]
          have HR2 : Hid ((if okTab t n (al.length : Int) (ps.length : Int) al gs = true then (0 : Int) else 1) = r) := by show _ = _; rw [← HR.out]; unfold chkT; rw [if_pos h0, if_neg hl, if_neg hl0, if_pos hl1]
          have HL : Hid (gs.length = al.length ∧ al.length ≤ 200) := ⟨hl1, by omega⟩
          clear HR hl h0 hl0 hl1
          go_enter Try.func15, Try.ntmps15
          go_wp2_with fail
          refine hcall.mono ?_
          rintro _ w1 ⟨rfl, hb1⟩
          have HT1 : Hid (Tb w w.heap.size (w.heap.size + 1) t n (.slice ao ps.length c) ps (.slice ro al.length rc) (.slice so gs.length sc) w1) := HT0.out.next hb1
          clear hb1 hcall HT0
          have z0 := HT1.out.gb.c0
          have z1 := HT1.out.gb.c1
          have z2 := HT1.out.gb.c2
          have d0 := HT1.out.d0
          have d1 := HT1.out.d1
          go_wp2_with fail
          clear b0 b1 b2 z0 z1 z2 d0 d1
          go_loopw [28] (fun i wr => ∃ q : Nat, q ≤ al.length ∧ i = .int .i64 (q : Int) ∧ Hid (okTab t n (al.length : Int) (ps.length : Int) al gs = okTab t n (al.length : Int) (ps.length : Int) (al.drop q) (gs.drop q)) ∧ Hid (Tb w w.heap.size (w.heap.size + 1) t n (.slice ao ps.length c) ps (.slice ro al.length rc) (.slice so gs.length sc) wr)) (fun i _ => al.length - (intOf i).toNat)
          case atStart => exact ⟨0, by omega, rfl, rfl, HT1⟩
          case round =>
            obtain ⟨q, hq, rfl, HA, HT⟩ := hrel
            clear HT1
            by_cases hlt : q < al.length
            · have hlt2 : q < gs.length := by have := HL.out; omega
              obtain ⟨b2, o, rfl, hb, hc⟩ := hcs.resolve_left (by intro e; subst e; simp at hlt)
              obtain ⟨b3, o3, rfl, hb3, hc3⟩ := hds.resolve_left (by intro e; subst e; simp at hlt2)
              obtain ⟨u, c0, hu⟩ := hc q hlt
              obtain ⟨v, c1, hv⟩ := hc3 q hlt2
              have HAS : Hid (okTab t n (al.length : Int) (ps.length : Int) al gs = (okActs t (al.length : Int) (ps.length : Int) al[q] && okNext n (al.length : Int) gs[q] && okTab t n (al.length : Int) (ps.length : Int) (al.drop (q + 1)) (gs.drop (q + 1)))) := by
                show _ = _
                rw [HA.out, okTab_at hlt hlt2]
              have HB : Hid (b2 < w.heap.size ∧ b3 < w.heap.size) := ⟨hb, hb3⟩
              obtain ⟨r1, HR1⟩ : ∃ r1, Hid (okActs t (al.length : Int) (ps.length : Int) al[q] = r1) := ⟨_, (rfl : okActs t (al.length : Int) (ps.length : Int) al[q] = okActs t (al.length : Int) (ps.length : Int) al[q])⟩
              obtain ⟨r2, HR3⟩ : ∃ r2, Hid (okNext n (al.length : Int) gs[q] = r2) := ⟨_, (rfl : okNext n (al.length : Int) gs[q] = okNext n (al.length : Int) gs[q])⟩
              rw [HR1.out, HR3.out] at HAS
              have HU : Hid (Syms w u al[q]) := hu
              have HV : Hid (Ints w v gs[q]) := hv
              have HP : Hid (∃ x y z, u = .slice x y z) := by obtain ⟨x, z, e, -⟩ := hu; exact ⟨x, _, z, e⟩
              have HQ : Hid (∃ x y z, v = .slice x y z) := by obtain ⟨x, z, e, -⟩ := hv; exact ⟨x, _, z, e⟩
              obtain ⟨ux, uy, uz, rfl⟩ := HP.out
              obtain ⟨vx, vy, vz, rfl⟩ := HQ.out
              have HW1 : Hid (Below w.heap.size w wr) := HT.out.gb.below
              have hne : Nonempty (Kp (Sb wr)) := ⟨⟨_, Sb.drew wr⟩⟩
              have k0 : ∀ p : Kp (Sb wr), p.W.cell? ⟨w.heap.size, 0, none⟩ = some (.int .i64 t) := fun p => (HT.out.next p.h).gb.c0
              have k1 : ∀ p : Kp (Sb wr), p.W.cell? ⟨w.heap.size, 1, none⟩ = some (.int .i64 n) := fun p => (HT.out.next p.h).gb.c1
              have k2 : ∀ p : Kp (Sb wr), p.W.cell? ⟨w.heap.size, 2, none⟩ = some (.slice ao ps.length c) := fun p => (HT.out.next p.h).gb.c2
              have k3 : ∀ p : Kp (Sb wr), p.W.cell? ⟨w.heap.size + 1, 0, none⟩ = some (.slice (some ⟨b2, o, none⟩) al.length rc) := fun p => (HT.out.next p.h).d0
              have k4 : ∀ p : Kp (Sb wr), p.W.cell? ⟨w.heap.size + 1, 1, none⟩ = some (.slice (some ⟨b3, o3, none⟩) gs.length sc) := fun p => (HT.out.next p.h).d1
              have k5 : ∀ p : Kp (Sb wr), p.W.cell? ⟨b2, o + q, none⟩ = some (.slice ux uy uz) := fun p => ((HT.out.next p.h).gb.below.cell (p := ⟨b2, o + q, none⟩) HB.out.1).trans c0
              have k6 : ∀ p : Kp (Sb wr), p.W.cell? ⟨b3, o3 + q, none⟩ = some (.slice vx vy vz) := fun p => ((HT.out.next p.h).gb.below.cell (p := ⟨b3, o3 + q, none⟩) HB.out.2).trans c1
              have HC1 : Hid (∀ p : Kp (Sb wr), Calls Try.prog 35 #[.agg #[.int .i64 t, .int .i64 n, .slice ao ps.length c], .int .i64 (al.length : Int), .slice ux uy uz] p.W fun e w'' => e = .returned (.bool r1) ∧ ∃ q : Kp (Sb wr), w'' = q.W) := fun p => by
                have hg := (HT.out.next p.h).gb
                have := areActs_any t n (al.length : Int) HOK.out.1 HOK.out.2.1 _ ps _ al[q] p.W hg.pds (HU.out.below hg.below)
                rw [HR1.out] at this
                exact Kp.calls p Sb.next this
              have HC2 : Hid (∀ p : Kp (Sb wr), Calls Try.prog 36 #[.agg #[.int .i64 t, .int .i64 n, .slice ao ps.length c], .int .i64 (al.length : Int), .slice vx vy vz] p.W fun e w'' => e = .returned (.bool r2) ∧ ∃ q : Kp (Sb wr), w'' = q.W) := fun p => by
                have hg := (HT.out.next p.h).gb
                have := areNext_any t n (al.length : Int) _ ps _ gs[q] p.W hg.pds (HV.out.below hg.below)
                rw [HR3.out] at this
                exact Kp.calls p Sb.next this
              have hk1 : (q : Int) < (al.length : Int) := by omega
              have hk2 : (q : Int) < (gs.length : Int) := by omega
              have hk0 : (0 : Int) ≤ (q : Int) := by omega
              clear hcs hds hc hc3 hu hv HU HV HP HQ HR1 HR3 c0 c1 hb hb3
              cases r1 with
              | false =>
                obtain rfl : r = 1 := by rw [← HR2.out, HAS.out]; rfl
                go_wp2_with fail
                refine wp_region_kept mixed (by kernel_rfl) (Sb.drew wr) ?_
                repeat (go_big_quiet_step (first | (go_at_call 35; with_reducible exact HC1.out _) | (go_at_call 36; with_reducible exact HC2.out _)))
                refine wpQuiet_nil ?_
                intro W2 hw2
                obtain ⟨p2, rfl⟩ := hw2
                have HB5 : Hid (Below w.heap.size w p2.W) := (HT.out.next p2.h).gb.below
                generalize p2.W = w3 at HB5 ⊢
                clear k0 k1 k2 k3 k4 k5 k6 HC1 HC2 hne p2
                go_wp2_with fail
                go_ret
                exact ⟨by simp, HB5.out⟩
              | true =>
                cases r2 with
                | false =>
                  obtain rfl : r = 1 := by rw [← HR2.out, HAS.out]; rfl
                  go_wp2_with fail
                  refine wp_region_kept mixed (by kernel_rfl) (Sb.drew wr) ?_
                  repeat (go_big_quiet_step (first | (go_at_call 35; with_reducible exact HC1.out _) | (go_at_call 36; with_reducible exact HC2.out _)))
                  refine wpQuiet_nil ?_
                  intro W2 hw2
                  obtain ⟨p2, rfl⟩ := hw2
                  have HB5 : Hid (Below w.heap.size w p2.W) := (HT.out.next p2.h).gb.below
                  generalize p2.W = w3 at HB5 ⊢
                  clear k0 k1 k2 k3 k4 k5 k6 HC1 HC2 hne p2
                  go_wp2_with fail
                  go_ret
                  exact ⟨by simp, HB5.out⟩
                | true =>
                  go_wp2_with fail
                  refine wp_region_kept mixed (by kernel_rfl) (Sb.drew wr) ?_
                  repeat (go_big_quiet_step (first | (go_at_call 35; with_reducible exact HC1.out _) | (go_at_call 36; with_reducible exact HC2.out _)))
                  refine wpQuiet_nil ?_
                  intro W2 hw2
                  obtain ⟨p2, rfl⟩ := hw2
                  have HT5 : Hid (Tb w w.heap.size (w.heap.size + 1) t n (.slice ao ps.length c) ps (.slice (some ⟨b2, o, none⟩) al.length rc) (.slice (some ⟨b3, o3, none⟩) gs.length sc) p2.W) := HT.out.next p2.h
                  generalize p2.W = w3 at HT5 ⊢
                  clear k0 k1 k2 k3 k4 k5 k6 HC1 HC2 hne p2
                  go_wp2_with fail
                  go_roundw
                  case rel => exact ⟨q + 1, by omega, by go_num, by show _ = _; rw [HAS.out, Bool.true_and, Bool.true_and], HT5⟩
                  case measure => simp [intOf]; omega
            · obtain rfl : r = 0 := by rw [← HR2.out, HA.out, okTab_end (by omega)]; rfl
              clear hcs hds
              go_wp2_with fail
              go_ret
              exact ⟨by simp, HT.out.gb.below⟩
        · have b2 : ((gs.length : Int) != (al.length : Int)) = true := by simp; omega
          obtain rfl : r = 1 := by rw [← HR.out]; unfold chkT; rw [if_pos h0, if_neg hl, if_neg hl0, if_neg hl1]
          clear HR hl h0 hcs hds hl0 hl1
          go_enter Try.func15, Try.ntmps15
          go_wp2_with fail
          refine hcall.mono ?_
          rintro _ w1 ⟨rfl, hb1⟩
          have HT1 : Hid (Tb w w.heap.size (w.heap.size + 1) t n (.slice ao ps.length c) ps (.slice ro al.length rc) (.slice so gs.length sc) w1) := HT0.out.next hb1
          clear hb1 hcall HT0
          have z0 := HT1.out.gb.c0
          have z1 := HT1.out.gb.c1
          have z2 := HT1.out.gb.c2
          have d0 := HT1.out.d0
          have d1 := HT1.out.d1
          go_wp2_with fail
          go_ret
          exact ⟨by simp, HT1.out.gb.below⟩
  · obtain rfl : r = chk t n ps := by rw [← HR.out]; unfold chkT; rw [if_neg h0]
    obtain ⟨rr, HRR⟩ : ∃ rr, Hid (chk t n ps = rr) := ⟨_, (rfl : chk t n ps = chk t n ps)⟩
    rw [HRR.out] at hcall h0 ⊢
    have hk2 : (rr != 0) = true := by simpa using h0
    clear h0 HR hcs hds
    go_enter Try.func15, Try.ntmps15
    go_wp2_with fail
    refine hcall.mono ?_
    rintro _ w1 ⟨rfl, hb1⟩
    have HT1 : Hid (Tb w w.heap.size (w.heap.size + 1) t n (.slice ao ps.length c) ps (.slice ro al.length rc) (.slice so gs.length sc) w1) := HT0.out.next hb1
    clear hb1 hcall HT0
    have z0 := HT1.out.gb.c0
    have z1 := HT1.out.gb.c1
    have z2 := HT1.out.gb.c2
    have d0 := HT1.out.d0
    have d1 := HT1.out.d1
    go_wp2_with fail
    go_ret
    exact ⟨by simp, HT1.out.gb.below⟩
end Go.Proofs.Ytpbnnmfjahckmaa
