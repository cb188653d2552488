/-
  The contracts of pushref.RightTodo and pushref.RightClimber.
-/
import Derived.Test.YtpfehghicaaghaaClB
import Derived.Test.YtpfehghicaaghaaLlRight
namespace Go.Proofs.Ytpfehghicaaghaa
open Go.RowKit
open Cg

set_option maxHeartbeats 3200000 in
set_option maxRecDepth 20000 in
theorem RightTodo_any (t n : Int) (pv : Value) (ps : List Pd) (x : Td) (w : World) (hp : Pds w pv ps) :
    Calls Try.prog 45 #[.agg #[.int .i64 t, .int .i64 n, pv], tdv x] w fun e w' => e = .returned (.bool (okT t n ps x)) ∧ Below w.heap.size w w' := by
  obtain ⟨ao, c, rfl, hm, -⟩ := hp
  obtain ⟨cl, q, a, b⟩ := x
  unfold tdv
  simp only
  have HB2 : Hid (Below w.heap.size w ((w.alloc (Obj.cells #[.int .i64 t, .int .i64 n, .slice ao ps.length c] 24)).alloc (Obj.cells #[.bool cl, .int .i64 q, .int .i64 a, .int .i64 b] 49))) := below_alloc2 _ _ _
  obtain ⟨r, HR⟩ : ∃ r, Hid (okT t n ps (cl, q, a, b) = r) := ⟨_, (rfl : okT t n ps (cl, q, a, b) = _)⟩
  rw [HR.out]
  cases cl with
  | true =>
    by_cases ha : a = 0
    · subst ha
      by_cases hb : b = 0
      · subst hb
        have HR2 : Hid (isPr ps q = r) := by show _ = _; rw [← HR.out]; unfold okT; simp
        clear HR
        by_cases h0 : 0 ≤ q
        · have b0 : decide ((0 : Int) ≤ q) = true := by simpa using h0
          have b2 : decide (q ≥ (0 : Int)) = true := by simpa using h0
          by_cases h1 : q < (ps.length : Int)
          · have b1 : decide (q < (ps.length : Int)) = true := by simpa using h1
            obtain rfl : r = true := by rw [← HR2.out]; unfold isPr; simp [h0, h1]
            go_enter Try.func45, Try.ntmps45
            go_wp2_with fail
            go_ret
            exact ⟨by simp, HB2.out⟩
          · have b1 : decide (q < (ps.length : Int)) = false := by simpa using h1
            obtain rfl : r = false := by rw [← HR2.out]; unfold isPr; simp [h1]
            go_enter Try.func45, Try.ntmps45
            go_wp2_with fail
            go_ret
            exact ⟨by simp, HB2.out⟩
        · have b0 : decide ((0 : Int) ≤ q) = false := by simpa using h0
          have b2 : decide (q ≥ (0 : Int)) = false := by simpa using h0
          obtain rfl : r = false := by rw [← HR2.out]; unfold isPr; simp [h0]
          go_enter Try.func45, Try.ntmps45
          go_wp2_with fail
          go_ret
          exact ⟨by simp, HB2.out⟩
      · obtain rfl : r = false := by rw [← HR.out]; unfold okT; simp [hb]
        have hb' : (b == 0) = false := by simpa using hb
        go_enter Try.func45, Try.ntmps45
        go_wp2_with fail
        go_ret
        exact ⟨by simp, HB2.out⟩
    · obtain rfl : r = false := by rw [← HR.out]; unfold okT; simp [ha]
      have ha' : (a == 0) = false := by simpa using ha
      go_enter Try.func45, Try.ntmps45
      go_wp2_with fail
      go_ret
      exact ⟨by simp, HB2.out⟩
  | false =>
    by_cases h0 : q = 0
    · subst h0
      obtain rfl : okSy t n (a, b) = r := by rw [← HR.out]; unfold okT; simp
      have hcall := rightSym_any t n ao ps.length c a b ((w.alloc (Obj.cells #[.int .i64 t, .int .i64 n, .slice ao ps.length c] 24)).alloc (Obj.cells #[.bool false, .int .i64 0, .int .i64 a, .int .i64 b] 49))
      clear HR
      go_enter Try.func45, Try.ntmps45
      go_wp2_with fail
      refine hcall.mono ?_
      rintro _ w3 ⟨rfl, hb3⟩
      have HB3 : Hid (Below w.heap.size w w3) := HB2.out.trans (hb3.mono HB2.out.size)
      clear hb3 hcall HB2
      go_wp2_with fail
      go_ret
      exact ⟨rfl, HB3.out⟩
    · obtain rfl : r = false := by rw [← HR.out]; unfold okT; simp [h0]
      have b0 : (q == 0) = false := by simpa using h0
      clear HR
      go_enter Try.func45, Try.ntmps45
      go_wp2_with fail
      go_ret
      exact ⟨by simp, HB2.out⟩
set_option maxHeartbeats 6400000 in
set_option maxRecDepth 20000 in
theorem RightClimber_any (t n : Int) (pv : Value) (ps : List Pd) (rv : Value) (rows : List (List Int)) (tv : Value) (l : List Td) (sn ov : Int) (dn : Bool) (w : World) (hp : Pds w pv ps) (hr : Rws w rv rows) (ht : Tds w tv l) :
    Calls Try.prog 18 #[.agg #[.int .i64 t, .int .i64 n, pv], rv, .agg #[tv, .int .i64 sn, .int .i64 ov, .bool dn]] w fun e w' => e = .returned (.int .i64 (chkD t n ps rows l sn)) ∧ Below w.heap.size w w' := by
  have HC : Hid _ := Clb.box hp ht t n sn ov dn
  have HPV : Hid (Pds w pv ps) := hp
  have HB1 : Hid (Below w.heap.size w ((w.alloc (Obj.cells #[.int .i64 t, .int .i64 n, pv] 24)).alloc (Obj.cells #[tv, .int .i64 sn, .int .i64 ov, .bool dn] 43))) := below_alloc2 _ _ _
  have HRW : Hid (Rws w rv rows) := hr
  obtain ⟨ao, c, rfl, hm, -⟩ := ht
  obtain ⟨po, pc, rfl, hpm, -⟩ := hp
  obtain ⟨ro, rc, rfl, hrm, -⟩ := hr
  obtain ⟨r, HR⟩ : ∃ r, Hid (chkD t n ps rows l sn = r) := ⟨_, (rfl : chkD t n ps rows l sn = _)⟩
  rw [HR.out]
  go_enter Try.func18, Try.ntmps18
  go_upto_region 1 with fail
  generalize ((w.alloc (Obj.cells #[.int .i64 t, .int .i64 n, .slice po ps.length pc] 24)).alloc (Obj.cells #[.slice ao l.length c, .int .i64 sn, .int .i64 ov, .bool dn] 43)) = w1 at HC HB1 ⊢
  obtain ⟨g, HG⟩ : ∃ g, Hid (w.heap.size = g) := ⟨_, (rfl : w.heap.size = w.heap.size)⟩
  rw [HG.out] at HC ⊢
  have hcall := RightRows_any t n (.slice po ps.length pc) ps (.slice ro rows.length rc) rows w1 (HPV.out.below HB1.out) (HRW.out.below HB1.out)
  obtain ⟨cr, HCR⟩ : ∃ cr, Hid (chkR t n ps rows = cr) := ⟨_, (rfl : chkR t n ps rows = _)⟩
  rw [HCR.out] at hcall
  have z0 := HC.out.gb.c0
  have z1 := HC.out.gb.c1
  have z2 := HC.out.gb.c2
  go_wp2_with fail
  refine hcall.mono ?_
  rintro _ w2 ⟨rfl, hb2⟩
  have HC2 : Hid (Clb w g (g + 1) t n (.slice po ps.length pc) ps (.slice ao l.length c) l sn ov dn w2) := HC.out.next hb2
  clear hcall hb2 z0 z1 z2 HC HB1
  have HC : Hid _ := HC2.out
  clear HC2
  by_cases h0 : cr = 0
  · subst h0
    have HR2 : Hid ((if okC t n ps l sn = true then (0 : Int) else 1) = r) := by show _ = _; rw [← HR.out]; unfold chkD; rw [if_pos HCR.out]
    clear HR HCR
    have q0 := tcell_blk HC.out.c 0
    have q1 := tcell_blk HC.out.c 1
    simp only [List.getElem?_toArray, List.getElem?_cons_zero, List.getElem?_cons_succ] at q0 q1
    by_cases h60 : l.length ≤ 60
    · by_cases h0 : 0 ≤ sn
      · have h0' : decide (sn ≥ (0 : Int)) = true := by simpa using h0
        by_cases h1 : sn ≤ 1099511627776
        · have HR3 : Hid ((if l.all (okT t n ps) = true then (0 : Int) else 1) = r) := by
            show _ = _
            have e : okC t n ps l sn = l.all (okT t n ps) := by unfold okC; simp [h60, h0, h1]
            rw [← HR2.out, e]
          clear HR2
          have k60 : (l.length : Int) ≤ 60 := by omega
          go_wp2_with fail
          clear q0 q1 h0 h1 k60 h0'
          go_loopw [8, 9] (fun x y wr => ∃ (q : Nat) (b : Bool), q ≤ l.length ∧ x = .bool b ∧ y = .int .i64 (q : Int) ∧ Hid (l.all (okT t n ps) = (b && (l.drop q).all (okT t n ps))) ∧ Hid (Clb w g (g + 1) t n (.slice po ps.length pc) ps (.slice ao l.length c) l sn ov dn wr)) (fun _ y _ => l.length - (intOf y).toNat)
          case atStart => exact ⟨0, true, by omega, rfl, rfl, rfl, HC⟩
          case round =>
            obtain ⟨q, b, hq, rfl, rfl, HA, HCR⟩ := hrel
            clear HC
            have q0 := tcell_blk HCR.out.c 0
            simp only [List.getElem?_toArray, List.getElem?_cons_zero] at q0
            by_cases hlt : q < l.length
            · have hk1 : (q : Int) < (l.length : Int) := by omega
              cases b with
              | false =>
                obtain rfl : r = 1 := by rw [← HR3.out, HA.out]; rfl
                go_wp2_with fail
                go_ret
                exact ⟨by simp, HCR.out.gb.below⟩
              | true =>
                obtain ⟨a9, c9, e9, -, hcs⟩ := HCR.out.td
                simp only [Value.slice.injEq] at e9
                obtain ⟨rfl, -, rfl⟩ := e9
                obtain ⟨b, o, rfl, hb, hc⟩ := hcs.resolve_left (by intro e; subst e; simp at hlt)
                have HY : Hid _ := hc q hlt
                have HAS : Hid (l.all (okT t n ps) = (okT t n ps l[q] && (l.drop (q + 1)).all (okT t n ps))) := by show _ = _; rw [HA.out, all_at hlt, Bool.true_and]
                have HTC : Hid (∀ W, Pds W (.slice po ps.length pc) ps → Calls Try.prog 45 #[.agg #[.int .i64 t, .int .i64 n, .slice po ps.length pc], tdv l[q]] W fun e w' => e = .returned (.bool (okT t n ps l[q])) ∧ Below W.heap.size W w') := fun W hP => RightTodo_any t n (.slice po ps.length pc) ps l[q] W hP
                unfold tdv at HTC
                generalize l[q] = x at HY HAS HTC
                obtain ⟨x0, x1, x2, x3⟩ := x
                simp only at HY HTC
                obtain ⟨rr, HRR⟩ : ∃ rr, Hid (okT t n ps (x0, x1, x2, x3) = rr) := ⟨_, (rfl : okT t n ps (x0, x1, x2, x3) = _)⟩
                rw [HRR.out] at HTC HAS
                have hk0 : (0 : Int) ≤ (q : Int) := by omega
                clear hc hcs HA HRR
                go_upto_region 8 with fail
                obtain ⟨W0, HW0⟩ : ∃ W0, Hid (wr = W0) := ⟨_, (rfl : wr = wr)⟩
                have hne : Nonempty (Kp (Sb wr)) := ⟨⟨_, Sb.drew wr⟩⟩
                have HBL : Hid (b < wr.heap.size) := hb
                have m0 : ∀ p : Kp (Sb wr), p.W.cell? ⟨g, 0, none⟩ = some (.int .i64 t) := fun p => (HCR.out.gb.next p.h).c0
                have m1 : ∀ p : Kp (Sb wr), p.W.cell? ⟨g, 1, none⟩ = some (.int .i64 n) := fun p => (HCR.out.gb.next p.h).c1
                have m2 : ∀ p : Kp (Sb wr), p.W.cell? ⟨g, 2, none⟩ = some (.slice po ps.length pc) := fun p => (HCR.out.gb.next p.h).c2
                have m3 : ∀ p : Kp (Sb wr), p.W.cell? ⟨g + 1, 0, none⟩ = some (.slice (some ⟨b, o, none⟩) l.length c) := fun p => tcell_blk (HCR.out.next p.h).c 0
                have y0 : ∀ p : Kp (Sb wr), p.W.cell? ⟨b, o + q * 4, none⟩ = some (.bool x0) := fun p => (Below.cell p.h (p := ⟨b, o + q * 4, none⟩) hb).trans HY.out.1
                have y1 : ∀ p : Kp (Sb wr), p.W.cell? ⟨b, o + q * 4 + 1, none⟩ = some (.int .i64 x1) := fun p => (Below.cell p.h (p := ⟨b, o + q * 4 + 1, none⟩) hb).trans HY.out.2.1
                have y2 : ∀ p : Kp (Sb wr), p.W.cell? ⟨b, o + q * 4 + 2, none⟩ = some (.int .i64 x2) := fun p => (Below.cell p.h (p := ⟨b, o + q * 4 + 2, none⟩) hb).trans HY.out.2.2.1
                have y3 : ∀ p : Kp (Sb wr), p.W.cell? ⟨b, o + q * 4 + 3, none⟩ = some (.int .i64 x3) := fun p => (Below.cell p.h (p := ⟨b, o + q * 4 + 3, none⟩) hb).trans HY.out.2.2.2
                have HCA : Hid (∀ p : Kp (Sb wr), Calls Try.prog 45 #[.agg #[.int .i64 t, .int .i64 n, .slice po ps.length pc], .agg #[.bool x0, .int .i64 x1, .int .i64 x2, .int .i64 x3]] p.W fun e w'' => e = .returned (.bool rr) ∧ ∃ q : Kp (Sb wr), w'' = q.W) := fun p => Kp.calls p Sb.next (HTC.out p.W (HCR.out.gb.next p.h).pds)
                refine wp_region_kept mixed (by kernel_rfl) (Sb.drew wr) ?_
                repeat (go_big_quiet_step (first | (go_at_call 45; with_reducible exact HCA.out _)))
                refine wpQuiet_nil ?_
                intro W2 hw2
                obtain ⟨⟨W2, HS2⟩, rfl⟩ := hw2
                have HC5 : Hid (Clb w g (g + 1) t n (.slice po ps.length pc) ps (.slice (some ⟨b, o, none⟩) l.length c) l sn ov dn W2) := HCR.out.next HS2
                clear HS2 hne m0 m1 m2 m3 y0 y1 y2 y3 HCA HCR q0 HTC HY HW0 W0
                go_wp2_with fail
                go_roundw
                case rel => exact ⟨q + 1, rr, by omega, rfl, by go_num, HAS.out, HC5⟩
                case measure => simp [intOf]; omega
            · have HB : Hid (l.all (okT t n ps) = b) := by show _ = _; rw [HA.out, List.drop_of_length_le (by omega)]; simp
              have hk1 : ¬ (q : Int) < (l.length : Int) := by omega
              cases b with
              | true =>
                obtain rfl : r = 0 := by rw [← HR3.out, HB.out]; rfl
                go_wp2_with fail
                go_ret
                exact ⟨by simp, HCR.out.gb.below⟩
              | false =>
                obtain rfl : r = 1 := by rw [← HR3.out, HB.out]; rfl
                go_wp2_with fail
                go_ret
                exact ⟨by simp, HCR.out.gb.below⟩
        · obtain rfl : r = 1 := by rw [← HR2.out]; unfold okC; simp [h1]
          clear HR2
          have k60 : (l.length : Int) ≤ 60 := by omega
          go_wp2_with fail
          clear q0 q1
          go_loopw [8, 9] (fun x y wr => x = .bool false ∧ y = .int .i64 0 ∧ Hid (Clb w g (g + 1) t n (.slice po ps.length pc) ps (.slice ao l.length c) l sn ov dn wr)) (fun _ _ _ => 0)
          case atStart => exact ⟨by first | rfl | (simp; omega), rfl, HC⟩
          case round =>
            obtain ⟨rfl, rfl, HCR⟩ := hrel
            clear HC
            have q0 := tcell_blk HCR.out.c 0
            simp only [List.getElem?_toArray, List.getElem?_cons_zero] at q0
            by_cases hlen : (0 : Int) < (l.length : Int)
            · go_wp2_with fail
              go_ret
              exact ⟨rfl, HCR.out.gb.below⟩
            · go_wp2_with fail
              go_ret
              exact ⟨rfl, HCR.out.gb.below⟩
      · obtain rfl : r = 1 := by rw [← HR2.out]; unfold okC; simp [h0]
        clear HR2
        have k60 : (l.length : Int) ≤ 60 := by omega
        have h0' : decide (sn ≥ (0 : Int)) = false := by simpa using h0
        go_wp2_with fail
        clear q0 q1
        go_loopw [8, 9] (fun x y wr => x = .bool false ∧ y = .int .i64 0 ∧ Hid (Clb w g (g + 1) t n (.slice po ps.length pc) ps (.slice ao l.length c) l sn ov dn wr)) (fun _ _ _ => 0)
        case atStart => exact ⟨by first | rfl | (simp; omega), rfl, HC⟩
        case round =>
          obtain ⟨rfl, rfl, HCR⟩ := hrel
          clear HC
          have q0 := tcell_blk HCR.out.c 0
          simp only [List.getElem?_toArray, List.getElem?_cons_zero] at q0
          by_cases hlen : (0 : Int) < (l.length : Int)
          · go_wp2_with fail
            go_ret
            exact ⟨rfl, HCR.out.gb.below⟩
          · go_wp2_with fail
            go_ret
            exact ⟨rfl, HCR.out.gb.below⟩
    · obtain rfl : r = 1 := by rw [← HR2.out]; unfold okC; simp [h60]
      clear HR2
      have k60 : ¬ (l.length : Int) ≤ 60 := by omega
      go_wp2_with fail
      clear q0 q1
      go_loopw [8, 9] (fun x y wr => x = .bool false ∧ y = .int .i64 0 ∧ Hid (Clb w g (g + 1) t n (.slice po ps.length pc) ps (.slice ao l.length c) l sn ov dn wr)) (fun _ _ _ => 0)
      case atStart => exact ⟨by first | rfl | (simp; omega), rfl, HC⟩
      case round =>
        obtain ⟨rfl, rfl, HCR⟩ := hrel
        clear HC
        have q0 := tcell_blk HCR.out.c 0
        simp only [List.getElem?_toArray, List.getElem?_cons_zero] at q0
        have hlen : (0 : Int) < (l.length : Int) := by omega
        go_wp2_with fail
        go_ret
        exact ⟨rfl, HCR.out.gb.below⟩
  · obtain rfl : r = cr := by rw [← HR.out]; unfold chkD; rw [HCR.out, if_neg h0]
    have h0' : (r != 0) = true := by simpa using h0
    clear HR HCR h0
    go_wp2_with fail
    go_ret
    exact ⟨by simp, HC.out.gb.below⟩
end Go.Proofs.Ytpfehghicaaghaa
