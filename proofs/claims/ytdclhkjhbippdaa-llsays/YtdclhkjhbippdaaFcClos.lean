/-
  The contracts of the three closures of pushref.AllFacts.
-/
import Derived.Test.YtdclhkjhbippdaaFcFix
namespace Go.Proofs.Ytdclhkjhbippdaa
open Go.RowKit
open Cg

/-- Does a word of these symbols begin with the terminal t? (each of them makes one) -/
def btl (E Bs : Nat → Bool) (t : Int) : List Sy → Bool
  | [] => false
  | s :: l => if s.1 = 1 then s.2 == t else if Bs s.2.toNat = true then true else if E s.2.toNat = true then btl E Bs t l else false
set_option maxHeartbeats 6400000 in
set_option maxRecDepth 20000 in
theorem clos27_any (t : Int) (n b cf : Nat) (E : Nat → Bool) (a1 a2 a3 a4 : Value) (h : Int) (u : Value) (l : List Sy) (ok : OkL t n l) (W : World) (hs : Syms W u l) (hr : Rb W b n E) (hf : W.rowIs cf 55 5 (fv (.slice (some ⟨b, 0, none⟩) n n) a1 a2 a3 a4)) :
    Calls Try.prog 26 #[.agg #[.int .i64 h, u], .pointer (some ⟨cf, 0, none⟩)] W fun e W' => e = .returned (.bool (amk E false l)) ∧ Below W.heap.size W W' := by
  have HSY : Hid (Syms W u l) := hs
  obtain ⟨uo, uc, rfl, hul, hcs⟩ := hs
  obtain ⟨wb, HWB⟩ : ∃ wb, Hid (W.alloc (Obj.cells #[.int .i64 h, .slice uo l.length uc] 49) = wb) := ⟨_, (rfl : _ = _)⟩
  have g0 := row_two W (.int .i64 h) (.slice uo l.length uc) 49
  have hbA := below_alloc W (Obj.cells #[.int .i64 h, .slice uo l.length uc] 49)
  rw [HWB.out] at g0 hbA
  have HPB : Hid (wb.rowIs W.heap.size 49 2 (fun i => if i = 0 then .int .i64 h else .slice uo l.length uc)) := g0
  have HOK : Hid (OkL t n l) := ok
  have HBA : Hid (Below W.heap.size W wb) := hbA
  have HFX : Hid (∀ w', Below wb.heap.size wb w' → Below W.heap.size W w') := fun w' k => hbA.trans (k.mono hbA.size)
  have HRB : Hid (Rb wb b n E) := hr.next hbA
  have HFB : Hid (wb.rowIs cf 55 5 (fv (.slice (some ⟨b, 0, none⟩) n n) a1 a2 a3 a4)) := hf.of_block (hbA.block _ hf.lt)
  obtain ⟨r, HR⟩ : ∃ r, Hid (amk E false l = r) := ⟨_, (rfl : amk E false l = amk E false l)⟩
  rw [HR.out]
  clear g0 hbA ok hr hf
  go_enter Try.func26, Try.ntmps26
  go_wp2_with fail
  rw [HWB.out]
  obtain ⟨g, HG⟩ : ∃ g, Hid (W.heap.size = g) := ⟨_, (rfl : W.heap.size = W.heap.size)⟩
  rw [HG.out] at HPB ⊢
  go_loopw [4] (fun i wr => ∃ q : Nat, q ≤ l.length ∧ i = .int .i64 (q : Int) ∧ Hid (amk E false (l.take q) = true) ∧ Below wb.heap.size wb wr) (fun i _ => l.length - (intOf i).toNat)
  case atStart => exact ⟨0, by omega, rfl, rfl, Below.refl _ _⟩
  case round =>
    obtain ⟨q, hq, rfl, HA, hbel⟩ := hrel
    have k1 := (HPB.out.of_block (hbel.block _ HPB.out.lt)).cell (i := 1) (by omega)
    simp only [if_neg (by omega : ¬ (1 : Nat) = 0)] at k1
    have HBR : Hid (Below W.heap.size W wr) := HFX.out _ hbel
    have HBB : Hid (Below wb.heap.size wb wr) := hbel
    by_cases hlt : q < l.length
    · obtain ⟨b2, o, rfl, hb, hc⟩ := hcs.resolve_left (by intro e; subst e; simp at hlt)
      obtain ⟨c0, c1⟩ := hc q hlt
      have HS : Hid (amk E false (l.take (q + 1)) = mks E false l[q]) := by
        show _ = _
        have := HA.out
        unfold amk at *
        rw [List.take_succ_eq_append_getElem hlt, List.all_append, this]; simp
      have HF : Hid (mks E false l[q] = false → amk E false l = false) := fun e => by
        unfold amk; rw [List.all_eq_false]; exact ⟨l[q], List.getElem_mem hlt, by simpa using e⟩
      obtain ⟨kd, m, e1, e2, e3, hk⟩ := HOK.out.at hlt
      rw [e1] at c0
      rw [e2] at c1
      have HM : Hid (mks E false l[q] = !((kd == 1 && !false) || (kd == 2 && !E m))) := by show _ = _; unfold mks; rw [e1, e3]
      clear e1 e2 e3 hc hcs
      generalize mks E false l[q] = mm at HS HF HM
      replace c0 : wr.cell? ⟨b2, o + q * 2, none⟩ = _ := (HBR.out.cell (p := ⟨b2, o + q * 2, none⟩) hb).trans c0
      replace c1 : wr.cell? ⟨b2, o + q * 2 + 1, none⟩ = _ := (HBR.out.cell (p := ⟨b2, o + q * 2 + 1, none⟩) hb).trans c1
      have k0 := (HFB.out.of_block (hbel.block _ HFB.out.lt)).cell (i := 0) (by omega)
      simp only [fv] at k0
      have HRW : Hid (Rb wr b n E) := HRB.out.next hbel
      have hk1 : (q : Int) < (l.length : Int) := by omega
      have hk0 : (0 : Int) ≤ (q : Int) := by omega
      have b1 : decide ((q : Int) < 0) = false := by simp
      have b2' : decide ((l.length : Int) ≤ (q : Int)) = false := by simp; omega
      clear hbel
      rcases hk with ⟨rfl, hk⟩ | ⟨rfl, hk⟩
      · skip
        obtain rfl : mm = false := by rw [HM.out]; rfl
        obtain rfl : r = false := by rw [← HR.out, HF.out rfl]
        go_wp2_with (go_quiet (fail))
        have HB2 : Hid (Below W.heap.size W (wr.drewN nq)) := (HBR.out.trans ⟨rfl, rfl, rfl, Nat.le_refl _, fun _ _ => rfl⟩)
        go_ret
        exact ⟨by simp, HB2.out⟩
      · have d0 := HRW.out.cell hk
        have hk2 : (m : Int) < (n : Int) := by omega
        have hk3 : (0 : Int) ≤ (m : Int) := by omega
        have b3 : decide ((m : Int) < 0) = false := by simp
        have b4 : decide ((n : Int) ≤ (m : Int)) = false := by simp; omega
        generalize E m = im at HM d0
        cases im with
        | true =>
          obtain rfl : mm = true := by rw [HM.out]; rfl
          go_wp2_with (go_quiet (fail))
          have HB2 : Hid (Below wb.heap.size wb (wr.drewN nq)) := (HBB.out.trans ⟨rfl, rfl, rfl, Nat.le_refl _, fun _ _ => rfl⟩)
          go_roundw
          case rel => exact ⟨q + 1, by omega, by go_num, HS.out, HB2.out⟩
          case measure => simp [intOf]; omega
        | false =>
          obtain rfl : mm = false := by rw [HM.out]; rfl
          obtain rfl : r = false := by rw [← HR.out, HF.out rfl]
          go_wp2_with (go_quiet (fail))
          have HB2 : Hid (Below W.heap.size W (wr.drewN nq)) := (HBR.out.trans ⟨rfl, rfl, rfl, Nat.le_refl _, fun _ _ => rfl⟩)
          go_ret
          exact ⟨by simp, HB2.out⟩
    · obtain rfl : r = true := by
        have := HA.out
        rw [List.take_of_length_le (by omega)] at this
        rw [← HR.out]; exact this
      have b2' : decide ((q : Int) < (l.length : Int)) = false := by simp; omega
      clear hbel
      go_wp2_with fail
      go_ret
      exact ⟨by simp, HBR.out⟩
set_option maxHeartbeats 6400000 in
set_option maxRecDepth 20000 in
theorem clos28_any (t : Int) (n b cf : Nat) (E : Nat → Bool) (a0 a1 a2 a3 : Value) (h : Int) (u : Value) (l : List Sy) (ok : OkL t n l) (W : World) (hs : Syms W u l) (hr : Rb W b n E) (hf : W.rowIs cf 55 5 (fv a0 a1 a2 a3 (.slice (some ⟨b, 0, none⟩) n n))) :
    Calls Try.prog 27 #[.agg #[.int .i64 h, u], .pointer (some ⟨cf, 0, none⟩)] W fun e W' => e = .returned (.bool (amk E true l)) ∧ Below W.heap.size W W' := by
  have HSY : Hid (Syms W u l) := hs
  obtain ⟨uo, uc, rfl, hul, hcs⟩ := hs
  obtain ⟨wb, HWB⟩ : ∃ wb, Hid (W.alloc (Obj.cells #[.int .i64 h, .slice uo l.length uc] 49) = wb) := ⟨_, (rfl : _ = _)⟩
  have g0 := row_two W (.int .i64 h) (.slice uo l.length uc) 49
  have hbA := below_alloc W (Obj.cells #[.int .i64 h, .slice uo l.length uc] 49)
  rw [HWB.out] at g0 hbA
  have HPB : Hid (wb.rowIs W.heap.size 49 2 (fun i => if i = 0 then .int .i64 h else .slice uo l.length uc)) := g0
  have HOK : Hid (OkL t n l) := ok
  have HBA : Hid (Below W.heap.size W wb) := hbA
  have HFX : Hid (∀ w', Below wb.heap.size wb w' → Below W.heap.size W w') := fun w' k => hbA.trans (k.mono hbA.size)
  have HRB : Hid (Rb wb b n E) := hr.next hbA
  have HFB : Hid (wb.rowIs cf 55 5 (fv a0 a1 a2 a3 (.slice (some ⟨b, 0, none⟩) n n))) := hf.of_block (hbA.block _ hf.lt)
  obtain ⟨r, HR⟩ : ∃ r, Hid (amk E true l = r) := ⟨_, (rfl : amk E true l = amk E true l)⟩
  rw [HR.out]
  clear g0 hbA ok hr hf
  go_enter Try.func27, Try.ntmps27
  go_wp2_with fail
  rw [HWB.out]
  obtain ⟨g, HG⟩ : ∃ g, Hid (W.heap.size = g) := ⟨_, (rfl : W.heap.size = W.heap.size)⟩
  rw [HG.out] at HPB ⊢
  go_loopw [4] (fun i wr => ∃ q : Nat, q ≤ l.length ∧ i = .int .i64 (q : Int) ∧ Hid (amk E true (l.take q) = true) ∧ Below wb.heap.size wb wr) (fun i _ => l.length - (intOf i).toNat)
  case atStart => exact ⟨0, by omega, rfl, rfl, Below.refl _ _⟩
  case round =>
    obtain ⟨q, hq, rfl, HA, hbel⟩ := hrel
    have k1 := (HPB.out.of_block (hbel.block _ HPB.out.lt)).cell (i := 1) (by omega)
    simp only [if_neg (by omega : ¬ (1 : Nat) = 0)] at k1
    have HBR : Hid (Below W.heap.size W wr) := HFX.out _ hbel
    have HBB : Hid (Below wb.heap.size wb wr) := hbel
    by_cases hlt : q < l.length
    · obtain ⟨b2, o, rfl, hb, hc⟩ := hcs.resolve_left (by intro e; subst e; simp at hlt)
      obtain ⟨c0, c1⟩ := hc q hlt
      have HS : Hid (amk E true (l.take (q + 1)) = mks E true l[q]) := by
        show _ = _
        have := HA.out
        unfold amk at *
        rw [List.take_succ_eq_append_getElem hlt, List.all_append, this]; simp
      have HF : Hid (mks E true l[q] = false → amk E true l = false) := fun e => by
        unfold amk; rw [List.all_eq_false]; exact ⟨l[q], List.getElem_mem hlt, by simpa using e⟩
      obtain ⟨kd, m, e1, e2, e3, hk⟩ := HOK.out.at hlt
      rw [e1] at c0
      rw [e2] at c1
      have HM : Hid (mks E true l[q] = !((kd == 1 && !true) || (kd == 2 && !E m))) := by show _ = _; unfold mks; rw [e1, e3]
      clear e1 e2 e3 hc hcs
      generalize mks E true l[q] = mm at HS HF HM
      replace c0 : wr.cell? ⟨b2, o + q * 2, none⟩ = _ := (HBR.out.cell (p := ⟨b2, o + q * 2, none⟩) hb).trans c0
      replace c1 : wr.cell? ⟨b2, o + q * 2 + 1, none⟩ = _ := (HBR.out.cell (p := ⟨b2, o + q * 2 + 1, none⟩) hb).trans c1
      have k0 := (HFB.out.of_block (hbel.block _ HFB.out.lt)).cell (i := 4) (by omega)
      simp only [fv] at k0
      have HRW : Hid (Rb wr b n E) := HRB.out.next hbel
      have hk1 : (q : Int) < (l.length : Int) := by omega
      have hk0 : (0 : Int) ≤ (q : Int) := by omega
      have b1 : decide ((q : Int) < 0) = false := by simp
      have b2' : decide ((l.length : Int) ≤ (q : Int)) = false := by simp; omega
      clear hbel
      rcases hk with ⟨rfl, hk⟩ | ⟨rfl, hk⟩
      · skip
        obtain rfl : mm = true := by rw [HM.out]; rfl
        go_wp2_with (go_quiet (fail))
        have HB2 : Hid (Below wb.heap.size wb (wr.drewN nq)) := (HBB.out.trans ⟨rfl, rfl, rfl, Nat.le_refl _, fun _ _ => rfl⟩)
        go_roundw
        case rel => exact ⟨q + 1, by omega, by go_num, HS.out, HB2.out⟩
        case measure => simp [intOf]; omega
      · have d0 := HRW.out.cell hk
        have hk2 : (m : Int) < (n : Int) := by omega
        have hk3 : (0 : Int) ≤ (m : Int) := by omega
        have b3 : decide ((m : Int) < 0) = false := by simp
        have b4 : decide ((n : Int) ≤ (m : Int)) = false := by simp; omega
        generalize E m = im at HM d0
        cases im with
        | true =>
          obtain rfl : mm = true := by rw [HM.out]; rfl
          go_wp2_with (go_quiet (fail))
          have HB2 : Hid (Below wb.heap.size wb (wr.drewN nq)) := (HBB.out.trans ⟨rfl, rfl, rfl, Nat.le_refl _, fun _ _ => rfl⟩)
          go_roundw
          case rel => exact ⟨q + 1, by omega, by go_num, HS.out, HB2.out⟩
          case measure => simp [intOf]; omega
        | false =>
          obtain rfl : mm = false := by rw [HM.out]; rfl
          obtain rfl : r = false := by rw [← HR.out, HF.out rfl]
          go_wp2_with (go_quiet (fail))
          have HB2 : Hid (Below W.heap.size W (wr.drewN nq)) := (HBR.out.trans ⟨rfl, rfl, rfl, Nat.le_refl _, fun _ _ => rfl⟩)
          go_ret
          exact ⟨by simp, HB2.out⟩
    · obtain rfl : r = true := by
        have := HA.out
        rw [List.take_of_length_le (by omega)] at this
        rw [← HR.out]; exact this
      have b2' : decide ((q : Int) < (l.length : Int)) = false := by simp; omega
      clear hbel
      go_wp2_with fail
      go_ret
      exact ⟨by simp, HBR.out⟩
set_option maxHeartbeats 6400000 in
set_option maxRecDepth 20000 in
theorem clos29_any (t : Int) (n be bm bb cm ct cb cf : Nat) (E M Bs : Nat → Bool) (a1 a2 a3 : Value) (tt : Int) (h : Int) (u : Value) (l : List Sy) (ok : OkL t n l) (W : World) (hs : Syms W u l) (hre : Rb W be n E) (hrm : Rb W bm n M) (hrb : Rb W bb n Bs) (hf : W.rowIs cf 55 5 (fv (.slice (some ⟨be, 0, none⟩) n n) a1 a2 a3 (.slice (some ⟨bm, 0, none⟩) n n)))
    (hcm : W.rowIs cm 68 1 (fun _ => .func (.func 27) #[] #[.pointer (some ⟨cf, 0, none⟩)])) (hct : W.rowIs ct 3 1 (fun _ => .int .i64 tt)) (hcb : W.rowIs cb 53 1 (fun _ => .slice (some ⟨bb, 0, none⟩) n n)) :
    Calls Try.prog 28 #[.agg #[.int .i64 h, u], .pointer (some ⟨cm, 0, none⟩), .pointer (some ⟨ct, 0, none⟩), .pointer (some ⟨cb, 0, none⟩), .pointer (some ⟨cf, 0, none⟩)] W fun e W' => e = .returned (.bool (amk M true l && btl E Bs tt l)) ∧ Below W.heap.size W W' := by
  have HSY : Hid (Syms W u l) := hs
  obtain ⟨uo, uc, rfl, hul, hcs⟩ := hs
  obtain ⟨wb, HWB⟩ : ∃ wb, Hid (W.alloc (Obj.cells #[.int .i64 h, .slice uo l.length uc] 49) = wb) := ⟨_, (rfl : _ = _)⟩
  have g0 := row_two W (.int .i64 h) (.slice uo l.length uc) 49
  have hbA := below_alloc W (Obj.cells #[.int .i64 h, .slice uo l.length uc] 49)
  rw [HWB.out] at g0 hbA
  have HPB : Hid (wb.rowIs W.heap.size 49 2 (fun i => if i = 0 then .int .i64 h else .slice uo l.length uc)) := g0
  have HOK : Hid (OkL t n l) := ok
  have HBA : Hid (Below W.heap.size W wb) := hbA
  have HFX : Hid (∀ w', Below wb.heap.size wb w' → Below W.heap.size W w') := fun w' k => hbA.trans (k.mono hbA.size)
  have HEB : Hid (Rb wb be n E ∧ Rb wb bm n M ∧ Rb wb bb n Bs ∧ wb.rowIs cf 55 5 (fv (.slice (some ⟨be, 0, none⟩) n n) a1 a2 a3 (.slice (some ⟨bm, 0, none⟩) n n)) ∧ wb.rowIs cm 68 1 (fun _ => .func (.func 27) #[] #[.pointer (some ⟨cf, 0, none⟩)]) ∧ wb.rowIs ct 3 1 (fun _ => .int .i64 tt) ∧ wb.rowIs cb 53 1 (fun _ => .slice (some ⟨bb, 0, none⟩) n n)) :=
    ⟨hre.next hbA, hrm.next hbA, hrb.next hbA, hf.of_block (hbA.block _ hf.lt), hcm.of_block (hbA.block _ hcm.lt), hct.of_block (hbA.block _ hct.lt), hcb.of_block (hbA.block _ hcb.lt)⟩
  obtain ⟨mk, HMK⟩ : ∃ mk, Hid (amk M true l = mk) := ⟨_, (rfl : amk M true l = amk M true l)⟩
  obtain ⟨r, HR⟩ : ∃ r, Hid (btl E Bs tt l = r) := ⟨_, (rfl : btl E Bs tt l = btl E Bs tt l)⟩
  rw [HMK.out, HR.out]
  have he28 := enters_of Try.func27 (by kernel_rfl) rfl
  have HC28 : Hid (∀ w', Below wb.heap.size wb w' → Calls Try.prog 27 #[.agg #[.int .i64 h, .slice uo l.length uc], .pointer (some ⟨cf, 0, none⟩)] w' fun e W' => e = .returned (.bool mk) ∧ Below w'.heap.size w' W') := fun w' k => by
    have := clos28_any t n bm cf M (.slice (some ⟨be, 0, none⟩) n n) a1 a2 a3 h (.slice uo l.length uc) l HOK.out w' ((HSY.out.below HBA.out).below k) (HEB.out.2.1.next k) (HEB.out.2.2.2.1.of_block (k.block _ HEB.out.2.2.2.1.lt))
    rw [HMK.out] at this
    exact this
  clear g0 hbA ok hre hrm hrb hf hcm hct hcb
  go_enter Try.func28, Try.ntmps28
  go_wp2_with fail
  rw [HWB.out]
  obtain ⟨g, HG⟩ : ∃ g, Hid (W.heap.size = g) := ⟨_, (rfl : W.heap.size = W.heap.size)⟩
  rw [HG.out] at HPB ⊢
  go_loopw [7] (fun i wr => ∃ q : Nat, q ≤ l.length ∧ i = .int .i64 (q : Int) ∧ Hid (btl E Bs tt (l.drop q) = r) ∧ Below wb.heap.size wb wr) (fun i _ => l.length - (intOf i).toNat)
  case atStart => exact ⟨0, by omega, rfl, HR, Below.refl _ _⟩
  case round =>
    obtain ⟨q, hq, rfl, HA, hbel⟩ := hrel
    have hpr := HPB.out.of_block (hbel.block _ HPB.out.lt)
    have k0 := hpr.cell (i := 0) (by omega)
    have k1 := hpr.cell (i := 1) (by omega)
    simp only [if_neg (by omega : ¬ (1 : Nat) = 0), if_true] at k0 k1
    have HBR : Hid (Below W.heap.size W wr) := HFX.out _ hbel
    have HBB : Hid (Below wb.heap.size wb wr) := hbel
    have k2 := (HEB.out.2.2.2.2.1.of_block (hbel.block _ HEB.out.2.2.2.2.1.lt)).cell (i := 0) (by omega)
    clear hpr
    by_cases hlt : q < l.length
    · obtain ⟨b2, o, rfl, hb, hc⟩ := hcs.resolve_left (by intro e; subst e; simp at hlt)
      have hk1 : (q : Int) < (l.length : Int) := by omega
      have hcall := HC28.out wr hbel
      have b0 : decide ((q : Int) < (l.length : Int)) = true := by simp; omega
      clear hbel
      go_wp2_with fail
      refine hcall.mono ?_
      rintro _ w1 ⟨rfl, hb1⟩
      have HB1 : Hid (Below W.heap.size W w1 ∧ Below wb.heap.size wb w1) := ⟨HBR.out.trans (hb1.mono HBR.out.size), HBB.out.trans (hb1.mono HBB.out.size)⟩
      clear hcall k0 k1 k2 hb1 b0
      cases mk with
      | false =>
        go_wp2_with fail
        go_ret
        exact ⟨by simp, HB1.out.1⟩
      | true =>
        obtain ⟨c0, c1⟩ := hc q hlt
        obtain ⟨kd, m, e1, e2, e3, hk⟩ := HOK.out.at hlt
        rw [e1] at c0
        rw [e2] at c1
        have HS : Hid (btl E Bs tt (l.drop q) = if kd = 1 then (m : Int) == tt else if Bs m = true then true else if E m = true then btl E Bs tt (l.drop (q + 1)) else false) := by
          show _ = _
          rw [← List.getElem_cons_drop hlt]
          conv => lhs; unfold btl
          rw [e1, e2, Int.toNat_natCast]
        clear e1 e2 e3 hc hcs
        replace c0 : w1.cell? ⟨b2, o + q * 2, none⟩ = _ := (HB1.out.1.cell (p := ⟨b2, o + q * 2, none⟩) hb).trans c0
        replace c1 : w1.cell? ⟨b2, o + q * 2 + 1, none⟩ = _ := (HB1.out.1.cell (p := ⟨b2, o + q * 2 + 1, none⟩) hb).trans c1
        have hpr := HPB.out.of_block (HB1.out.2.block _ HPB.out.lt)
        have k1 := hpr.cell (i := 1) (by omega)
        simp only [if_neg (by omega : ¬ (1 : Nat) = 0)] at k1
        have hba := below_alloc w1 (Obj.cells #[.int .i64 kd, .int .i64 (m : Int)] 52)
        have hbx : Below wb.heap.size wb (w1.alloc (Obj.cells #[.int .i64 kd, .int .i64 (m : Int)] 52)) := HB1.out.2.trans (hba.mono HB1.out.2.size)
        have HB2 : Hid (Below W.heap.size W (w1.alloc (Obj.cells #[.int .i64 kd, .int .i64 (m : Int)] 52)) ∧ Below wb.heap.size wb (w1.alloc (Obj.cells #[.int .i64 kd, .int .i64 (m : Int)] 52))) := ⟨HFX.out _ hbx, hbx⟩
        have j1 := (HEB.out.2.2.2.2.2.1.of_block (hbx.block _ HEB.out.2.2.2.2.2.1.lt)).cell (i := 0) (by omega)
        have j2 := (HEB.out.2.2.2.2.2.2.of_block (hbx.block _ HEB.out.2.2.2.2.2.2.lt)).cell (i := 0) (by omega)
        have j3 := (HEB.out.2.2.2.1.of_block (hbx.block _ HEB.out.2.2.2.1.lt)).cell (i := 0) (by omega)
        simp only [fv] at j3
        have HRE : Hid (Rb (w1.alloc (Obj.cells #[.int .i64 kd, .int .i64 (m : Int)] 52)) be n E ∧ Rb (w1.alloc (Obj.cells #[.int .i64 kd, .int .i64 (m : Int)] 52)) bb n Bs) := ⟨HEB.out.1.next hbx, HEB.out.2.2.1.next hbx⟩
        clear hpr hba hbx
        rcases hk with ⟨rfl, hk⟩ | ⟨rfl, hk⟩
        · obtain rfl : r = ((m : Int) == tt) := by rw [← HA.out, HS.out, if_pos rfl]
          go_wp2_with fail
          go_ret
          exact ⟨by simp, HB2.out.1⟩
        · have hk2 : (m : Int) < (n : Int) := by omega
          have d0 := HRE.out.1.cell hk
          have d1 := HRE.out.2.cell hk
          have HS2 : Hid (r = if Bs m = true then true else if E m = true then btl E Bs tt (l.drop (q + 1)) else false) := by show _ = _; rw [← HA.out, HS.out, if_neg (by omega : ¬ ((2 : Int) = 1))]
          generalize Bs m = bm' at d1 HS2
          generalize E m = em at d0 HS2
          clear HS HA
          cases bm' with
          | true =>
            obtain rfl : r = true := by rw [HS2.out]; rfl
            go_wp2_with fail
            go_ret
            exact ⟨by simp, HB2.out.1⟩
          | false =>
            cases em with
            | true =>
              have HN : Hid (btl E Bs tt (l.drop (q + 1)) = r) := by show _ = _; rw [HS2.out]; rfl
              go_wp2_with fail
              go_roundw
              case rel => exact ⟨q + 1, by omega, by go_num, HN, HB2.out.2⟩
              case measure => simp [intOf]; omega
            | false =>
              obtain rfl : r = false := by rw [HS2.out]; rfl
              go_wp2_with fail
              go_ret
              exact ⟨by simp, HB2.out.1⟩
    · obtain rfl : r = false := by rw [← HA.out, List.drop_of_length_le (by omega)]; rfl
      have b0 : decide ((q : Int) < (l.length : Int)) = false := by simp; omega
      clear hbel
      go_wp2_with fail
      go_ret
      exact ⟨by simp, HBR.out⟩
end Go.Proofs.Ytdclhkjhbippdaa
