/-
  The contracts of the closure of facts.made and of facts.made.
-/
import Derived.Test.YtpfehghicaaghaaFcSettle
namespace Go.Proofs.Ytpfehghicaaghaa
open Go.RowKit
open Cg

/-- A row's set at m is put, if it was not there. -/
def PutB (b n : Nat) (s : Nat → Bool) (m : Nat) (r : Bool) (W W' : World) : Prop := if r = true then Fm (fun k => k = b) W W' ∧ Rb W' b n (upd s m true) else Below W.heap.size W W'
set_option maxHeartbeats 3200000 in
set_option maxRecDepth 20000 in
theorem clos41_any (t : Int) (n b cb ct : Nat) (terms : Bool) (s : Nat → Bool) (m : Nat) (hmn : m < n) (u : Value) (l : List Sy) (ok : OkL t n l) (W : World) (hs : Syms W u l) (hr : Rb W b n s)
    (hc : W.cell? ⟨cb, 0, none⟩ = some (.slice (some ⟨b, 0, none⟩) n n)) (hct : W.cell? ⟨ct, 0, none⟩ = some (.bool terms)) (hcl : cb < W.heap.size) (hctl : ct < W.heap.size) :
    Calls Try.prog 115 #[.agg #[.int .i64 (m : Int), u], .pointer (some ⟨cb, 0, none⟩), .pointer (some ⟨ct, 0, none⟩)] W fun e W' => e = .returned (.bool (!s m && amk s terms l)) ∧ PutB b n s m (!s m && amk s terms l) W W' := by
  obtain ⟨r, HR⟩ : ∃ r, Hid ((!s m && amk s terms l) = r) := ⟨_, (rfl : (!s m && amk s terms l) = (!s m && amk s terms l))⟩
  rw [HR.out]
  have hs' := hs
  obtain ⟨uo, uc, rfl, hul, -⟩ := hs
  obtain ⟨wb, HWB⟩ : ∃ wb, Hid (W.alloc (Obj.cells #[.int .i64 (m : Int), .slice uo l.length uc] 88) = wb) := ⟨_, (rfl : _ = _)⟩
  have g0 := cell_new W #[.int .i64 (m : Int), .slice uo l.length uc] 88
  have hb0 := below_alloc W (Obj.cells #[.int .i64 (m : Int), .slice uo l.length uc] 88)
  rw [HWB.out] at g0 hb0
  have y0 : wb.cell? ⟨W.heap.size, 0, none⟩ = some (.int .i64 (m : Int)) := g0 0
  have y1 : wb.cell? ⟨W.heap.size, 1, none⟩ = some (.slice uo l.length uc) := g0 1
  have y2 : wb.cell? ⟨cb, 0, none⟩ = some (.slice (some ⟨b, 0, none⟩) n n) := (hb0.cell (p := ⟨cb, 0, none⟩) hcl).trans hc
  have y3 : wb.cell? ⟨ct, 0, none⟩ = some (.bool terms) := (hb0.cell (p := ⟨ct, 0, none⟩) hctl).trans hct
  have y4 : wb.cell? ⟨b, m, none⟩ = some (.bool (s m)) := (hr.next hb0).cell hmn
  have HSZ : Hid (W.heap.size < wb.heap.size ∧ cb < wb.heap.size) := ⟨by rw [← HWB.out]; simp, Nat.lt_of_lt_of_le hcl hb0.size⟩
  have HB0 : Hid (Below W.heap.size W wb) := hb0
  have hmn2 : (m : Int) < (n : Int) := by omega
  have HRB : Hid (Rb wb b n s) := hr.next hb0
  have HSY : Hid (Syms wb (.slice uo l.length uc) l) := hs'.below hb0
  have HWE := HWB.out
  subst HWE
  clear g0 hb0 hr hs' hc hct hcl hctl HWB
  by_cases hsm : s m = true
  · obtain rfl : r = false := by rw [← HR.out, hsm]; rfl
    rw [hsm] at y4
    clear hsm HR
    go_enter Try.func115, Try.ntmps115
    go_wp2_with fail
    go_ret
    exact ⟨by simp, by unfold PutB; rw [if_neg (by simp)]; exact HB0.out⟩
  · have hsm2 : s m = false := by simpa using hsm
    rw [hsm2] at y4
    have HA : Hid (amk s terms l = r) := by show _ = _; rw [← HR.out, hsm2]; rfl
    clear hsm hsm2 HR
    go_enter Try.func115, Try.ntmps115
    go_wp2_with fail
    have hcall := allMade_any t n b s terms (.slice uo l.length uc) l _ HSY.out HRB.out ok
    rw [HA.out] at hcall
    refine hcall.mono ?_
    rintro _ w1 ⟨rfl, hb1⟩
    have HB1 : Hid (Below W.heap.size W w1) := HB0.out.trans (hb1.mono HB0.out.size)
    cases r with
    | false =>
      clear hb1 hcall
      go_wp2_with fail
      go_ret
      exact ⟨by simp, by unfold PutB; rw [if_neg (by simp)]; exact HB1.out⟩
    | true =>
      have z0 : w1.cell? ⟨W.heap.size, 0, none⟩ = some (.int .i64 (m : Int)) := (hb1.cell (p := ⟨W.heap.size, 0, none⟩) HSZ.out.1).trans y0
      have z2 : w1.cell? ⟨cb, 0, none⟩ = some (.slice (some ⟨b, 0, none⟩) n n) := (hb1.cell (p := ⟨cb, 0, none⟩) HSZ.out.2).trans y2
      have hr1 := HRB.out.next hb1
      have z4 := hr1.cell hmn
      have z5 := World.rowIs.frozen hr1 m
      have HR1 : Hid (Rb w1 b n s) := hr1
      clear hb1 hcall hr1
      go_wp2_with fail
      go_ret
      exact ⟨by simp, by unfold PutB; rw [if_pos rfl]; exact ⟨(Fm.of (X := fun k => k = b) HB1.out).trans (Fm.set (X := fun k => k = b) (b := b) (i := m) _ rfl) (fun _ _ e => e), HR1.out.set m true⟩⟩

/-- What is held while made goes on. -/
structure Im (ps : List Pd) (terms : Bool) (n b cb ct : Nat) (s : Nat → Bool) (W : World) : Prop where
  c1 : W.cell? ⟨cb, 0, none⟩ = some (.slice (some ⟨b, 0, none⟩) n n)
  c2 : W.cell? ⟨ct, 0, none⟩ = some (.bool terms)
  lc : cb < W.heap.size
  lct : ct < W.heap.size
  row : Rb W b n s
  sn : SnM ps terms s
  nb : cb ≠ b
  nt : ct ≠ b
theorem Im.next {ps : List Pd} {terms : Bool} {n b cb ct : Nat} {s : Nat → Bool} {W W' : World} (h : Im ps terms n b cb ct s W) (hb : Below W.heap.size W W') : Im ps terms n b cb ct s W' :=
  ⟨(hb.cell (p := ⟨cb, 0, none⟩) h.lc).trans h.c1, (hb.cell (p := ⟨ct, 0, none⟩) h.lct).trans h.c2, Nat.lt_of_lt_of_le h.lc hb.size, Nat.lt_of_lt_of_le h.lct hb.size, h.row.next hb, h.sn, h.nb, h.nt⟩
theorem Im.put {ps : List Pd} {terms : Bool} {n b cb ct : Nat} {s s' : Nat → Bool} {W W' : World} (h : Im ps terms n b cb ct s W) (hf : Fm (fun k => k = b) W W') (hr : Rb W' b n s') (hn : SnM ps terms s') : Im ps terms n b cb ct s' W' :=
  ⟨(hf.cell (p := ⟨cb, 0, none⟩) h.lc h.nb).trans h.c1, (hf.cell (p := ⟨ct, 0, none⟩) h.lct h.nt).trans h.c2, Nat.lt_of_lt_of_le h.lc hf.size, Nat.lt_of_lt_of_le h.lct hf.size, hr, hn, h.nb, h.nt⟩
/-- A right grammar, as far as it is wanted here. -/
structure Rg (t : Int) (n : Nat) (ps : List Pd) : Prop where
  n1 : 1 ≤ n
  n2 : n ≤ 20
  t2 : t ≤ 30
  hd : ∀ q (hq : q < ps.length), ∃ m : Nat, ps[q].1 = (m : Int) ∧ ps[q].1.toNat = m ∧ m < n
  ok : ∀ q (hq : q < ps.length), OkL t n ps[q].2
  t0 : 0 ≤ t
  ln : ps.length ≤ 40
  lb : ∀ q (hq : q < ps.length), ps[q].2.length ≤ 8
theorem rg_of {t : Int} {n : Nat} {ps : List Pd} (h : chk t n ps = 0) : Rg t n ps := by
  obtain ⟨h0, h1, h2⟩ := chk_zero h
  have h3 := okTN_le h0
  refine ⟨by omega, by omega, by omega, fun q hq => ?_, fun q hq => okL_of (chkP_zero (h2 _ (List.getElem_mem hq))).2.2, by omega, h1, fun q hq => (chkP_zero (h2 _ (List.getElem_mem hq))).1⟩
  have h4 := okN_le (chkP_zero (h2 _ (List.getElem_mem hq))).2.1
  exact ⟨ps[q].1.toNat, by omega, rfl, by omega⟩
theorem im_start (ps : List Pd) (terms : Bool) (n : Nat) (w : World) (o1 : Obj) : Im ps terms n (w.heap.size + 1 + 1) (w.heap.size + 1 + 1 + 1) (w.heap.size + 1) (fun _ => false) ((((w.alloc o1).alloc (.cells #[.bool terms] 4)).alloc (.cells (madeCells #[.bool false] n) 4)).alloc (.cells #[.slice (some ⟨w.heap.size + 1 + 1, 0, none⟩) n n] 79)) := by
  have e1 : (w.alloc o1).heap.size = w.heap.size + 1 := by simp
  have e2 : ((w.alloc o1).alloc (.cells #[.bool terms] 4)).heap.size = w.heap.size + 1 + 1 := by simp
  have e3 : (((w.alloc o1).alloc (.cells #[.bool terms] 4)).alloc (.cells (madeCells #[.bool false] n) 4)).heap.size = w.heap.size + 1 + 1 + 1 := by simp
  refine ⟨?_, ?_, by simp, by simp, ?_, snM_zero _ _, by omega, by omega⟩
  · have := cell_new (((w.alloc o1).alloc (.cells #[.bool terms] 4)).alloc (.cells (madeCells #[.bool false] n) 4)) #[.slice (some ⟨w.heap.size + 1 + 1, 0, none⟩) n n] 79 0
    rw [e3] at this; exact this
  · have := cell_new (w.alloc o1) #[.bool terms] 4 0
    rw [e1] at this
    exact ((below_alloc2 _ _ _).cell (p := ⟨w.heap.size + 1, 0, none⟩) (by simp)).trans this
  · have := World.rowIs_made ((w.alloc o1).alloc (.cells #[.bool terms] 4)) (.bool false) n 4
    rw [e2] at this
    exact this.alloc _
theorem arr2 (a b c : Value) : (#[a] ++ #[b, c] : Array Value) = #[a, b, c] := by simp
theorem arr1 (a b : Value) : (#[a] ++ #[b] : Array Value) = #[a, b] := by simp
set_option maxHeartbeats 3200000 in
set_option maxRecDepth 20000 in
theorem made_any (t : Int) (n : Nat) (terms : Bool) (pv : Value) (ps : List Pd) (w : World) (hp : Pds w pv ps) (hg : Rg t n ps) :
    Calls Try.prog 101 #[.agg #[.int .i64 t, .int .i64 (n : Int), pv], .bool terms] w fun e w' => ∃ b, e = .returned (.slice (some ⟨b, 0, none⟩) n n) ∧ w.heap.size ≤ b ∧ Below w.heap.size w w' ∧ ∃ s, Rb w' b n s ∧ Mk ps terms s := by
  have HP : Hid (Pds w pv ps) := hp
  have HG : Hid (Rg t n ps) := hg
  obtain ⟨ao, c, rfl, hm, -⟩ := hp
  have hn1 := hg.n1
  have hn2 := hg.n2
  clear hg
  have he := enters_of Try.func115 (by kernel_rfl) rfl
  have hmk := run_make_row' (P := Try.prog) 79 4 (.bool false) 1 Try.underlying79 info4 rfl .i64 .i64 n (by omega) (by omega)
  go_enter Try.func101, Try.ntmps101
  go_wp2_with fail
  refine (settle_any 115 #[.pointer (some ⟨w.heap.size + 1 + 1 + 1, 0, none⟩), .pointer (some ⟨w.heap.size + 1, 0, none⟩)] he (Im ps terms n (w.heap.size + 1 + 1) (w.heap.size + 1 + 1 + 1) (w.heap.size + 1)) (fun k => k = w.heap.size + 1 + 1) (muB n) (fun p s => amk s terms p.2 = true → s p.1.toNat = true) t n _ ps w _ HP.out ?_ ?_ (fun _ _ _ h hb => h.next hb) ?_ (fun _ => false) (im_start ps terms n w _)).mono ?_
  · exact ((below_alloc2 w _ _).alloc (by simp; omega) _).alloc (by simp; omega) _
  · intro k hk; subst hk; simp; omega
  · intro s W q hq u hI hbV hsy0
    have hsy := hsy0.below hbV
    obtain ⟨m, e1, e2, hm⟩ := HG.out.hd q hq
    rw [arr2, e1]
    refine (clos41_any t n _ _ _ terms s m hm u ps[q].2 (HG.out.ok q hq) W hsy hI.row hI.c1 hI.c2 hI.lc hI.lct).mono ?_
    rintro _ W' ⟨rfl, hP⟩
    refine ⟨_, rfl, ?_⟩
    cases h1 : s m with
    | true =>
      rw [h1] at hP
      exact ⟨s, hI.next hP, Fm.of hP, fun e => (by cases e), fun _ => ⟨rfl, fun _ => by simpa using h1⟩⟩
    | false =>
      cases h2 : amk s terms ps[q].2 with
      | true =>
        rw [h1, h2] at hP
        have := snM_put (List.getElem_mem hq) hI.sn h2
        rw [e2] at this
        exact ⟨upd s m true, hI.put hP.1 hP.2 this, hP.1, fun _ => muB_put hm h1, fun e => (by cases e)⟩
      | false =>
        rw [h1, h2] at hP
        exact ⟨s, hI.next hP, Fm.of hP, fun e => (by cases e), fun _ => ⟨rfl, fun h => by cases h⟩⟩
  · rintro _ w1 ⟨rfl, hF, s, hI, hC⟩
    have z1 := hI.c1
    have HFIN : Hid (Below w.heap.size w w1 ∧ ∃ s, Rb w1 (w.heap.size + 1 + 1) n s ∧ Mk ps terms s) := by
      refine ⟨(((below_alloc2 w _ _).alloc (by simp; omega) _).alloc (by simp; omega) _).trans (hF.below (by simp; omega) fun k hk => by omega), s, hI.row, hC, hI.sn⟩
    clear hI hC hF hmk
    go_wp2_with fail
    go_ret
    exact ⟨_, by simp, by omega, HFIN.out⟩
end Go.Proofs.Ytpfehghicaaghaa
