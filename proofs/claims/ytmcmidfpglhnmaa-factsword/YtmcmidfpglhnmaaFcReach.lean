/-
  The contracts of facts.reachAll, of the closure of facts.reached and of facts.reached.
-/
import Derived.Test.YtmcmidfpglhnmaaFcBegin
namespace Go.Proofs.Ytmcmidfpglhnmaa
open Go.RowKit
open Cg

/-- When q symbols of a production's body are noted. -/
structure RS (ps : List Pd) (n : Nat) (l : List Sy) (R : Nat → Bool) (q : Nat) (r : Bool) (R' : Nat → Bool) : Prop where
  up : ∀ i, R i = true → R' i = true
  yes : r = true → muB n R' < muB n R
  no : r = false → R' = R ∧ ∀ j (hj : j < l.length), j < q → l[j].1 = 2 → R l[j].2.toNat = true
  sn : ∀ p ∈ ps, p.2 = l → R p.1.toNat = true → SnR ps R → SnR ps R'
theorem RS.start (ps : List Pd) (n : Nat) (l : List Sy) (R : Nat → Bool) : RS ps n l R 0 false R :=
  ⟨fun _ h => h, fun e => (by cases e), fun _ => ⟨rfl, fun j _ h => absurd h (Nat.not_lt_zero _)⟩, fun _ _ _ _ h => h⟩
theorem RS.keep {ps : List Pd} {n : Nat} {l : List Sy} {R R' : Nat → Bool} {q : Nat} {r : Bool} (h : RS ps n l R q r R') (hq : q < l.length) (hk : l[q].1 = 2 → R' l[q].2.toNat = true) : RS ps n l R (q + 1) r R' :=
  ⟨h.up, h.yes, fun e => ⟨(h.no e).1, fun j hj h1 h2 => by
    by_cases ej : j = q
    · subst ej; have := hk h2; rw [(h.no e).1] at this; exact this
    · exact (h.no e).2 j hj (by omega) h2⟩, h.sn⟩
theorem RS.put {ps : List Pd} {n : Nat} {l : List Sy} {R R' : Nat → Bool} {q : Nat} {r : Bool} (h : RS ps n l R q r R') (hq : q < l.length) (h2 : l[q].1 = 2) (hm : l[q].2.toNat < n) (h0 : R' l[q].2.toNat = false) : RS ps n l R (q + 1) true (upd R' l[q].2.toNat true) := by
  have hup : ∀ i, R' i = true → upd R' l[q].2.toNat true i = true := fun i hi => by
    unfold upd
    split
    · rfl
    · exact hi
  refine ⟨fun i hi => hup i (h.up i hi), fun _ => ?_, fun e => (by cases e), fun p hp hl hR hs => ?_⟩
  · have h1 := muB_put hm h0
    have h3 := muB_le (n := n) h.up
    omega
  · have h1 := h.sn p hp hl hR hs
    exact snR_put (s := l[q]) hp (by rw [hl]; exact List.getElem_mem hq) h1 (h.up _ hR) h2
def ROut (ps : List Pd) (b n : Nat) (l : List Sy) (R : Nat → Bool) (w : World) (r : Bool) (w' : World) : Prop := ∃ R', Fm (fun k => k = b) w w' ∧ Rb w' b n R' ∧ RS ps n l R l.length r R'
set_option maxHeartbeats 3200000 in
set_option maxRecDepth 20000 in
theorem reachAll_any (ps : List Pd) (t : Int) (n b : Nat) (R : Nat → Bool) (v : Value) (l : List Sy) (W0 w : World) (hv : Syms W0 v l) (hw0 : Below W0.heap.size W0 w) (hb0 : W0.heap.size ≤ b) (hr : Rb w b n R) (ok : OkL t n l) :
    Calls Try.prog 67 #[v, .slice (some ⟨b, 0, none⟩) n n] w fun e w' => ∃ r, e = .returned (.bool r) ∧ ROut ps b n l R w r w' := by
  obtain ⟨bo, bc, rfl, hm, hcs⟩ := hv
  have HRB : Hid (Rb w b n R) := hr
  have HOK : Hid (OkL t n l) := ok
  have HW0 : Hid (Below W0.heap.size W0 w ∧ W0.heap.size ≤ b) := ⟨hw0, hb0⟩
  clear hr ok hw0 hb0
  go_enter Try.func67, Try.ntmps67
  go_wp2_with fail
  go_loopw [5, 10] (fun a i wr => ∃ (q : Nat) (r : Bool), q ≤ l.length ∧ i = .int .i64 (q : Int) ∧ a = .bool r ∧ Hid (∃ R', Fm (fun k => k = b) w wr ∧ Rb wr b n R' ∧ RS ps n l R q r R')) (fun _ i _ => l.length - (intOf i).toNat)
  case atStart => exact ⟨0, false, by omega, rfl, rfl, R, Fm.refl _ _, HRB.out, RS.start _ _ _ _⟩
  case round =>
    obtain ⟨q, r, hq, rfl, rfl, HA⟩ := hrel
    by_cases hlt : q < l.length
    · obtain ⟨b2, o, rfl, hb, hc⟩ := hcs.resolve_left (by intro e; subst e; simp at hlt)
      obtain ⟨c0, c1⟩ := hc q hlt
      obtain ⟨R', hF, hRw, hRS⟩ := HA.out
      have hbw : Below W0.heap.size W0 wr := HW0.out.1.trans (hF.below HW0.out.1.size fun k hk => by have := HW0.out.2; omega)
      obtain ⟨kd, m, e1, e2, e3, hk⟩ := HOK.out.at hlt
      rw [e1] at c0
      rw [e2] at c1
      replace c0 : wr.cell? ⟨b2, o + q * 2, none⟩ = _ := (hbw.cell (p := ⟨b2, o + q * 2, none⟩) hb).trans c0
      replace c1 : wr.cell? ⟨b2, o + q * 2 + 1, none⟩ = _ := (hbw.cell (p := ⟨b2, o + q * 2 + 1, none⟩) hb).trans c1
      have hbA := below_alloc wr (Obj.cells #[.int .i64 kd, .int .i64 (m : Int)] 74)
      have HF1 : Hid (Fm (fun k => k = b) w (wr.alloc (Obj.cells #[.int .i64 kd, .int .i64 (m : Int)] 74))) := hF.trans (Fm.of (X := fun k => k = b) hbA) fun _ _ e => e
      have hR1 := hRw.next hbA
      have HR1 : Hid (Rb (wr.alloc (Obj.cells #[.int .i64 kd, .int .i64 (m : Int)] 74)) b n R') := hR1
      have HK : Hid ((kd = 2 → R' m = true) → RS ps n l R (q + 1) r R') := fun h => hRS.keep hlt fun h2 => by rw [e3]; exact h (e1.symm.trans h2)
      have HP : Hid (kd = 2 → m < n → R' m = false → RS ps n l R (q + 1) true (upd R' m true)) := fun h1 h2 h3 => by
        have := hRS.put hlt (e1.trans h1) (by rw [e3]; exact h2) (by rw [e3]; exact h3)
        rw [e3] at this; exact this
      have hk1 : (q : Int) < (l.length : Int) := by omega
      clear hF hRw hRS hbw hc hcs e1 e2 e3 HA hbA
      rcases hk with ⟨rfl, hk⟩ | ⟨rfl, hk⟩
      · go_wp2_with fail
        go_roundw
        case rel => exact ⟨q + 1, r, by omega, by go_num, rfl, R', HF1.out, HR1.out, HK.out fun e => by omega⟩
        case measure => simp [intOf]; omega
      · have d0 := hR1.cell hk
        have d1 := World.rowIs.frozen hR1 m
        have hk2 : (m : Int) < (n : Int) := by omega
        obtain ⟨im, HIM⟩ : ∃ im, Hid (R' m = im) := ⟨_, (rfl : R' m = R' m)⟩
        rw [HIM.out] at d0
        clear hR1
        cases im with
        | true =>
          go_wp2_with fail
          go_roundw
          case rel => exact ⟨q + 1, r, by omega, by go_num, rfl, R', HF1.out, HR1.out, HK.out fun _ => HIM.out⟩
          case measure => simp [intOf]; omega
        | false =>
          go_wp2_with fail
          go_roundw
          case rel => exact ⟨q + 1, true, by omega, by go_num, rfl, upd R' m true, HF1.out.trans (Fm.set (X := fun k => k = b) (b := b) (i := m) _ rfl) (fun _ _ e => e), HR1.out.set m true, HP.out rfl hk HIM.out⟩
          case measure => simp [intOf]; omega
    · obtain rfl : q = l.length := by omega
      go_wp2_with fail
      go_ret
      exact ⟨r, by simp, HA.out⟩
set_option maxHeartbeats 3200000 in
set_option maxRecDepth 20000 in
theorem clos37_any (ps : List Pd) (t : Int) (n b cb : Nat) (R : Nat → Bool) (m : Nat) (hmn : m < n) (u : Value) (l : List Sy) (ok : OkL t n l) (W0 W : World) (hs : Syms W0 u l) (hw0 : Below W0.heap.size W0 W) (hb0 : W0.heap.size ≤ b) (hr : Rb W b n R)
    (hc : W.cell? ⟨cb, 0, none⟩ = some (.slice (some ⟨b, 0, none⟩) n n)) (hcl : cb < W.heap.size) :
    Calls Try.prog 66 #[.agg #[.int .i64 (m : Int), u], .pointer (some ⟨cb, 0, none⟩)] W fun e W' => ∃ r, e = .returned (.bool r) ∧ ((R m = false ∧ r = false ∧ Below W.heap.size W W') ∨ (R m = true ∧ ROut ps b n l R W r W')) := by
  have hs' := hs
  obtain ⟨uo, uc, rfl, hul, -⟩ := hs
  have g0 := cell_new W #[.int .i64 (m : Int), .slice uo l.length uc] 77
  have hbA := below_alloc W (Obj.cells #[.int .i64 (m : Int), .slice uo l.length uc] 77)
  have y0 := g0 0
  have y1 := g0 1
  have y2 := (hbA.cell (p := ⟨cb, 0, none⟩) hcl).trans hc
  have y4 := (hr.next hbA).cell hmn
  have hmn2 : (m : Int) < (n : Int) := by omega
  have hcall := reachAll_any ps t n b R (.slice uo l.length uc) l W0 _ hs' (hw0.trans (hbA.mono hw0.size)) hb0 (hr.next hbA) ok
  have HBA : Hid (Below W.heap.size W (W.alloc (Obj.cells #[.int .i64 (m : Int), .slice uo l.length uc] 77))) := hbA
  clear g0 hbA hr hs' hc hcl hw0
  simp only [List.getElem?_toArray, List.getElem?_cons_zero, List.getElem?_cons_succ] at y0 y1
  by_cases hsm : R m = true
  · rw [hsm] at y4
    have HSM : Hid (R m = true) := hsm
    clear hsm
    go_enter Try.func66, Try.ntmps66
    go_wp2_with fail
    refine hcall.mono ?_
    rintro _ w1 ⟨r, rfl, hro⟩
    have HRO : Hid (ROut ps b n l R W r w1) := by
      obtain ⟨R', h1, h2, h3⟩ := hro
      exact ⟨R', (Fm.of (X := fun k => k = b) HBA.out).trans h1 (fun _ _ e => e), h2, h3⟩
    clear hro hcall
    go_wp2_with fail
    go_ret
    exact ⟨r, by simp, Or.inr ⟨HSM.out, HRO.out⟩⟩
  · have hsm2 : R m = false := by simpa using hsm
    rw [hsm2] at y4
    have HSM : Hid (R m = false) := hsm2
    clear hsm hsm2 hcall
    go_enter Try.func66, Try.ntmps66
    go_wp2_with fail
    go_ret
    exact ⟨false, by simp, Or.inl ⟨HSM.out, rfl, HBA.out⟩⟩
/-- What is held while reached goes on. -/
structure Ir (ps : List Pd) (n b cb : Nat) (R : Nat → Bool) (W : World) : Prop where
  c : W.rowIs cb 40 1 (fun _ => .slice (some ⟨b, 0, none⟩) n n)
  row : Rb W b n R
  sn : SnR ps R
  z : R 0 = true
theorem Ir.next {ps : List Pd} {n b cb : Nat} {R : Nat → Bool} {W W' : World} (h : Ir ps n b cb R W) (hb : Below W.heap.size W W') : Ir ps n b cb R W' :=
  ⟨h.c.of_block (hb.block _ h.c.lt), h.row.next hb, h.sn, h.z⟩
theorem Ir.put {ps : List Pd} {n b cb : Nat} {R R' : Nat → Bool} {W W' : World} (h : Ir ps n b cb R W) (hf : Fm (fun k => k = b) W W') (hr : Rb W' b n R') (hn : SnR ps R') (hz : R' 0 = true) : Ir ps n b cb R' W' :=
  ⟨h.c.of_block (hf.block _ h.c.lt (row_ne h.c h.row (by decide))), hr, hn, hz⟩
theorem row_made0 (w : World) (z v : Value) (n : Nat) (t : TypeId) : (w.alloc (.cells ((madeCells #[z] n).setIfInBounds 0 v) t)).rowIs w.heap.size t n (fun i => if i = 0 then v else z) := by
  obtain ⟨c, h1, h2, h3⟩ := World.rowIs_made w z n t
  have e : c = madeCells #[z] n := by
    have := heap_alloc_new w (Obj.cells (madeCells #[z] n) t)
    rw [this] at h1
    injection h1 with h4
    injection h4 with h5
    exact h5.symm
  subst e
  refine ⟨_, heap_alloc_new w _, by simp [h2], fun i hi => ?_⟩
  by_cases e : i = 0
  · subst e; show _ = some (if 0 = 0 then v else z); rw [if_pos rfl, Array.getElem?_setIfInBounds_self_of_lt (by omega)]
  · show _ = some (if i = 0 then v else z); rw [if_neg e, Array.getElem?_setIfInBounds_ne (by omega)]; exact h3 i hi
theorem row_one (w : World) (v : Value) (t : TypeId) : (w.alloc (.cells #[v] t)).rowIs w.heap.size t 1 (fun _ => v) :=
  World.rowIs_alloc w _ t _ fun i hi => by
    have : i = 0 := by simp at hi; omega
    subst this; rfl
set_option maxHeartbeats 3200000 in
set_option maxRecDepth 20000 in
theorem reached_any (t : Int) (n : Nat) (pv : Value) (ps : List Pd) (w : World) (hp : Pds w pv ps) (hg : Rg t n ps) :
    Calls Try.prog 41 #[.agg #[.int .i64 t, .int .i64 (n : Int), pv]] w fun e w' => ∃ b, e = .returned (.slice (some ⟨b, 0, none⟩) n n) ∧ w.heap.size ≤ b ∧ Below w.heap.size w w' ∧ ∃ R, Rb w' b n R ∧ Re ps R := by
  have HP : Hid (Pds w pv ps) := hp
  have HG : Hid (Rg t n ps) := hg
  obtain ⟨ao, c, rfl, hm, -⟩ := hp
  have hn1 := hg.n1
  have hn2 := hg.n2
  have hn3 : (0 : Int) < (n : Int) := by omega
  clear hg
  have he := enters_of Try.func66 (by kernel_rfl) rfl
  have hmk := run_make_row' (P := Try.prog) 40 4 (.bool false) 1 Try.underlying40 info4 rfl .i64 .i64 n (by omega) (by omega)
  have e1 : (w.alloc (Obj.cells #[.int .i64 t, .int .i64 (n : Int), .slice ao ps.length c] 24)).heap.size = w.heap.size + 1 := by simp
  have e2 : ((w.alloc (Obj.cells #[.int .i64 t, .int .i64 (n : Int), .slice ao ps.length c] 24)).alloc (.cells (madeCells #[.bool false] n) 4)).heap.size = w.heap.size + 1 + 1 := by simp
  have hrow := World.rowIs_made (w.alloc (Obj.cells #[.int .i64 t, .int .i64 (n : Int), .slice ao ps.length c] 24)) (.bool false) n 4
  have hbox := row_one ((w.alloc (Obj.cells #[.int .i64 t, .int .i64 (n : Int), .slice ao ps.length c] 24)).alloc (.cells (madeCells #[.bool false] n) 4)) (.slice (some ⟨w.heap.size + 1, 0, none⟩) n n) 40
  rw [e1] at hrow
  rw [e2] at hbox
  replace hrow := hrow.alloc (.cells #[.slice (some ⟨w.heap.size + 1, 0, none⟩) n n] 40)
  have y0 := hrow.cell (i := 0) (by omega)
  have y1 := hrow.frozen 0
  clear hrow hbox e1 e2
  go_enter Try.func41, Try.ntmps41
  go_wp2_with fail
  obtain ⟨wc, HWC⟩ : ∃ wc, Hid (((w.alloc (Obj.cells #[.int .i64 t, .int .i64 (n : Int), .slice ao ps.length c] 24)).alloc (.cells ((madeCells #[.bool false] n).setIfInBounds 0 (.bool true)) 4)).alloc (.cells #[.slice (some ⟨w.heap.size + 1, 0, none⟩) n n] 40) = wc) := ⟨_, (rfl : _ = _)⟩
  have HI0 : Hid (Ir ps n (w.heap.size + 1) (w.heap.size + 1 + 1) (upd (fun _ => false) 0 true) wc) := by
    have e1 : (w.alloc (Obj.cells #[.int .i64 t, .int .i64 (n : Int), .slice ao ps.length c] 24)).heap.size = w.heap.size + 1 := by simp
    have e2 : ((w.alloc (Obj.cells #[.int .i64 t, .int .i64 (n : Int), .slice ao ps.length c] 24)).alloc (.cells ((madeCells #[.bool false] n).setIfInBounds 0 (.bool true)) 4)).heap.size = w.heap.size + 1 + 1 := by simp
    have h1 := (row_made0 (w.alloc (Obj.cells #[.int .i64 t, .int .i64 (n : Int), .slice ao ps.length c] 24)) (.bool false) (.bool true) n 4).alloc (.cells #[.slice (some ⟨w.heap.size + 1, 0, none⟩) n n] 40)
    have h2 := row_one ((w.alloc (Obj.cells #[.int .i64 t, .int .i64 (n : Int), .slice ao ps.length c] 24)).alloc (.cells ((madeCells #[.bool false] n).setIfInBounds 0 (.bool true)) 4)) (.slice (some ⟨w.heap.size + 1, 0, none⟩) n n) 40
    rw [e1, HWC.out] at h1
    rw [e2, HWC.out] at h2
    exact ⟨h2, h1.congr (fun i _ => by unfold upd; split <;> rfl), snR_start ps, rfl⟩
  have HBW : Hid (Below w.heap.size w wc) := by
    show Below _ _ _
    rw [← HWC.out]
    exact (below_alloc2 w _ _).alloc (by simp; omega) _
  rw [HWC.out]
  refine (settle_any 66 #[.pointer (some ⟨w.heap.size + 1 + 1, 0, none⟩)] he (Ir ps n (w.heap.size + 1) (w.heap.size + 1 + 1)) (fun k => k = w.heap.size + 1) (muB n) (fun p R => R p.1.toNat = true → ∀ s ∈ p.2, s.1 = 2 → R s.2.toNat = true) t n _ ps w wc HP.out HBW.out ?_ (fun _ _ _ h hb => h.next hb) ?_ _ HI0.out).mono ?_
  · intro k hk; subst hk; exact ⟨by omega, HI0.out.row.lt⟩
  · intro R V q hq u hI hbV hsy
    obtain ⟨m, e1, e2, hm⟩ := HG.out.hd q hq
    rw [arr1, e1]
    refine (clos37_any ps t n _ _ R m hm u ps[q].2 (HG.out.ok q hq) w V hsy hbV (by omega) hI.row (hI.c.cell (i := 0) (by omega)) hI.c.lt).mono ?_
    rintro _ W' ⟨r, rfl, ⟨h1, rfl, h2⟩ | ⟨h1, R', h2, h3, h4⟩⟩
    · exact ⟨false, rfl, R, hI.next h2, Fm.of h2, fun e => (by cases e), fun _ => ⟨rfl, fun h => by simp [h1] at h⟩⟩
    · refine ⟨r, rfl, R', hI.put h2 h3 (h4.sn ps[q] (List.getElem_mem hq) rfl (by rw [e2]; exact h1) hI.sn) (h4.up 0 hI.z), h2, h4.yes, fun e => ⟨(h4.no e).1, fun _ s hs h5 => ?_⟩⟩
      obtain ⟨j, hj, rfl⟩ := List.getElem_of_mem hs
      exact (h4.no e).2 j hj hj h5
  · rintro _ w1 ⟨rfl, hF, R, hI, hC⟩
    have z1 := hI.c.cell (i := 0) (by omega)
    have HFIN : Hid (Below w.heap.size w w1 ∧ ∃ R, Rb w1 (w.heap.size + 1) n R ∧ Re ps R) :=
      ⟨HBW.out.trans (hF.below HBW.out.size fun k hk => by omega), R, hI.row, ⟨hI.z, fun p hp => hC p hp⟩, hI.sn⟩
    clear hI hC hF hmk
    go_wp2_with fail
    go_ret
    exact ⟨_, by simp, by omega, HFIN.out⟩
end Go.Proofs.Ytmcmidfpglhnmaa
