/-
  The contracts of facts.reachAll, of the closure of facts.reached and of facts.reached. The contracts of the closure of facts.followers and of facts.followers. The contracts of items.whole and bodyOf. The contracts of items.bodyOf, of a production and of the WHOLE. The contract of items.ahead.
-/
import Derived.Test.YtpbnnmfjahckmaaFcBegin
import Derived.Test.YtpbnnmfjahckmaaGrB
import Derived.Test.YtpbnnmfjahckmaaGrA
import Derived.Great.BuildSlice
namespace Go.Proofs.Ytpbnnmfjahckmaa
open Go.RowKit
open Cg

/-- When q symbols of a production's body are noted. -/
structure RS (ps : List Pd) (n : Nat) (l : List Sy) (R : Nat → Bool) (q : Nat) (r : Bool) (R' : Nat → Bool) : Prop where
  up : ∀ i, R i = true → R' i = true
  yes : r = true → muB n R' < muB n R
  no : r = false → R' = R ∧ ∀ j (hj : j < l.length), j < q → l[j].1 = 2 → R l[j].2.toNat = true
  sn : ∀ p ∈ ps, p.2 = l → R p.1.toNat = true → SnR ps R → SnR ps R'
theorem RS.start (ps : List Pd) (n : Nat) (l : List Sy) (R : Nat → Bool) : RS ps n l R 0 false R :=
  ⟨fun _ h => h, fun e => (by cases e), fun _ => ⟨rfl, fun j _ h => absurd h (Nat.not_lt_zero _)⟩, fun _ _ _ _ h => h⟩
theorem RS.keep {ps : List Pd} {n : Nat} {l : List Sy} {R R' : Nat → Bool} {q : Nat} {r : Bool} (h : RS ps n l R q r R') (hq : q < l.length) (hk : l[q].1 = 2 → R' l[q].2.toNat = true) : RS ps n l R (q + 1) r R' :=
  ⟨h.up, h.yes, fun e => ⟨(h.no e).1, fun j hj h1 h2 => by
    by_cases ej : j = q
    · subst ej; have := hk h2; rw [(h.no e).1] at this; exact this
    · exact (h.no e).2 j hj (by omega) h2⟩, h.sn⟩
theorem RS.put {ps : List Pd} {n : Nat} {l : List Sy} {R R' : Nat → Bool} {q : Nat} {r : Bool} (h : RS ps n l R q r R') (hq : q < l.length) (h2 : l[q].1 = 2) (hm : l[q].2.toNat < n) (h0 : R' l[q].2.toNat = false) : RS ps n l R (q + 1) true (upd R' l[q].2.toNat true) := by
  have hup : ∀ i, R' i = true → upd R' l[q].2.toNat true i = true := fun i hi => by
    unfold upd
    split
    · rfl
    · exact hi
  refine ⟨fun i hi => hup i (h.up i hi), fun _ => ?_, fun e => (by cases e), fun p hp hl hR hs => ?_⟩
  · have h1 := muB_put hm h0
    have h3 := muB_le (n := n) h.up
    omega
  · have h1 := h.sn p hp hl hR hs
    exact snR_put (s := l[q]) hp (by rw [hl]; exact List.getElem_mem hq) h1 (h.up _ hR) h2
def ROut (ps : List Pd) (b n : Nat) (l : List Sy) (R : Nat → Bool) (w : World) (r : Bool) (w' : World) : Prop := ∃ R', Fm (fun k => k = b) w w' ∧ Rb w' b n R' ∧ RS ps n l R l.length r R'
set_option maxHeartbeats 3200000 in
set_option maxRecDepth 20000 in
theorem reachAll_any (ps : List Pd) (t : Int) (n b : Nat) (R : Nat → Bool) (v : Value) (l : List Sy) (W0 w : World) (hv : Syms W0 v l) (hw0 : Below W0.heap.size W0 w) (hb0 : W0.heap.size ≤ b) (hr : Rb w b n R) (ok : OkL t n l) :
    Calls Try.prog 67 #[v, .slice (some ⟨b, 0, none⟩) n n] w fun e w' => ∃ r, e = .returned (.bool r) ∧ ROut ps b n l R w r w' := by
  obtain ⟨bo, bc, rfl, hm, hcs⟩ := hv
  have HRB : Hid (Rb w b n R) := hr
  have HOK : Hid (OkL t n l) := ok
  have HW0 : Hid (Below W0.heap.size W0 w ∧ W0.heap.size ≤ b) := ⟨hw0, hb0⟩
  clear hr ok hw0 hb0
  go_enter Try.func67, Try.ntmps67
  go_wp2_with fail
  go_loopw [5, 10] (fun a i wr => ∃ (q : Nat) (r : Bool), q ≤ l.length ∧ i = .int .i64 (q : Int) ∧ a = .bool r ∧ Hid (∃ R', Fm (fun k => k = b) w wr ∧ Rb wr b n R' ∧ RS ps n l R q r R')) (fun _ i _ => l.length - (intOf i).toNat)
  case atStart => exact ⟨0, false, by omega, rfl, rfl, R, Fm.refl _ _, HRB.out, RS.start _ _ _ _⟩
  case round =>
    obtain ⟨q, r, hq, rfl, rfl, HA⟩ := hrel
    by_cases hlt : q < l.length
    · obtain ⟨b2, o, rfl, hb, hc⟩ := hcs.resolve_left (by intro e; subst e; simp at hlt)
      obtain ⟨c0, c1⟩ := hc q hlt
      obtain ⟨R', hF, hRw, hRS⟩ := HA.out
      have hbw : Below W0.heap.size W0 wr := HW0.out.1.trans (hF.below HW0.out.1.size fun k hk => by have := HW0.out.2; omega)
      obtain ⟨kd, m, e1, e2, e3, hk⟩ := HOK.out.at hlt
      rw [e1] at c0
      rw [e2] at c1
      replace c0 : wr.cell? ⟨b2, o + q * 2, none⟩ = _ := (hbw.cell (p := ⟨b2, o + q * 2, none⟩) hb).trans c0
      replace c1 : wr.cell? ⟨b2, o + q * 2 + 1, none⟩ = _ := (hbw.cell (p := ⟨b2, o + q * 2 + 1, none⟩) hb).trans c1
      have hbA := below_alloc wr (Obj.cells #[.int .i64 kd, .int .i64 (m : Int)] 80)
      have HF1 : Hid (Fm (fun k => k = b) w (wr.alloc (Obj.cells #[.int .i64 kd, .int .i64 (m : Int)] 80))) := hF.trans (Fm.of (X := fun k => k = b) hbA) fun _ _ e => e
      have hR1 := hRw.next hbA
      have HR1 : Hid (Rb (wr.alloc (Obj.cells #[.int .i64 kd, .int .i64 (m : Int)] 80)) b n R') := hR1
      have HK : Hid ((kd = 2 → R' m = true) → RS ps n l R (q + 1) r R') := fun h => hRS.keep hlt fun h2 => by rw [e3]; exact h (e1.symm.trans h2)
      have HP : Hid (kd = 2 → m < n → R' m = false → RS ps n l R (q + 1) true (upd R' m true)) := fun h1 h2 h3 => by
        have := hRS.put hlt (e1.trans h1) (by rw [e3]; exact h2) (by rw [e3]; exact h3)
        rw [e3] at this; exact this
      have hk1 : (q : Int) < (l.length : Int) := by omega
      clear hF hRw hRS hbw hc hcs e1 e2 e3 HA hbA
      rcases hk with ⟨rfl, hk⟩ | ⟨rfl, hk⟩
      · go_wp2_with fail
        go_roundw
        case rel => exact ⟨q + 1, r, by omega, by go_num, rfl, R', HF1.out, HR1.out, HK.out fun e => by omega⟩
        case measure => simp [intOf]; omega
      · have d0 := hR1.cell hk
        have d1 := World.rowIs.frozen hR1 m
        have hk2 : (m : Int) < (n : Int) := by omega
        obtain ⟨im, HIM⟩ : ∃ im, Hid (R' m = im) := ⟨_, (rfl : R' m = R' m)⟩
        rw [HIM.out] at d0
        clear hR1
        cases im with
        | true =>
          go_wp2_with fail
          go_roundw
          case rel => exact ⟨q + 1, r, by omega, by go_num, rfl, R', HF1.out, HR1.out, HK.out fun _ => HIM.out⟩
          case measure => simp [intOf]; omega
        | false =>
          go_wp2_with fail
          go_roundw
          case rel => exact ⟨q + 1, true, by omega, by go_num, rfl, upd R' m true, HF1.out.trans (Fm.set (X := fun k => k = b) (b := b) (i := m) _ rfl) (fun _ _ e => e), HR1.out.set m true, HP.out rfl hk HIM.out⟩
          case measure => simp [intOf]; omega
    · obtain rfl : q = l.length := by omega
      go_wp2_with fail
      go_ret
      exact ⟨r, by simp, HA.out⟩
set_option maxHeartbeats 3200000 in
set_option maxRecDepth 20000 in
theorem clos37_any (ps : List Pd) (t : Int) (n b cb : Nat) (R : Nat → Bool) (m : Nat) (hmn : m < n) (u : Value) (l : List Sy) (ok : OkL t n l) (W0 W : World) (hs : Syms W0 u l) (hw0 : Below W0.heap.size W0 W) (hb0 : W0.heap.size ≤ b) (hr : Rb W b n R)
    (hc : W.cell? ⟨cb, 0, none⟩ = some (.slice (some ⟨b, 0, none⟩) n n)) (hcl : cb < W.heap.size) :
    Calls Try.prog 66 #[.agg #[.int .i64 (m : Int), u], .pointer (some ⟨cb, 0, none⟩)] W fun e W' => ∃ r, e = .returned (.bool r) ∧ ((R m = false ∧ r = false ∧ Below W.heap.size W W') ∨ (R m = true ∧ ROut ps b n l R W r W')) := by
  have hs' := hs
  obtain ⟨uo, uc, rfl, hul, -⟩ := hs
  have g0 := cell_new W #[.int .i64 (m : Int), .slice uo l.length uc] 79
  have hbA := below_alloc W (Obj.cells #[.int .i64 (m : Int), .slice uo l.length uc] 79)
  have y0 := g0 0
  have y1 := g0 1
  have y2 := (hbA.cell (p := ⟨cb, 0, none⟩) hcl).trans hc
  have y4 := (hr.next hbA).cell hmn
  have hmn2 : (m : Int) < (n : Int) := by omega
  have hcall := reachAll_any ps t n b R (.slice uo l.length uc) l W0 _ hs' (hw0.trans (hbA.mono hw0.size)) hb0 (hr.next hbA) ok
  have HBA : Hid (Below W.heap.size W (W.alloc (Obj.cells #[.int .i64 (m : Int), .slice uo l.length uc] 79))) := hbA
  clear g0 hbA hr hs' hc hcl hw0
  simp only [List.getElem?_toArray, List.getElem?_cons_zero, List.getElem?_cons_succ] at y0 y1
  by_cases hsm : R m = true
  · rw [hsm] at y4
    have HSM : Hid (R m = true) := hsm
    clear hsm
    go_enter Try.func66, Try.ntmps66
    go_wp2_with fail
    refine hcall.mono ?_
    rintro _ w1 ⟨r, rfl, hro⟩
    have HRO : Hid (ROut ps b n l R W r w1) := by
      obtain ⟨R', h1, h2, h3⟩ := hro
      exact ⟨R', (Fm.of (X := fun k => k = b) HBA.out).trans h1 (fun _ _ e => e), h2, h3⟩
    clear hro hcall
    go_wp2_with fail
    go_ret
    exact ⟨r, by simp, Or.inr ⟨HSM.out, HRO.out⟩⟩
  · have hsm2 : R m = false := by simpa using hsm
    rw [hsm2] at y4
    have HSM : Hid (R m = false) := hsm2
    clear hsm hsm2 hcall
    go_enter Try.func66, Try.ntmps66
    go_wp2_with fail
    go_ret
    exact ⟨false, by simp, Or.inl ⟨HSM.out, rfl, HBA.out⟩⟩
/-- What is held while reached goes on. -/
structure Ir (ps : List Pd) (n b cb : Nat) (R : Nat → Bool) (W : World) : Prop where
  c : W.rowIs cb 49 1 (fun _ => .slice (some ⟨b, 0, none⟩) n n)
  row : Rb W b n R
  sn : SnR ps R
  z : R 0 = true
theorem Ir.next {ps : List Pd} {n b cb : Nat} {R : Nat → Bool} {W W' : World} (h : Ir ps n b cb R W) (hb : Below W.heap.size W W') : Ir ps n b cb R W' :=
  ⟨h.c.of_block (hb.block _ h.c.lt), h.row.next hb, h.sn, h.z⟩
theorem Ir.put {ps : List Pd} {n b cb : Nat} {R R' : Nat → Bool} {W W' : World} (h : Ir ps n b cb R W) (hf : Fm (fun k => k = b) W W') (hr : Rb W' b n R') (hn : SnR ps R') (hz : R' 0 = true) : Ir ps n b cb R' W' :=
  ⟨h.c.of_block (hf.block _ h.c.lt (row_ne h.c h.row (by decide))), hr, hn, hz⟩
theorem row_made0 (w : World) (z v : Value) (n : Nat) (t : TypeId) : (w.alloc (.cells ((madeCells #[z] n).setIfInBounds 0 v) t)).rowIs w.heap.size t n (fun i => if i = 0 then v else z) := by
  obtain ⟨c, h1, h2, h3⟩ := World.rowIs_made w z n t
  have e : c = madeCells #[z] n := by
    have := heap_alloc_new w (Obj.cells (madeCells #[z] n) t)
    rw [this] at h1
    injection h1 with h4
    injection h4 with h5
    exact h5.symm
  subst e
  refine ⟨_, heap_alloc_new w _, by simp [h2], fun i hi => ?_⟩
  by_cases e : i = 0
  · subst e; show _ = some (if 0 = 0 then v else z); rw [if_pos rfl, Array.getElem?_setIfInBounds_self_of_lt (by omega)]
  · show _ = some (if i = 0 then v else z); rw [if_neg e, Array.getElem?_setIfInBounds_ne (by omega)]; exact h3 i hi
theorem row_one (w : World) (v : Value) (t : TypeId) : (w.alloc (.cells #[v] t)).rowIs w.heap.size t 1 (fun _ => v) :=
  World.rowIs_alloc w _ t _ fun i hi => by
    have : i = 0 := by simp at hi; omega
    subst this; rfl
set_option maxHeartbeats 3200000 in
set_option maxRecDepth 20000 in
theorem reached_any (t : Int) (n : Nat) (pv : Value) (ps : List Pd) (w : World) (hp : Pds w pv ps) (hg : Rg t n ps) :
    Calls Try.prog 41 #[.agg #[.int .i64 t, .int .i64 (n : Int), pv]] w fun e w' => ∃ b, e = .returned (.slice (some ⟨b, 0, none⟩) n n) ∧ w.heap.size ≤ b ∧ Below w.heap.size w w' ∧ ∃ R, Rb w' b n R ∧ Re ps R := by
  have HP : Hid (Pds w pv ps) := hp
  have HG : Hid (Rg t n ps) := hg
  obtain ⟨ao, c, rfl, hm, -⟩ := hp
  have hn1 := hg.n1
  have hn2 := hg.n2
  have hn3 : (0 : Int) < (n : Int) := by omega
  clear hg
  have he := enters_of Try.func66 (by kernel_rfl) rfl
  have hmk := run_make_row' (P := Try.prog) 49 4 (.bool false) 1 Try.underlying49 info4 rfl .i64 .i64 n (by omega) (by omega)
  have e1 : (w.alloc (Obj.cells #[.int .i64 t, .int .i64 (n : Int), .slice ao ps.length c] 24)).heap.size = w.heap.size + 1 := by simp
  have e2 : ((w.alloc (Obj.cells #[.int .i64 t, .int .i64 (n : Int), .slice ao ps.length c] 24)).alloc (.cells (madeCells #[.bool false] n) 4)).heap.size = w.heap.size + 1 + 1 := by simp
  have hrow := World.rowIs_made (w.alloc (Obj.cells #[.int .i64 t, .int .i64 (n : Int), .slice ao ps.length c] 24)) (.bool false) n 4
  have hbox := row_one ((w.alloc (Obj.cells #[.int .i64 t, .int .i64 (n : Int), .slice ao ps.length c] 24)).alloc (.cells (madeCells #[.bool false] n) 4)) (.slice (some ⟨w.heap.size + 1, 0, none⟩) n n) 49
  rw [e1] at hrow
  rw [e2] at hbox
  replace hrow := hrow.alloc (.cells #[.slice (some ⟨w.heap.size + 1, 0, none⟩) n n] 49)
  have y0 := hrow.cell (i := 0) (by omega)
  have y1 := hrow.frozen 0
  clear hrow hbox e1 e2
  go_enter Try.func41, Try.ntmps41
  go_wp2_with fail
  obtain ⟨wc, HWC⟩ : ∃ wc, Hid (((w.alloc (Obj.cells #[.int .i64 t, .int .i64 (n : Int), .slice ao ps.length c] 24)).alloc (.cells ((madeCells #[.bool false] n).setIfInBounds 0 (.bool true)) 4)).alloc (.cells #[.slice (some ⟨w.heap.size + 1, 0, none⟩) n n] 49) = wc) := ⟨_, (rfl : _ = _)⟩
  have HI0 : Hid (Ir ps n (w.heap.size + 1) (w.heap.size + 1 + 1) (upd (fun _ => false) 0 true) wc) := by
    have e1 : (w.alloc (Obj.cells #[.int .i64 t, .int .i64 (n : Int), .slice ao ps.length c] 24)).heap.size = w.heap.size + 1 := by simp
    have e2 : ((w.alloc (Obj.cells #[.int .i64 t, .int .i64 (n : Int), .slice ao ps.length c] 24)).alloc (.cells ((madeCells #[.bool false] n).setIfInBounds 0 (.bool true)) 4)).heap.size = w.heap.size + 1 + 1 := by simp
    have h1 := (row_made0 (w.alloc (Obj.cells #[.int .i64 t, .int .i64 (n : Int), .slice ao ps.length c] 24)) (.bool false) (.bool true) n 4).alloc (.cells #[.slice (some ⟨w.heap.size + 1, 0, none⟩) n n] 49)
    have h2 := row_one ((w.alloc (Obj.cells #[.int .i64 t, .int .i64 (n : Int), .slice ao ps.length c] 24)).alloc (.cells ((madeCells #[.bool false] n).setIfInBounds 0 (.bool true)) 4)) (.slice (some ⟨w.heap.size + 1, 0, none⟩) n n) 49
    rw [e1, HWC.out] at h1
    rw [e2, HWC.out] at h2
    exact ⟨h2, h1.congr (fun i _ => by unfold upd; split <;> rfl), snR_start ps, rfl⟩
  have HBW : Hid (Below w.heap.size w wc) := by
    show Below _ _ _
    rw [← HWC.out]
    exact (below_alloc2 w _ _).alloc (by simp; omega) _
  rw [HWC.out]
  refine (settle_any 66 #[.pointer (some ⟨w.heap.size + 1 + 1, 0, none⟩)] he (Ir ps n (w.heap.size + 1) (w.heap.size + 1 + 1)) (fun k => k = w.heap.size + 1) (muB n) (fun p R => R p.1.toNat = true → ∀ s ∈ p.2, s.1 = 2 → R s.2.toNat = true) t n _ ps w wc HP.out HBW.out ?_ (fun _ _ _ h hb => h.next hb) ?_ _ HI0.out).mono ?_
  · intro k hk; subst hk; exact ⟨by omega, HI0.out.row.lt⟩
  · intro R V q hq u hI hbV hsy
    obtain ⟨m, e1, e2, hm⟩ := HG.out.hd q hq
    rw [arr1, e1]
    refine (clos37_any ps t n _ _ R m hm u ps[q].2 (HG.out.ok q hq) w V hsy hbV (by omega) hI.row (hI.c.cell (i := 0) (by omega)) hI.c.lt).mono ?_
    rintro _ W' ⟨r, rfl, ⟨h1, rfl, h2⟩ | ⟨h1, R', h2, h3, h4⟩⟩
    · exact ⟨false, rfl, R, hI.next h2, Fm.of h2, fun e => (by cases e), fun _ => ⟨rfl, fun h => by simp [h1] at h⟩⟩
    · refine ⟨r, rfl, R', hI.put h2 h3 (h4.sn ps[q] (List.getElem_mem hq) rfl (by rw [e2]; exact h1) hI.sn) (h4.up 0 hI.z), h2, h4.yes, fun e => ⟨(h4.no e).1, fun _ s hs h5 => ?_⟩⟩
      obtain ⟨j, hj, rfl⟩ := List.getElem_of_mem hs
      exact (h4.no e).2 j hj hj h5
  · rintro _ w1 ⟨rfl, hF, R, hI, hC⟩
    have z1 := hI.c.cell (i := 0) (by omega)
    have HFIN : Hid (Below w.heap.size w w1 ∧ ∃ R, Rb w1 (w.heap.size + 1) n R ∧ Re ps R) :=
      ⟨HBW.out.trans (hF.below HBW.out.size fun k hk => by omega), R, hI.row, ⟨hI.z, fun p hp => hC p hp⟩, hI.sn⟩
    clear hI hC hF hmk
    go_wp2_with fail
    go_ret
    exact ⟨_, by simp, by omega, HFIN.out⟩
end Go.Proofs.Ytpbnnmfjahckmaa

namespace Go.Proofs.Ytpbnnmfjahckmaa
open Go.RowKit
open Cg

/-- When q symbols of a production's body are looked at. -/
structure FS (ps : List Pd) (n : Nat) (E : Nat → Bool) (F : Nat → Wd) (l : List Sy) (h : Nat) (V : Nat → Wd) (q : Nat) (r : Bool) (V' : Nat → Wd) : Prop where
  up : ∀ i, le (V i) (V' i)
  yes : r = true → muW n V' < muW n V
  no : r = false → V' = V ∧ ∀ j (hj : j < l.length), j < q → l[j].1 = 2 → le (bg E F (l.drop (j + 1)) (V h)) (V l[j].2.toNat)
  sn : ∀ p ∈ ps, p.2 = l → p.1.toNat = h → SnW ps E F V → SnW ps E F V'
variable {ps : List Pd} {n : Nat} {E : Nat → Bool} {F : Nat → Wd} {l : List Sy} {h : Nat} {V V' : Nat → Wd} {q : Nat} {r : Bool}
theorem FS.start : FS ps n E F l h V 0 false V :=
  ⟨fun _ => le_refl _, fun e => (by cases e), fun _ => ⟨rfl, fun j _ h => absurd h (Nat.not_lt_zero _)⟩, fun _ _ _ _ h => h⟩
theorem FS.keep (k : FS ps n E F l h V q r V') (hq : q < l.length) (h2 : l[q].1 ≠ 2) : FS ps n E F l h V (q + 1) r V' :=
  ⟨k.up, k.yes, fun e => ⟨(k.no e).1, fun j hj h1 h3 => (k.no e).2 j hj (by
    have : j ≠ q := fun e => by subst e; exact h2 h3
    omega) h3⟩, k.sn⟩
theorem FS.same (k : FS ps n E F l h V q r V') (hq : q < l.length) (hs : V' l[q].2.toNat ||| bg E F (l.drop (q + 1)) (V' h) = V' l[q].2.toNat) : FS ps n E F l h V (q + 1) r V' :=
  ⟨k.up, k.yes, fun e => ⟨(k.no e).1, fun j hj h1 h3 => by
    by_cases ej : j = q
    · subst ej; have := le_of_same hs; rw [(k.no e).1] at this; exact this
    · exact (k.no e).2 j hj (by omega) h3⟩, k.sn⟩
theorem FS.put (k : FS ps n E F l h V q r V') (hq : q < l.length) (h2 : l[q].1 = 2) (hm : l[q].2.toNat < n) (hs : V' l[q].2.toNat ||| bg E F (l.drop (q + 1)) (V' h) ≠ V' l[q].2.toNat) : FS ps n E F l h V (q + 1) true (upd V' l[q].2.toNat (V' l[q].2.toNat ||| bg E F (l.drop (q + 1)) (V' h))) := by
  refine ⟨fun i => le_trans (k.up i) (le_upd _ _ i), fun _ => ?_, fun e => (by cases e), ?_⟩
  · have h1 := muW_put hm hs
    have h3 := muW_le (n := n) k.up
    omega
  · rintro p hp rfl rfl hV
    exact snW_put hp hq h2 (k.sn p hp rfl rfl hV)
theorem syms_drop {W : World} {b o : Nat} {cap : Nat} {l : List Sy} (hs : Syms W (.slice (some ⟨b, o, none⟩) l.length cap) l) (k : Nat) : Syms W (.slice (if cap = k then some ⟨b, o, none⟩ else some ⟨b, o + k * 2, none⟩) (l.length - k) (cap - k)) (l.drop k) := by
  obtain ⟨ao', cap', e, hm, hc⟩ := hs
  cases e
  refine ⟨_, _, by rw [List.length_drop], by simp; omega, ?_⟩
  by_cases hk : k < l.length
  · obtain ⟨b', o', eb, hb, hcc⟩ := hc.resolve_left (by intro e; subst e; simp at hk)
    cases eb
    right
    rw [if_neg (by omega)]
    refine ⟨b, o + k * 2, rfl, hb, fun i hi => ?_⟩
    have := hcc (k + i) (by simp at hi; omega)
    rw [List.getElem_drop]
    rw [show o + k * 2 + i * 2 = o + (k + i) * 2 by omega]
    exact this
  · left; exact List.drop_of_length_le (by omega)
def WOut (ps : List Pd) (E : Nat → Bool) (F : Nat → Wd) (b n : Nat) (l : List Sy) (h : Nat) (V : Nat → Wd) (w : World) (r : Bool) (w' : World) : Prop := ∃ V', Fm (fun k => k = b) w w' ∧ Rw w' b n V' ∧ FS ps n E F l h V l.length r V'
end Go.Proofs.Ytpbnnmfjahckmaa

namespace Go.Proofs.Ytpbnnmfjahckmaa
open Go.RowKit
open Cg

set_option maxHeartbeats 1600000 in
set_option maxRecDepth 20000 in
theorem whole_any (t n : Int) (ao : Option Addr) (k c : Nat) (w : World) :
    Calls Try.prog 72 #[.agg #[.int .i64 t, .int .i64 n, .slice ao k c]] w fun e w' => e = .returned (.int .i64 (k : Int)) ∧ Below w.heap.size w w' := by
  go_enter Try.func72, Try.ntmps72
  go_wp2_with fail
  go_ret
  exact ⟨by simp, below_alloc _ _⟩
theorem bod_at {ps : List Pd} {p : Nat} (h : p < ps.length) : bod ps p = ps[p].2 := by
  unfold bod; rw [if_neg (by omega), List.getD_eq_getElem?_getD, List.getElem?_eq_getElem h]; rfl
theorem bod_whole (ps : List Pd) : bod ps ps.length = [(2, 0)] := by unfold bod; rw [if_pos rfl]
end Go.Proofs.Ytpbnnmfjahckmaa

namespace Go.Proofs.Ytpbnnmfjahckmaa
open Go.RowKit
open Cg

theorem Pds.len {w : World} {pv : Value} {ps : List Pd} (h : Pds w pv ps) : ∃ ao c, pv = .slice ao ps.length c := by obtain ⟨ao, c, e, -⟩ := h; exact ⟨ao, c, e⟩
set_option maxHeartbeats 3200000 in
set_option maxRecDepth 20000 in
/-- Of a production: the Body that lies there. -/
theorem bodyOf_in (t n : Int) (pv : Value) (ps : List Pd) (p : Nat) (hp : p < ps.length) (w : World) (h : Pds w pv ps) : ∃ uo uc, Syms w (.slice uo (bod ps p).length uc) (bod ps p) ∧ ∀ W, Below w.heap.size w W →
    Calls Try.prog 97 #[.agg #[.int .i64 t, .int .i64 n, pv], .int .i64 (p : Int)] W fun e w' => e = .returned (.slice uo (bod ps p).length uc) ∧ Below W.heap.size W w' := by
  have HPD : Hid (Pds w pv ps) := h
  obtain ⟨ao, c, rfl, hm, hcs⟩ := h
  obtain ⟨b, o, rfl, hb, hc⟩ := hcs.resolve_left (by intro e; subst e; simp at hp)
  obtain ⟨d0, u, d1, hsy⟩ := hc p hp
  rw [← bod_at hp] at hsy
  obtain ⟨uo, uc, hu, -⟩ := id hsy
  subst hu
  refine ⟨uo, uc, hsy, fun W hbw => ?_⟩
  have HG0 : Hid (Gb W W.heap.size t n (.slice (some ⟨b, o, none⟩) ps.length c) ps (W.alloc (Obj.cells #[.int .i64 t, .int .i64 n, .slice (some ⟨b, o, none⟩) ps.length c] 24))) := Gb.box (HPD.out.below hbw) t n
  have hcall := whole_any t n (some ⟨b, o, none⟩) ps.length c (W.alloc (Obj.cells #[.int .i64 t, .int .i64 n, .slice (some ⟨b, o, none⟩) ps.length c] 24))
  have b0 : ((p : Int) == (ps.length : Int)) = false := by simp; omega
  have hk0 : (0 : Int) ≤ (p : Int) := by omega
  have hk1 : (p : Int) < (ps.length : Int) := by omega
  generalize (bod ps p).length = ul at d1
  have HD : Hid (W.cell? ⟨b, o + p * 2 + 1, none⟩ = some (.slice uo ul uc) ∧ b < W.heap.size) := ⟨(hbw.cell (p := ⟨b, o + p * 2 + 1, none⟩) hb).trans d1, Nat.lt_of_lt_of_le hb hbw.size⟩
  clear hc hcs hp d0 d1 hsy HPD hbw
  go_enter Try.func97, Try.ntmps97
  go_wp2_with fail
  refine hcall.mono ?_
  rintro _ w1 ⟨rfl, hb1⟩
  have HG1 : Hid (Gb W W.heap.size t n (.slice (some ⟨b, o, none⟩) ps.length c) ps w1) := HG0.out.next hb1
  have y0 : w1.cell? ⟨b, o + p * 2 + 1, none⟩ = some (.slice uo ul uc) := (HG1.out.below.cell (p := ⟨b, o + p * 2 + 1, none⟩) HD.out.2).trans HD.out.1
  have z2 := HG1.out.c2
  clear hb1 hcall HG0
  go_wp2_with fail
  go_ret
  exact ⟨by simp, HG1.out.below⟩
set_option maxHeartbeats 3200000 in
set_option maxRecDepth 20000 in
/-- Of the WHOLE: a new one. -/
theorem bodyOf_wh (t n : Int) (ao : Option Addr) (k c : Nat) (w : World) :
    Calls Try.prog 97 #[.agg #[.int .i64 t, .int .i64 n, .slice ao k c], .int .i64 (k : Int)] w fun e w' => ∃ g, e = .returned (.slice (some ⟨g, 0, none⟩) 1 1) ∧ g < w'.heap.size ∧ w'.cell? ⟨g, 0, none⟩ = some (.int .i64 2) ∧ w'.cell? ⟨g, 1, none⟩ = some (.int .i64 0) ∧ Below w.heap.size w w' := by
  have hcall := whole_any t n ao k c (w.alloc (Obj.cells #[.int .i64 t, .int .i64 n, .slice ao k c] 24))
  have b0 : ((k : Int) == (k : Int)) = true := by simp
  go_enter Try.func97, Try.ntmps97
  go_wp2_with fail
  refine hcall.mono ?_
  rintro _ w1 ⟨rfl, hb⟩
  have HB1 : Hid (Below w.heap.size w w1) := (below_alloc w _).trans (hb.mono (by simp))
  clear hb hcall
  go_wp2_with fail
  go_ret
  exact ⟨w1.heap.size, by simp, by simp, by simp, by simp, HB1.out.trans ((below_alloc w1 _).mono HB1.out.size)⟩
/-- A grammar's box and an item's. -/
structure Ib2 (w0 : World) (t n : Int) (pv : Value) (ps : List Pd) (z0 z1 z2 : Int) (w : World) : Prop where
  gb : Gb w0 w0.heap.size t n pv ps w
  lt : w0.heap.size + 1 < w.heap.size
  d0 : w.cell? ⟨w0.heap.size + 1, 0, none⟩ = some (.int .i64 z0)
  d1 : w.cell? ⟨w0.heap.size + 1, 1, none⟩ = some (.int .i64 z1)
  d2 : w.cell? ⟨w0.heap.size + 1, 2, none⟩ = some (.int .i64 z2)
theorem Ib2.next {w0 : World} {t n : Int} {pv : Value} {ps : List Pd} {z0 z1 z2 : Int} {w w' : World} (h : Ib2 w0 t n pv ps z0 z1 z2 w) (hb : Below w.heap.size w w') : Ib2 w0 t n pv ps z0 z1 z2 w' :=
  ⟨h.gb.next hb, Nat.lt_of_lt_of_le h.lt hb.size, (hb.cell (p := ⟨w0.heap.size + 1, 0, none⟩) h.lt).trans h.d0, (hb.cell (p := ⟨w0.heap.size + 1, 1, none⟩) h.lt).trans h.d1, (hb.cell (p := ⟨w0.heap.size + 1, 2, none⟩) h.lt).trans h.d2⟩
theorem Ib2.box {w : World} {pv : Value} {ps : List Pd} (h : Pds w pv ps) (t n z0 z1 z2 : Int) : Ib2 w t n pv ps z0 z1 z2 ((w.alloc (Obj.cells #[.int .i64 t, .int .i64 n, pv] 24)).alloc (Obj.cells #[.int .i64 z0, .int .i64 z1, .int .i64 z2] 145)) := by
  have h1 := Gb.box h t n
  have e : (w.alloc (Obj.cells #[.int .i64 t, .int .i64 n, pv] 24)).heap.size = w.heap.size + 1 := by simp
  refine ⟨h1.next (below_alloc _ _), by simp, ?_, ?_, ?_⟩
  · rw [← e]; exact cell_new _ _ 145 0
  · rw [← e]; exact cell_new _ _ 145 1
  · rw [← e]; exact cell_new _ _ 145 2

end Go.Proofs.Ytpbnnmfjahckmaa

namespace Go.Proofs.Ytpbnnmfjahckmaa
open Go.RowKit
open Cg

set_option maxHeartbeats 8000000 in
set_option maxRecDepth 20000 in
/-- What of a production has not been had. -/
theorem ahead_in (t n : Int) (pv : Value) (ps : List Pd) (x : It) (hx : x.1 < ps.length) (hd : x.2.1 ≤ (bod ps x.1).length) (w : World) (h : Pds w pv ps) :
    Calls Try.prog 92 #[.agg #[.int .i64 t, .int .i64 n, pv], .agg #[.int .i64 (x.1 : Int), .int .i64 (x.2.1 : Int), .int .i64 (x.2.2 : Int)]] w fun e w' => ∃ v, e = .returned v ∧ Syms w' v (rst ps x) ∧ Below w.heap.size w w' := by
  obtain ⟨uo, uc, hsy, hbo⟩ := bodyOf_in t n pv ps x.1 hx w h
  have HSY : Hid (Syms w (.slice uo (bod ps x.1).length uc) (bod ps x.1)) := hsy
  have HRS : Hid (rst ps x = (bod ps x.1).drop x.2.1) := (rfl : rst ps x = _)
  rw [HRS.out]
  obtain ⟨l, HL⟩ : ∃ z, Hid (bod ps x.1 = z) := ⟨_, (rfl : bod ps x.1 = _)⟩
  rw [HL.out] at HSY hbo hd hsy
  obtain ⟨x0, HX0⟩ : ∃ z, Hid (x.1 = z) := ⟨_, (rfl : x.1 = _)⟩
  obtain ⟨x1, HX1⟩ : ∃ z, Hid (x.2.1 = z) := ⟨_, (rfl : x.2.1 = _)⟩
  obtain ⟨x2, HX2⟩ : ∃ z, Hid (x.2.2 = z) := ⟨_, (rfl : x.2.2 = _)⟩
  rw [HL.out]
  rw [HX0.out] at hbo ⊢
  rw [HX1.out] at hd ⊢
  rw [HX2.out]
  have hcap : l.length ≤ uc ∧ l.length ≤ 9223372036854775807 := by obtain ⟨_, _, he, hm, -⟩ := hsy; cases he; exact ⟨hm.2, hm.1⟩
  clear hsy hx HL HX0 HX1 HX2 HRS
  have HB0 := Ib2.box h t n (x0 : Int) (x1 : Int) (x2 : Int)
  have HPD : Hid (Pds w pv ps) := h
  obtain ⟨ao, c, rfl⟩ := h.len
  obtain ⟨wb, HWB⟩ : ∃ wb, Hid (((w.alloc (Obj.cells #[.int .i64 t, .int .i64 n, .slice ao ps.length c] 24)).alloc (Obj.cells #[.int .i64 (x0 : Int), .int .i64 (x1 : Int), .int .i64 (x2 : Int)] 145)) = wb) := ⟨_, (rfl : ((w.alloc (Obj.cells #[.int .i64 t, .int .i64 n, .slice ao ps.length c] 24)).alloc (Obj.cells #[.int .i64 (x0 : Int), .int .i64 (x1 : Int), .int .i64 (x2 : Int)] 145)) = _)⟩
  rw [HWB.out] at HB0
  have HT : Hid (Ib2 w t n (.slice ao ps.length c) ps (x0 : Int) (x1 : Int) (x2 : Int) wb) := HB0
  clear HB0
  have hne : Nonempty (Kp (Sb wb)) := ⟨⟨_, Sb.drew wb⟩⟩
  have k0 : ∀ p : Kp (Sb wb), p.W.cell? ⟨w.heap.size, 0, none⟩ = some (.int .i64 t) := fun p => (HT.out.next p.h).gb.c0
  have k1 : ∀ p : Kp (Sb wb), p.W.cell? ⟨w.heap.size, 1, none⟩ = some (.int .i64 n) := fun p => (HT.out.next p.h).gb.c1
  have k2 : ∀ p : Kp (Sb wb), p.W.cell? ⟨w.heap.size, 2, none⟩ = some (.slice ao ps.length c) := fun p => (HT.out.next p.h).gb.c2
  have k3 : ∀ p : Kp (Sb wb), p.W.cell? ⟨w.heap.size + 1, 0, none⟩ = some (.int .i64 (x0 : Int)) := fun p => (HT.out.next p.h).d0
  have k4 : ∀ p : Kp (Sb wb), p.W.cell? ⟨w.heap.size + 1, 1, none⟩ = some (.int .i64 (x1 : Int)) := fun p => (HT.out.next p.h).d1
  have k5 : ∀ p : Kp (Sb wb), p.W.cell? ⟨w.heap.size + 1, 2, none⟩ = some (.int .i64 (x2 : Int)) := fun p => (HT.out.next p.h).d2
  have HBO : Hid (∀ W, Below w.heap.size w W → Calls Try.prog 97 #[.agg #[.int .i64 t, .int .i64 n, .slice ao ps.length c], .int .i64 (x0 : Int)] W fun e w' => e = .returned (.slice uo l.length uc) ∧ Below W.heap.size W w') := hbo
  have HC2 : Hid (∀ p : Kp (Sb wb), Calls Try.prog 97 #[.agg #[.int .i64 t, .int .i64 n, .slice ao ps.length c], .int .i64 (x0 : Int)] p.W fun e w'' => e = .returned (.slice uo l.length uc) ∧ ∃ q : Kp (Sb wb), w'' = q.W) := fun p => Kp.calls p Sb.next (HBO.out p.W ((HT.out.next p.h).gb.below))
  have hd0 : (0 : Int) ≤ (x1 : Int) := by omega
  have hd1 : (x1 : Int) ≤ (l.length : Int) := by omega
  have hd2 : (l.length : Int) ≤ (uc : Int) := by omega
  have hcc := hcap.1
  clear hbo hcap h
  have HONE : Hid (l = [] → ∀ (W : World) (a : Option Addr) (k : Nat), Syms W (.slice a (l.length - x1) k) (l.drop x1)) := fun e W a k => by
    subst e
    exact ⟨a, k, by simp, by simp, Or.inl (by simp)⟩
  have HFS : Hid (¬ l = [] → ∃ b o, uo = some ⟨b, o, none⟩ ∧ Syms w (.slice (if uc = x1 then some ⟨b, o, none⟩ else some ⟨b, o + x1 * 2, none⟩) (l.length - x1) (uc - x1)) (l.drop x1)) := fun e => by
    obtain ⟨_, _, he, _, h1 | ⟨b, o, h1, -⟩⟩ := id HSY.out
    · exact absurd h1 e
    · cases he
      subst h1
      exact ⟨b, o, rfl, syms_drop HSY.out x1⟩
  obtain ⟨ll, HLL⟩ : ∃ z, Hid (l.length = z) := ⟨_, (rfl : l.length = _)⟩
  rw [HLL.out] at HC2 hd1 hd2 hcc HONE HFS
  clear HSY hd
  by_cases hle : l = []
  · have HON : Hid (∀ (W : World) (a : Option Addr) (k : Nat), Syms W (.slice a (ll - x1) k) (l.drop x1)) := HONE.out hle
    have hl0 : ll = 0 := by rw [← HLL.out, hle]; rfl
    have hx1 : x1 ≤ ll := by omega
    clear hle HONE HFS hl0
    cases uo with
    | none =>
      go_enter Try.func92, Try.ntmps92
      go_wp2_with fail
      rw [HWB.out]
      refine wp_region_kept mixed (by kernel_rfl) (Sb.drew wb) ?_
      repeat (go_big_quiet_step (first | (go_at_call 97; with_reducible exact HC2.out _)))
      refine wpQuiet_nil ?_
      intro W2 hw2
      obtain ⟨p2, rfl⟩ := hw2
      have HB5 : Hid (Below w.heap.size w p2.W) := (HT.out.next p2.h).gb.below
      generalize p2.W = w3 at HB5 ⊢
      clear k0 k1 k2 k3 k4 k5 HC2 hne p2
      go_wp2_with fail
      all_goals
        go_ret
        exact ⟨_, rfl, HON.out _ _ _, HB5.out⟩
    | some ad =>
      obtain ⟨b, o, sp⟩ := ad
      go_enter Try.func92, Try.ntmps92
      go_wp2_with fail
      rw [HWB.out]
      refine wp_region_kept mixed (by kernel_rfl) (Sb.drew wb) ?_
      repeat (go_big_quiet_step (first | (go_at_call 97; with_reducible exact HC2.out _)))
      refine wpQuiet_nil ?_
      intro W2 hw2
      obtain ⟨p2, rfl⟩ := hw2
      have HB5 : Hid (Below w.heap.size w p2.W) := (HT.out.next p2.h).gb.below
      generalize p2.W = w3 at HB5 ⊢
      clear k0 k1 k2 k3 k4 k5 HC2 hne p2
      go_wp2_with fail
      all_goals
        go_ret
        exact ⟨_, rfl, HON.out _ _ _, HB5.out⟩
  · obtain ⟨b, o, rfl, hfs⟩ := HFS.out hle
    have HFD : Hid (Syms w (.slice (if uc = x1 then some ⟨b, o, none⟩ else some ⟨b, o + x1 * 2, none⟩) (ll - x1) (uc - x1)) (l.drop x1)) := hfs
    clear hfs HONE HFS hle
    go_enter Try.func92, Try.ntmps92
    go_wp2_with fail
    rw [HWB.out]
    refine wp_region_kept mixed (by kernel_rfl) (Sb.drew wb) ?_
    repeat (go_big_quiet_step (first | (go_at_call 97; with_reducible exact HC2.out _)))
    refine wpQuiet_nil ?_
    intro W2 hw2
    obtain ⟨p2, rfl⟩ := hw2
    have HB5 : Hid (Below w.heap.size w p2.W) := (HT.out.next p2.h).gb.below
    generalize p2.W = w3 at HB5 ⊢
    clear k0 k1 k2 k3 k4 k5 HC2 hne p2
    go_wp2_with fail
    all_goals
      go_ret
      exact ⟨_, rfl, (by
        have hfd := HFD.out.below HB5.out
        first
        | (rw [if_neg h] at hfd; exact hfd)
        | (rw [if_pos h, h, Nat.sub_self] at hfd; exact hfd)), HB5.out⟩
end Go.Proofs.Ytpbnnmfjahckmaa
