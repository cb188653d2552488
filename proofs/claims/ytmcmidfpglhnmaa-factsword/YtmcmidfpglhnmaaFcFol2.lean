/-
  The contract of facts.followers.
-/
import Derived.Test.YtmcmidfpglhnmaaFcFol1
namespace Go.Proofs.Ytmcmidfpglhnmaa
open Go.RowKit
open Cg

theorem row_vals5 (w : World) (a b c d e : Value) : (w.alloc (.cells #[a, b, c, d, e] 43)).rowIs w.heap.size 43 5 (fv a b c d e) :=
  World.rowIs_alloc w _ 43 _ fun i hi => by
    have : i = 0 ∨ i = 1 ∨ i = 2 ∨ i = 3 ∨ i = 4 := by simp at hi; omega
    rcases this with rfl | rfl | rfl | rfl | rfl <;> rfl
structure Iw2 (ps : List Pd) (E : Nat → Bool) (F : Nat → Wd) (n be bf bw cs cf : Nat) (v2 v3 v4 : Value) (V : Nat → Wd) (W : World) : Prop where
  i : Iw E F n be bf bw cs cf v2 v3 v4 V W
  sn : SnW ps E F V
  z : le endW (V 0)
set_option maxHeartbeats 6400000 in
set_option maxRecDepth 20000 in
theorem followers_any (t : Int) (n be bf : Nat) (E : Nat → Bool) (F : Nat → Wd) (v2 v3 v4 : Value) (pv : Value) (ps : List Pd) (w : World) (hp : Pds w pv ps) (hg : Rg t n ps) (hre : Rb w be n E) (hrf : Rw w bf n F) (f2 : ∃ a m k, v2 = .slice a m k) (f3 : ∃ a m k, v3 = .slice a m k) (f4 : ∃ a m k, v4 = .slice a m k) :
    Calls Try.prog 42 #[.agg #[.int .i64 t, .int .i64 (n : Int), pv], .agg #[(.slice (some ⟨be, 0, none⟩) n n), (.slice (some ⟨bf, 0, none⟩) n n), v2, v3, v4]] w fun e w' => ∃ b, e = .returned (.slice (some ⟨b, 0, none⟩) n n) ∧ w.heap.size ≤ b ∧ Below w.heap.size w w' ∧ ∃ V, Rw w' b n V ∧ Fo ps E F V := by
  have HP : Hid (Pds w pv ps) := hp
  have HG : Hid (Rg t n ps) := hg
  obtain ⟨ao, c, rfl, hm, -⟩ := hp
  obtain ⟨a2, m2, k2, rfl⟩ := f2
  obtain ⟨a3, m3, k3, rfl⟩ := f3
  obtain ⟨a4, m4, k4, rfl⟩ := f4
  have HRE : Hid (Rb w be n E) := hre
  have HRF : Hid (Rw w bf n F) := hrf
  have hn1 := hg.n1
  have hn2 := hg.n2
  have hn3 : (0 : Int) < (n : Int) := by omega
  clear hg hre hrf
  have he := enters_of Try.func68 (by kernel_rfl) rfl
  have hmk := run_make_row' (P := Try.prog) 41 47 (.int .u64 0) 8 Try.underlying41 info47 rfl .i64 .i64 n (by omega) (by omega)
  have e2 : ((w.alloc (Obj.cells #[.int .i64 t, .int .i64 (n : Int), .slice ao ps.length c] 24)).alloc (Obj.cells #[(.slice (some ⟨be, 0, none⟩) n n), (.slice (some ⟨bf, 0, none⟩) n n), .slice a2 m2 k2, .slice a3 m3 k3, .slice a4 m4 k4] 43)).heap.size = w.heap.size + 1 + 1 := by simp
  have hrow := (World.rowIs_made ((w.alloc (Obj.cells #[.int .i64 t, .int .i64 (n : Int), .slice ao ps.length c] 24)).alloc (Obj.cells #[(.slice (some ⟨be, 0, none⟩) n n), (.slice (some ⟨bf, 0, none⟩) n n), .slice a2 m2 k2, .slice a3 m3 k3, .slice a4 m4 k4] 43)) (.int .u64 0) n 47).alloc (.cells #[.slice (some ⟨w.heap.size + 1 + 1, 0, none⟩) n n] 41)
  rw [e2] at hrow
  have y0 := hrow.cell (i := 0) (by omega)
  have y1 := hrow.frozen 0
  clear hrow e2
  go_enter Try.func42, Try.ntmps42
  go_wp2_with fail
  obtain ⟨wc, HWC⟩ : ∃ wc, Hid ((((w.alloc (Obj.cells #[.int .i64 t, .int .i64 (n : Int), .slice ao ps.length c] 24)).alloc (Obj.cells #[(.slice (some ⟨be, 0, none⟩) n n), (.slice (some ⟨bf, 0, none⟩) n n), .slice a2 m2 k2, .slice a3 m3 k3, .slice a4 m4 k4] 43)).alloc (.cells ((madeCells #[.int .u64 0] n).setIfInBounds 0 (.int .u64 9223372036854775808)) 47)).alloc (.cells #[.slice (some ⟨w.heap.size + 1 + 1, 0, none⟩) n n] 41) = wc) := ⟨_, (rfl : _ = _)⟩
  have HBW : Hid (Below w.heap.size w wc) := by
    show Below _ _ _
    rw [← HWC.out]
    exact ((below_alloc2 w _ _).alloc (by simp; omega) _).alloc (by simp; omega) _
  have HI0 : Hid (Iw2 ps E F n be bf (w.heap.size + 1 + 1) (w.heap.size + 1 + 1 + 1) (w.heap.size + 1) (.slice a2 m2 k2) (.slice a3 m3 k3) (.slice a4 m4 k4) (upd (fun _ => 0#64) 0 endW) wc) := by
    have e1 : (w.alloc (Obj.cells #[.int .i64 t, .int .i64 (n : Int), .slice ao ps.length c] 24)).heap.size = w.heap.size + 1 := by simp
    have e2 : ((w.alloc (Obj.cells #[.int .i64 t, .int .i64 (n : Int), .slice ao ps.length c] 24)).alloc (Obj.cells #[(.slice (some ⟨be, 0, none⟩) n n), (.slice (some ⟨bf, 0, none⟩) n n), .slice a2 m2 k2, .slice a3 m3 k3, .slice a4 m4 k4] 43)).heap.size = w.heap.size + 1 + 1 := by simp
    have e3 : (((w.alloc (Obj.cells #[.int .i64 t, .int .i64 (n : Int), .slice ao ps.length c] 24)).alloc (Obj.cells #[(.slice (some ⟨be, 0, none⟩) n n), (.slice (some ⟨bf, 0, none⟩) n n), .slice a2 m2 k2, .slice a3 m3 k3, .slice a4 m4 k4] 43)).alloc (.cells ((madeCells #[.int .u64 0] n).setIfInBounds 0 (.int .u64 9223372036854775808)) 47)).heap.size = w.heap.size + 1 + 1 + 1 := by simp
    have h1 := (row_made0 ((w.alloc (Obj.cells #[.int .i64 t, .int .i64 (n : Int), .slice ao ps.length c] 24)).alloc (Obj.cells #[(.slice (some ⟨be, 0, none⟩) n n), (.slice (some ⟨bf, 0, none⟩) n n), .slice a2 m2 k2, .slice a3 m3 k3, .slice a4 m4 k4] 43)) (.int .u64 0) (.int .u64 9223372036854775808) n 47).alloc (.cells #[.slice (some ⟨w.heap.size + 1 + 1, 0, none⟩) n n] 41)
    have h2 := row_one (((w.alloc (Obj.cells #[.int .i64 t, .int .i64 (n : Int), .slice ao ps.length c] 24)).alloc (Obj.cells #[(.slice (some ⟨be, 0, none⟩) n n), (.slice (some ⟨bf, 0, none⟩) n n), .slice a2 m2 k2, .slice a3 m3 k3, .slice a4 m4 k4] 43)).alloc (.cells ((madeCells #[.int .u64 0] n).setIfInBounds 0 (.int .u64 9223372036854775808)) 47)) (.slice (some ⟨w.heap.size + 1 + 1, 0, none⟩) n n) 41
    have h3 := ((row_vals5 (w.alloc (Obj.cells #[.int .i64 t, .int .i64 (n : Int), .slice ao ps.length c] 24)) (.slice (some ⟨be, 0, none⟩) n n) (.slice (some ⟨bf, 0, none⟩) n n) (.slice a2 m2 k2) (.slice a3 m3 k3) (.slice a4 m4 k4)).alloc (.cells ((madeCells #[.int .u64 0] n).setIfInBounds 0 (.int .u64 9223372036854775808)) 47)).alloc (.cells #[.slice (some ⟨w.heap.size + 1 + 1, 0, none⟩) n n] 41)
    rw [e2, HWC.out] at h1
    rw [e3, HWC.out] at h2
    rw [e1, HWC.out] at h3
    refine ⟨⟨h2, h3, HRE.out.next HBW.out, HRF.out.next HBW.out, h1.congr (fun i _ => ?_), ?_⟩, snW_start ps E F, le_refl _⟩
    · unfold upd; split <;> rfl
    · have := HRF.out.lt; omega
  rw [HWC.out]
  refine (settle_any 68 #[.pointer (some ⟨w.heap.size + 1 + 1 + 1, 0, none⟩), .pointer (some ⟨w.heap.size + 1, 0, none⟩)] he (Iw2 ps E F n be bf (w.heap.size + 1 + 1) (w.heap.size + 1 + 1 + 1) (w.heap.size + 1) (.slice a2 m2 k2) (.slice a3 m3 k3) (.slice a4 m4 k4)) (fun k => k = w.heap.size + 1 + 1) (muW n) (fun p V => ∀ j (hj : j < p.2.length), p.2[j].1 = 2 → le (bg E F (p.2.drop (j + 1)) (V p.1.toNat)) (V p.2[j].2.toNat)) t n _ ps w wc HP.out HBW.out ?_ (fun _ _ _ h hb => ⟨h.i.next hb, h.sn, h.z⟩) ?_ _ HI0.out).mono ?_
  · intro k hk; subst hk; exact ⟨by omega, HI0.out.i.row.lt⟩
  · intro V Z q hq u hI hbV hsy
    obtain ⟨m, e1, e2, hm⟩ := HG.out.hd q hq
    rw [arr2, e1]
    refine (clos39_any ps t HG.out.t2 n be bf _ _ _ E F V _ _ _ m hm u ps[q].2 (HG.out.lb q hq) (HG.out.ok q hq) w Z hsy hbV (by omega) hI.i).mono ?_
    rintro _ W' ⟨r, rfl, V', h2, h3, h4⟩
    refine ⟨r, rfl, V', ⟨hI.i.put h2 h3, h4.sn ps[q] (List.getElem_mem hq) rfl e2 hI.sn, le_trans hI.z (h4.up 0)⟩, h2, h4.yes, fun e => ⟨(h4.no e).1, fun j hj h5 => ?_⟩⟩
    have := (h4.no e).2 j hj hj h5
    exact this
  · rintro _ w1 ⟨rfl, hF, V, hI, hC⟩
    have z1 := hI.i.c.cell (i := 0) (by omega)
    have HFIN : Hid (Below w.heap.size w w1 ∧ ∃ V, Rw w1 (w.heap.size + 1 + 1) n V ∧ Fo ps E F V) :=
      ⟨HBW.out.trans (hF.below HBW.out.size fun k hk => by omega), V, hI.i.row, ⟨hI.z, fun p hp => hC p hp⟩, hI.sn⟩
    clear hI hC hF hmk
    go_wp2_with fail
    go_ret
    exact ⟨_, by simp, by omega, HFIN.out⟩
end Go.Proofs.Ytmcmidfpglhnmaa
