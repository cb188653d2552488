/-
  The contract of facts.Of.
-/
import Derived.Test.YtmcmidfpglhnmaaFcFol2
namespace Go.Proofs.Ytmcmidfpglhnmaa
open Go.RowKit
open Cg

theorem fv_three (a b c d e x : Value) (j : Nat) (hj : j < 5) : (if j = 3 then x else fv a b c d e j) = fv a b c x e j := by
  have : j = 0 ∨ j = 1 ∨ j = 2 ∨ j = 3 ∨ j = 4 := by omega
  rcases this with rfl | rfl | rfl | rfl | rfl <;> rfl
theorem fv_two (a b c d e x : Value) (j : Nat) (hj : j < 5) : (if j = 2 then x else fv a b c d e j) = fv a b x d e j := by
  have : j = 0 ∨ j = 1 ∨ j = 2 ∨ j = 3 ∨ j = 4 := by omega
  rcases this with rfl | rfl | rfl | rfl | rfl <;> rfl
/-- Facts in memory. -/
structure Fx (n : Nat) (be bf bw br bm : Nat) (E : Nat → Bool) (F V : Nat → Wd) (R M : Nat → Bool) (w : World) : Prop where
  e : Rb w be n E
  f : Rw w bf n F
  v : Rw w bw n V
  r : Rb w br n R
  m : Rb w bm n M
theorem Fx.next {n be bf bw br bm : Nat} {E : Nat → Bool} {F V : Nat → Wd} {R M : Nat → Bool} {w w' : World} (h : Fx n be bf bw br bm E F V R M w) (hb : Below w.heap.size w w') : Fx n be bf bw br bm E F V R M w' :=
  ⟨h.e.next hb, h.f.next hb, h.v.next hb, h.r.next hb, h.m.next hb⟩
/-- What Of leaves. -/
def Fw (w : World) (n : Nat) (ps : List Pd) (be bf bw br bm : Nat) (w' : World) : Prop :=
  Below w.heap.size w w' ∧ ∃ E F V R M, Fx n be bf bw br bm E F V R M w' ∧ Fa ps E F V R M
set_option maxHeartbeats 6400000 in
set_option maxRecDepth 20000 in
theorem Of_bad (t n : Int) (pv : Value) (ps : List Pd) (w : World) (hp : Pds w pv ps) (hk : chk t n ps ≠ 0) :
    Calls Try.prog 17 #[.agg #[.int .i64 t, .int .i64 n, pv]] w fun e w' => e = .returned (.tuple #[.agg #[(.slice none 0 0), (.slice none 0 0), (.slice none 0 0), (.slice none 0 0), (.slice none 0 0)], .int .i64 (chk t n ps)]) ∧ Below w.heap.size w w' := by
  have HP : Hid (Pds w pv ps) := hp
  obtain ⟨ao, c, rfl, hm, -⟩ := hp
  obtain ⟨r, HR⟩ : ∃ r, Hid (chk t n ps = r) := ⟨_, (rfl : chk t n ps = chk t n ps)⟩
  rw [HR.out] at hk ⊢
  have hk2 : (r != 0) = true := by simpa using hk
  have es : (w.alloc (Obj.cells #[.int .i64 t, .int .i64 n, .slice ao ps.length c] 24)).heap.size = w.heap.size + 1 := by simp
  have hrr := row_new5 (w.alloc (Obj.cells #[.int .i64 t, .int .i64 n, .slice ao ps.length c] 24))
  rw [es] at hrr
  have hcall := Check_any t n _ ps ((w.alloc (Obj.cells #[.int .i64 t, .int .i64 n, .slice ao ps.length c] 24)).alloc (Obj.cells #[(.slice none 0 0), (.slice none 0 0), (.slice none 0 0), (.slice none 0 0), (.slice none 0 0)] 43)) (HP.out.below (below_alloc2 w _ _))
  rw [HR.out] at hcall
  have HB0 : Hid (Below w.heap.size w ((w.alloc (Obj.cells #[.int .i64 t, .int .i64 n, .slice ao ps.length c] 24)).alloc (Obj.cells #[(.slice none 0 0), (.slice none 0 0), (.slice none 0 0), (.slice none 0 0), (.slice none 0 0)] 43))) := below_alloc2 w _ _
  have HRR : Hid (World.rowIs ((w.alloc (Obj.cells #[.int .i64 t, .int .i64 n, .slice ao ps.length c] 24)).alloc (Obj.cells #[(.slice none 0 0), (.slice none 0 0), (.slice none 0 0), (.slice none 0 0), (.slice none 0 0)] 43)) (w.heap.size + 1) 43 5 (fun _ => .slice none 0 0)) := hrr
  have HSW : Hid (((w.alloc (Obj.cells #[.int .i64 t, .int .i64 n, .slice ao ps.length c] 24)).alloc (Obj.cells #[(.slice none 0 0), (.slice none 0 0), (.slice none 0 0), (.slice none 0 0), (.slice none 0 0)] 43)).heap.size = w.heap.size + 2) := by show _ = _; simp
  clear es hrr hk
  go_enter Try.func17, Try.ntmps17
  go_wp2_with fail
  refine hcall.mono ?_
  rintro _ w1 ⟨rfl, hb1⟩
  have hrr := HRR.out.of_block (hb1.block _ HRR.out.lt)
  have HR1 : Hid (w1.rowIs (w.heap.size + 1) 43 5 (fun _ => .slice none 0 0)) := hrr
  have HB1 : Hid (Below w.heap.size w w1) := HB0.out.trans (hb1.mono HB0.out.size)
  have a0 := hrr.cell (i := 0) (by omega)
  have z0 := hrr.frozen 0
  have a1 := hrr.cell (i := 1) (by omega)
  have z1 := hrr.frozen 1
  have a2 := hrr.cell (i := 2) (by omega)
  have z2 := hrr.frozen 2
  have a3 := hrr.cell (i := 3) (by omega)
  have z3 := hrr.frozen 3
  have a4 := hrr.cell (i := 4) (by omega)
  have z4 := hrr.frozen 4
  clear hrr hb1 hcall
  go_wp2_with fail
  have HSET := row_five HR1.out (.slice none 0 0) (.slice none 0 0) (.slice none 0 0) (.slice none 0 0) (.slice none 0 0)
  have HBL : Hid (Below w.heap.size w (((((w1.setCell ⟨w.heap.size + 1, 0, none⟩ (.slice none 0 0)).setCell ⟨w.heap.size + 1, 1, none⟩ (.slice none 0 0)).setCell ⟨w.heap.size + 1, 2, none⟩ (.slice none 0 0)).setCell ⟨w.heap.size + 1, 3, none⟩ (.slice none 0 0)).setCell ⟨w.heap.size + 1, 4, none⟩ (.slice none 0 0))) := ((((HB1.out.setCell (by simp) _).setCell (by simp) _).setCell (by simp) _).setCell (by simp) _).setCell (by simp) _
  have v0 := HSET.cell (i := 0) (by omega)
  have v1 := HSET.cell (i := 1) (by omega)
  have v2 := HSET.cell (i := 2) (by omega)
  have v3 := HSET.cell (i := 3) (by omega)
  have v4 := HSET.cell (i := 4) (by omega)
  simp only [fv] at v0 v1 v2 v3 v4
  clear HSET
  exact bodyPost_ret (v := .tuple #[.agg #[(.slice none 0 0), (.slice none 0 0), (.slice none 0 0), (.slice none 0 0), (.slice none 0 0)], .int .i64 r]) (by simp [results, Try.results17, go_sem, v0, v1, v2, v3, v4]) rfl ⟨rfl, HBL.out⟩
set_option maxHeartbeats 6400000 in
set_option maxRecDepth 20000 in
theorem Of_ok (t : Int) (n : Nat) (pv : Value) (ps : List Pd) (w : World) (hp : Pds w pv ps) (hk : chk t n ps = 0) :
    Calls Try.prog 17 #[.agg #[.int .i64 t, .int .i64 (n : Int), pv]] w fun e w' => ∃ be bf bw br bm, e = .returned (.tuple #[.agg #[(.slice (some ⟨be, 0, none⟩) n n), (.slice (some ⟨bf, 0, none⟩) n n), (.slice (some ⟨bw, 0, none⟩) n n), (.slice (some ⟨br, 0, none⟩) n n), (.slice (some ⟨bm, 0, none⟩) n n)], .int .i64 0]) ∧ Fw w n ps be bf bw br bm w' := by
  have HP : Hid (Pds w pv ps) := hp
  have HG : Hid (Rg t n ps) := rg_of hk
  obtain ⟨ao, c, rfl, hm, -⟩ := hp
  have es : (w.alloc (Obj.cells #[.int .i64 t, .int .i64 (n : Int), .slice ao ps.length c] 24)).heap.size = w.heap.size + 1 := by simp
  have hrr := row_new5 (w.alloc (Obj.cells #[.int .i64 t, .int .i64 (n : Int), .slice ao ps.length c] 24))
  rw [es] at hrr
  have hcall := Check_any t n _ ps ((w.alloc (Obj.cells #[.int .i64 t, .int .i64 (n : Int), .slice ao ps.length c] 24)).alloc (Obj.cells #[(.slice none 0 0), (.slice none 0 0), (.slice none 0 0), (.slice none 0 0), (.slice none 0 0)] 43)) (HP.out.below (below_alloc2 w _ _))
  rw [hk] at hcall
  have HB0 : Hid (Below w.heap.size w ((w.alloc (Obj.cells #[.int .i64 t, .int .i64 (n : Int), .slice ao ps.length c] 24)).alloc (Obj.cells #[(.slice none 0 0), (.slice none 0 0), (.slice none 0 0), (.slice none 0 0), (.slice none 0 0)] 43))) := below_alloc2 w _ _
  have HRR : Hid (World.rowIs ((w.alloc (Obj.cells #[.int .i64 t, .int .i64 (n : Int), .slice ao ps.length c] 24)).alloc (Obj.cells #[(.slice none 0 0), (.slice none 0 0), (.slice none 0 0), (.slice none 0 0), (.slice none 0 0)] 43)) (w.heap.size + 1) 43 5 (fun _ => .slice none 0 0)) := hrr
  have HGB : Hid (Gb w w.heap.size t n (.slice ao ps.length c) ps ((w.alloc (Obj.cells #[.int .i64 t, .int .i64 (n : Int), .slice ao ps.length c] 24)).alloc (Obj.cells #[(.slice none 0 0), (.slice none 0 0), (.slice none 0 0), (.slice none 0 0), (.slice none 0 0)] 43))) := (Gb.box HP.out t n).next (below_alloc _ _)
  clear es hrr hk
  go_enter Try.func17, Try.ntmps17
  go_wp2_with fail
  refine hcall.mono ?_
  rintro _ w1 ⟨rfl, hb1⟩
  have HR1 : Hid (w1.rowIs (w.heap.size + 1) 43 5 (fun _ => .slice none 0 0)) := HRR.out.of_block (hb1.block _ HRR.out.lt)
  have HG1 : Hid (Gb w w.heap.size t n (.slice ao ps.length c) ps w1) := HGB.out.next hb1
  have k0 := HG1.out.c0
  have k1 := HG1.out.c1
  have k2 := HG1.out.c2
  clear hb1 hcall HRR HGB HB0
  go_wp2_with fail
  refine (beginnings_any t n _ ps w1 HG1.out.pds HG.out).mono ?_
  rintro _ w2 ⟨be, bf, bm, rfl, hbg⟩
  obtain ⟨he1, hf1, hm1, hb2, E, F, M, hE, hF, hM, hkE, hkM, hkF⟩ := hbg
  obtain ⟨w3, HW3⟩ : ∃ w3, Hid (w2.alloc (Obj.cells #[(.slice (some ⟨be, 0, none⟩) n n), (.slice (some ⟨bf, 0, none⟩) n n), (.slice none 0 0), (.slice none 0 0), (.slice (some ⟨bm, 0, none⟩) n n)] 43) = w3) := ⟨_, (rfl : _ = _)⟩
  have hb3 := below_alloc w2 (Obj.cells #[(.slice (some ⟨be, 0, none⟩) n n), (.slice (some ⟨bf, 0, none⟩) n n), (.slice none 0 0), (.slice none 0 0), (.slice (some ⟨bm, 0, none⟩) n n)] 43)
  have hbx := row_vals5 w2 (.slice (some ⟨be, 0, none⟩) n n) (.slice (some ⟨bf, 0, none⟩) n n) (.slice none 0 0) (.slice none 0 0) (.slice (some ⟨bm, 0, none⟩) n n)
  rw [HW3.out] at hb3 hbx
  have hb13 : Below w1.heap.size w1 w3 := hb2.trans (hb3.mono hb2.size)
  have HR3 : Hid (w3.rowIs (w.heap.size + 1) 43 5 (fun _ => .slice none 0 0)) := HR1.out.of_block (hb13.block _ HR1.out.lt)
  have HG3 : Hid (Gb w w.heap.size t n (.slice ao ps.length c) ps w3) := HG1.out.next hb13
  have HE3 : Hid (Rb w3 be n E) := hE.next hb3
  have HF3 : Hid (Rw w3 bf n F) := hF.next hb3
  have HM3 : Hid (Rb w3 bm n M) := hM.next hb3
  have HBX : Hid (w3.rowIs w2.heap.size 43 5 (fv (.slice (some ⟨be, 0, none⟩) n n) (.slice (some ⟨bf, 0, none⟩) n n) (.slice none 0 0) (.slice none 0 0) (.slice (some ⟨bm, 0, none⟩) n n))) := hbx
  have HKK : Hid (Mk ps false E ∧ Mk ps true M ∧ Fi ps M E F) := ⟨hkE, hkM, hkF⟩
  have HGE : Hid (w.heap.size + 2 ≤ w2.heap.size) := by
    have h1 := HR1.out.lt
    have h2 := hb2.size
    show _ ≤ _
    omega
  clear he1 hf1 hm1 hb2 hE hF hM hkE hkM hkF hb3 hbx hb13 k0 k1 k2 HR1 HG1
  obtain ⟨cf, HCF⟩ : ∃ cf, Hid (w2.heap.size = cf) := ⟨_, (rfl : w2.heap.size = w2.heap.size)⟩
  rw [HCF.out] at HBX HGE
  have k0 := HG3.out.c0
  have k1 := HG3.out.c1
  have k2 := HG3.out.c2
  rw [← HW3.out] at k0 k1 k2
  go_wp2_with fail
  rw [HW3.out, HCF.out]
  clear k0 k1 k2 HW3
  refine (reached_any t n _ ps w3 HG3.out.pds HG.out).mono ?_
  rintro _ w4 ⟨br, rfl, hge4, hb4, R, hR4, hkR⟩
  have hbx4 := HBX.out.of_block (hb4.block _ HBX.out.lt)
  have q3 := hbx4.cell (i := 3) (by omega)
  have z3 := hbx4.frozen 3
  obtain ⟨w5, HW5⟩ : ∃ w5, Hid (w4.setCell ⟨cf, 3, none⟩ (.slice (some ⟨br, 0, none⟩) n n) = w5) := ⟨_, (rfl : _ = _)⟩
  have hoth : ∀ k, k ≠ cf → w5.heap[k]? = w4.heap[k]? := fun k hk => by rw [← HW5.out]; exact Go.Deep.blk_setCell_other _ _ _ _ hk
  have hbx5 := (hbx4.set 3 (.slice (some ⟨br, 0, none⟩) n n)).congr (fv_three (.slice (some ⟨be, 0, none⟩) n n) (.slice (some ⟨bf, 0, none⟩) n n) (.slice none 0 0) (.slice none 0 0) (.slice (some ⟨bm, 0, none⟩) n n) (.slice (some ⟨br, 0, none⟩) n n))
  rw [HW5.out] at hbx5
  have HB35 : Hid (Below w.heap.size w w5) := by
    show Below _ _ _
    rw [← HW5.out]
    exact (HG3.out.below.trans (hb4.mono HG3.out.below.size)).setCell (by have := HGE.out; show _ ≤ cf; omega) _
  have HCG : Hid (w.heap.size ≠ cf ∧ w.heap.size + 1 ≠ cf) := by have := HGE.out; exact ⟨by omega, by omega⟩
  have hrr4 := HR3.out.of_block (hb4.block _ HR3.out.lt)
  have hg4 := HG3.out.next hb4
  have HR5 : Hid (w5.rowIs (w.heap.size + 1) 43 5 (fun _ => .slice none 0 0)) := hrr4.of_block (hoth _ HCG.out.2)
  have hgb5 : w5.heap[w.heap.size]? = w4.heap[w.heap.size]? := hoth _ HCG.out.1
  have HK5 : Hid (w5.cell? ⟨w.heap.size, 0, none⟩ = some (.int .i64 t) ∧ w5.cell? ⟨w.heap.size, 1, none⟩ = some (.int .i64 (n : Int)) ∧ w5.cell? ⟨w.heap.size, 2, none⟩ = some (.slice ao ps.length c)) :=
    ⟨(World.cell?_of_block (w := w4) hgb5).trans hg4.c0, (World.cell?_of_block (w := w4) hgb5).trans hg4.c1, (World.cell?_of_block (w := w4) hgb5).trans hg4.c2⟩
  have HP5 : Hid (Pds w5 (.slice ao ps.length c) ps) := HP.out.below HB35.out
  have HE5 : Hid (Rb w5 be n E) := (HE3.out.next hb4).of (hoth _ (row_ne (HE3.out.next hb4) hbx4 (by decide)))
  have HF5 : Hid (Rw w5 bf n F) := (HF3.out.next hb4).of (hoth _ (row_ne (HF3.out.next hb4) hbx4 (by decide)))
  have HM5 : Hid (Rb w5 bm n M) := (HM3.out.next hb4).of (hoth _ (row_ne (HM3.out.next hb4) hbx4 (by decide)))
  have HRR5 : Hid (Rb w5 br n R) := hR4.of (hoth _ (row_ne hR4 hbx4 (by decide)))
  have HB5 : Hid (w5.rowIs cf 43 5 (fv (.slice (some ⟨be, 0, none⟩) n n) (.slice (some ⟨bf, 0, none⟩) n n) (.slice none 0 0) (.slice (some ⟨br, 0, none⟩) n n) (.slice (some ⟨bm, 0, none⟩) n n))) := hbx5
  have HKR : Hid (Re ps R) := hkR
  have u0 := HK5.out.1
  have u1 := HK5.out.2.1
  have u2 := HK5.out.2.2
  have p0 := hbx5.cell (i := 0) (by omega)
  have p1 := hbx5.cell (i := 1) (by omega)
  have p2 := hbx5.cell (i := 2) (by omega)
  have p3 := hbx5.cell (i := 3) (by omega)
  have p4 := hbx5.cell (i := 4) (by omega)
  simp only [fv] at p0 p1 p2 p3 p4
  rw [← HW5.out] at u0 u1 u2 p0 p1 p2 p3 p4
  clear hge4 hR4 hkR hbx4 hoth hbx5 hrr4 hg4 hgb5 hb4 HG3 HE3 HF3 HM3 HBX HR3
  go_wp2_with fail
  rw [HW5.out]
  clear u0 u1 u2 p0 p1 p2 p3 p4 q3 z3 HW5
  refine (followers_any t n be bf E F _ _ _ _ ps w5 HP5.out HG.out HE5.out HF5.out ⟨_, _, _, rfl⟩ ⟨_, _, _, rfl⟩ ⟨_, _, _, rfl⟩).mono ?_
  rintro _ w6 ⟨bw, rfl, hge6, hb6, V, hV6, hkV⟩
  have hbx6 := HB5.out.of_block (hb6.block _ HB5.out.lt)
  have q2 := hbx6.cell (i := 2) (by omega)
  have z2 := hbx6.frozen 2
  obtain ⟨w7, HW7⟩ : ∃ w7, Hid (w6.setCell ⟨cf, 2, none⟩ (.slice (some ⟨bw, 0, none⟩) n n) = w7) := ⟨_, (rfl : _ = _)⟩
  have hoth : ∀ k, k ≠ cf → w7.heap[k]? = w6.heap[k]? := fun k hk => by rw [← HW7.out]; exact Go.Deep.blk_setCell_other _ _ _ _ hk
  have hbx7 := (hbx6.set 2 (.slice (some ⟨bw, 0, none⟩) n n)).congr (fv_two (.slice (some ⟨be, 0, none⟩) n n) (.slice (some ⟨bf, 0, none⟩) n n) (.slice none 0 0) (.slice (some ⟨br, 0, none⟩) n n) (.slice (some ⟨bm, 0, none⟩) n n) (.slice (some ⟨bw, 0, none⟩) n n))
  rw [HW7.out] at hbx7
  have HB7 : Hid (Below w.heap.size w w7) := by
    show Below _ _ _
    rw [← HW7.out]
    exact (HB35.out.trans (hb6.mono HB35.out.size)).setCell (by have := HGE.out; show _ ≤ cf; omega) _
  have hrr7 := (HR5.out.of_block (hb6.block _ HR5.out.lt)).of_block (hoth _ HCG.out.2)
  have HR7 : Hid (w7.rowIs (w.heap.size + 1) 43 5 (fun _ => .slice none 0 0)) := hrr7
  have HFX : Hid (Fx n be bf bw br bm E F V R M w7 ∧ Fa ps E F V R M) := ⟨⟨(HE5.out.next hb6).of (hoth _ (row_ne (HE5.out.next hb6) hbx6 (by decide))), (HF5.out.next hb6).of (hoth _ (row_ne (HF5.out.next hb6) hbx6 (by decide))), hV6.of (hoth _ (row_ne hV6 hbx6 (by decide))), (HRR5.out.next hb6).of (hoth _ (row_ne (HRR5.out.next hb6) hbx6 (by decide))), (HM5.out.next hb6).of (hoth _ (row_ne (HM5.out.next hb6) hbx6 (by decide)))⟩, HKK.out.1, HKK.out.2.1, HKK.out.2.2, HKR.out, hkV⟩
  have p0 := hbx7.cell (i := 0) (by omega)
  have a0 := hrr7.cell (i := 0) (by omega)
  have y0 := hrr7.frozen 0
  have p1 := hbx7.cell (i := 1) (by omega)
  have a1 := hrr7.cell (i := 1) (by omega)
  have y1 := hrr7.frozen 1
  have p2 := hbx7.cell (i := 2) (by omega)
  have a2 := hrr7.cell (i := 2) (by omega)
  have y2 := hrr7.frozen 2
  have p3 := hbx7.cell (i := 3) (by omega)
  have a3 := hrr7.cell (i := 3) (by omega)
  have y3 := hrr7.frozen 3
  have p4 := hbx7.cell (i := 4) (by omega)
  have a4 := hrr7.cell (i := 4) (by omega)
  have y4 := hrr7.frozen 4
  simp only [fv] at p0 p1 p2 p3 p4
  rw [← HW7.out] at p0 p1 p2 p3 p4 a0 a1 a2 a3 a4 y0 y1 y2 y3 y4
  clear hge6 hV6 hkV hbx6 hoth hbx7 hb6 hrr7 HE5 HF5 HM5 HRR5 HB5 HR5 HK5 HP5
  go_wp2_with fail
  rw [HW7.out]
  clear p0 p1 p2 p3 p4 q2 z2 a0 a1 a2 a3 a4 y0 y1 y2 y3 y4
  obtain ⟨w8, HW8⟩ : ∃ w8, Hid ((((((w7.setCell ⟨w.heap.size + 1, 0, none⟩ (.slice (some ⟨be, 0, none⟩) n n)).setCell ⟨w.heap.size + 1, 1, none⟩ (.slice (some ⟨bf, 0, none⟩) n n)).setCell ⟨w.heap.size + 1, 2, none⟩ (.slice (some ⟨bw, 0, none⟩) n n)).setCell ⟨w.heap.size + 1, 3, none⟩ (.slice (some ⟨br, 0, none⟩) n n)).setCell ⟨w.heap.size + 1, 4, none⟩ (.slice (some ⟨bm, 0, none⟩) n n)) = w8) := ⟨_, (rfl : _ = _)⟩
  rw [HW8.out]
  have HSET := row_five HR7.out (.slice (some ⟨be, 0, none⟩) n n) (.slice (some ⟨bf, 0, none⟩) n n) (.slice (some ⟨bw, 0, none⟩) n n) (.slice (some ⟨br, 0, none⟩) n n) (.slice (some ⟨bm, 0, none⟩) n n)
  have HOTH := five_other w7 (w.heap.size + 1) (.slice (some ⟨be, 0, none⟩) n n) (.slice (some ⟨bf, 0, none⟩) n n) (.slice (some ⟨bw, 0, none⟩) n n) (.slice (some ⟨br, 0, none⟩) n n) (.slice (some ⟨bm, 0, none⟩) n n)
  have HBL : Below w.heap.size w w8 := by
    rw [← HW8.out]
    exact ((((HB7.out.setCell (by simp) _).setCell (by simp) _).setCell (by simp) _).setCell (by simp) _).setCell (by simp) _
  rw [HW8.out] at HSET HOTH
  have hx := HFX.out.1
  have HFIN : Hid (Fw w n ps be bf bw br bm w8) := ⟨HBL, E, F, V, R, M, ⟨hx.e.of (HOTH _ (row_ne hx.e HR7.out (by decide))), hx.f.of (HOTH _ (row_ne hx.f HR7.out (by decide))), hx.v.of (HOTH _ (row_ne hx.v HR7.out (by decide))), hx.r.of (HOTH _ (row_ne hx.r HR7.out (by decide))), hx.m.of (HOTH _ (row_ne hx.m HR7.out (by decide)))⟩, HFX.out.2⟩
  have v0 := HSET.cell (i := 0) (by omega)
  have v1 := HSET.cell (i := 1) (by omega)
  have v2 := HSET.cell (i := 2) (by omega)
  have v3 := HSET.cell (i := 3) (by omega)
  have v4 := HSET.cell (i := 4) (by omega)
  simp only [fv] at v0 v1 v2 v3 v4
  clear HSET HOTH HBL hx
  exact bodyPost_ret (v := .tuple #[.agg #[(.slice (some ⟨be, 0, none⟩) n n), (.slice (some ⟨bf, 0, none⟩) n n), (.slice (some ⟨bw, 0, none⟩) n n), (.slice (some ⟨br, 0, none⟩) n n), (.slice (some ⟨bm, 0, none⟩) n n)], .int .i64 0]) (by simp [results, Try.results17, go_sem, v0, v1, v2, v3, v4]) rfl ⟨_, _, _, _, _, rfl, HFIN.out⟩
end Go.Proofs.Ytmcmidfpglhnmaa
