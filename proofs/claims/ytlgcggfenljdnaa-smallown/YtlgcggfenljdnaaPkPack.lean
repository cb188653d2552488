/-
  The contract of small.Pack.
-/
import Derived.Test.YtlgcggfenljdnaaPkHold
import Derived.Test.YtlgcggfenljdnaaRefs
namespace Go.Proofs.Ytlgcggfenljdnaa
open Go.RowKit
open Go.Maps
open Dfa

theorem zero5 (w : World) : (zeroValue 5).run Try.prog w = .ok (.int .u8 0) w := (zero_of_info (P := Try.prog) (t := 5) (v := .int .u8 0) (n := 1) (by kernel_rfl)).1 w
theorem cl_one (n : Nat) (R : Nat → Nat → Int) (b : Nat) : (cl n R b).toArray.all (·.oneCell') = true := all_oneCell_toArray fun v hv => by
  simp only [cl, List.mem_map] at hv
  obtain ⟨j, _, rfl⟩ := hv
  rfl
theorem info23 : (Try.prog.info? 23).map (fun i => (i.zero, i.size, i.bytes)) = some (some (.slice none 0 0), 1, 24) := by kernel_rfl
structure RP4 (w w1 : World) (zs : Array Value) (n : Nat) (T : Nat → Int) (ra : Option Addr) (rc : Nat) (tv : Value) (gN : Nat) (gt : Nat) (ct : Nat) (gp : Nat) (d : Nat → Bool) (x5 x17 x18 x19 x20 x21 x22 x23 x24 : Value) (W : World) : Prop where
  f0 : d 0 = true → x17 = (.pointer (some ⟨w.heap.size, 0, none⟩))
  f1 : d 1 = true → x18 = (.slice ra n rc)
  f2 : d 2 = true → x19 = (.int .i64 (n : Int))
  f3 : d 3 = true → x20 = (.slice (some ⟨gN, 0, none⟩) n n)
  f4 : d 4 = true → x21 = (.pointer (some ⟨w.heap.size, 1, none⟩))
  f5 : d 5 = true → tv = x22
  f6 : d 6 = true → x23 = (.slice (some ⟨gt, 0, none⟩) n ct)
  f7 : d 7 = true → x24 = (.agg (pl (fun _ => 0) (.slice (some ⟨gN, 0, none⟩) n n) (.slice (some ⟨gt, 0, none⟩) n ct)).toArray)
  f8 : d 8 = true → x5 = (.pointer (some ⟨gp, 0, none⟩))
  f9 : d 9 = true → True
  q7_3 : d 7 = true → d 3 = true
  q7_6 : d 7 = true → d 6 = true
  q9_8 : d 9 = true → d 8 = true
  q9_7 : d 9 = true → d 7 = true
  q9_3 : d 9 = true → d 3 = true
  q9_6 : d 9 = true → d 6 = true
  bel : Below w.heap.size w W
  bx : W.cell? ⟨w.heap.size, 0, none⟩ = some (.slice ra n rc) ∧ W.cell? ⟨w.heap.size, 1, none⟩ = some tv
  sz : w1.heap.size ≤ W.heap.size
  rs : W.rowIs (w.heap.size + 1) 47 258 (pf (fun _ => 0) (.slice none 0 0) (.slice none 0 0))
  mr : d 3 = true → w1.heap.size ≤ gN ∧ W.rowIs gN 23 n (fun _ => .slice none 0 0)
  cl : d 6 = true → w1.heap.size ≤ gt ∧ gt < W.heap.size ∧ Tg gt ct n T W
  al : d 8 = true → d 9 = false → w1.heap.size ≤ gp ∧ W.rowIs gp 47 258 (pf (fun _ => 0) (.slice none 0 0) (.slice none 0 0))
  st : d 9 = true → w1.heap.size ≤ gp ∧ W.rowIs gp 47 258 (pf (fun _ => 0) (.slice (some ⟨gN, 0, none⟩) n n) (.slice (some ⟨gt, 0, none⟩) n ct))
  n36 : d 3 = true → d 6 = true → gN ≠ gt
  n38 : d 3 = true → d 8 = true → gN ≠ gp
  n68 : d 6 = true → d 8 = true → gt ≠ gp

/-- Where what is packed lies: a table of rows of one's own, and the tags. -/
def Pow (B n c : Nat) (nv tv : Value) (W : World) : Prop := ∃ B' gN V gt ct X T, nv = .slice (some ⟨gN, 0, none⟩) n n ∧ tv = .slice (some ⟨gt, 0, none⟩) n ct ∧ Tn B' gN n (fun _ => c) X V W ∧ B ≤ gN ∧ B ≤ gt ∧ gt < B' ∧ gN ≠ gt ∧ Tg gt ct n T W
set_option maxHeartbeats 8000000 in
set_option maxRecDepth 20000 in
theorem pack_own (rv tv : Value) (n : Nat) (R : Nat → Nat → Int) (T : Nat → Int) (w : World) (hr : Rw w rv n R) (ht : Ts w tv n T) (hok : chk n n R T = 0) :
    Calls Try.prog 18 #[.agg #[rv, tv]] w fun e w' => ∃ nv tv', e = .returned (.tuple #[.agg (pl (fun b => idx n R (fsts n R b) b) nv tv').toArray, .int .i64 0]) ∧ Nx w' nv n (fun _ => (fsts n R 256).length) (fun i t => R i ((fsts n R 256).getD t 0)) ∧ Ts w' tv' n T ∧ Below w.heap.size w w' ∧ Pow w.heap.size n (fsts n R 256).length nv tv' w' := by
  obtain ⟨n0, n1, -, n2, -⟩ := chk_zero hok
  have HRR : Hid (∀ i j, -32768 ≤ R i j ∧ R i j ≤ 32767) := by obtain ⟨_, _, _, _, h, _⟩ := hr; exact h
  obtain ⟨ra, rc, rfl, -⟩ := id hr
  have HRW : Hid (Rw w (.slice ra n rc) n R) := hr
  have HTS : Hid (Ts w tv n T) := ht
  have HN0 : Hid (0 < n ∧ n ≤ 200) := ⟨n0, n1⟩
  have HOK : Hid (chk n n R T = 0) := hok
  obtain ⟨zs, hz47, hzsz, hzs⟩ := zero47
  have HZ47 : Hid (∀ w, (zeroValue 47).run Try.prog w = .ok (.agg zs) w) := hz47
  have HZSZ : Hid (zs.size = 258) := hzsz
  have HSET : Hid (∀ u v : Value, (zs.setIfInBounds 256 u).setIfInBounds 257 v = (pl (fun _ => 0) u v).toArray) := zset zs hzs
  have HROW : Hid (∀ W : World, (W.alloc (.cells zs 47)).rowIs W.heap.size 47 258 (pf (fun _ => 0) (.slice none 0 0) (.slice none 0 0))) := fun W => by
    have := World.rowIs_alloc W zs 47 (pf (fun _ => 0) (.slice none 0 0) (.slice none 0 0)) (fun i hi => by rw [hzs, List.getElem?_toArray]; exact pf_at _ _ _ i (by omega))
    rwa [hzsz] at this
  have HMK : Hid (∀ W : World, (Instr.makeSlice 45 (.int .i64 (n : Int)) (.int .i64 (n : Int))).run Try.prog W = .ok (.slice (some ⟨W.heap.size, 0, none⟩) n n) (W.alloc (.cells (madeCells #[.slice none 0 0] n) 23))) := fun W => run_make_row' (P := Try.prog) 45 23 (.slice none 0 0) 24 Try.underlying45 info23 rfl .i64 .i64 n (by omega) (by omega) W
  have HRS0 : Hid (((w.alloc (Obj.cells #[(.slice ra n rc), tv] 25)).alloc (Obj.cells zs 47)).rowIs (w.heap.size + 1) 47 258 (pf (fun _ => 0) (.slice none 0 0) (.slice none 0 0))) := by
    have := HROW.out (w.alloc (Obj.cells #[(.slice ra n rc), tv] 25))
    rwa [show (w.alloc (Obj.cells #[(.slice ra n rc), tv] 25)).heap.size = w.heap.size + 1 by simp] at this
  have B0 : Below w.heap.size w ((w.alloc (Obj.cells #[(.slice ra n rc), tv] 25)).alloc (Obj.cells zs 47)) := ((Below.refl _ _).alloc (Nat.le_refl _) _).alloc (by simp) _
  clear hr ht hok n0 n1 n2 hzs hzsz
  have hmm := @run_makeMap Try.prog
  go_enter Try.func18, Try.ntmps18
  go_wp2_with fail
  have hc := check_any _ tv n n R T _ (HRW.out.below B0 (Nat.le_refl _)) (HTS.out.below B0 (Nat.le_refl _))
  rw [HOK.out] at hc
  refine hc.mono ?_
  rintro _ w1 ⟨rfl, hb⟩
  have HB1 : Hid (Below w.heap.size w w1) := B0.trans (hb.mono (by simp; omega))
  have HBX1 : Hid (w1.cell? ⟨w.heap.size, 0, none⟩ = some (.slice ra n rc) ∧ w1.cell? ⟨w.heap.size, 1, none⟩ = some tv) := ⟨(hb.cell (by simp; omega)).trans (by simp), (hb.cell (by simp; omega)).trans (by simp)⟩
  have HRS1 : Hid (w1.rowIs (w.heap.size + 1) 47 258 (pf (fun _ => 0) (.slice none 0 0) (.slice none 0 0))) := HRS0.out.of_block (hb.block _ HRS0.out.lt)
  have HSW : Hid (w.heap.size + 2 ≤ w1.heap.size) := by have := hb.size; simp at this; show _ ≤ _; omega
  clear hb hc HRS0 B0
  go_wp2_with fail
  refine wp_region_free mixed (fun a0 d a W => ∃ (gN : Nat) (gt : Nat) (ct : Nat) (gp : Nat) (x5 x17 x18 x19 x20 x21 x22 x23 x24 : Value), a = (((((((((a0.put (some 5) x5).put (some 17) x17).put (some 18) x18).put (some 19) x19).put (some 20) x20).put (some 21) x21).put (some 22) x22).put (some 23) x23).put (some 24) x24) ∧ Hid (RP4 w w1 zs n T ra rc tv gN gt ct gp d x5 x17 x18 x19 x20 x21 x22 x23 x24 W)) (by kernel_rfl) ⟨0, 0, 0, 0, undef, undef, undef, undef, undef, undef, undef, undef, undef, by simp only [Act.put, List.setIfInBounds_toArray, List.set_cons_zero, List.set_cons_succ], ?_⟩ ?_ ?_
  · exact ⟨fun h => no_way h, fun h => no_way h, fun h => no_way h, fun h => no_way h, fun h => no_way h, fun h => no_way h, fun h => no_way h, fun h => no_way h, fun h => no_way h, fun _ => trivial, fun h => no_way h, fun h => no_way h, fun h => no_way h, fun h => no_way h, fun h => no_way h, fun h => no_way h, HB1.out.drew, HBX1.out, Nat.le_refl _, HRS1.out, fun h => no_way h, fun h => no_way h, fun h => no_way h, fun h => no_way h, fun h => no_way h, fun h => no_way h, fun h => no_way h⟩
  · simp only [StepAll, and_true]
    refine ⟨?_, ?_, ?_, ?_, ?_, ?_, ?_, ?_, ?_, ?_⟩
    · intro d a W hI hd hdep
      obtain ⟨gN, gt, ct, gp, x5, x17, x18, x19, x20, x21, x22, x23, x24, rfl, hF⟩ := hI
      clear hdep hd
      intro K hK
      simp only [Act.put, List.setIfInBounds_toArray, List.set_cons_zero, List.set_cons_succ]
      go_simp
      refine hK.out _ _ ⟨gN, gt, ct, gp, x5, (.pointer (some ⟨w.heap.size, 0, none⟩)), x18, x19, x20, x21, x22, x23, x24, by simp only [Act.put, List.setIfInBounds_toArray, List.set_cons_zero, List.set_cons_succ], ?_⟩
      exact ⟨fun _ => rfl, fun h => hF.out.f1 (by simpa using h), fun h => hF.out.f2 (by simpa using h), fun h => hF.out.f3 (by simpa using h), fun h => hF.out.f4 (by simpa using h), fun h => hF.out.f5 (by simpa using h), fun h => hF.out.f6 (by simpa using h), fun h => hF.out.f7 (by simpa using h), fun h => hF.out.f8 (by simpa using h), fun h => hF.out.f9 (by simpa using h), fun h => by have := hF.out.q7_3 (by simpa using h); simpa using this, fun h => by have := hF.out.q7_6 (by simpa using h); simpa using this, fun h => by have := hF.out.q9_8 (by simpa using h); simpa using this, fun h => by have := hF.out.q9_7 (by simpa using h); simpa using this, fun h => by have := hF.out.q9_3 (by simpa using h); simpa using this, fun h => by have := hF.out.q9_6 (by simpa using h); simpa using this, hF.out.bel, hF.out.bx, hF.out.sz, hF.out.rs, fun h => hF.out.mr (by simpa using h), fun h => hF.out.cl (by simpa using h), fun h h2 => hF.out.al (by simpa using h) (by simpa using h2), fun h => hF.out.st (by simpa using h), fun h k => hF.out.n36 (by simpa using h) (by simpa using k), fun h k => hF.out.n38 (by simpa using h) (by simpa using k), fun h k => hF.out.n68 (by simpa using h) (by simpa using k)⟩
    · intro d a W hI hd hdep
      obtain ⟨gN, gt, ct, gp, x5, x17, x18, x19, x20, x21, x22, x23, x24, rfl, hF⟩ := hI
      have hd0 : d 0 = true := dep_of hdep 0 (by kernel_rfl)
      obtain rfl := hF.out.f0 hd0
      have ya := hF.out.bx.1
      clear hdep hd hd0
      intro K hK
      simp only [Act.put, List.setIfInBounds_toArray, List.set_cons_zero, List.set_cons_succ]
      go_simp
      refine hK.out _ _ ⟨gN, gt, ct, gp, x5, (.pointer (some ⟨w.heap.size, 0, none⟩)), (.slice ra n rc), x19, x20, x21, x22, x23, x24, by simp only [Act.put, List.setIfInBounds_toArray, List.set_cons_zero, List.set_cons_succ], ?_⟩
      exact ⟨fun h => hF.out.f0 (by simpa using h), fun _ => rfl, fun h => hF.out.f2 (by simpa using h), fun h => hF.out.f3 (by simpa using h), fun h => hF.out.f4 (by simpa using h), fun h => hF.out.f5 (by simpa using h), fun h => hF.out.f6 (by simpa using h), fun h => hF.out.f7 (by simpa using h), fun h => hF.out.f8 (by simpa using h), fun h => hF.out.f9 (by simpa using h), fun h => by have := hF.out.q7_3 (by simpa using h); simpa using this, fun h => by have := hF.out.q7_6 (by simpa using h); simpa using this, fun h => by have := hF.out.q9_8 (by simpa using h); simpa using this, fun h => by have := hF.out.q9_7 (by simpa using h); simpa using this, fun h => by have := hF.out.q9_3 (by simpa using h); simpa using this, fun h => by have := hF.out.q9_6 (by simpa using h); simpa using this, hF.out.bel, hF.out.bx, hF.out.sz, hF.out.rs, fun h => hF.out.mr (by simpa using h), fun h => hF.out.cl (by simpa using h), fun h h2 => hF.out.al (by simpa using h) (by simpa using h2), fun h => hF.out.st (by simpa using h), fun h k => hF.out.n36 (by simpa using h) (by simpa using k), fun h k => hF.out.n38 (by simpa using h) (by simpa using k), fun h k => hF.out.n68 (by simpa using h) (by simpa using k)⟩
    · intro d a W hI hd hdep
      obtain ⟨gN, gt, ct, gp, x5, x17, x18, x19, x20, x21, x22, x23, x24, rfl, hF⟩ := hI
      have hd1 : d 1 = true := dep_of hdep 1 (by kernel_rfl)
      obtain rfl := hF.out.f1 hd1
      clear hdep hd hd1
      intro K hK
      simp only [Act.put, List.setIfInBounds_toArray, List.set_cons_zero, List.set_cons_succ]
      go_simp
      refine hK.out _ _ ⟨gN, gt, ct, gp, x5, x17, (.slice ra n rc), (.int .i64 (n : Int)), x20, x21, x22, x23, x24, by simp only [Act.put, List.setIfInBounds_toArray, List.set_cons_zero, List.set_cons_succ], ?_⟩
      exact ⟨fun h => hF.out.f0 (by simpa using h), fun h => hF.out.f1 (by simpa using h), fun _ => rfl, fun h => hF.out.f3 (by simpa using h), fun h => hF.out.f4 (by simpa using h), fun h => hF.out.f5 (by simpa using h), fun h => hF.out.f6 (by simpa using h), fun h => hF.out.f7 (by simpa using h), fun h => hF.out.f8 (by simpa using h), fun h => hF.out.f9 (by simpa using h), fun h => by have := hF.out.q7_3 (by simpa using h); simpa using this, fun h => by have := hF.out.q7_6 (by simpa using h); simpa using this, fun h => by have := hF.out.q9_8 (by simpa using h); simpa using this, fun h => by have := hF.out.q9_7 (by simpa using h); simpa using this, fun h => by have := hF.out.q9_3 (by simpa using h); simpa using this, fun h => by have := hF.out.q9_6 (by simpa using h); simpa using this, hF.out.bel, hF.out.bx, hF.out.sz, hF.out.rs, fun h => hF.out.mr (by simpa using h), fun h => hF.out.cl (by simpa using h), fun h h2 => hF.out.al (by simpa using h) (by simpa using h2), fun h => hF.out.st (by simpa using h), fun h k => hF.out.n36 (by simpa using h) (by simpa using k), fun h k => hF.out.n38 (by simpa using h) (by simpa using k), fun h k => hF.out.n68 (by simpa using h) (by simpa using k)⟩
    · intro d a W hI hd hdep
      obtain ⟨gN, gt, ct, gp, x5, x17, x18, x19, x20, x21, x22, x23, x24, rfl, hF⟩ := hI
      have hd2 : d 2 = true := dep_of hdep 2 (by kernel_rfl)
      obtain rfl := hF.out.f2 hd2
      have hmk := HMK.out W
      have HN9 : Hid (d 9 = false) := no_later hF.out.q9_3 hd
      have HN7 : Hid (d 7 = false) := no_later hF.out.q7_3 hd
      have B1 := (Below.refl W.heap.size W).alloc (Nat.le_refl _) (Obj.cells (madeCells #[Value.slice none 0 0] n) 23)
      clear hdep hd hd2
      intro K hK
      simp only [Act.put, List.setIfInBounds_toArray, List.set_cons_zero, List.set_cons_succ]
      go_simp
      refine hK.out _ _ ⟨W.heap.size, gt, ct, gp, x5, x17, x18, (.int .i64 (n : Int)), (.slice (some ⟨W.heap.size, 0, none⟩) n n), x21, x22, x23, x24, by simp only [Act.put, List.setIfInBounds_toArray, List.set_cons_zero, List.set_cons_succ], ?_⟩
      exact ⟨fun h => hF.out.f0 (by simpa using h), fun h => hF.out.f1 (by simpa using h), fun h => hF.out.f2 (by simpa using h), fun _ => rfl, fun h => hF.out.f4 (by simpa using h), fun h => hF.out.f5 (by simpa using h), fun h => hF.out.f6 (by simpa using h), fun h => by have := HN7.out; simp [this] at h, fun h => hF.out.f8 (by simpa using h), fun h => hF.out.f9 (by simpa using h), fun _ => by simp, fun h => by have := hF.out.q7_6 (by simpa using h); simpa using this, fun h => by have := hF.out.q9_8 (by simpa using h); simpa using this, fun h => by have := hF.out.q9_7 (by simpa using h); simpa using this, fun _ => by simp, fun h => by have := hF.out.q9_6 (by simpa using h); simpa using this, hF.out.bel.trans (B1.mono hF.out.bel.size), ⟨Go.Lib.cell?_alloc_some _ hF.out.bx.1, Go.Lib.cell?_alloc_some _ hF.out.bx.2⟩, Nat.le_trans hF.out.sz B1.size, hF.out.rs.alloc _, fun _ => ⟨hF.out.sz, World.rowIs_made W _ n 23⟩, fun h => have k := hF.out.cl (by simpa using h); ⟨k.1, Nat.lt_of_lt_of_le k.2.1 B1.size, k.2.2.same (B1.block _ k.2.1)⟩, fun h h2 => have k := hF.out.al (by simpa using h) (by simpa using h2); ⟨k.1, k.2.alloc _⟩, fun h => by have := HN9.out; simp [this] at h, fun _ k => by have := (hF.out.cl (by simpa using k)).2.1; omega, fun _ k => by have := (hF.out.al (by simpa using k) (by simpa using HN9.out)).2.lt; omega, fun h k => hF.out.n68 (by simpa using h) (by simpa using k)⟩
    · intro d a W hI hd hdep
      obtain ⟨gN, gt, ct, gp, x5, x17, x18, x19, x20, x21, x22, x23, x24, rfl, hF⟩ := hI
      clear hdep hd
      intro K hK
      simp only [Act.put, List.setIfInBounds_toArray, List.set_cons_zero, List.set_cons_succ]
      go_simp
      refine hK.out _ _ ⟨gN, gt, ct, gp, x5, x17, x18, x19, x20, (.pointer (some ⟨w.heap.size, 1, none⟩)), x22, x23, x24, by simp only [Act.put, List.setIfInBounds_toArray, List.set_cons_zero, List.set_cons_succ], ?_⟩
      exact ⟨fun h => hF.out.f0 (by simpa using h), fun h => hF.out.f1 (by simpa using h), fun h => hF.out.f2 (by simpa using h), fun h => hF.out.f3 (by simpa using h), fun _ => rfl, fun h => hF.out.f5 (by simpa using h), fun h => hF.out.f6 (by simpa using h), fun h => hF.out.f7 (by simpa using h), fun h => hF.out.f8 (by simpa using h), fun h => hF.out.f9 (by simpa using h), fun h => by have := hF.out.q7_3 (by simpa using h); simpa using this, fun h => by have := hF.out.q7_6 (by simpa using h); simpa using this, fun h => by have := hF.out.q9_8 (by simpa using h); simpa using this, fun h => by have := hF.out.q9_7 (by simpa using h); simpa using this, fun h => by have := hF.out.q9_3 (by simpa using h); simpa using this, fun h => by have := hF.out.q9_6 (by simpa using h); simpa using this, hF.out.bel, hF.out.bx, hF.out.sz, hF.out.rs, fun h => hF.out.mr (by simpa using h), fun h => hF.out.cl (by simpa using h), fun h h2 => hF.out.al (by simpa using h) (by simpa using h2), fun h => hF.out.st (by simpa using h), fun h k => hF.out.n36 (by simpa using h) (by simpa using k), fun h k => hF.out.n38 (by simpa using h) (by simpa using k), fun h k => hF.out.n68 (by simpa using h) (by simpa using k)⟩
    · intro d a W hI hd hdep
      obtain ⟨gN, gt, ct, gp, x5, x17, x18, x19, x20, x21, x22, x23, x24, rfl, hF⟩ := hI
      have hd4 : d 4 = true := dep_of hdep 4 (by kernel_rfl)
      obtain rfl := hF.out.f4 hd4
      have ya := hF.out.bx.2
      clear hdep hd hd4
      intro K hK
      simp only [Act.put, List.setIfInBounds_toArray, List.set_cons_zero, List.set_cons_succ]
      go_simp
      refine hK.out _ _ ⟨gN, gt, ct, gp, x5, x17, x18, x19, x20, (.pointer (some ⟨w.heap.size, 1, none⟩)), tv, x23, x24, by simp only [Act.put, List.setIfInBounds_toArray, List.set_cons_zero, List.set_cons_succ], ?_⟩
      exact ⟨fun h => hF.out.f0 (by simpa using h), fun h => hF.out.f1 (by simpa using h), fun h => hF.out.f2 (by simpa using h), fun h => hF.out.f3 (by simpa using h), fun h => hF.out.f4 (by simpa using h), fun _ => rfl, fun h => hF.out.f6 (by simpa using h), fun h => hF.out.f7 (by simpa using h), fun h => hF.out.f8 (by simpa using h), fun h => hF.out.f9 (by simpa using h), fun h => by have := hF.out.q7_3 (by simpa using h); simpa using this, fun h => by have := hF.out.q7_6 (by simpa using h); simpa using this, fun h => by have := hF.out.q9_8 (by simpa using h); simpa using this, fun h => by have := hF.out.q9_7 (by simpa using h); simpa using this, fun h => by have := hF.out.q9_3 (by simpa using h); simpa using this, fun h => by have := hF.out.q9_6 (by simpa using h); simpa using this, hF.out.bel, hF.out.bx, hF.out.sz, hF.out.rs, fun h => hF.out.mr (by simpa using h), fun h => hF.out.cl (by simpa using h), fun h h2 => hF.out.al (by simpa using h) (by simpa using h2), fun h => hF.out.st (by simpa using h), fun h k => hF.out.n36 (by simpa using h) (by simpa using k), fun h k => hF.out.n38 (by simpa using h) (by simpa using k), fun h k => hF.out.n68 (by simpa using h) (by simpa using k)⟩
    · intro d a W hI hd hdep
      obtain ⟨gN, gt, ct, gp, x5, x17, x18, x19, x20, x21, x22, x23, x24, rfl, hF⟩ := hI
      have hd5 : d 5 = true := dep_of hdep 5 (by kernel_rfl)
      obtain rfl := hF.out.f5 hd5
      have HN9 : Hid (d 9 = false) := no_later hF.out.q9_6 hd
      have HN7 : Hid (d 7 = false) := no_later hF.out.q7_6 hd
      have hcl := clone_row _ n T W (HTS.out.below hF.out.bel (Nat.le_refl _)) HN0.out.1 HN0.out.2
      clear hdep hd hd5
      intro K hK
      simp only [Act.put, List.setIfInBounds_toArray, List.set_cons_zero, List.set_cons_succ]
      go_simp
      refine hcl.mono ?_
      rintro _ W1 ⟨gt1, ct1, rfl, hg1, hg2, hg3, hB⟩
      go_simp
      refine hK.out _ _ ⟨gN, gt1, ct1, gp, x5, x17, x18, x19, x20, x21, tv, (.slice (some ⟨gt1, 0, none⟩) n ct1), x24, by simp only [Act.put, List.setIfInBounds_toArray, List.set_cons_zero, List.set_cons_succ], ?_⟩
      exact ⟨fun h => hF.out.f0 (by simpa using h), fun h => hF.out.f1 (by simpa using h), fun h => hF.out.f2 (by simpa using h), fun h => hF.out.f3 (by simpa using h), fun h => hF.out.f4 (by simpa using h), fun h => hF.out.f5 (by simpa using h), fun _ => rfl, fun h => by have := HN7.out; simp [this] at h, fun h => hF.out.f8 (by simpa using h), fun h => hF.out.f9 (by simpa using h), fun h => by have := hF.out.q7_3 (by simpa using h); simpa using this, fun _ => by simp, fun h => by have := hF.out.q9_8 (by simpa using h); simpa using this, fun h => by have := hF.out.q9_7 (by simpa using h); simpa using this, fun h => by have := hF.out.q9_3 (by simpa using h); simpa using this, fun _ => by simp, hF.out.bel.trans (hB.mono hF.out.bel.size), ⟨(hB.cell (p := ⟨w.heap.size, 0, none⟩) (by have := hF.out.sz; have := HSW.out; simp; omega)).trans hF.out.bx.1, (hB.cell (p := ⟨w.heap.size, 1, none⟩) (by have := hF.out.sz; have := HSW.out; simp; omega)).trans hF.out.bx.2⟩, Nat.le_trans hF.out.sz hB.size, hF.out.rs.of_block (hB.block _ hF.out.rs.lt), fun h => have k := hF.out.mr (by simpa using h); ⟨k.1, k.2.of_block (hB.block _ k.2.lt)⟩, fun _ => ⟨Nat.le_trans hF.out.sz hg1, hg2, hg3⟩, fun h h2 => have k := hF.out.al (by simpa using h) (by simpa using h2); ⟨k.1, k.2.of_block (hB.block _ k.2.lt)⟩, fun h => by have := HN9.out; simp [this] at h, fun k _ => by have := (hF.out.mr (by simpa using k)).2.lt; omega, fun h k => hF.out.n38 (by simpa using h) (by simpa using k), fun _ k => by have := (hF.out.al (by simpa using k) (by simpa using HN9.out)).2.lt; omega⟩
    · intro d a W hI hd hdep
      obtain ⟨gN, gt, ct, gp, x5, x17, x18, x19, x20, x21, x22, x23, x24, rfl, hF⟩ := hI
      have hd3 : d 3 = true := dep_of hdep 3 (by kernel_rfl)
      have hd6 : d 6 = true := dep_of hdep 6 (by kernel_rfl)
      obtain rfl := hF.out.f3 hd3
      obtain rfl := hF.out.f6 hd6
      have e7_3 := hd3
      have e7_6 := hd6
      have hset := HSET.out
      have hz47 := HZ47.out
      have hsz := HZSZ.out
      clear hdep hd hd3 hd6
      intro K hK
      simp only [Act.put, List.setIfInBounds_toArray, List.set_cons_zero, List.set_cons_succ]
      go_simp
      refine hK.out _ _ ⟨gN, gt, ct, gp, x5, x17, x18, x19, (.slice (some ⟨gN, 0, none⟩) n n), x21, x22, (.slice (some ⟨gt, 0, none⟩) n ct), (.agg (pl (fun _ => 0) (.slice (some ⟨gN, 0, none⟩) n n) (.slice (some ⟨gt, 0, none⟩) n ct)).toArray), by simp only [Act.put, List.setIfInBounds_toArray, List.set_cons_zero, List.set_cons_succ], ?_⟩
      exact ⟨fun h => hF.out.f0 (by simpa using h), fun h => hF.out.f1 (by simpa using h), fun h => hF.out.f2 (by simpa using h), fun h => hF.out.f3 (by simpa using h), fun h => hF.out.f4 (by simpa using h), fun h => hF.out.f5 (by simpa using h), fun h => hF.out.f6 (by simpa using h), fun _ => rfl, fun h => hF.out.f8 (by simpa using h), fun h => hF.out.f9 (by simpa using h), fun _ => by simpa using e7_3, fun _ => by simpa using e7_6, fun h => by have := hF.out.q9_8 (by simpa using h); simpa using this, fun _ => by simp, fun h => by have := hF.out.q9_3 (by simpa using h); simpa using this, fun h => by have := hF.out.q9_6 (by simpa using h); simpa using this, hF.out.bel, hF.out.bx, hF.out.sz, hF.out.rs, fun h => hF.out.mr (by simpa using h), fun h => hF.out.cl (by simpa using h), fun h h2 => hF.out.al (by simpa using h) (by simpa using h2), fun h => hF.out.st (by simpa using h), fun h k => hF.out.n36 (by simpa using h) (by simpa using k), fun h k => hF.out.n38 (by simpa using h) (by simpa using k), fun h k => hF.out.n68 (by simpa using h) (by simpa using k)⟩
    · intro d a W hI hd hdep
      obtain ⟨gN, gt, ct, gp, x5, x17, x18, x19, x20, x21, x22, x23, x24, rfl, hF⟩ := hI
      have HN9 : Hid (d 9 = false) := no_later hF.out.q9_8 hd
      have hz47 := HZ47.out
      have B1 := (Below.refl W.heap.size W).alloc (Nat.le_refl _) (Obj.cells zs 47)
      clear hdep hd
      intro K hK
      simp only [Act.put, List.setIfInBounds_toArray, List.set_cons_zero, List.set_cons_succ]
      go_simp
      refine hK.out _ _ ⟨gN, gt, ct, W.heap.size, (.pointer (some ⟨W.heap.size, 0, none⟩)), x17, x18, x19, x20, x21, x22, x23, x24, by simp only [Act.put, List.setIfInBounds_toArray, List.set_cons_zero, List.set_cons_succ], ?_⟩
      exact ⟨fun h => hF.out.f0 (by simpa using h), fun h => hF.out.f1 (by simpa using h), fun h => hF.out.f2 (by simpa using h), fun h => hF.out.f3 (by simpa using h), fun h => hF.out.f4 (by simpa using h), fun h => hF.out.f5 (by simpa using h), fun h => hF.out.f6 (by simpa using h), fun h => hF.out.f7 (by simpa using h), fun _ => rfl, fun h => hF.out.f9 (by simpa using h), fun h => by have := hF.out.q7_3 (by simpa using h); simpa using this, fun h => by have := hF.out.q7_6 (by simpa using h); simpa using this, fun _ => by simp, fun h => by have := hF.out.q9_7 (by simpa using h); simpa using this, fun h => by have := hF.out.q9_3 (by simpa using h); simpa using this, fun h => by have := hF.out.q9_6 (by simpa using h); simpa using this, hF.out.bel.trans (B1.mono hF.out.bel.size), ⟨Go.Lib.cell?_alloc_some _ hF.out.bx.1, Go.Lib.cell?_alloc_some _ hF.out.bx.2⟩, Nat.le_trans hF.out.sz B1.size, hF.out.rs.alloc _, fun h => have k := hF.out.mr (by simpa using h); ⟨k.1, k.2.alloc _⟩, fun h => have k := hF.out.cl (by simpa using h); ⟨k.1, Nat.lt_of_lt_of_le k.2.1 B1.size, k.2.2.same (B1.block _ k.2.1)⟩, fun _ _ => ⟨hF.out.sz, HROW.out W⟩, fun h => by have := HN9.out; simp [this] at h, fun h k => hF.out.n36 (by simpa using h) (by simpa using k), fun k _ => by have := (hF.out.mr (by simpa using k)).2.lt; omega, fun k _ => by have := (hF.out.cl (by simpa using k)).2.1; omega⟩
    · intro d a W hI hd hdep
      obtain ⟨gN, gt, ct, gp, x5, x17, x18, x19, x20, x21, x22, x23, x24, rfl, hF⟩ := hI
      have hd8 : d 8 = true := dep_of hdep 8 (by kernel_rfl)
      have hd7 : d 7 = true := dep_of hdep 7 (by kernel_rfl)
      obtain rfl := hF.out.f8 hd8
      obtain rfl := hF.out.f7 hd7
      have e9_8 := hd8
      have e9_7 := hd7
      have e9_3 := hF.out.q7_3 hd7
      have e9_6 := hF.out.q7_6 hd7
      have hal := hF.out.al hd8 hd
      have hn1 := hF.out.n38 e9_3 hd8
      have hn2 := hF.out.n68 e9_6 hd8
      have hlen := pl_length (fun _ => 0) (.slice (some ⟨gN, 0, none⟩) n n) (.slice (some ⟨gt, 0, none⟩) n ct)
      clear hdep hd hd8 hd7
      intro K hK
      simp only [Act.put, List.setIfInBounds_toArray, List.set_cons_zero, List.set_cons_succ]
      refine wp_store_mid 47 _ _ rfl gp 0 (pl (fun _ => 0) (.slice (some ⟨gN, 0, none⟩) n n) (.slice (some ⟨gt, 0, none⟩) n ct)).toArray rfl rfl (by rw [List.size_toArray, hlen]; exact there_row hal.2) (by rw [List.size_toArray, hlen]; exact size47) (pl_one _ _ _ _ _ _ _) ?_
      refine hK.out _ _ ⟨gN, gt, ct, gp, (.pointer (some ⟨gp, 0, none⟩)), x17, x18, x19, x20, x21, x22, x23, (.agg (pl (fun _ => 0) (.slice (some ⟨gN, 0, none⟩) n n) (.slice (some ⟨gt, 0, none⟩) n ct)).toArray), by simp only [Act.put, List.setIfInBounds_toArray, List.set_cons_zero, List.set_cons_succ], ?_⟩
      obtain ⟨f9, hf9, -, hf9b⟩ := rowIs_setCells (pl (fun _ => 0) (.slice (some ⟨gN, 0, none⟩) n n) (.slice (some ⟨gt, 0, none⟩) n ct)).toArray.toList 0 _ hal.2 (by simp [hlen])
      have hoth : ∀ k, k ≠ gp → (W.setCells gp 0 (pl (fun _ => 0) (.slice (some ⟨gN, 0, none⟩) n n) (.slice (some ⟨gt, 0, none⟩) n ct)).toArray.toList).heap[k]? = W.heap[k]? := fun k hk => heap_setCells_ne _ _ _ _ _ hk
      have hsz9 : (W.setCells gp 0 (pl (fun _ => 0) (.slice (some ⟨gN, 0, none⟩) n n) (.slice (some ⟨gt, 0, none⟩) n ct)).toArray.toList).heap.size = W.heap.size := size_setCells _ _ _ _
      exact ⟨fun h => hF.out.f0 (by simpa using h), fun h => hF.out.f1 (by simpa using h), fun h => hF.out.f2 (by simpa using h), fun h => hF.out.f3 (by simpa using h), fun h => hF.out.f4 (by simpa using h), fun h => hF.out.f5 (by simpa using h), fun h => hF.out.f6 (by simpa using h), fun h => hF.out.f7 (by simpa using h), fun h => hF.out.f8 (by simpa using h), fun _ => trivial, fun h => by have := hF.out.q7_3 (by simpa using h); simpa using this, fun h => by have := hF.out.q7_6 (by simpa using h); simpa using this, fun _ => by simpa using e9_8, fun _ => by simpa using e9_7, fun _ => by simpa using e9_3, fun _ => by simpa using e9_6, setCells_below _ (by have := hal.1; have := HSW.out; omega) _ _ _ hF.out.bel, ⟨(cell_same (hoth w.heap.size (by have := hal.1; have := HSW.out; omega)) 0).trans hF.out.bx.1, (cell_same (hoth w.heap.size (by have := hal.1; have := HSW.out; omega)) 1).trans hF.out.bx.2⟩, by rw [hsz9]; exact hF.out.sz, hF.out.rs.of_block (hoth _ (by have := hal.1; have := HSW.out; omega)), fun _ => have k := hF.out.mr e9_3; ⟨k.1, k.2.of_block (hoth _ hn1)⟩, fun _ => have k := hF.out.cl e9_6; ⟨k.1, by rw [hsz9]; exact k.2.1, k.2.2.same (hoth _ hn2)⟩, fun _ h => by simp at h, fun _ => ⟨hal.1, hf9.congr fun q hq => by have := hf9b q _ (by rw [List.toList_toArray]; exact pf_at _ _ _ q hq); rwa [Nat.zero_add] at this⟩, fun _ _ => hF.out.n36 e9_3 e9_6, fun _ _ => hn1, fun _ _ => hn2⟩
  · intro d a W hI hall
    obtain ⟨gN, gt, ct, gp, x5, x17, x18, x19, x20, x21, x22, x23, x24, rfl, hF⟩ := hI
    simp only [List.length_cons, List.length_nil] at hall
    obtain rfl := hF.out.f0 (hall 0 (by omega))
    obtain rfl := hF.out.f1 (hall 1 (by omega))
    obtain rfl := hF.out.f2 (hall 2 (by omega))
    obtain rfl := hF.out.f3 (hall 3 (by omega))
    obtain rfl := hF.out.f4 (hall 4 (by omega))
    obtain rfl := hF.out.f5 (hall 5 (by omega))
    obtain rfl := hF.out.f6 (hall 6 (by omega))
    obtain rfl := hF.out.f7 (hall 7 (by omega))
    obtain rfl := hF.out.f8 (hall 8 (by omega))
    have HR : Hid (Below w.heap.size w W ∧ W.cell? ⟨w.heap.size, 0, none⟩ = some (.slice ra n rc) ∧ W.cell? ⟨w.heap.size, 1, none⟩ = some tv ∧ W.rowIs (w.heap.size + 1) 47 258 (pf (fun _ => 0) (.slice none 0 0) (.slice none 0 0)) ∧ W.rowIs gN 23 n (fun _ => .slice none 0 0) ∧ Tg gt ct n T W ∧ gt < W.heap.size ∧ W.rowIs gp 47 258 (pf (fun _ => 0) (.slice (some ⟨gN, 0, none⟩) n n) (.slice (some ⟨gt, 0, none⟩) n ct)) ∧ gN ≠ gt ∧ gN ≠ gp ∧ gt ≠ gp ∧ w1.heap.size ≤ gN ∧ w1.heap.size ≤ gt ∧ w1.heap.size ≤ gp) := by
      have k3 := hF.out.mr (hall 3 (by omega))
      have k6 := hF.out.cl (hall 6 (by omega))
      have k9 := hF.out.st (hall 9 (by omega))
      exact ⟨hF.out.bel, hF.out.bx.1, hF.out.bx.2, hF.out.rs, k3.2, k6.2.2, k6.2.1, k9.2, hF.out.n36 (hall 3 (by omega)) (hall 6 (by omega)), hF.out.n38 (hall 3 (by omega)) (hall 8 (by omega)), hF.out.n68 (hall 6 (by omega)) (hall 8 (by omega)), k3.1, k6.1, k9.1⟩
    clear hF hall
    simp only [Act.put, List.setIfInBounds_toArray, List.set_cons_zero, List.set_cons_succ]
    go_wp2_with fail
    clear hmm hz47 HMK HSET HROW HBX1 HRS1 HB1
    obtain ⟨agl, HAG⟩ : ∃ q, Hid ((pl (fun _ => 0) (.slice (some ⟨gN, 0, none⟩) n n) (.slice (some ⟨gt, 0, none⟩) n ct)).toArray = q) := ⟨_, (rfl : _ = _)⟩
    rw [HAG.out]
    clear HAG
    obtain ⟨gm, HGM⟩ : ∃ q, Hid (W.heap.size = q) := ⟨_, (rfl : _ = _)⟩
    have HGO : Hid (Go_ w gN gt gp gm) := by
      obtain ⟨-, -, -, -, h5, h6, h7, h8, h9, h10, h11, h12, h13, h14⟩ := HR.out
      have := HSW.out; have := HGM.out; have := h5.lt; have := h8.lt
      exact ⟨by omega, by omega, by omega, by omega, by omega, by omega, h9, h10, h11⟩
    have HP0 : Hid (∃ D V, PL w n R T (.slice ra n rc) tv gN gt ct gp gm 0 (fsts n R 0) D V (W.alloc (Obj.map #[] 0))) := by
      obtain ⟨h1, h2, h3, h4, h5, h6, h7, h8, -⟩ := HR.out
      have e := HGM.out
      exact PL.start e h1 h2 h3 h4 h5 h6 h8
    rw [HGM.out]
    clear HR HSW
    go_loopw [26] (fun i wr => ∃ b : Nat, b ≤ 256 ∧ i = .int .i64 (b : Int) ∧ Hid (∃ D V, PL w n R T (.slice ra n rc) tv gN gt ct gp gm b (fsts n R b) D V wr)) (fun i _ => 256 - (intOf i).toNat)
    case atStart => exact ⟨0, by omega, rfl, HP0.out⟩
    case round =>
      clear HP0
      obtain ⟨b, hb, rfl, HE⟩ := hrel
      obtain ⟨D, V, hP⟩ := HE.out
      have HP : Hid (PL w n R T (.slice ra n rc) tv gN gt ct gp gm b (fsts n R b) D V wr) := hP
      clear hP HE
      by_cases hlt : b < 256
      · have hb0 : (0 : Int) ≤ (b : Int) := by omega
        have hb1 : (b : Int) < 256 := by omega
        have c0 := HP.out.c0
        have c1 := HP.out.c1
        obtain ⟨z7, hz7, hz7s, -⟩ := zero83
        have HZ7 : Hid (z7.size = 200) := hz7s
        clear hz7s
        go_wp2_with fail
        have hco := columnOf_any (.slice ra n rc) tv n n R T b wr (HRW.out.below HP.out.below (Nat.le_refl _)) (HTS.out.below HP.out.below (Nat.le_refl _)) HN0.out.2 hlt
        obtain ⟨kl, hkl⟩ := key83 HRR.out b (n := n)
        have HK : Hid (keyOf Try.prog 83 (.agg (cl n R b).toArray) = some kl) := hkl
        have HCL : Hid ((cl n R b).length = 200 ∧ (cl n R b).toArray.all (·.oneCell') = true) := ⟨cl_length n R b, cl_one n R b⟩
        have HAD : Hid (∀ (V0 : Nat → Value) (X : Nat → Nat → Int) (k : Nat) (w : World), Tn (gm + 1) gN n (fun _ => k) X V0 w → k ≤ 256 → (∀ j, j < n → X j k = R j b) → Calls Try.prog 43 #[(.slice (some ⟨gN, 0, none⟩) n n), .agg (cl n R b).toArray] w fun e w' => e = .returned (.tuple #[]) ∧ Mk (gm + 1) gN w w' ∧ ∃ V', Tn (gm + 1) gN n (fun _ => k + 1) X V' w') := fun V0 X k w ht hk hX => addColumn_any (gm + 1) gN n k b R X V0 w ht HN0.out.2 hk HRR.out (fun j hj => by rw [hX j hj, cf, if_pos hj])
        have HMP : Hid (∀ (D : DataW Unit) (fs : List Nat), MI n R D fs → (Maps.has D kl = true ↔ idx n R fs b < fs.length) ∧ (idx n R fs b < fs.length → D.atKey kl (.lit (.int .u8 0)) = .lit (.int .u8 (idx n R fs b : Int))) ∧ (Tidy D → ¬ idx n R fs b < fs.length → MI n R (D.put kl (.lit (.int .u8 (fs.length : Int)))) (fs ++ [b]))) := fun D fs h => ⟨h.has b kl hkl, h.at_ b kl hkl, fun ht hno => h.put HN0.out.2 ht hkl hno⟩
        obtain ⟨cs, HCS⟩ : ∃ q, Hid (cl n R b = q) := ⟨_, (rfl : _ = _)⟩
        rw [HCS.out] at hco HK HCL HAD
        clear hkl HCS c0 c1
        refine hco.mono ?_
        rintro _ w2 ⟨rfl, hB⟩
        have HP2 : Hid (PL w n R T (.slice ra n rc) tv gN gt ct gp gm b (fsts n R b) D V w2) := HP.out.next HGO.out hB
        clear hB hco HP
        have HP3 : Hid (PL w n R T (.slice ra n rc) tv gN gt ct gp gm b (fsts n R b) D V (w2.alloc (.cells cs.toArray 83))) := HP2.out.next HGO.out ((Below.refl _ _).alloc (Nat.le_refl _) _)
        have HCA : Hid ((w2.alloc (.cells cs.toArray 83)).rangeAt w2.heap.size 0 cs) := fun j v hv => by rw [Nat.zero_add, cell_of_block]; exact hv
        have HSZ : Hid ((Try.prog.info? 83).map (·.size) = some cs.length) := by show _ = _; rw [HCL.out.1]; exact size83
        obtain ⟨fl, HFL⟩ : ∃ q, Hid ((fsts n R b).length = q) := ⟨_, (rfl : _ = _)⟩
        have HMO : Hid ((w2.alloc (.cells cs.toArray 83)).ownsMap Try.prog 83 (plainElem Try.prog 5) gm fl D) := by have := HP3.out.mp; rwa [HFL.out] at this
        have HP4s : Hid (gm + 1 ≤ w2.heap.size) := HP2.out.tn.size
        clear HP2
        go_wp2_with (first | refine wpList_store_new83 rfl _ _ rfl z7 cs.toArray rfl rfl HZ7.out (by rw [List.size_toArray]; exact HCL.out.1) HCL.out.2 ?_ | refine wpList_load_mid rfl 83 _ rfl w2.heap.size 0 rfl cs _ HCA.out Try.underlying83 rfl HSZ.out ?_ | refine wpList_lookup_own_ok_int _ rfl _ _ 81 rfl 83 5 .u8 law83 Try.underlying81 Try.underlying5 (zero5 _) gm fl D rfl HMO.out _ kl rfl HK.out ?_)
        intro c hat hwc
        have HFR : Hid ((w2.alloc (.cells cs.toArray 83)).frozen? ⟨gp, b, none⟩ = false) := HP3.out.pb.frozen b
        obtain ⟨yv, HYV⟩ : ∃ v, Hid ((w2.alloc (.cells cs.toArray 83)).cell? ⟨gp, b, none⟩ = some v) := ⟨_, HP3.out.pb.cell (i := b) (by omega)⟩
        by_cases hkn : idx n R (fsts n R b) b < (fsts n R b).length
        · have hh := ((HMP.out D _ HP3.out.mi).1).2 hkn
          have hc := (HMP.out D _ HP3.out.mi).2.1 hkn
          rw [hat] at hc
          have HC : Hid (c = (idx n R (fsts n R b) b : Int)) := by injection hc with h1; injection h1
          have HKN : Hid (idx n R (fsts n R b) b < (fsts n R b).length) := hkn
          rw [hh]
          have y0 := HYV.out
          have y1 := HFR.out
          clear hat hwc hc hh hkn HAD HMP HK HCA
          go_wp2_with fail
          go_roundw
          case rel =>
            refine ⟨b + 1, by omega, by go_num, D, V, ?_⟩
            have e : fsts n R (b + 1) = fsts n R b := by
              show (if _ then _ else _) = _
              rw [if_neg (by have := HKN.out; omega)]
            rw [e, HC.out]
            exact HP3.out.of HGO.out hlt
          case measure => simp [intOf]; omega
        · have hh : Maps.has D kl = false := by
            cases e : Maps.has D kl with
            | false => rfl
            | true => exact absurd ((HMP.out D _ HP3.out.mi).1.1 e) hkn
          have HKN : Hid (¬ idx n R (fsts n R b) b < (fsts n R b).length) := hkn
          have HMU : Hid (MI n R (D.put kl (.lit (.int .u8 (fl : Int)))) (fsts n R b ++ [b])) := by have := (HMP.out D _ HP3.out.mi).2.2 (HMO.out.tidy law83) hkn; rwa [HFL.out] at this
          have HSD : Hid (Maps.size D = fl) := by show _ = _; rw [HP3.out.mi.size]; exact HFL.out
          have hfl : fl ≤ b := by rw [← HFL.out]; exact fsts_length n R b
          have hwr : (fl : Int) % 256 = (fl : Int) := by omega
          have HVL : Hid (plainElem (H := Unit) Try.prog 5 (.int .u8 (fl : Int)) = some (.lit (.int .u8 (fl : Int)), [])) := plainElem_int Try.underlying5 (by simp [Lit.wf, IntKind.min, IntKind.max, IntKind.signed, IntKind.bits]; omega)
          have HML : Hid (fl < maxLen) := by show _ < _; have : 256 ≤ maxLen := by decide
                                             omega
          rw [hh]
          clear hat hwc hh hkn HMP
          go_wp2_with (first | (refine wpList_len_own _ rfl _ 81 rfl 83 5 Try.underlying81 (plainElem Try.prog 5) gm fl D rfl HMO.out ?_; rw [HSD.out]) | refine wpList_load_mid rfl 83 _ rfl w2.heap.size 0 rfl cs _ HCA.out Try.underlying83 rfl HSZ.out ?_ | refine wpList_mapUpdate_own _ rfl _ _ _ 81 rfl 83 5 law83 Try.underlying81 (plainElem Try.prog 5) gm fl D rfl HMO.out HML.out _ _ kl rfl rfl HK.out (.lit (.int .u8 (fl : Int))) [] HVL.out ?_)
          intro w3 hm3 hg3
          obtain ⟨m1, m2, m3, m4, m5, m6, m7⟩ := HP3.out.mapped HGO.out hg3
          have HGS : Hid (gm < w2.heap.size) := by have := HP3.out.tn.size; have h2 := HP4s.out; show _ < _; omega
          have HC3 : Hid (w3.rangeAt w2.heap.size 0 cs) := fun j v hv => (cell_same (hg3.block _ (by simp) (fun e => by have := HGS.out; simp at e; omega)) _).trans (HCA.out j v hv)
          have y2 := m6.cell (i := 256) (by omega)
          rw [show pf (ofb n R b) (.slice (some ⟨gN, 0, none⟩) n n) (.slice (some ⟨gt, 0, none⟩) n ct) 256 = (.slice (some ⟨gN, 0, none⟩) n n) by simp [pf]] at y2
          have hT : Tn (gm + 1) gN n (fun _ => fl) (fun i t => R i ((fsts n R b ++ [b]).getD t 0)) V w3 := by
            have := m7.congrX (X' := fun i t => R i ((fsts n R b ++ [b]).getD t 0)) (fun i hi j hj => by simp only [List.getD_eq_getElem?_getD]; rw [List.getElem?_append_left (by exact hj)])
            rwa [HFL.out] at this
          have HCA2 : Hid (Calls Try.prog 43 #[(.slice (some ⟨gN, 0, none⟩) n n), .agg cs.toArray] w3 fun e w' => e = .returned (.tuple #[]) ∧ Mk (gm + 1) gN w3 w' ∧ ∃ V', Tn (gm + 1) gN n (fun _ => fl + 1) (fun i t => R i ((fsts n R b ++ [b]).getD t 0)) V' w') := HAD.out V _ fl w3 hT (by omega) (fun j hj => by rw [← HFL.out]; simp)
          have HW3 : Hid (Below w.heap.size w w3 ∧ (∀ k, k < gm → w3.heap[k]? = (w2.alloc (.cells cs.toArray 83)).heap[k]?) ∧ w3.ownsMap Try.prog 83 (plainElem Try.prog 5) gm (fl + 1) (D.put kl (.lit (.int .u8 (fl : Int))))) := ⟨m1, fun k hk => hg3.block k (by have := HGS.out; simp; omega) (fun e => by simp at e; omega), hm3⟩
          clear m1 m2 m3 m4 m5 m6 m7 hm3 hg3 hT HCA HAD HYV HFR HK HMO HVL HML
          go_wp2_with (refine wpList_load_mid rfl 83 _ rfl w2.heap.size 0 rfl cs _ HC3.out Try.underlying83 rfl HSZ.out ?_)
          refine HCA2.out.mono ?_
          rintro _ w4 ⟨rfl, hM, V', hT'⟩
          have HP4 : Hid (PL w n R T (.slice ra n rc) tv gN gt ct gp gm b (fsts n R b ++ [b]) (D.put kl (.lit (.int .u8 (fl : Int)))) V' w4) := by
            have g1 := HGO.out.h1
            have g4 := HGO.out.h4
            refine HP3.out.added HGO.out (HW3.out.1.trans ⟨hM.os, hM.tape, hM.output, hM.size, fun k hk => hM.blk k (by omega) (by omega)⟩) (fun k hk hk2 => (hM.blk k (by omega) hk2).trans (HW3.out.2.1 k hk)) ?_ ?_ HMU.out
            · rw [List.length_append, HFL.out]; exact hT'
            · rw [List.length_append, HFL.out]; exact map_same HW3.out.2.2 (hM.blk gm (by omega) (by omega))
          have y1 := HP4.out.pb.frozen b
          obtain ⟨yw, y0⟩ : ∃ v, w4.cell? ⟨gp, b, none⟩ = some v := ⟨_, HP4.out.pb.cell (i := b) (by omega)⟩
          clear hM hT' HW3 HC3 HCA2 y2 HP3
          go_wp2_with fail
          go_roundw
          case rel =>
            refine ⟨b + 1, by omega, by go_num, D.put kl (.lit (.int .u8 (fl : Int))), V', ?_⟩
            have hix : idx n R (fsts n R b) b = (fsts n R b).length := by have := HKN.out; have := idx_le n R (fsts n R b) b; omega
            have e : fsts n R (b + 1) = fsts n R b ++ [b] := by
              show (if _ then _ else _) = _
              rw [if_pos hix]
            have hof := HP4.out.of HGO.out hlt
            rw [hix, HFL.out] at hof
            rw [e]
            exact hof
          case measure => simp [intOf]; omega
      · obtain rfl : b = 256 := by omega
        obtain ⟨l, HL⟩ : ∃ q, Hid (pl (ofb n R 256) (.slice (some ⟨gN, 0, none⟩) n n) (.slice (some ⟨gt, 0, none⟩) n ct) = q) := ⟨_, (rfl : _ = _)⟩
        have HLL : Hid (l.length = 258) := by show _ = _; rw [← HL.out]; exact pl_length _ _ _
        have HRG : Hid (wr.rangeAt gp 0 l) := fun j v hv => by
          have hj : j < 258 := by have := (List.getElem?_eq_some_iff.1 hv).1; have := HLL.out; omega
          rw [← HL.out, pf_at _ _ _ j hj] at hv
          rw [Nat.zero_add, HP.out.pb.cell hj]; exact hv
        have HL1 : Hid (l.toArray.all (·.oneCell') = true) := by show _ = _; rw [← HL.out]; exact pl_one _ _ _ _ _ _ _
        have HSZ : Hid (l.toArray.size = 258) := by show _ = _; rw [List.size_toArray]; exact HLL.out
        have HTH : Hid (wr.there (w.heap.size + 1) 0 l.toArray.size) := by rw [HSZ.out]; exact there_row HP.out.rs
        have HI9 : Hid ((Try.prog.info? 47).map (·.size) = some l.toArray.size) := by rw [HSZ.out]; exact size47
        go_wp2_with (first | refine wpList_load_mid rfl 47 _ rfl gp 0 rfl l _ HRG.out Try.underlying47 rfl (by rw [HLL.out]; exact size47) ?_ | refine wpList_store_mid rfl 47 _ _ rfl (w.heap.size + 1) 0 l.toArray rfl rfl HTH.out HI9.out HL1.out ?_)
        have hoth : ∀ k, k ≠ w.heap.size + 1 → (wr.setCells (w.heap.size + 1) 0 l.toArray.toList).heap[k]? = wr.heap[k]? := fun k hk => heap_setCells_ne _ _ _ _ _ hk
        have hsz9 : (wr.setCells (w.heap.size + 1) 0 l.toArray.toList).heap.size = wr.heap.size := size_setCells _ _ _ _
        have g := HGO.out
        have hTN : Tn (gm + 1) gN n (fun _ => (fsts n R 256).length) (fun i t => R i ((fsts n R 256).getD t 0)) V (wr.setCells (w.heap.size + 1) 0 l.toArray.toList) := ⟨HP.out.tn.top.of_block (hoth _ (by have := g.h1; omega)), fun i hi => own_same (HP.out.tn.own i hi) fun k hk => hoth k (by have := ((HP.out.tn.own i hi).lt k hk).1; have := g.h1; have := g.h4; omega), HP.out.tn.ne, HP.out.tn.lt, by rw [hsz9]; exact HP.out.tn.size⟩
        have hTG : Ts (wr.setCells (w.heap.size + 1) 0 l.toArray.toList) (.slice (some ⟨gt, 0, none⟩) n ct) n T := by
          obtain ⟨_, _, -, hq1, hq2, -⟩ := HTS.out
          exact ⟨_, _, rfl, hq1, hq2, Or.inr ⟨gt, 0, rfl, by rw [hsz9]; have := HP.out.tn.size; have := g.h5; omega, fun i hi => by rw [Nat.zero_add]; exact (cell_same (hoth _ (by have := g.h2; omega)) i).trans (HP.out.tg.1 i hi)⟩⟩
        refine bodyPost_ret (v := .tuple #[.agg l.toArray, .int .i64 0]) ?_ rfl ?_
        · exact results_cell_tmp_mid Try.results18 _ _ (w.heap.size + 1) l _ rfl (World.rangeAt_setCells_same _ _ _ _ (by rw [HLL.out]; exact there_row HP.out.rs)) Try.underlying47 rfl (by rw [HLL.out]; exact size47)
        · exact ⟨(.slice (some ⟨gN, 0, none⟩) n n), (.slice (some ⟨gt, 0, none⟩) n ct), by rw [← HL.out, pl_congr _ _ (fun j hj => by rw [ofb, if_pos hj])], hTN.nx HN0.out.2 (fun i j => HRR.out _ _) (fun _ => fsts_length n R 256), hTG, setCells_below _ (by omega) _ _ _ HP.out.below, gm + 1, gN, V, gt, ct, _, T, rfl, rfl, hTN, by have := g.h1; omega, by have := g.h2; omega, by have := g.h5; omega, g.n1, HP.out.tg.same (hoth _ (by have := g.h2; omega))⟩

theorem pack_ok (rv tv : Value) (n : Nat) (R : Nat → Nat → Int) (T : Nat → Int) (w : World) (hr : Rw w rv n R) (ht : Ts w tv n T) (hok : chk n n R T = 0) :
    Calls Try.prog 18 #[.agg #[rv, tv]] w fun e w' => ∃ nv tv', e = .returned (.tuple #[.agg (pl (fun b => idx n R (fsts n R b) b) nv tv').toArray, .int .i64 0]) ∧ Nx w' nv n (fun _ => (fsts n R 256).length) (fun i t => R i ((fsts n R 256).getD t 0)) ∧ Ts w' tv' n T ∧ Below w.heap.size w w' :=
  (pack_own rv tv n R T w hr ht hok).mono fun _ _ ⟨nv, tv', h1, h2, h3, h4, _⟩ => ⟨nv, tv', h1, h2, h3, h4⟩
end Go.Proofs.Ytlgcggfenljdnaa
