/-
  The contract of small.Pack. What is packed is unpacked: the mathematics of columns; boxes in memory. No function is walked here. The plain mathematics of tokens: the longest one at the front of a text, and all of a text. The contracts of lexer.check, pushref.TagOf, pushref.Longest and lexer.longest. The contracts of pushref.Longest and lexer.longest: both find the longest token at a place. The contract of lexer.Lex.
-/
import Derived.Test.YtlmlkpdppkgenaaWKb
import Derived.Test.YtlmlkpdppkgenaaWKa
import Derived.Deep.AppendLies
namespace Go.Proofs.Ytlmlkpdppkgenaa.Pk
open Go.RowKit
open Go.Maps
open Dfa

theorem zero5 (w : World) : (zeroValue 5).run Try.prog w = .ok (.int .u8 0) w := (zero_of_info (P := Try.prog) (t := 5) (v := .int .u8 0) (n := 1) (by kernel_rfl)).1 w
theorem cl_one (n : Nat) (R : Nat → Nat → Int) (b : Nat) : (cl n R b).toArray.all (·.oneCell') = true := all_oneCell_toArray fun v hv => by
  simp only [cl, List.mem_map] at hv
  obtain ⟨j, _, rfl⟩ := hv
  rfl
theorem info23 : (Try.prog.info? 23).map (fun i => (i.zero, i.size, i.bytes)) = some (some (.slice none 0 0), 1, 24) := by kernel_rfl
structure RP4 (w w1 : World) (zs : Array Value) (n : Nat) (T : Nat → Int) (ra : Option Addr) (rc : Nat) (tv : Value) (gN : Nat) (gt : Nat) (ct : Nat) (gp : Nat) (d : Nat → Bool) (x5 x17 x18 x19 x20 x21 x22 x23 x24 : Value) (W : World) : Prop where
  f0 : d 0 = true → x17 = (.pointer (some ⟨w.heap.size, 0, none⟩))
  f1 : d 1 = true → x18 = (.slice ra n rc)
  f2 : d 2 = true → x19 = (.int .i64 (n : Int))
  f3 : d 3 = true → x20 = (.slice (some ⟨gN, 0, none⟩) n n)
  f4 : d 4 = true → x21 = (.pointer (some ⟨w.heap.size, 1, none⟩))
  f5 : d 5 = true → tv = x22
  f6 : d 6 = true → x23 = (.slice (some ⟨gt, 0, none⟩) n ct)
  f7 : d 7 = true → x24 = (.agg (pl (fun _ => 0) (.slice (some ⟨gN, 0, none⟩) n n) (.slice (some ⟨gt, 0, none⟩) n ct)).toArray)
  f8 : d 8 = true → x5 = (.pointer (some ⟨gp, 0, none⟩))
  f9 : d 9 = true → True
  q7_3 : d 7 = true → d 3 = true
  q7_6 : d 7 = true → d 6 = true
  q9_8 : d 9 = true → d 8 = true
  q9_7 : d 9 = true → d 7 = true
  q9_3 : d 9 = true → d 3 = true
  q9_6 : d 9 = true → d 6 = true
  bel : Below w.heap.size w W
  bx : W.cell? ⟨w.heap.size, 0, none⟩ = some (.slice ra n rc) ∧ W.cell? ⟨w.heap.size, 1, none⟩ = some tv
  sz : w1.heap.size ≤ W.heap.size
  rs : W.rowIs (w.heap.size + 1) 54 258 (pf (fun _ => 0) (.slice none 0 0) (.slice none 0 0))
  mr : d 3 = true → w1.heap.size ≤ gN ∧ W.rowIs gN 23 n (fun _ => .slice none 0 0)
  cl : d 6 = true → w1.heap.size ≤ gt ∧ gt < W.heap.size ∧ Tg gt ct n T W
  al : d 8 = true → d 9 = false → w1.heap.size ≤ gp ∧ W.rowIs gp 54 258 (pf (fun _ => 0) (.slice none 0 0) (.slice none 0 0))
  st : d 9 = true → w1.heap.size ≤ gp ∧ W.rowIs gp 54 258 (pf (fun _ => 0) (.slice (some ⟨gN, 0, none⟩) n n) (.slice (some ⟨gt, 0, none⟩) n ct))
  n36 : d 3 = true → d 6 = true → gN ≠ gt
  n38 : d 3 = true → d 8 = true → gN ≠ gp
  n68 : d 6 = true → d 8 = true → gt ≠ gp

/-- Where what is packed lies: a table of rows of one's own, and the tags. -/
def Pow (B n c : Nat) (nv tv : Value) (W : World) : Prop := ∃ B' gN V gt ct X T, nv = .slice (some ⟨gN, 0, none⟩) n n ∧ tv = .slice (some ⟨gt, 0, none⟩) n ct ∧ Tn B' gN n (fun _ => c) X V W ∧ B ≤ gN ∧ B ≤ gt ∧ gt < B' ∧ gN ≠ gt ∧ Tg gt ct n T W
set_option maxHeartbeats 8000000 in
set_option maxRecDepth 20000 in
theorem pack_own (rv tv : Value) (n : Nat) (R : Nat → Nat → Int) (T : Nat → Int) (w : World) (hr : Rw w rv n R) (ht : Ts w tv n T) (hok : chk n n R T = 0) :
    Calls Try.prog 23 #[.agg #[rv, tv]] w fun e w' => ∃ nv tv', e = .returned (.tuple #[.agg (pl (fun b => idx n R (fsts n R b) b) nv tv').toArray, .int .i64 0]) ∧ Nx w' nv n (fun _ => (fsts n R 256).length) (fun i t => R i ((fsts n R 256).getD t 0)) ∧ Ts w' tv' n T ∧ Below w.heap.size w w' ∧ Pow w.heap.size n (fsts n R 256).length nv tv' w' := by
  obtain ⟨n0, n1, -, n2, -⟩ := chk_zero hok
  have HRR : Hid (∀ i j, -32768 ≤ R i j ∧ R i j ≤ 32767) := by obtain ⟨_, _, _, _, h, _⟩ := hr; exact h
  obtain ⟨ra, rc, rfl, -⟩ := id hr
  have HRW : Hid (Rw w (.slice ra n rc) n R) := hr
  have HTS : Hid (Ts w tv n T) := ht
  have HN0 : Hid (0 < n ∧ n ≤ 200) := ⟨n0, n1⟩
  have HOK : Hid (chk n n R T = 0) := hok
  obtain ⟨zs, hz47, hzsz, hzs⟩ := zero47
  have HZ47 : Hid (∀ w, (zeroValue 54).run Try.prog w = .ok (.agg zs) w) := hz47
  have HZSZ : Hid (zs.size = 258) := hzsz
  have HSET : Hid (∀ u v : Value, (zs.setIfInBounds 256 u).setIfInBounds 257 v = (pl (fun _ => 0) u v).toArray) := zset zs hzs
  have HROW : Hid (∀ W : World, (W.alloc (.cells zs 54)).rowIs W.heap.size 54 258 (pf (fun _ => 0) (.slice none 0 0) (.slice none 0 0))) := fun W => by
    have := World.rowIs_alloc W zs 54 (pf (fun _ => 0) (.slice none 0 0) (.slice none 0 0)) (fun i hi => by rw [hzs, List.getElem?_toArray]; exact pf_at _ _ _ i (by omega))
    rwa [hzsz] at this
  have HMK : Hid (∀ W : World, (Instr.makeSlice 24 (.int .i64 (n : Int)) (.int .i64 (n : Int))).run Try.prog W = .ok (.slice (some ⟨W.heap.size, 0, none⟩) n n) (W.alloc (.cells (madeCells #[.slice none 0 0] n) 23))) := fun W => run_make_row' (P := Try.prog) 24 23 (.slice none 0 0) 24 Try.underlying24 info23 rfl .i64 .i64 n (by omega) (by omega) W
  have HRS0 : Hid (((w.alloc (Obj.cells #[(.slice ra n rc), tv] 30)).alloc (Obj.cells zs 54)).rowIs (w.heap.size + 1) 54 258 (pf (fun _ => 0) (.slice none 0 0) (.slice none 0 0))) := by
    have := HROW.out (w.alloc (Obj.cells #[(.slice ra n rc), tv] 30))
    rwa [show (w.alloc (Obj.cells #[(.slice ra n rc), tv] 30)).heap.size = w.heap.size + 1 by simp] at this
  have B0 : Below w.heap.size w ((w.alloc (Obj.cells #[(.slice ra n rc), tv] 30)).alloc (Obj.cells zs 54)) := ((Below.refl _ _).alloc (Nat.le_refl _) _).alloc (by simp) _
  clear hr ht hok n0 n1 n2 hzs hzsz
  have hmm := @run_makeMap Try.prog
  go_enter Try.func23, Try.ntmps23
  go_wp2_with fail
  have hc := check_any _ tv n n R T _ (HRW.out.below B0 (Nat.le_refl _)) (HTS.out.below B0 (Nat.le_refl _))
  rw [HOK.out] at hc
  refine hc.mono ?_
  rintro _ w1 ⟨rfl, hb⟩
  have HB1 : Hid (Below w.heap.size w w1) := B0.trans (hb.mono (by simp; omega))
  have HBX1 : Hid (w1.cell? ⟨w.heap.size, 0, none⟩ = some (.slice ra n rc) ∧ w1.cell? ⟨w.heap.size, 1, none⟩ = some tv) := ⟨(hb.cell (by simp; omega)).trans (by simp), (hb.cell (by simp; omega)).trans (by simp)⟩
  have HRS1 : Hid (w1.rowIs (w.heap.size + 1) 54 258 (pf (fun _ => 0) (.slice none 0 0) (.slice none 0 0))) := HRS0.out.of_block (hb.block _ HRS0.out.lt)
  have HSW : Hid (w.heap.size + 2 ≤ w1.heap.size) := by have := hb.size; simp at this; show _ ≤ _; omega
  clear hb hc HRS0 B0
  go_wp2_with fail
  refine wp_region_free mixed (fun a0 d a W => ∃ (gN : Nat) (gt : Nat) (ct : Nat) (gp : Nat) (x5 x17 x18 x19 x20 x21 x22 x23 x24 : Value), a = (((((((((a0.put (some 5) x5).put (some 17) x17).put (some 18) x18).put (some 19) x19).put (some 20) x20).put (some 21) x21).put (some 22) x22).put (some 23) x23).put (some 24) x24) ∧ Hid (RP4 w w1 zs n T ra rc tv gN gt ct gp d x5 x17 x18 x19 x20 x21 x22 x23 x24 W)) (by kernel_rfl) ⟨0, 0, 0, 0, undef, undef, undef, undef, undef, undef, undef, undef, undef, by simp only [Act.put, List.setIfInBounds_toArray, List.set_cons_zero, List.set_cons_succ], ?_⟩ ?_ ?_
  · exact ⟨fun h => no_way h, fun h => no_way h, fun h => no_way h, fun h => no_way h, fun h => no_way h, fun h => no_way h, fun h => no_way h, fun h => no_way h, fun h => no_way h, fun _ => trivial, fun h => no_way h, fun h => no_way h, fun h => no_way h, fun h => no_way h, fun h => no_way h, fun h => no_way h, HB1.out.drew, HBX1.out, Nat.le_refl _, HRS1.out, fun h => no_way h, fun h => no_way h, fun h => no_way h, fun h => no_way h, fun h => no_way h, fun h => no_way h, fun h => no_way h⟩
  · simp only [StepAll, and_true]
    refine ⟨?_, ?_, ?_, ?_, ?_, ?_, ?_, ?_, ?_, ?_⟩
    · intro d a W hI hd hdep
      obtain ⟨gN, gt, ct, gp, x5, x17, x18, x19, x20, x21, x22, x23, x24, rfl, hF⟩ := hI
      clear hdep hd
      intro K hK
      simp only [Act.put, List.setIfInBounds_toArray, List.set_cons_zero, List.set_cons_succ]
      go_simp
      refine hK.out _ _ ⟨gN, gt, ct, gp, x5, (.pointer (some ⟨w.heap.size, 0, none⟩)), x18, x19, x20, x21, x22, x23, x24, by simp only [Act.put, List.setIfInBounds_toArray, List.set_cons_zero, List.set_cons_succ], ?_⟩
      exact ⟨fun _ => rfl, fun h => hF.out.f1 (by simpa using h), fun h => hF.out.f2 (by simpa using h), fun h => hF.out.f3 (by simpa using h), fun h => hF.out.f4 (by simpa using h), fun h => hF.out.f5 (by simpa using h), fun h => hF.out.f6 (by simpa using h), fun h => hF.out.f7 (by simpa using h), fun h => hF.out.f8 (by simpa using h), fun h => hF.out.f9 (by simpa using h), fun h => by have := hF.out.q7_3 (by simpa using h); simpa using this, fun h => by have := hF.out.q7_6 (by simpa using h); simpa using this, fun h => by have := hF.out.q9_8 (by simpa using h); simpa using this, fun h => by have := hF.out.q9_7 (by simpa using h); simpa using this, fun h => by have := hF.out.q9_3 (by simpa using h); simpa using this, fun h => by have := hF.out.q9_6 (by simpa using h); simpa using this, hF.out.bel, hF.out.bx, hF.out.sz, hF.out.rs, fun h => hF.out.mr (by simpa using h), fun h => hF.out.cl (by simpa using h), fun h h2 => hF.out.al (by simpa using h) (by simpa using h2), fun h => hF.out.st (by simpa using h), fun h k => hF.out.n36 (by simpa using h) (by simpa using k), fun h k => hF.out.n38 (by simpa using h) (by simpa using k), fun h k => hF.out.n68 (by simpa using h) (by simpa using k)⟩
    · intro d a W hI hd hdep
      obtain ⟨gN, gt, ct, gp, x5, x17, x18, x19, x20, x21, x22, x23, x24, rfl, hF⟩ := hI
      have hd0 : d 0 = true := dep_of hdep 0 (by kernel_rfl)
      obtain rfl := hF.out.f0 hd0
      have ya := hF.out.bx.1
      clear hdep hd hd0
      intro K hK
      simp only [Act.put, List.setIfInBounds_toArray, List.set_cons_zero, List.set_cons_succ]
      go_simp
      refine hK.out _ _ ⟨gN, gt, ct, gp, x5, (.pointer (some ⟨w.heap.size, 0, none⟩)), (.slice ra n rc), x19, x20, x21, x22, x23, x24, by simp only [Act.put, List.setIfInBounds_toArray, List.set_cons_zero, List.set_cons_succ], ?_⟩
      exact ⟨fun h => hF.out.f0 (by simpa using h), fun _ => rfl, fun h => hF.out.f2 (by simpa using h), fun h => hF.out.f3 (by simpa using h), fun h => hF.out.f4 (by simpa using h), fun h => hF.out.f5 (by simpa using h), fun h => hF.out.f6 (by simpa using h), fun h => hF.out.f7 (by simpa using h), fun h => hF.out.f8 (by simpa using h), fun h => hF.out.f9 (by simpa using h), fun h => by have := hF.out.q7_3 (by simpa using h); simpa using this, fun h => by have := hF.out.q7_6 (by simpa using h); simpa using this, fun h => by have := hF.out.q9_8 (by simpa using h); simpa using this, fun h => by have := hF.out.q9_7 (by simpa using h); simpa using this, fun h => by have := hF.out.q9_3 (by simpa using h); simpa using this, fun h => by have := hF.out.q9_6 (by simpa using h); simpa using this, hF.out.bel, hF.out.bx, hF.out.sz, hF.out.rs, fun h => hF.out.mr (by simpa using h), fun h => hF.out.cl (by simpa using h), fun h h2 => hF.out.al (by simpa using h) (by simpa using h2), fun h => hF.out.st (by simpa using h), fun h k => hF.out.n36 (by simpa using h) (by simpa using k), fun h k => hF.out.n38 (by simpa using h) (by simpa using k), fun h k => hF.out.n68 (by simpa using h) (by simpa using k)⟩
    · intro d a W hI hd hdep
      obtain ⟨gN, gt, ct, gp, x5, x17, x18, x19, x20, x21, x22, x23, x24, rfl, hF⟩ := hI
      have hd1 : d 1 = true := dep_of hdep 1 (by kernel_rfl)
      obtain rfl := hF.out.f1 hd1
      clear hdep hd hd1
      intro K hK
      simp only [Act.put, List.setIfInBounds_toArray, List.set_cons_zero, List.set_cons_succ]
      go_simp
      refine hK.out _ _ ⟨gN, gt, ct, gp, x5, x17, (.slice ra n rc), (.int .i64 (n : Int)), x20, x21, x22, x23, x24, by simp only [Act.put, List.setIfInBounds_toArray, List.set_cons_zero, List.set_cons_succ], ?_⟩
      exact ⟨fun h => hF.out.f0 (by simpa using h), fun h => hF.out.f1 (by simpa using h), fun _ => rfl, fun h => hF.out.f3 (by simpa using h), fun h => hF.out.f4 (by simpa using h), fun h => hF.out.f5 (by simpa using h), fun h => hF.out.f6 (by simpa using h), fun h => hF.out.f7 (by simpa using h), fun h => hF.out.f8 (by simpa using h), fun h => hF.out.f9 (by simpa using h), fun h => by have := hF.out.q7_3 (by simpa using h); simpa using this, fun h => by have := hF.out.q7_6 (by simpa using h); simpa using this, fun h => by have := hF.out.q9_8 (by simpa using h); simpa using this, fun h => by have := hF.out.q9_7 (by simpa using h); simpa using this, fun h => by have := hF.out.q9_3 (by simpa using h); simpa using this, fun h => by have := hF.out.q9_6 (by simpa using h); simpa using this, hF.out.bel, hF.out.bx, hF.out.sz, hF.out.rs, fun h => hF.out.mr (by simpa using h), fun h => hF.out.cl (by simpa using h), fun h h2 => hF.out.al (by simpa using h) (by simpa using h2), fun h => hF.out.st (by simpa using h), fun h k => hF.out.n36 (by simpa using h) (by simpa using k), fun h k => hF.out.n38 (by simpa using h) (by simpa using k), fun h k => hF.out.n68 (by simpa using h) (by simpa using k)⟩
    · intro d a W hI hd hdep
      obtain ⟨gN, gt, ct, gp, x5, x17, x18, x19, x20, x21, x22, x23, x24, rfl, hF⟩ := hI
      have hd2 : d 2 = true := dep_of hdep 2 (by kernel_rfl)
      obtain rfl := hF.out.f2 hd2
      have hmk := HMK.out W
      have HN9 : Hid (d 9 = false) := no_later hF.out.q9_3 hd
      have HN7 : Hid (d 7 = false) := no_later hF.out.q7_3 hd
      have B1 := (Below.refl W.heap.size W).alloc (Nat.le_refl _) (Obj.cells (madeCells #[Value.slice none 0 0] n) 23)
      clear hdep hd hd2
      intro K hK
      simp only [Act.put, List.setIfInBounds_toArray, List.set_cons_zero, List.set_cons_succ]
      go_simp
      refine hK.out _ _ ⟨W.heap.size, gt, ct, gp, x5, x17, x18, (.int .i64 (n : Int)), (.slice (some ⟨W.heap.size, 0, none⟩) n n), x21, x22, x23, x24, by simp only [Act.put, List.setIfInBounds_toArray, List.set_cons_zero, List.set_cons_succ], ?_⟩
      exact ⟨fun h => hF.out.f0 (by simpa using h), fun h => hF.out.f1 (by simpa using h), fun h => hF.out.f2 (by simpa using h), fun _ => rfl, fun h => hF.out.f4 (by simpa using h), fun h => hF.out.f5 (by simpa using h), fun h => hF.out.f6 (by simpa using h), fun h => by have := HN7.out; simp [this] at h, fun h => hF.out.f8 (by simpa using h), fun h => hF.out.f9 (by simpa using h), fun _ => by simp, fun h => by have := hF.out.q7_6 (by simpa using h); simpa using this, fun h => by have := hF.out.q9_8 (by simpa using h); simpa using this, fun h => by have := hF.out.q9_7 (by simpa using h); simpa using this, fun _ => by simp, fun h => by have := hF.out.q9_6 (by simpa using h); simpa using this, hF.out.bel.trans (B1.mono hF.out.bel.size), ⟨Go.Lib.cell?_alloc_some _ hF.out.bx.1, Go.Lib.cell?_alloc_some _ hF.out.bx.2⟩, Nat.le_trans hF.out.sz B1.size, hF.out.rs.alloc _, fun _ => ⟨hF.out.sz, World.rowIs_made W _ n 23⟩, fun h => have k := hF.out.cl (by simpa using h); ⟨k.1, Nat.lt_of_lt_of_le k.2.1 B1.size, k.2.2.same (B1.block _ k.2.1)⟩, fun h h2 => have k := hF.out.al (by simpa using h) (by simpa using h2); ⟨k.1, k.2.alloc _⟩, fun h => by have := HN9.out; simp [this] at h, fun _ k => by have := (hF.out.cl (by simpa using k)).2.1; omega, fun _ k => by have := (hF.out.al (by simpa using k) (by simpa using HN9.out)).2.lt; omega, fun h k => hF.out.n68 (by simpa using h) (by simpa using k)⟩
    · intro d a W hI hd hdep
      obtain ⟨gN, gt, ct, gp, x5, x17, x18, x19, x20, x21, x22, x23, x24, rfl, hF⟩ := hI
      clear hdep hd
      intro K hK
      simp only [Act.put, List.setIfInBounds_toArray, List.set_cons_zero, List.set_cons_succ]
      go_simp
      refine hK.out _ _ ⟨gN, gt, ct, gp, x5, x17, x18, x19, x20, (.pointer (some ⟨w.heap.size, 1, none⟩)), x22, x23, x24, by simp only [Act.put, List.setIfInBounds_toArray, List.set_cons_zero, List.set_cons_succ], ?_⟩
      exact ⟨fun h => hF.out.f0 (by simpa using h), fun h => hF.out.f1 (by simpa using h), fun h => hF.out.f2 (by simpa using h), fun h => hF.out.f3 (by simpa using h), fun _ => rfl, fun h => hF.out.f5 (by simpa using h), fun h => hF.out.f6 (by simpa using h), fun h => hF.out.f7 (by simpa using h), fun h => hF.out.f8 (by simpa using h), fun h => hF.out.f9 (by simpa using h), fun h => by have := hF.out.q7_3 (by simpa using h); simpa using this, fun h => by have := hF.out.q7_6 (by simpa using h); simpa using this, fun h => by have := hF.out.q9_8 (by simpa using h); simpa using this, fun h => by have := hF.out.q9_7 (by simpa using h); simpa using this, fun h => by have := hF.out.q9_3 (by simpa using h); simpa using this, fun h => by have := hF.out.q9_6 (by simpa using h); simpa using this, hF.out.bel, hF.out.bx, hF.out.sz, hF.out.rs, fun h => hF.out.mr (by simpa using h), fun h => hF.out.cl (by simpa using h), fun h h2 => hF.out.al (by simpa using h) (by simpa using h2), fun h => hF.out.st (by simpa using h), fun h k => hF.out.n36 (by simpa using h) (by simpa using k), fun h k => hF.out.n38 (by simpa using h) (by simpa using k), fun h k => hF.out.n68 (by simpa using h) (by simpa using k)⟩
    · intro d a W hI hd hdep
      obtain ⟨gN, gt, ct, gp, x5, x17, x18, x19, x20, x21, x22, x23, x24, rfl, hF⟩ := hI
      have hd4 : d 4 = true := dep_of hdep 4 (by kernel_rfl)
      obtain rfl := hF.out.f4 hd4
      have ya := hF.out.bx.2
      clear hdep hd hd4
      intro K hK
      simp only [Act.put, List.setIfInBounds_toArray, List.set_cons_zero, List.set_cons_succ]
      go_simp
      refine hK.out _ _ ⟨gN, gt, ct, gp, x5, x17, x18, x19, x20, (.pointer (some ⟨w.heap.size, 1, none⟩)), tv, x23, x24, by simp only [Act.put, List.setIfInBounds_toArray, List.set_cons_zero, List.set_cons_succ], ?_⟩
      exact ⟨fun h => hF.out.f0 (by simpa using h), fun h => hF.out.f1 (by simpa using h), fun h => hF.out.f2 (by simpa using h), fun h => hF.out.f3 (by simpa using h), fun h => hF.out.f4 (by simpa using h), fun _ => rfl, fun h => hF.out.f6 (by simpa using h), fun h => hF.out.f7 (by simpa using h), fun h => hF.out.f8 (by simpa using h), fun h => hF.out.f9 (by simpa using h), fun h => by have := hF.out.q7_3 (by simpa using h); simpa using this, fun h => by have := hF.out.q7_6 (by simpa using h); simpa using this, fun h => by have := hF.out.q9_8 (by simpa using h); simpa using this, fun h => by have := hF.out.q9_7 (by simpa using h); simpa using this, fun h => by have := hF.out.q9_3 (by simpa using h); simpa using this, fun h => by have := hF.out.q9_6 (by simpa using h); simpa using this, hF.out.bel, hF.out.bx, hF.out.sz, hF.out.rs, fun h => hF.out.mr (by simpa using h), fun h => hF.out.cl (by simpa using h), fun h h2 => hF.out.al (by simpa using h) (by simpa using h2), fun h => hF.out.st (by simpa using h), fun h k => hF.out.n36 (by simpa using h) (by simpa using k), fun h k => hF.out.n38 (by simpa using h) (by simpa using k), fun h k => hF.out.n68 (by simpa using h) (by simpa using k)⟩
    · intro d a W hI hd hdep
      obtain ⟨gN, gt, ct, gp, x5, x17, x18, x19, x20, x21, x22, x23, x24, rfl, hF⟩ := hI
      have hd5 : d 5 = true := dep_of hdep 5 (by kernel_rfl)
      obtain rfl := hF.out.f5 hd5
      have HN9 : Hid (d 9 = false) := no_later hF.out.q9_6 hd
      have HN7 : Hid (d 7 = false) := no_later hF.out.q7_6 hd
      have hcl := clone_row _ n T W (HTS.out.below hF.out.bel (Nat.le_refl _)) HN0.out.1 HN0.out.2
      clear hdep hd hd5
      intro K hK
      simp only [Act.put, List.setIfInBounds_toArray, List.set_cons_zero, List.set_cons_succ]
      go_simp
      refine hcl.mono ?_
      rintro _ W1 ⟨gt1, ct1, rfl, hg1, hg2, hg3, hB⟩
      go_simp
      refine hK.out _ _ ⟨gN, gt1, ct1, gp, x5, x17, x18, x19, x20, x21, tv, (.slice (some ⟨gt1, 0, none⟩) n ct1), x24, by simp only [Act.put, List.setIfInBounds_toArray, List.set_cons_zero, List.set_cons_succ], ?_⟩
      exact ⟨fun h => hF.out.f0 (by simpa using h), fun h => hF.out.f1 (by simpa using h), fun h => hF.out.f2 (by simpa using h), fun h => hF.out.f3 (by simpa using h), fun h => hF.out.f4 (by simpa using h), fun h => hF.out.f5 (by simpa using h), fun _ => rfl, fun h => by have := HN7.out; simp [this] at h, fun h => hF.out.f8 (by simpa using h), fun h => hF.out.f9 (by simpa using h), fun h => by have := hF.out.q7_3 (by simpa using h); simpa using this, fun _ => by simp, fun h => by have := hF.out.q9_8 (by simpa using h); simpa using this, fun h => by have := hF.out.q9_7 (by simpa using h); simpa using this, fun h => by have := hF.out.q9_3 (by simpa using h); simpa using this, fun _ => by simp, hF.out.bel.trans (hB.mono hF.out.bel.size), ⟨(hB.cell (p := ⟨w.heap.size, 0, none⟩) (by have := hF.out.sz; have := HSW.out; simp; omega)).trans hF.out.bx.1, (hB.cell (p := ⟨w.heap.size, 1, none⟩) (by have := hF.out.sz; have := HSW.out; simp; omega)).trans hF.out.bx.2⟩, Nat.le_trans hF.out.sz hB.size, hF.out.rs.of_block (hB.block _ hF.out.rs.lt), fun h => have k := hF.out.mr (by simpa using h); ⟨k.1, k.2.of_block (hB.block _ k.2.lt)⟩, fun _ => ⟨Nat.le_trans hF.out.sz hg1, hg2, hg3⟩, fun h h2 => have k := hF.out.al (by simpa using h) (by simpa using h2); ⟨k.1, k.2.of_block (hB.block _ k.2.lt)⟩, fun h => by have := HN9.out; simp [this] at h, fun k _ => by have := (hF.out.mr (by simpa using k)).2.lt; omega, fun h k => hF.out.n38 (by simpa using h) (by simpa using k), fun _ k => by have := (hF.out.al (by simpa using k) (by simpa using HN9.out)).2.lt; omega⟩
    · intro d a W hI hd hdep
      obtain ⟨gN, gt, ct, gp, x5, x17, x18, x19, x20, x21, x22, x23, x24, rfl, hF⟩ := hI
      have hd3 : d 3 = true := dep_of hdep 3 (by kernel_rfl)
      have hd6 : d 6 = true := dep_of hdep 6 (by kernel_rfl)
      obtain rfl := hF.out.f3 hd3
      obtain rfl := hF.out.f6 hd6
      have e7_3 := hd3
      have e7_6 := hd6
      have hset := HSET.out
      have hz47 := HZ47.out
      have hsz := HZSZ.out
      clear hdep hd hd3 hd6
      intro K hK
      simp only [Act.put, List.setIfInBounds_toArray, List.set_cons_zero, List.set_cons_succ]
      go_simp
      refine hK.out _ _ ⟨gN, gt, ct, gp, x5, x17, x18, x19, (.slice (some ⟨gN, 0, none⟩) n n), x21, x22, (.slice (some ⟨gt, 0, none⟩) n ct), (.agg (pl (fun _ => 0) (.slice (some ⟨gN, 0, none⟩) n n) (.slice (some ⟨gt, 0, none⟩) n ct)).toArray), by simp only [Act.put, List.setIfInBounds_toArray, List.set_cons_zero, List.set_cons_succ], ?_⟩
      exact ⟨fun h => hF.out.f0 (by simpa using h), fun h => hF.out.f1 (by simpa using h), fun h => hF.out.f2 (by simpa using h), fun h => hF.out.f3 (by simpa using h), fun h => hF.out.f4 (by simpa using h), fun h => hF.out.f5 (by simpa using h), fun h => hF.out.f6 (by simpa using h), fun _ => rfl, fun h => hF.out.f8 (by simpa using h), fun h => hF.out.f9 (by simpa using h), fun _ => by simpa using e7_3, fun _ => by simpa using e7_6, fun h => by have := hF.out.q9_8 (by simpa using h); simpa using this, fun _ => by simp, fun h => by have := hF.out.q9_3 (by simpa using h); simpa using this, fun h => by have := hF.out.q9_6 (by simpa using h); simpa using this, hF.out.bel, hF.out.bx, hF.out.sz, hF.out.rs, fun h => hF.out.mr (by simpa using h), fun h => hF.out.cl (by simpa using h), fun h h2 => hF.out.al (by simpa using h) (by simpa using h2), fun h => hF.out.st (by simpa using h), fun h k => hF.out.n36 (by simpa using h) (by simpa using k), fun h k => hF.out.n38 (by simpa using h) (by simpa using k), fun h k => hF.out.n68 (by simpa using h) (by simpa using k)⟩
    · intro d a W hI hd hdep
      obtain ⟨gN, gt, ct, gp, x5, x17, x18, x19, x20, x21, x22, x23, x24, rfl, hF⟩ := hI
      have HN9 : Hid (d 9 = false) := no_later hF.out.q9_8 hd
      have hz47 := HZ47.out
      have B1 := (Below.refl W.heap.size W).alloc (Nat.le_refl _) (Obj.cells zs 54)
      clear hdep hd
      intro K hK
      simp only [Act.put, List.setIfInBounds_toArray, List.set_cons_zero, List.set_cons_succ]
      go_simp
      refine hK.out _ _ ⟨gN, gt, ct, W.heap.size, (.pointer (some ⟨W.heap.size, 0, none⟩)), x17, x18, x19, x20, x21, x22, x23, x24, by simp only [Act.put, List.setIfInBounds_toArray, List.set_cons_zero, List.set_cons_succ], ?_⟩
      exact ⟨fun h => hF.out.f0 (by simpa using h), fun h => hF.out.f1 (by simpa using h), fun h => hF.out.f2 (by simpa using h), fun h => hF.out.f3 (by simpa using h), fun h => hF.out.f4 (by simpa using h), fun h => hF.out.f5 (by simpa using h), fun h => hF.out.f6 (by simpa using h), fun h => hF.out.f7 (by simpa using h), fun _ => rfl, fun h => hF.out.f9 (by simpa using h), fun h => by have := hF.out.q7_3 (by simpa using h); simpa using this, fun h => by have := hF.out.q7_6 (by simpa using h); simpa using this, fun _ => by simp, fun h => by have := hF.out.q9_7 (by simpa using h); simpa using this, fun h => by have := hF.out.q9_3 (by simpa using h); simpa using this, fun h => by have := hF.out.q9_6 (by simpa using h); simpa using this, hF.out.bel.trans (B1.mono hF.out.bel.size), ⟨Go.Lib.cell?_alloc_some _ hF.out.bx.1, Go.Lib.cell?_alloc_some _ hF.out.bx.2⟩, Nat.le_trans hF.out.sz B1.size, hF.out.rs.alloc _, fun h => have k := hF.out.mr (by simpa using h); ⟨k.1, k.2.alloc _⟩, fun h => have k := hF.out.cl (by simpa using h); ⟨k.1, Nat.lt_of_lt_of_le k.2.1 B1.size, k.2.2.same (B1.block _ k.2.1)⟩, fun _ _ => ⟨hF.out.sz, HROW.out W⟩, fun h => by have := HN9.out; simp [this] at h, fun h k => hF.out.n36 (by simpa using h) (by simpa using k), fun k _ => by have := (hF.out.mr (by simpa using k)).2.lt; omega, fun k _ => by have := (hF.out.cl (by simpa using k)).2.1; omega⟩
    · intro d a W hI hd hdep
      obtain ⟨gN, gt, ct, gp, x5, x17, x18, x19, x20, x21, x22, x23, x24, rfl, hF⟩ := hI
      have hd8 : d 8 = true := dep_of hdep 8 (by kernel_rfl)
      have hd7 : d 7 = true := dep_of hdep 7 (by kernel_rfl)
      obtain rfl := hF.out.f8 hd8
      obtain rfl := hF.out.f7 hd7
      have e9_8 := hd8
      have e9_7 := hd7
      have e9_3 := hF.out.q7_3 hd7
      have e9_6 := hF.out.q7_6 hd7
      have hal := hF.out.al hd8 hd
      have hn1 := hF.out.n38 e9_3 hd8
      have hn2 := hF.out.n68 e9_6 hd8
      have hlen := pl_length (fun _ => 0) (.slice (some ⟨gN, 0, none⟩) n n) (.slice (some ⟨gt, 0, none⟩) n ct)
      clear hdep hd hd8 hd7
      intro K hK
      simp only [Act.put, List.setIfInBounds_toArray, List.set_cons_zero, List.set_cons_succ]
      refine wp_store_mid 54 _ _ rfl gp 0 (pl (fun _ => 0) (.slice (some ⟨gN, 0, none⟩) n n) (.slice (some ⟨gt, 0, none⟩) n ct)).toArray rfl rfl (by rw [List.size_toArray, hlen]; exact there_row hal.2) (by rw [List.size_toArray, hlen]; exact size47) (pl_one _ _ _ _ _ _ _) ?_
      refine hK.out _ _ ⟨gN, gt, ct, gp, (.pointer (some ⟨gp, 0, none⟩)), x17, x18, x19, x20, x21, x22, x23, (.agg (pl (fun _ => 0) (.slice (some ⟨gN, 0, none⟩) n n) (.slice (some ⟨gt, 0, none⟩) n ct)).toArray), by simp only [Act.put, List.setIfInBounds_toArray, List.set_cons_zero, List.set_cons_succ], ?_⟩
      obtain ⟨f9, hf9, -, hf9b⟩ := rowIs_setCells (pl (fun _ => 0) (.slice (some ⟨gN, 0, none⟩) n n) (.slice (some ⟨gt, 0, none⟩) n ct)).toArray.toList 0 _ hal.2 (by simp [hlen])
      have hoth : ∀ k, k ≠ gp → (W.setCells gp 0 (pl (fun _ => 0) (.slice (some ⟨gN, 0, none⟩) n n) (.slice (some ⟨gt, 0, none⟩) n ct)).toArray.toList).heap[k]? = W.heap[k]? := fun k hk => heap_setCells_ne _ _ _ _ _ hk
      have hsz9 : (W.setCells gp 0 (pl (fun _ => 0) (.slice (some ⟨gN, 0, none⟩) n n) (.slice (some ⟨gt, 0, none⟩) n ct)).toArray.toList).heap.size = W.heap.size := size_setCells _ _ _ _
      exact ⟨fun h => hF.out.f0 (by simpa using h), fun h => hF.out.f1 (by simpa using h), fun h => hF.out.f2 (by simpa using h), fun h => hF.out.f3 (by simpa using h), fun h => hF.out.f4 (by simpa using h), fun h => hF.out.f5 (by simpa using h), fun h => hF.out.f6 (by simpa using h), fun h => hF.out.f7 (by simpa using h), fun h => hF.out.f8 (by simpa using h), fun _ => trivial, fun h => by have := hF.out.q7_3 (by simpa using h); simpa using this, fun h => by have := hF.out.q7_6 (by simpa using h); simpa using this, fun _ => by simpa using e9_8, fun _ => by simpa using e9_7, fun _ => by simpa using e9_3, fun _ => by simpa using e9_6, setCells_below _ (by have := hal.1; have := HSW.out; omega) _ _ _ hF.out.bel, ⟨(cell_same (hoth w.heap.size (by have := hal.1; have := HSW.out; omega)) 0).trans hF.out.bx.1, (cell_same (hoth w.heap.size (by have := hal.1; have := HSW.out; omega)) 1).trans hF.out.bx.2⟩, by rw [hsz9]; exact hF.out.sz, hF.out.rs.of_block (hoth _ (by have := hal.1; have := HSW.out; omega)), fun _ => have k := hF.out.mr e9_3; ⟨k.1, k.2.of_block (hoth _ hn1)⟩, fun _ => have k := hF.out.cl e9_6; ⟨k.1, by rw [hsz9]; exact k.2.1, k.2.2.same (hoth _ hn2)⟩, fun _ h => by simp at h, fun _ => ⟨hal.1, hf9.congr fun q hq => by have := hf9b q _ (by rw [List.toList_toArray]; exact pf_at _ _ _ q hq); rwa [Nat.zero_add] at this⟩, fun _ _ => hF.out.n36 e9_3 e9_6, fun _ _ => hn1, fun _ _ => hn2⟩
  · intro d a W hI hall
    obtain ⟨gN, gt, ct, gp, x5, x17, x18, x19, x20, x21, x22, x23, x24, rfl, hF⟩ := hI
    simp only [List.length_cons, List.length_nil] at hall
    obtain rfl := hF.out.f0 (hall 0 (by omega))
    obtain rfl := hF.out.f1 (hall 1 (by omega))
    obtain rfl := hF.out.f2 (hall 2 (by omega))
    obtain rfl := hF.out.f3 (hall 3 (by omega))
    obtain rfl := hF.out.f4 (hall 4 (by omega))
    obtain rfl := hF.out.f5 (hall 5 (by omega))
    obtain rfl := hF.out.f6 (hall 6 (by omega))
    obtain rfl := hF.out.f7 (hall 7 (by omega))
    obtain rfl := hF.out.f8 (hall 8 (by omega))
    have HR : Hid (Below w.heap.size w W ∧ W.cell? ⟨w.heap.size, 0, none⟩ = some (.slice ra n rc) ∧ W.cell? ⟨w.heap.size, 1, none⟩ = some tv ∧ W.rowIs (w.heap.size + 1) 54 258 (pf (fun _ => 0) (.slice none 0 0) (.slice none 0 0)) ∧ W.rowIs gN 23 n (fun _ => .slice none 0 0) ∧ Tg gt ct n T W ∧ gt < W.heap.size ∧ W.rowIs gp 54 258 (pf (fun _ => 0) (.slice (some ⟨gN, 0, none⟩) n n) (.slice (some ⟨gt, 0, none⟩) n ct)) ∧ gN ≠ gt ∧ gN ≠ gp ∧ gt ≠ gp ∧ w1.heap.size ≤ gN ∧ w1.heap.size ≤ gt ∧ w1.heap.size ≤ gp) := by
      have k3 := hF.out.mr (hall 3 (by omega))
      have k6 := hF.out.cl (hall 6 (by omega))
      have k9 := hF.out.st (hall 9 (by omega))
      exact ⟨hF.out.bel, hF.out.bx.1, hF.out.bx.2, hF.out.rs, k3.2, k6.2.2, k6.2.1, k9.2, hF.out.n36 (hall 3 (by omega)) (hall 6 (by omega)), hF.out.n38 (hall 3 (by omega)) (hall 8 (by omega)), hF.out.n68 (hall 6 (by omega)) (hall 8 (by omega)), k3.1, k6.1, k9.1⟩
    clear hF hall
    simp only [Act.put, List.setIfInBounds_toArray, List.set_cons_zero, List.set_cons_succ]
    go_wp2_with fail
    clear hmm hz47 HMK HSET HROW HBX1 HRS1 HB1
    obtain ⟨agl, HAG⟩ : ∃ q, Hid ((pl (fun _ => 0) (.slice (some ⟨gN, 0, none⟩) n n) (.slice (some ⟨gt, 0, none⟩) n ct)).toArray = q) := ⟨_, (rfl : _ = _)⟩
    rw [HAG.out]
    clear HAG
    obtain ⟨gm, HGM⟩ : ∃ q, Hid (W.heap.size = q) := ⟨_, (rfl : _ = _)⟩
    have HGO : Hid (Go_ w gN gt gp gm) := by
      obtain ⟨-, -, -, -, h5, h6, h7, h8, h9, h10, h11, h12, h13, h14⟩ := HR.out
      have := HSW.out; have := HGM.out; have := h5.lt; have := h8.lt
      exact ⟨by omega, by omega, by omega, by omega, by omega, by omega, h9, h10, h11⟩
    have HP0 : Hid (∃ D V, PL w n R T (.slice ra n rc) tv gN gt ct gp gm 0 (fsts n R 0) D V (W.alloc (Obj.map #[] 0))) := by
      obtain ⟨h1, h2, h3, h4, h5, h6, h7, h8, -⟩ := HR.out
      have e := HGM.out
      exact PL.start e h1 h2 h3 h4 h5 h6 h8
    rw [HGM.out]
    clear HR HSW
    go_loopw [26] (fun i wr => ∃ b : Nat, b ≤ 256 ∧ i = .int .i64 (b : Int) ∧ Hid (∃ D V, PL w n R T (.slice ra n rc) tv gN gt ct gp gm b (fsts n R b) D V wr)) (fun i _ => 256 - (intOf i).toNat)
    case atStart => exact ⟨0, by omega, rfl, HP0.out⟩
    case round =>
      clear HP0
      obtain ⟨b, hb, rfl, HE⟩ := hrel
      obtain ⟨D, V, hP⟩ := HE.out
      have HP : Hid (PL w n R T (.slice ra n rc) tv gN gt ct gp gm b (fsts n R b) D V wr) := hP
      clear hP HE
      by_cases hlt : b < 256
      · have hb0 : (0 : Int) ≤ (b : Int) := by omega
        have hb1 : (b : Int) < 256 := by omega
        have c0 := HP.out.c0
        have c1 := HP.out.c1
        obtain ⟨z7, hz7, hz7s, -⟩ := zero83
        have HZ7 : Hid (z7.size = 200) := hz7s
        clear hz7s
        go_wp2_with fail
        have hco := columnOf_any (.slice ra n rc) tv n n R T b wr (HRW.out.below HP.out.below (Nat.le_refl _)) (HTS.out.below HP.out.below (Nat.le_refl _)) HN0.out.2 hlt
        obtain ⟨kl, hkl⟩ := key83 HRR.out b (n := n)
        have HK : Hid (keyOf Try.prog 108 (.agg (cl n R b).toArray) = some kl) := hkl
        have HCL : Hid ((cl n R b).length = 200 ∧ (cl n R b).toArray.all (·.oneCell') = true) := ⟨cl_length n R b, cl_one n R b⟩
        have HAD : Hid (∀ (V0 : Nat → Value) (X : Nat → Nat → Int) (k : Nat) (w : World), Tn (gm + 1) gN n (fun _ => k) X V0 w → k ≤ 256 → (∀ j, j < n → X j k = R j b) → Calls Try.prog 51 #[(.slice (some ⟨gN, 0, none⟩) n n), .agg (cl n R b).toArray] w fun e w' => e = .returned (.tuple #[]) ∧ Mk (gm + 1) gN w w' ∧ ∃ V', Tn (gm + 1) gN n (fun _ => k + 1) X V' w') := fun V0 X k w ht hk hX => addColumn_any (gm + 1) gN n k b R X V0 w ht HN0.out.2 hk HRR.out (fun j hj => by rw [hX j hj, cf, if_pos hj])
        have HMP : Hid (∀ (D : DataW Unit) (fs : List Nat), MI n R D fs → (Maps.has D kl = true ↔ idx n R fs b < fs.length) ∧ (idx n R fs b < fs.length → D.atKey kl (.lit (.int .u8 0)) = .lit (.int .u8 (idx n R fs b : Int))) ∧ (Tidy D → ¬ idx n R fs b < fs.length → MI n R (D.put kl (.lit (.int .u8 (fs.length : Int)))) (fs ++ [b]))) := fun D fs h => ⟨h.has b kl hkl, h.at_ b kl hkl, fun ht hno => h.put HN0.out.2 ht hkl hno⟩
        obtain ⟨cs, HCS⟩ : ∃ q, Hid (cl n R b = q) := ⟨_, (rfl : _ = _)⟩
        rw [HCS.out] at hco HK HCL HAD
        clear hkl HCS c0 c1
        refine hco.mono ?_
        rintro _ w2 ⟨rfl, hB⟩
        have HP2 : Hid (PL w n R T (.slice ra n rc) tv gN gt ct gp gm b (fsts n R b) D V w2) := HP.out.next HGO.out hB
        clear hB hco HP
        have HP3 : Hid (PL w n R T (.slice ra n rc) tv gN gt ct gp gm b (fsts n R b) D V (w2.alloc (.cells cs.toArray 108))) := HP2.out.next HGO.out ((Below.refl _ _).alloc (Nat.le_refl _) _)
        have HCA : Hid ((w2.alloc (.cells cs.toArray 108)).rangeAt w2.heap.size 0 cs) := fun j v hv => by rw [Nat.zero_add, cell_of_block]; exact hv
        have HSZ : Hid ((Try.prog.info? 108).map (·.size) = some cs.length) := by show _ = _; rw [HCL.out.1]; exact size83
        obtain ⟨fl, HFL⟩ : ∃ q, Hid ((fsts n R b).length = q) := ⟨_, (rfl : _ = _)⟩
        have HMO : Hid ((w2.alloc (.cells cs.toArray 108)).ownsMap Try.prog 108 (plainElem Try.prog 5) gm fl D) := by have := HP3.out.mp; rwa [HFL.out] at this
        have HP4s : Hid (gm + 1 ≤ w2.heap.size) := HP2.out.tn.size
        clear HP2
        go_wp2_with (first | refine wpList_store_new83 rfl _ _ rfl z7 cs.toArray rfl rfl HZ7.out (by rw [List.size_toArray]; exact HCL.out.1) HCL.out.2 ?_ | refine wpList_load_mid rfl 108 _ rfl w2.heap.size 0 rfl cs _ HCA.out Try.underlying108 rfl HSZ.out ?_ | refine wpList_lookup_own_ok_int _ rfl _ _ 106 rfl 108 5 .u8 law83 Try.underlying106 Try.underlying5 (zero5 _) gm fl D rfl HMO.out _ kl rfl HK.out ?_)
        intro c hat hwc
        have HFR : Hid ((w2.alloc (.cells cs.toArray 108)).frozen? ⟨gp, b, none⟩ = false) := HP3.out.pb.frozen b
        obtain ⟨yv, HYV⟩ : ∃ v, Hid ((w2.alloc (.cells cs.toArray 108)).cell? ⟨gp, b, none⟩ = some v) := ⟨_, HP3.out.pb.cell (i := b) (by omega)⟩
        by_cases hkn : idx n R (fsts n R b) b < (fsts n R b).length
        · have hh := ((HMP.out D _ HP3.out.mi).1).2 hkn
          have hc := (HMP.out D _ HP3.out.mi).2.1 hkn
          rw [hat] at hc
          have HC : Hid (c = (idx n R (fsts n R b) b : Int)) := by injection hc with h1; injection h1
          have HKN : Hid (idx n R (fsts n R b) b < (fsts n R b).length) := hkn
          rw [hh]
          have y0 := HYV.out
          have y1 := HFR.out
          clear hat hwc hc hh hkn HAD HMP HK HCA
          go_wp2_with fail
          go_roundw
          case rel =>
            refine ⟨b + 1, by omega, by go_num, D, V, ?_⟩
            have e : fsts n R (b + 1) = fsts n R b := by
              show (if _ then _ else _) = _
              rw [if_neg (by have := HKN.out; omega)]
            rw [e, HC.out]
            exact HP3.out.of HGO.out hlt
          case measure => simp [intOf]; omega
        · have hh : Maps.has D kl = false := by
            cases e : Maps.has D kl with
            | false => rfl
            | true => exact absurd ((HMP.out D _ HP3.out.mi).1.1 e) hkn
          have HKN : Hid (¬ idx n R (fsts n R b) b < (fsts n R b).length) := hkn
          have HMU : Hid (MI n R (D.put kl (.lit (.int .u8 (fl : Int)))) (fsts n R b ++ [b])) := by have := (HMP.out D _ HP3.out.mi).2.2 (HMO.out.tidy law83) hkn; rwa [HFL.out] at this
          have HSD : Hid (Maps.size D = fl) := by show _ = _; rw [HP3.out.mi.size]; exact HFL.out
          have hfl : fl ≤ b := by rw [← HFL.out]; exact fsts_length n R b
          have hwr : (fl : Int) % 256 = (fl : Int) := by omega
          have HVL : Hid (plainElem (H := Unit) Try.prog 5 (.int .u8 (fl : Int)) = some (.lit (.int .u8 (fl : Int)), [])) := plainElem_int Try.underlying5 (by simp [Lit.wf, IntKind.min, IntKind.max, IntKind.signed, IntKind.bits]; omega)
          have HML : Hid (fl < maxLen) := by show _ < _; have : 256 ≤ maxLen := by decide
                                             omega
          rw [hh]
          clear hat hwc hh hkn HMP
          go_wp2_with (first | (refine wpList_len_own _ rfl _ 106 rfl 108 5 Try.underlying106 (plainElem Try.prog 5) gm fl D rfl HMO.out ?_; rw [HSD.out]) | refine wpList_load_mid rfl 108 _ rfl w2.heap.size 0 rfl cs _ HCA.out Try.underlying108 rfl HSZ.out ?_ | refine wpList_mapUpdate_own _ rfl _ _ _ 106 rfl 108 5 law83 Try.underlying106 (plainElem Try.prog 5) gm fl D rfl HMO.out HML.out _ _ kl rfl rfl HK.out (.lit (.int .u8 (fl : Int))) [] HVL.out ?_)
          intro w3 hm3 hg3
          obtain ⟨m1, m2, m3, m4, m5, m6, m7⟩ := HP3.out.mapped HGO.out hg3
          have HGS : Hid (gm < w2.heap.size) := by have := HP3.out.tn.size; have h2 := HP4s.out; show _ < _; omega
          have HC3 : Hid (w3.rangeAt w2.heap.size 0 cs) := fun j v hv => (cell_same (hg3.block _ (by simp) (fun e => by have := HGS.out; simp at e; omega)) _).trans (HCA.out j v hv)
          have y2 := m6.cell (i := 256) (by omega)
          rw [show pf (ofb n R b) (.slice (some ⟨gN, 0, none⟩) n n) (.slice (some ⟨gt, 0, none⟩) n ct) 256 = (.slice (some ⟨gN, 0, none⟩) n n) by simp [pf]] at y2
          have hT : Tn (gm + 1) gN n (fun _ => fl) (fun i t => R i ((fsts n R b ++ [b]).getD t 0)) V w3 := by
            have := m7.congrX (X' := fun i t => R i ((fsts n R b ++ [b]).getD t 0)) (fun i hi j hj => by simp only [List.getD_eq_getElem?_getD]; rw [List.getElem?_append_left (by exact hj)])
            rwa [HFL.out] at this
          have HCA2 : Hid (Calls Try.prog 51 #[(.slice (some ⟨gN, 0, none⟩) n n), .agg cs.toArray] w3 fun e w' => e = .returned (.tuple #[]) ∧ Mk (gm + 1) gN w3 w' ∧ ∃ V', Tn (gm + 1) gN n (fun _ => fl + 1) (fun i t => R i ((fsts n R b ++ [b]).getD t 0)) V' w') := HAD.out V _ fl w3 hT (by omega) (fun j hj => by rw [← HFL.out]; simp)
          have HW3 : Hid (Below w.heap.size w w3 ∧ (∀ k, k < gm → w3.heap[k]? = (w2.alloc (.cells cs.toArray 108)).heap[k]?) ∧ w3.ownsMap Try.prog 108 (plainElem Try.prog 5) gm (fl + 1) (D.put kl (.lit (.int .u8 (fl : Int))))) := ⟨m1, fun k hk => hg3.block k (by have := HGS.out; simp; omega) (fun e => by simp at e; omega), hm3⟩
          clear m1 m2 m3 m4 m5 m6 m7 hm3 hg3 hT HCA HAD HYV HFR HK HMO HVL HML
          go_wp2_with (refine wpList_load_mid rfl 108 _ rfl w2.heap.size 0 rfl cs _ HC3.out Try.underlying108 rfl HSZ.out ?_)
          refine HCA2.out.mono ?_
          rintro _ w4 ⟨rfl, hM, V', hT'⟩
          have HP4 : Hid (PL w n R T (.slice ra n rc) tv gN gt ct gp gm b (fsts n R b ++ [b]) (D.put kl (.lit (.int .u8 (fl : Int)))) V' w4) := by
            have g1 := HGO.out.h1
            have g4 := HGO.out.h4
            refine HP3.out.added HGO.out (HW3.out.1.trans ⟨hM.os, hM.tape, hM.output, hM.size, fun k hk => hM.blk k (by omega) (by omega)⟩) (fun k hk hk2 => (hM.blk k (by omega) hk2).trans (HW3.out.2.1 k hk)) ?_ ?_ HMU.out
            · rw [List.length_append, HFL.out]; exact hT'
            · rw [List.length_append, HFL.out]; exact map_same HW3.out.2.2 (hM.blk gm (by omega) (by omega))
          have y1 := HP4.out.pb.frozen b
          obtain ⟨yw, y0⟩ : ∃ v, w4.cell? ⟨gp, b, none⟩ = some v := ⟨_, HP4.out.pb.cell (i := b) (by omega)⟩
          clear hM hT' HW3 HC3 HCA2 y2 HP3
          go_wp2_with fail
          go_roundw
          case rel =>
            refine ⟨b + 1, by omega, by go_num, D.put kl (.lit (.int .u8 (fl : Int))), V', ?_⟩
            have hix : idx n R (fsts n R b) b = (fsts n R b).length := by have := HKN.out; have := idx_le n R (fsts n R b) b; omega
            have e : fsts n R (b + 1) = fsts n R b ++ [b] := by
              show (if _ then _ else _) = _
              rw [if_pos hix]
            have hof := HP4.out.of HGO.out hlt
            rw [hix, HFL.out] at hof
            rw [e]
            exact hof
          case measure => simp [intOf]; omega
      · obtain rfl : b = 256 := by omega
        obtain ⟨l, HL⟩ : ∃ q, Hid (pl (ofb n R 256) (.slice (some ⟨gN, 0, none⟩) n n) (.slice (some ⟨gt, 0, none⟩) n ct) = q) := ⟨_, (rfl : _ = _)⟩
        have HLL : Hid (l.length = 258) := by show _ = _; rw [← HL.out]; exact pl_length _ _ _
        have HRG : Hid (wr.rangeAt gp 0 l) := fun j v hv => by
          have hj : j < 258 := by have := (List.getElem?_eq_some_iff.1 hv).1; have := HLL.out; omega
          rw [← HL.out, pf_at _ _ _ j hj] at hv
          rw [Nat.zero_add, HP.out.pb.cell hj]; exact hv
        have HL1 : Hid (l.toArray.all (·.oneCell') = true) := by show _ = _; rw [← HL.out]; exact pl_one _ _ _ _ _ _ _
        have HSZ : Hid (l.toArray.size = 258) := by show _ = _; rw [List.size_toArray]; exact HLL.out
        have HTH : Hid (wr.there (w.heap.size + 1) 0 l.toArray.size) := by rw [HSZ.out]; exact there_row HP.out.rs
        have HI9 : Hid ((Try.prog.info? 54).map (·.size) = some l.toArray.size) := by rw [HSZ.out]; exact size47
        go_wp2_with (first | refine wpList_load_mid rfl 54 _ rfl gp 0 rfl l _ HRG.out Try.underlying54 rfl (by rw [HLL.out]; exact size47) ?_ | refine wpList_store_mid rfl 54 _ _ rfl (w.heap.size + 1) 0 l.toArray rfl rfl HTH.out HI9.out HL1.out ?_)
        have hoth : ∀ k, k ≠ w.heap.size + 1 → (wr.setCells (w.heap.size + 1) 0 l.toArray.toList).heap[k]? = wr.heap[k]? := fun k hk => heap_setCells_ne _ _ _ _ _ hk
        have hsz9 : (wr.setCells (w.heap.size + 1) 0 l.toArray.toList).heap.size = wr.heap.size := size_setCells _ _ _ _
        have g := HGO.out
        have hTN : Tn (gm + 1) gN n (fun _ => (fsts n R 256).length) (fun i t => R i ((fsts n R 256).getD t 0)) V (wr.setCells (w.heap.size + 1) 0 l.toArray.toList) := ⟨HP.out.tn.top.of_block (hoth _ (by have := g.h1; omega)), fun i hi => own_same (HP.out.tn.own i hi) fun k hk => hoth k (by have := ((HP.out.tn.own i hi).lt k hk).1; have := g.h1; have := g.h4; omega), HP.out.tn.ne, HP.out.tn.lt, by rw [hsz9]; exact HP.out.tn.size⟩
        have hTG : Ts (wr.setCells (w.heap.size + 1) 0 l.toArray.toList) (.slice (some ⟨gt, 0, none⟩) n ct) n T := by
          obtain ⟨_, _, -, hq1, hq2, -⟩ := HTS.out
          exact ⟨_, _, rfl, hq1, hq2, Or.inr ⟨gt, 0, rfl, by rw [hsz9]; have := HP.out.tn.size; have := g.h5; omega, fun i hi => by rw [Nat.zero_add]; exact (cell_same (hoth _ (by have := g.h2; omega)) i).trans (HP.out.tg.1 i hi)⟩⟩
        refine bodyPost_ret (v := .tuple #[.agg l.toArray, .int .i64 0]) ?_ rfl ?_
        · exact results_cell_tmp_mid Try.results23 _ _ (w.heap.size + 1) l _ rfl (World.rangeAt_setCells_same _ _ _ _ (by rw [HLL.out]; exact there_row HP.out.rs)) Try.underlying54 rfl (by rw [HLL.out]; exact size47)
        · exact ⟨(.slice (some ⟨gN, 0, none⟩) n n), (.slice (some ⟨gt, 0, none⟩) n ct), by rw [← HL.out, pl_congr _ _ (fun j hj => by rw [ofb, if_pos hj])], hTN.nx HN0.out.2 (fun i j => HRR.out _ _) (fun _ => fsts_length n R 256), hTG, setCells_below _ (by omega) _ _ _ HP.out.below, gm + 1, gN, V, gt, ct, _, T, rfl, rfl, hTN, by have := g.h1; omega, by have := g.h2; omega, by have := g.h5; omega, g.n1, HP.out.tg.same (hoth _ (by have := g.h2; omega))⟩

end Go.Proofs.Ytlmlkpdppkgenaa.Pk

namespace Go.Proofs.Ytlmlkpdppkgenaa.Pk
open Go.RowKit
open Dfa

theorem fsts_mono (n : Nat) (R : Nat → Nat → Int) (a : Nat) : ∀ d, ∃ gs, fsts n R (a + d) = fsts n R a ++ gs
  | 0 => ⟨[], by simp⟩
  | d + 1 => by
    obtain ⟨gs, h⟩ := fsts_mono n R a d
    rw [← Nat.add_assoc, fsts]
    split
    · exact ⟨gs ++ [a + d], by rw [h, List.append_assoc]⟩
    · exact ⟨gs, h⟩
/-- The number of a byte's column. -/
def ofp (n : Nat) (R : Nat → Nat → Int) (b : Nat) : Nat := if b < 256 then idx n R (fsts n R b) b else 0
theorem ofp_lt (n : Nat) (R : Nat → Nat → Int) (b : Nat) : ofp n R b < 256 := by
  unfold ofp
  split
  · have := idx_le n R (fsts n R b) b
    have := fsts_length n R b
    omega
  · omega
theorem ofp_at (n : Nat) (R : Nat → Nat → Int) {b : Nat} (hb : b < 256) : ofp n R b < (fsts n R 256).length ∧ ∀ i, i < n → R i ((fsts n R 256).getD (ofp n R b) 0) = R i b := by
  obtain ⟨gs, e⟩ := fsts_mono n R (b + 1) (256 - (b + 1))
  rw [show b + 1 + (256 - (b + 1)) = 256 by omega] at e
  have hle := idx_le n R (fsts n R b) b
  unfold ofp
  rw [if_pos hb]
  by_cases h : idx n R (fsts n R b) b = (fsts n R b).length
  · have e1 : fsts n R (b + 1) = fsts n R b ++ [b] := by rw [fsts, if_pos h]
    rw [e, e1]
    refine ⟨by simp; omega, fun i hi => ?_⟩
    rw [h]
    simp
  · have e1 : fsts n R (b + 1) = fsts n R b := by rw [fsts, if_neg h]
    have hlt : idx n R (fsts n R b) b < (fsts n R b).length := by omega
    rw [e, e1]
    refine ⟨by simp; omega, fun i hi => ?_⟩
    have h2 := eqc_iff.1 (idx_some hlt) i hi
    have e3 : (fsts n R b ++ gs).getD (idx n R (fsts n R b) b) 0 = (fsts n R b)[idx n R (fsts n R b) b] := by rw [List.getD_eq_getElem?_getD, List.getElem?_append_left hlt, List.getElem?_eq_getElem hlt]; rfl
    rw [e3]
    exact h2
theorem row_at {n : Nat} {R : Nat → Nat → Int} (hr : rowsOk n R = true) {s b : Nat} (hs : s < n) (hb : b < 256) : -1 ≤ R s b ∧ R s b < (n : Int) := by
  have h1 := all_at (all_at hr s hs) b hb
  simp only [numOk, Bool.and_eq_true, decide_eq_true_eq] at h1
  exact h1
theorem pack_right {n : Nat} {R : Nat → Nat → Int} {T : Nat → Int} (hc : chk n n R T = 0) : chkP n n (ofp n R) (fun _ => (fsts n R 256).length) (fun i t => R i ((fsts n R 256).getD t 0)) T = 0 := by
  obtain ⟨h0, h1, -, h2, h3⟩ := chk_zero hc
  have a1 : colsOk n (ofp n R) (fun _ => (fsts n R 256).length) = true := by
    simp only [colsOk, Bool.and_eq_true, decide_eq_true_eq]
    exact ⟨all_true fun i _ => by simp, fsts_length n R 256, all_true fun j hj => by simp; exact (ofp_at n R hj).1⟩
  have a2 : statesOk n (fun _ => (fsts n R 256).length) (fun i t => R i ((fsts n R 256).getD t 0)) = true := all_true fun i hi => all_true fun t ht => by
    have hm : (fsts n R 256).getD t 0 ∈ fsts n R 256 := by rw [List.getD_eq_getElem?_getD, List.getElem?_eq_getElem ht]; exact List.getElem_mem _
    have := row_at h2 hi (fsts_lt n R 256 _ hm)
    simp only [Bool.and_eq_true, decide_eq_true_eq]
    exact ⟨this.1, by have := this.2; omega⟩
  have a3 : upOk n T 19 = true := all_true fun i hi => by
    have := all_at h3 i hi
    simp [tagOk] at this ⊢
    omega
  unfold chkP
  rw [if_neg (by omega), if_neg (by omega), if_pos ⟨a1, a2, a3⟩]
/-- A box of two cells. -/
structure Bb (g : Nat) (u v : Value) (W : World) : Prop where
  c0 : W.cell? ⟨g, 0, none⟩ = some u
  c1 : W.cell? ⟨g, 1, none⟩ = some v
  lt : g < W.heap.size
theorem Bb.next {g : Nat} {u v : Value} {W W' : World} (h : Bb g u v W) (hb : Below W.heap.size W W') : Bb g u v W' := ⟨(hb.cell (p := ⟨g, 0, none⟩) h.lt).trans h.c0, (hb.cell (p := ⟨g, 1, none⟩) h.lt).trans h.c1, Nat.lt_of_lt_of_le h.lt hb.size⟩
theorem Bb.box (W : World) (u v : Value) (t : TypeId) : Bb W.heap.size u v (W.alloc (Obj.cells #[u, v] t)) := ⟨by simp, by simp, by simp⟩
/-- A row of cells in memory. -/
structure Rg (g : Nat) (l : List Value) (W : World) : Prop where
  rng : W.rangeAt g 0 l
  lt : g < W.heap.size
theorem Rg.next {g : Nat} {l : List Value} {W W' : World} (h : Rg g l W) (hb : Below W.heap.size W W') : Rg g l W' := ⟨fun j v hv => (hb.cell (p := ⟨g, 0 + j, none⟩) h.lt).trans (h.rng j v hv), Nat.lt_of_lt_of_le h.lt hb.size⟩
theorem wpList_store_new47 {ops : Array Oper} {rest : List Oper} {op : Oper} {a : Act} {w : World} {Q : Exit → Act → World → Prop} (hgd : op.guard = none) (x y : Operand) (ho : op.op = .store 54 x y)
    (c c' : Array Value) (hx : a.eval x = .pointer (some ⟨w.heap.size, 0, none⟩)) (hy : a.eval y = .agg c') (hc : c.size = 258) (hc' : c'.size = 258) (h1 : c'.all (·.oneCell') = true)
    (h : wpList Try.prog ops Q rest (a.put op.dst undef) (w.alloc (.cells c' 54))) : wpList Try.prog ops Q (op :: rest) a (w.alloc (.cells c 54)) :=
  wpList_plain hgd fun K hK => by
    unfold Oper.wp execOp
    simp only [ho, hx, hy, Sem.run_bind, run_storeAt_new w 54 c c' (by rw [hc']; exact size47) (by omega) h1, Result.andThen_ok]
    exact hK _ _ h
end Go.Proofs.Ytlmlkpdppkgenaa.Pk

namespace Go.Proofs.Ytlmlkpdppkgenaa.Pk.Dfa

/-- From a state on, with what was found so far: the rule, the size. -/
def lg (R : Nat → Nat → Int) (T : Nat → Int) : Nat → Nat → Int → Nat → List UInt8 → Int × Nat
  | _, _, r, z, [] => (r, z)
  | q, i, r, z, b :: l => if R q b.toNat < 0 then (r, z) else if T (R q b.toNat).toNat < 0 then lg R T (R q b.toNat).toNat (i + 1) r z l else lg R T (R q b.toNat).toNat (i + 1) (T (R q b.toNat).toNat) (i + 1) l
def lng (R : Nat → Nat → Int) (T : Nat → Int) (l : List UInt8) : Int × Nat := lg R T 0 0 0 0 l
theorem lg_le (R : Nat → Nat → Int) (T : Nat → Int) (l : List UInt8) : ∀ q i r z, z ≤ i → (lg R T q i r z l).2 ≤ i + l.length := by
  induction l with
  | nil => intro q i r z h; simp [lg]; omega
  | cons b l ih =>
    intro q i r z h
    unfold lg
    split
    · simp; omega
    · split
      · have := ih (R q b.toNat).toNat (i + 1) r z (by omega); simp; omega
      · have := ih (R q b.toNat).toNat (i + 1) (T (R q b.toNat).toNat) (i + 1) (by omega); simp; omega
theorem lng_le (R : Nat → Nat → Int) (T : Nat → Int) (l : List UInt8) : (lng R T l).2 ≤ l.length := by have := lg_le R T l 0 0 0 0 (by omega); unfold lng; omega
/-- The tokens from a place on, and where none begins. -/
def tk (R : Nat → Nat → Int) (T : Nat → Int) (s : List UInt8) : Nat → Nat → List (Int × Nat × Nat) × Option Nat
  | 0, _ => ([], none)
  | f + 1, p => if s.length ≤ p then ([], none) else if (lng R T (s.drop p)).2 = 0 then ([], some p) else
      (((lng R T (s.drop p)).1, p, p + (lng R T (s.drop p)).2) :: (tk R T s f (p + (lng R T (s.drop p)).2)).1, (tk R T s f (p + (lng R T (s.drop p)).2)).2)
theorem tk_end {R : Nat → Nat → Int} {T : Nat → Int} {s : List UInt8} {f p : Nat} (h : s.length ≤ p) : tk R T s f p = ([], none) := by
  cases f with
  | zero => rfl
  | succ f => unfold tk; rw [if_pos h]
theorem tk_bad {R : Nat → Nat → Int} {T : Nat → Int} {s : List UInt8} {f p : Nat} (h : p < s.length) (hf : s.length ≤ p + f) (hz : (lng R T (s.drop p)).2 = 0) : tk R T s f p = ([], some p) := by
  cases f with
  | zero => omega
  | succ f => unfold tk; rw [if_neg (by omega), if_pos hz]
theorem tk_next {R : Nat → Nat → Int} {T : Nat → Int} {s : List UInt8} {f p : Nat} (h : p < s.length) (hf : s.length ≤ p + f) (hz : ¬ (lng R T (s.drop p)).2 = 0) : ∃ g, s.length ≤ p + (lng R T (s.drop p)).2 + g ∧
    tk R T s f p = (((lng R T (s.drop p)).1, p, p + (lng R T (s.drop p)).2) :: (tk R T s g (p + (lng R T (s.drop p)).2)).1, (tk R T s g (p + (lng R T (s.drop p)).2)).2) := by
  cases f with
  | zero => omega
  | succ f => exact ⟨f, by omega, by rw [tk]; rw [if_neg (by omega), if_neg hz]⟩
/-- All of a text. -/
def all (R : Nat → Nat → Int) (T : Nat → Int) (s : List UInt8) : List (Int × Nat × Nat) × Option Nat := tk R T s s.length 0
/-- What stands at a place of a loop over the tokens. -/
def Tk (R : Nat → Nat → Int) (T : Nat → Int) (s : List UInt8) (ts : List (Int × Nat × Nat)) (p : Nat) : Prop := p ≤ s.length ∧ ts.length ≤ p ∧ ∃ f, s.length ≤ p + f ∧ all R T s = (ts ++ (tk R T s f p).1, (tk R T s f p).2)
theorem Tk.start (R : Nat → Nat → Int) (T : Nat → Int) (s : List UInt8) : Tk R T s [] 0 := ⟨by omega, by simp, s.length, by omega, by simp [all]⟩
theorem Tk.over {R : Nat → Nat → Int} {T : Nat → Int} {s : List UInt8} {ts : List (Int × Nat × Nat)} {p : Nat} (h : Tk R T s ts p) (hp : s.length ≤ p) : all R T s = (ts, none) := by
  obtain ⟨h0, -, f, h1, h2⟩ := h
  rw [h2, tk_end hp, List.append_nil]
theorem Tk.bad {R : Nat → Nat → Int} {T : Nat → Int} {s : List UInt8} {ts : List (Int × Nat × Nat)} {p : Nat} (h : Tk R T s ts p) (hp : p < s.length) (hz : (lng R T (s.drop p)).2 = 0) : all R T s = (ts, some p) := by
  obtain ⟨h0, -, f, h1, h2⟩ := h
  rw [h2, tk_bad hp h1 hz, List.append_nil]
theorem Tk.next {R : Nat → Nat → Int} {T : Nat → Int} {s : List UInt8} {ts : List (Int × Nat × Nat)} {p : Nat} (h : Tk R T s ts p) (hp : p < s.length) (hz : ¬ (lng R T (s.drop p)).2 = 0) :
    Tk R T s (ts ++ [((lng R T (s.drop p)).1, p, p + (lng R T (s.drop p)).2)]) (p + (lng R T (s.drop p)).2) := by
  obtain ⟨h0, h3, f, h1, h2⟩ := h
  obtain ⟨g, g1, g2⟩ := tk_next hp h1 hz
  have hl := lng_le R T (s.drop p)
  rw [List.length_drop] at hl
  exact ⟨by omega, by simp; omega, g, g1, by rw [h2, g2, List.append_assoc]; rfl⟩
end Go.Proofs.Ytlmlkpdppkgenaa.Pk.Dfa

namespace Go.Proofs.Ytlmlkpdppkgenaa.Pk
open Go.RowKit
open Dfa

theorem drop_cons (s : ByteArray) (k : Nat) (h : k < s.size) : s.data.toList.drop k = s[k] :: s.data.toList.drop (k + 1) := by
  rw [List.drop_eq_getElem_cons (by rw [data_size]; exact h)]; rfl
theorem drop_all (s : ByteArray) (k : Nat) (h : s.size ≤ k) : s.data.toList.drop k = [] := List.drop_of_length_le (by rw [data_size]; exact h)

/-- What check says of a packed one and a text. -/
def chkS (n m : Nat) (O : Nat → Nat) (L : Nat → Nat) (X : Nat → Nat → Int) (T : Nat → Int) (k : Nat) : Int := if chkP n m O L X T = 0 then (if 2000 < k then 2 else 0) else chkP n m O L X T

set_option maxHeartbeats 1600000 in
set_option maxRecDepth 20000 in
theorem checkS_any (O : Nat → Nat) (nv tv : Value) (n m : Nat) (L : Nat → Nat) (X : Nat → Nat → Int) (T : Nat → Int) (s : ByteArray) (w : World) (hO : ∀ j, O j < 256) (hx : Nx w nv n L X) (ht : Ts w tv m T) (hs : s.size ≤ 9223372036854775807) :
    Calls Try.prog 42 #[.agg (pl O nv tv).toArray, .string s] w fun e w' => e = .returned (.int .i64 (chkS n m O L X T s.size)) ∧ Below w.heap.size w w' := by
  obtain ⟨l, HLL⟩ : ∃ l, Hid (pl O nv tv = l) := ⟨_, (rfl : pl O nv tv = pl O nv tv)⟩
  have HP : Hid (Px w w.heap.size O nv tv n m L X T l (w.alloc (Obj.cells l.toArray 54))) := Px.box HLL.out hx ht
  have HI : Hid ((w.alloc (Obj.cells l.toArray 54)).rangeAt w.heap.size 0 l) := by show World.rangeAt _ _ _ _; rw [← HLL.out]; exact HLL.out ▸ HP.out.all
  have HQ : Hid (Calls Try.prog 46 #[.agg l.toArray] (w.alloc (Obj.cells l.toArray 54)) fun e w' => e = .returned (.int .i64 (chkP n m O L X T)) ∧ Below (w.alloc (Obj.cells l.toArray 54)).heap.size (w.alloc (Obj.cells l.toArray 54)) w') := by
    have := checkP_any O nv tv n m L X T (w.alloc (Obj.cells l.toArray 54)) hO HP.out.next HP.out.tags
    rw [HLL.out] at this
    exact this
  have HS : Hid ((Try.prog.info? 54).map (·.size) = some l.length) := by show _ = _; rw [← HLL.out, pl_length]; exact size47
  have HB : Hid (Below w.heap.size w (w.alloc (Obj.cells l.toArray 54))) := HP.out.below
  rw [HLL.out]
  clear hO hx ht
  obtain ⟨c, HC⟩ : ∃ c, Hid (chkP n m O L X T = c) := ⟨_, (rfl : chkP n m O L X T = chkP n m O L X T)⟩
  unfold chkS
  rw [HC.out] at HQ ⊢
  obtain ⟨ww, HW⟩ : ∃ ww, Hid (w.alloc (Obj.cells l.toArray 54) = ww) := ⟨_, (rfl : w.alloc _ = w.alloc _)⟩
  go_enter Try.func42, Try.ntmps42
  go_wp2_with (refine wpList_load_mid rfl 54 _ rfl w.heap.size 0 rfl l _ HI.out Try.underlying54 rfl HS.out ?_)
  refine HQ.out.mono ?_
  rintro _ w1 ⟨rfl, hb1⟩
  have B1 : Below w.heap.size w w1 := HB.out.trans (hb1.mono HB.out.size)
  clear hb1 HQ HI
  by_cases h0 : c = 0
  · subst h0
    by_cases h2 : 2000 < s.size
    · have h3 : (2000 : Int) < (s.size : Int) := by omega
      go_wp2_with fail
      go_ret
      exact ⟨by rfl, B1⟩
    · have h3 : ¬ (2000 : Int) < (s.size : Int) := by omega
      go_wp2_with fail
      go_ret
      exact ⟨by rfl, B1⟩
  · have h3 : (c == 0) = false := by simp [h0]
    go_wp2_with fail
    go_ret
    exact ⟨by rfl, B1⟩

/-- The answer is what the search finds from here on. -/
def Goes (R : Nat → Nat → Int) (T : Nat → Int) (l : List UInt8) (k : Nat) (q r : Int) (z : Nat) (ans : Int × Nat) : Prop := (if q < 0 then (r, z) else lg R T q.toNat k r z (l.drop k)) = ans
theorem Goes.start (R : Nat → Nat → Int) (T : Nat → Int) (l : List UInt8) : Goes R T l 0 0 0 0 (lng R T l) := by unfold Goes lng; rw [if_neg (by omega)]; rfl
theorem Goes.over {R : Nat → Nat → Int} {T : Nat → Int} {l : List UInt8} {k : Nat} {q r : Int} {z : Nat} {ans : Int × Nat} (h : Goes R T l k q r z ans) (hk : l.drop k = [] ∨ q < 0) : ans = (r, z) := by
  unfold Goes at h
  by_cases hq : q < 0
  · rw [if_pos hq] at h; exact h.symm
  · rw [if_neg hq, hk.resolve_right hq] at h; exact h.symm
theorem Goes.none {R : Nat → Nat → Int} {T : Nat → Int} {l : List UInt8} {k p : Nat} {r : Int} {z : Nat} {ans : Int × Nat} {x : UInt8} (h : Goes R T l k (p : Int) r z ans) (hk : l.drop k = x :: l.drop (k + 1)) (hn : tagOf T (R p x.toNat) < 0) :
    Goes R T l (k + 1) (R p x.toNat) r z ans := by
  unfold Goes at *
  rw [if_neg (by omega), hk] at h
  rw [← h]
  show _ = lg R T p k r z _
  rw [lg]
  by_cases hq : R p x.toNat < 0
  · rw [if_pos hq, if_pos hq]
  · rw [if_neg hq, if_neg hq, if_pos (by unfold tagOf at hn; rw [if_neg hq] at hn; exact hn)]
theorem Goes.some {R : Nat → Nat → Int} {T : Nat → Int} {l : List UInt8} {k p : Nat} {r : Int} {z : Nat} {ans : Int × Nat} {x : UInt8} (h : Goes R T l k (p : Int) r z ans) (hk : l.drop k = x :: l.drop (k + 1)) (hn : ¬ tagOf T (R p x.toNat) < 0) :
    Goes R T l (k + 1) (R p x.toNat) (tagOf T (R p x.toNat)) (k + 1) ans := by
  unfold Goes at *
  rw [if_neg (by omega), hk] at h
  rw [← h]
  show _ = lg R T p k r z _
  rw [lg]
  by_cases hq : R p x.toNat < 0
  · exfalso; apply hn; unfold tagOf; rw [if_pos hq]; omega
  · have ht : tagOf T (R p x.toNat) = T (R p x.toNat).toNat := by unfold tagOf; rw [if_neg hq]
    rw [if_neg hq, if_neg hq, if_neg (by rw [← ht]; exact hn), ht]
theorem drop_from (s : ByteArray) (f k : Nat) (h : f + k < s.size) : (s.data.toList.drop f).drop k = s[f + k] :: (s.data.toList.drop f).drop (k + 1) := by
  rw [List.drop_drop, List.drop_drop, drop_cons s (f + k) h, Nat.add_assoc]
theorem drop_from_all (s : ByteArray) (f k : Nat) (h : s.size ≤ f + k) : (s.data.toList.drop f).drop k = [] := by rw [List.drop_drop, drop_all s _ h]
/-- The rows of a packed one, unpacked. -/
def RR (n : Nat) (O : Nat → Nat) (X : Nat → Nat → Int) : Nat → Nat → Int := fun i j => if i < n ∧ j < 256 then X i (O j) else 0
/-- A token in memory: none yet, or this one. -/
def Tv (f : Nat) (r : Int) (z : Nat) (bb : Bool) (a b c : Int) : Prop := (z = 0 ∧ bb = false ∧ a = 0 ∧ b = 0 ∧ c = 0) ∨ (0 < z ∧ bb = true ∧ a = r ∧ b = (f : Int) ∧ c = (f : Int) + (z : Int))
theorem block_cell {w : World} {g : Nat} {cs : Array Value} {t : TypeId} {fr : Nat × Nat} (h : w.heap[g]? = some (.cells cs t fr)) (i : Nat) : w.cell? ⟨g, i, none⟩ = cs[i]? := by simp [World.cell?, h]
theorem block_free {w : World} {g : Nat} {cs : Array Value} {t : TypeId} (h : w.heap[g]? = some (.cells cs t (0, 0))) (i : Nat) : w.frozen? ⟨g, i, none⟩ = false := by simp [World.frozen?, h]
theorem block_store {w : World} {g i : Nat} {cs : Array Value} {t : TypeId} {fr : Nat × Nat} (h : w.heap[g]? = some (.cells cs t fr)) (v : Value) : (w.setCell ⟨g, i, none⟩ v).heap[g]? = some (.cells (cs.setIfInBounds i v) t fr) := by
  rw [setCell_eq_setRow w g i cs t fr v h]
  exact setRow_heap w g _ _ t _ h
theorem three {w : World} {g : Nat} {x y z : Value} {t : TypeId} (h : w.heap[g]? = some (.cells #[x, y, z] t (0, 0))) (a b c : Value) :
    (((w.setCell ⟨g, 0, none⟩ a).setCell ⟨g, 1, none⟩ b).setCell ⟨g, 2, none⟩ c).heap[g]? = some (.cells #[a, b, c] t (0, 0)) := block_store (i := 2) (block_store (i := 1) (block_store (i := 0) h a) b) c
theorem same_three (w : World) (g : Nat) (a b c : Value) : (((w.setCell ⟨g, 0, none⟩ a).setCell ⟨g, 1, none⟩ b).setCell ⟨g, 2, none⟩ c).heap.size = w.heap.size ∧ (((w.setCell ⟨g, 0, none⟩ a).setCell ⟨g, 1, none⟩ b).setCell ⟨g, 2, none⟩ c).os = w.os ∧
    (((w.setCell ⟨g, 0, none⟩ a).setCell ⟨g, 1, none⟩ b).setCell ⟨g, 2, none⟩ c).tape = w.tape ∧ (((w.setCell ⟨g, 0, none⟩ a).setCell ⟨g, 1, none⟩ b).setCell ⟨g, 2, none⟩ c).output = w.output ∧
    ∀ k, k ≠ g → (((w.setCell ⟨g, 0, none⟩ a).setCell ⟨g, 1, none⟩ b).setCell ⟨g, 2, none⟩ c).heap[k]? = w.heap[k]? :=
  ⟨by simp [World.setCell], rfl, rfl, rfl, fun k hk => by rw [Below.heap_setCell _ _ _ _ (by simpa using hk), Below.heap_setCell _ _ _ _ (by simpa using hk), Below.heap_setCell _ _ _ _ (by simpa using hk)]⟩
end Go.Proofs.Ytlmlkpdppkgenaa.Pk

namespace Go.Proofs.Ytlmlkpdppkgenaa.Pk
open Go.RowKit
open Dfa

/-- The rest of the call: what lies in the token is handed back. -/
def Tok (f : Nat) (ans : Int × Nat) (e : Ending) : Prop := ∃ (a b c : Int) (bb : Bool), e = .returned (.tuple #[.agg #[.int .i64 a, .int .i64 b, .int .i64 c], .bool bb]) ∧ Tv f ans.1 ans.2 bb a b c

set_option maxHeartbeats 1600000 in
set_option maxRecDepth 20000 in
theorem long_any (O : Nat → Nat) (nv tv : Value) (n : Nat) (L : Nat → Nat) (X : Nat → Nat → Int) (T : Nat → Int) (s : ByteArray) (f : Nat) (w : World) (hO : ∀ j, O j < 256) (hx : Nx w nv n L X) (ht : Ts w tv n T) (hok : chkP n n O L X T = 0) (hs : s.size ≤ 2000) (hf : f ≤ s.size) :
    Calls Try.prog 43 #[.agg (pl O nv tv).toArray, .string s, .int .i64 (f : Int)] w fun e w' => Tok f (lng (RR n O X) T (s.data.toList.drop f)) e ∧ Below w.heap.size w w' := by
  obtain ⟨hn0, hn1, -, hcols, hsts, htgs⟩ := chkP_zero hok
  have HX0 : Hid (Nx w nv n L X) := hx
  have HT0 : Hid (Ts w tv n T) := ht
  have HCO : Hid (∀ i j, i < n → j < 256 → O j < L i ∧ -1 ≤ X i (O j) ∧ X i (O j) ≤ (n : Int) - 1) := fun i j hi hj => by
    obtain ⟨g1, g2, g3⟩ := cols_at hcols
    have h2 : O j < L i := by rw [g1 i hi]; exact g3 j hj
    exact ⟨h2, states_at hsts i (O j) hi h2⟩
  have HTG : Hid (∀ i, i < n → -1 ≤ T i ∧ T i ≤ 19) := fun i hi => up_at htgs i hi
  have HO : Hid (∀ j, O j < 256) := hO
  obtain ⟨l, HLL⟩ : ∃ l, Hid (pl O nv tv = l) := ⟨_, (rfl : pl O nv tv = pl O nv tv)⟩
  have HP : Hid (Px w w.heap.size O nv tv n n L X T l (w.alloc (Obj.cells l.toArray 54))) := Px.box HLL.out hx ht
  rw [HLL.out]
  obtain ⟨ao, cap, rfl, hn, hxc⟩ := id hx
  obtain ⟨b, o, rfl, hbw, -⟩ := hxc.resolve_left (by omega)
  obtain ⟨ao', cap2, rfl, hm, hwf, htc⟩ := id ht
  obtain ⟨b2, o2, rfl, hb2w, -⟩ := htc.resolve_left (by omega)
  have hG := Goes.start (RR n O X) T (s.data.toList.drop f)
  obtain ⟨ans, HA⟩ : ∃ a, Hid (lng (RR n O X) T (s.data.toList.drop f) = a) := ⟨_, (rfl : lng _ _ _ = lng _ _ _)⟩
  rw [HA.out] at hG ⊢
  have HP1 : Hid (Px w w.heap.size O (.slice (some ⟨b, o, none⟩) n cap) (.slice (some ⟨b2, o2, none⟩) n cap2) n n L X T l ((w.alloc (Obj.cells l.toArray 54)).alloc (Obj.cells #[.int .i64 0, .int .i64 0, .int .i64 0] 60))) := HP.out.step ((Below.refl _ _).alloc (Nat.le_refl _) _)
  have HBK : Hid (((w.alloc (Obj.cells l.toArray 54)).alloc (Obj.cells #[.int .i64 0, .int .i64 0, .int .i64 0] 60)).heap[w.heap.size + 1]? = some (.cells #[.int .i64 0, .int .i64 0, .int .i64 0] 60 (0, 0))) := by
    have := heap_alloc_new (w.alloc (Obj.cells l.toArray 54)) (Obj.cells #[.int .i64 0, .int .i64 0, .int .i64 0] 60)
    rwa [World.size_alloc] at this
  have hsz : w.heap.size + 1 < ((w.alloc (Obj.cells l.toArray 54)).alloc (Obj.cells #[.int .i64 0, .int .i64 0, .int .i64 0] 60)).heap.size := by simp
  clear hcols hsts htgs hO hx ht hxc htc hwf HP hok
  go_enter Try.func43, Try.ntmps43
  go_wp2_with fail
  go_loopw [7, 8, 9] (fun iv qv av wr => ∃ (k z p : Nat) (r ta tb tc : Int) (bb : Bool), f + k ≤ s.size ∧ z ≤ k ∧ p < n ∧ iv = .bool bb ∧ qv = .int .i64 (p : Int) ∧ av = .int .i64 ((f + k : Nat) : Int) ∧ Tv f r z bb ta tb tc ∧ Goes (RR n O X) T (s.data.toList.drop f) k (p : Int) r z ans ∧ w.heap.size + 1 < wr.heap.size ∧ wr.heap[w.heap.size + 1]? = some (.cells #[.int .i64 ta, .int .i64 tb, .int .i64 tc] 60 (0, 0)) ∧
      Px w w.heap.size O (.slice (some ⟨b, o, none⟩) n cap) (.slice (some ⟨b2, o2, none⟩) n cap2) n n L X T l wr) (fun _ _ av _ => s.size - (intOf av).toNat)
  case atStart => exact ⟨0, 0, 0, 0, 0, 0, 0, false, by omega, by omega, by omega, rfl, rfl, rfl, Or.inl ⟨rfl, rfl, rfl, rfl, rfl⟩, hG, hsz, HBK.out, HP1.out⟩
  case round =>
    obtain ⟨k, z, p, r, ta, tb, tc, bb, hk, hz, hp, rfl, rfl, rfl, hv, hgo, hws, hbk, hpx⟩ := hrel
    have HG : Hid (Goes (RR n O X) T (s.data.toList.drop f) k (p : Int) r z ans) := hgo
    have HB : Hid (wr.heap[w.heap.size + 1]? = some (.cells #[.int .i64 ta, .int .i64 tb, .int .i64 tc] 60 (0, 0))) := hbk
    have HPX : Hid (Px w w.heap.size O (.slice (some ⟨b, o, none⟩) n cap) (.slice (some ⟨b2, o2, none⟩) n cap2) n n L X T l wr) := hpx
    have HV : Hid (Tv f r z bb ta tb tc) := hv
    clear hgo hbk hpx hG hv HP1 HBK hsz
    obtain ⟨q, HQ⟩ : ∃ q, Hid (f + k = q) := ⟨_, (rfl : f + k = f + k)⟩
    rw [HQ.out] at hk ⊢
    by_cases hlt : q < s.size
    · have hk1 : (q : Int) < (s.size : Int) := by omega
      have hp1 : (p : Int) < (n : Int) := by omega
      have hp0 : (0 : Int) ≤ (p : Int) := by omega
      have hbr := byte_run s q hlt
      have HXX : Hid ((s.data.toList.drop f).drop k = s[q] :: (s.data.toList.drop f).drop (k + 1)) := by
        have h1 := HQ.out
        subst h1
        exact drop_from s f k hlt
      obtain ⟨x, HX⟩ : ∃ x, Hid (s[q] = x) := ⟨_, (rfl : s[q] = s[q])⟩
      rw [HX.out] at hbr HXX
      have hx : x.toNat < 256 := x.toNat_lt
      have hx1 : (x.toNat : Int) < 256 := by omega
      obtain ⟨h1, h2, h3⟩ := HCO.out p x.toNat hp hx
      have HN : Hid (tagOf T (X p (O x.toNat)) < 0 → Goes (RR n O X) T (s.data.toList.drop f) (k + 1) (X p (O x.toNat)) r z ans) := fun h => by
        have e : RR n O X p x.toNat = X p (O x.toNat) := by unfold RR; rw [if_pos ⟨hp, hx⟩]
        have := HG.out.none (T := T) HXX.out (by rw [e]; exact h)
        rwa [e] at this
      have HM : Hid (¬ tagOf T (X p (O x.toNat)) < 0 → Goes (RR n O X) T (s.data.toList.drop f) (k + 1) (X p (O x.toNat)) (tagOf T (X p (O x.toNat))) (k + 1) ans) := fun h => by
        have e : RR n O X p x.toNat = X p (O x.toNat) := by unfold RR; rw [if_pos ⟨hp, hx⟩]
        have := HG.out.some (T := T) HXX.out (by rw [e]; exact h)
        rwa [e] at this
      obtain ⟨a1, c1, cu, -, hu⟩ := HPX.out.next.cells p hp
      obtain ⟨bk, ok, rfl, -⟩ := hu.place (by omega)
      have cx := hu.cells (O x.toNat) h1
      have co := HPX.out.of x.toNat hx
      have ho := HO.out x.toNat
      obtain ⟨oj, HOJ⟩ : ∃ j, Hid (O x.toNat = j) := ⟨_, (rfl : O x.toNat = O x.toNat)⟩
      rw [HOJ.out] at h1 h2 h3 HN HM cx co ho
      obtain ⟨lk, HLK⟩ : ∃ j, Hid (L p = j) := ⟨_, (rfl : L p = L p)⟩
      rw [HLK.out] at h1 cu
      have h1' : (oj : Int) < (lk : Int) := by omega
      have d1 := HPX.out.c1
      have d2 := HPX.out.c2
      obtain ⟨y, HY⟩ : ∃ y, Hid (X p oj = y) := ⟨_, (rfl : X p oj = X p oj)⟩
      rw [HY.out] at h2 h3 HN HM cx
      clear hu
      by_cases hy : y = -1
      · subst hy
        have HE : Hid (ans = (r, z)) := (HN.out (by show (if (-1 : Int) < 0 then _ else _) < (0 : Int); rw [if_pos (by omega)]; omega)).over (Or.inr (by omega))
        have x0 := block_cell HB.out 0
        have x1 := block_cell HB.out 1
        have x2 := block_cell HB.out 2
        have f0 := block_free HB.out 0
        have f1 := block_free HB.out 1
        have f2 := block_free HB.out 2
        simp only [List.getElem?_toArray, List.getElem?_cons_zero, List.getElem?_cons_succ] at x0 x1 x2
        go_wp2_with (go_quiet (fail))
        have y0 := block_cell (three (w := wr.drewN nq) HB.out (.int .i64 ta) (.int .i64 tb) (.int .i64 tc)) 0
        have y1 := block_cell (three (w := wr.drewN nq) HB.out (.int .i64 ta) (.int .i64 tb) (.int .i64 tc)) 1
        have y2 := block_cell (three (w := wr.drewN nq) HB.out (.int .i64 ta) (.int .i64 tb) (.int .i64 tc)) 2
        simp only [List.getElem?_toArray, List.getElem?_cons_zero, List.getElem?_cons_succ] at y0 y1 y2
        exact bodyPost_ret (v := .tuple #[.agg #[.int .i64 ta, .int .i64 tb, .int .i64 tc], .bool bb]) (by simp [results, Try.results43, go_sem, y0, y1, y2]) rfl ⟨⟨ta, tb, tc, bb, rfl, by rw [HE.out]; exact HV.out⟩, ((HPX.out.drew nq).set HX0.out HT0.out (same_three (wr.drewN nq) (w.heap.size + 1) _ _ _) (by omega) (by omega)).below⟩
      · obtain ⟨t, rfl⟩ : ∃ t : Nat, y = (t : Int) := ⟨y.toNat, by omega⟩
        have htn : t < n := by omega
        have ht1 : (t : Int) < (n : Int) := by omega
        have ht0 : ((t : Int) == -1) = false := by simp
        have hTa : tagOf T (t : Int) = T t := by unfold tagOf; rw [if_neg (by omega)]; rfl
        have e2 := HPX.out.tags.cells t htn
        obtain ⟨g1, g2⟩ := HTG.out t htn
        rw [hTa] at HN HM
        clear hTa
        obtain ⟨u, HU⟩ : ∃ u, Hid (T t = u) := ⟨_, (rfl : T t = T t)⟩
        rw [HU.out] at e2 g1 g2 HN HM
        by_cases hu : u = -1
        · subst hu
          go_wp2_with (go_quiet (fail))
          go_roundw
          case rel => exact ⟨k + 1, z, t, r, ta, tb, tc, bb, by have := HQ.out; omega, by omega, htn, rfl, rfl, by rw [← Nat.add_assoc, HQ.out]; go_num, HV.out, HN.out (by omega), hws, HB.out, HPX.out.drew nq⟩
          case measure => simp [intOf]; omega
        · have hu1 : (u == -1) = false := by simp [hu]
          have x0 := block_cell HB.out 0
          have x1 := block_cell HB.out 1
          have x2 := block_cell HB.out 2
          have f0 := block_free HB.out 0
          have f1 := block_free HB.out 1
          have f2 := block_free HB.out 2
          simp only [List.getElem?_toArray, List.getElem?_cons_zero, List.getElem?_cons_succ] at x0 x1 x2
          go_wp2_with (go_quiet (fail))
          go_roundw
          case rel => exact ⟨k + 1, k + 1, t, u, u, (f : Int), (q : Int) + 1, true, by have := HQ.out; omega, by omega, htn, rfl, rfl, by rw [← Nat.add_assoc, HQ.out]; go_num, Or.inr ⟨by omega, rfl, rfl, rfl, by have := HQ.out; omega⟩, HM.out (by omega), by rw [(same_three (wr.drewN nq) _ _ _ _).1]; exact hws, three (w := wr.drewN nq) HB.out _ _ _, (HPX.out.drew nq).set HX0.out HT0.out (same_three (wr.drewN nq) (w.heap.size + 1) _ _ _) (by omega) (by omega)⟩
          case measure => simp [intOf]; omega
    · have hk1 : ¬ (q : Int) < (s.size : Int) := by omega
      have HE : Hid (ans = (r, z)) := HG.out.over (Or.inl (drop_from_all s f k (by have := HQ.out; omega)))
      have x0 := block_cell HB.out 0
      have x1 := block_cell HB.out 1
      have x2 := block_cell HB.out 2
      have f0 := block_free HB.out 0
      have f1 := block_free HB.out 1
      have f2 := block_free HB.out 2
      simp only [List.getElem?_toArray, List.getElem?_cons_zero, List.getElem?_cons_succ] at x0 x1 x2
      go_wp2_with fail
      have y0 := block_cell (three (w := wr) HB.out (.int .i64 ta) (.int .i64 tb) (.int .i64 tc)) 0
      have y1 := block_cell (three (w := wr) HB.out (.int .i64 ta) (.int .i64 tb) (.int .i64 tc)) 1
      have y2 := block_cell (three (w := wr) HB.out (.int .i64 ta) (.int .i64 tb) (.int .i64 tc)) 2
      simp only [List.getElem?_toArray, List.getElem?_cons_zero, List.getElem?_cons_succ] at y0 y1 y2
      exact bodyPost_ret (v := .tuple #[.agg #[.int .i64 ta, .int .i64 tb, .int .i64 tc], .bool bb]) (by simp [results, Try.results43, go_sem, y0, y1, y2]) rfl ⟨⟨ta, tb, tc, bb, rfl, by rw [HE.out]; exact HV.out⟩, (HPX.out.set HX0.out HT0.out (same_three (wr) (w.heap.size + 1) _ _ _) (by omega) (by omega)).below⟩
end Go.Proofs.Ytlmlkpdppkgenaa.Pk

namespace Go.Proofs.Ytlmlkpdppkgenaa.Pk
open Go.RowKit
open Dfa

theorem info60 : (Try.prog.info? 60).map (fun i => (i.zero, i.size, i.bytes)) = some (some (.agg #[.int .i64 0, .int .i64 0, .int .i64 0]), 3, 24) := by kernel_rfl
/-- The cells of tokens. -/
def tc (t : Int × Nat × Nat) : List Value := [.int .i64 t.1, .int .i64 (t.2.1 : Int), .int .i64 (t.2.2 : Int)]
def tcs (ts : List (Int × Nat × Nat)) : List Value := ts.flatMap tc
theorem tcs_length (ts : List (Int × Nat × Nat)) : (tcs ts).length = ts.length * 3 := by
  induction ts with
  | nil => rfl
  | cons f fs ih => simp only [tcs, List.flatMap_cons, List.length_append, List.length_cons] at ih ⊢; rw [ih]; simp [tc]; omega
theorem tcs_append (fs gs : List (Int × Nat × Nat)) : tcs (fs ++ gs) = tcs fs ++ tcs gs := by simp [tcs]
theorem tcs_at (fs : List (Int × Nat × Nat)) (i : Nat) (hi : i < fs.length) : (tcs fs)[i * 3]? = some (.int .i64 fs[i].1) ∧ (tcs fs)[i * 3 + 1]? = some (.int .i64 (fs[i].2.1 : Int)) ∧ (tcs fs)[i * 3 + 2]? = some (.int .i64 (fs[i].2.2 : Int)) := by
  have e : fs = fs.take i ++ fs[i] :: fs.drop (i + 1) := by rw [List.getElem_cons_drop, List.take_append_drop]
  have hl : (tcs (fs.take i)).length = i * 3 := by rw [tcs_length, List.length_take]; rw [Nat.min_eq_left (by omega)]
  have hc : ∀ j, j < 3 → (tcs fs)[i * 3 + j]? = (tc fs[i])[j]? := fun j hj => by
    conv => lhs; rw [e]
    rw [tcs_append, List.getElem?_append_right (by omega), hl, Nat.add_sub_cancel_left]
    show (tc fs[i] ++ tcs (fs.drop (i + 1)))[j]? = _
    rw [List.getElem?_append_left (by simp [tc]; omega)]
  exact ⟨hc 0 (by omega), hc 1 (by omega), hc 2 (by omega)⟩
theorem tcs_snoc (fs : List (Int × Nat × Nat)) (t : Int × Nat × Nat) : tcs (fs ++ [t]) = tcs fs ++ [.int .i64 t.1, .int .i64 (t.2.1 : Int), .int .i64 (t.2.2 : Int)] := by rw [tcs_append]; rfl
theorem own_ge {w : World} {base e size n : Nat} {v : Value} {xs : List Value} (h : w.ownsRow base e size v n xs) : ∀ k, v.ownBlock = some k → base ≤ k := fun k hk => (h.lt k hk).1
theorem own_less {w : World} {base base' e size n : Nat} {v : Value} {xs : List Value} (h : w.ownsRow base e size v n xs) (hb : base' ≤ base) : w.ownsRow base' e size v n xs := by
  obtain ⟨h1, h2 | ⟨g, cap, cur, hv, hg, h3⟩⟩ := h
  · exact ⟨h1, Or.inl h2⟩
  · exact ⟨h1, Or.inr ⟨g, cap, cur, hv, by omega, h3⟩⟩
theorem own_below {w w' : World} {base e size n : Nat} {v : Value} {xs : List Value} (h : w.ownsRow base e size v n xs) {B : Nat} (hb : Below B w w') (hB : w.heap.size ≤ B) : w'.ownsRow base e size v n xs :=
  own_same h fun k hk => hb.block k (Nat.lt_of_lt_of_le (h.lt k hk).2 hB)
theorem own_form {w : World} {base e size n : Nat} {v : Value} {xs : List Value} (h : w.ownsRow base e size v n xs) : ∃ ao c, v = .slice ao n c := by
  rcases h.2 with ⟨hv, h0⟩ | ⟨g, cap, cur, hv, _⟩
  · exact ⟨none, 0, by rw [hv, h0]⟩
  · exact ⟨_, _, hv⟩

/-- Which error, and which place. -/
def errOf : Option Nat → Int
  | none => 0
  | some _ => 9

set_option maxHeartbeats 1600000 in
set_option maxRecDepth 20000 in
theorem lex_bad (O : Nat → Nat) (nv tv : Value) (n m : Nat) (L : Nat → Nat) (X : Nat → Nat → Int) (T : Nat → Int) (s : ByteArray) (w : World) (hO : ∀ j, O j < 256) (hx : Nx w nv n L X) (ht : Ts w tv m T) (hs : s.size ≤ 9223372036854775807) (hc : ¬ chkS n m O L X T s.size = 0) :
    Calls Try.prog 18 #[.agg (pl O nv tv).toArray, .string s] w fun e w' => e = .returned (.tuple #[.slice none 0 0, .int .i64 0, .int .i64 (chkS n m O L X T s.size)]) ∧ Below w.heap.size w w' := by
  obtain ⟨l, HLL⟩ : ∃ l, Hid (pl O nv tv = l) := ⟨_, (rfl : pl O nv tv = pl O nv tv)⟩
  have HP : Hid (Px w w.heap.size O nv tv n m L X T l (w.alloc (Obj.cells l.toArray 54))) := Px.box HLL.out hx ht
  have HI : Hid ((w.alloc (Obj.cells l.toArray 54)).rangeAt w.heap.size 0 l) := by show World.rangeAt _ _ _ _; rw [← HLL.out]; exact HLL.out ▸ HP.out.all
  have HQ : Hid (Calls Try.prog 42 #[.agg l.toArray, .string s] (w.alloc (Obj.cells l.toArray 54)) fun e w' => e = .returned (.int .i64 (chkS n m O L X T s.size)) ∧ Below (w.alloc (Obj.cells l.toArray 54)).heap.size (w.alloc (Obj.cells l.toArray 54)) w') := by
    have := checkS_any O nv tv n m L X T s (w.alloc (Obj.cells l.toArray 54)) hO HP.out.next HP.out.tags hs
    rw [HLL.out] at this
    exact this
  have HS : Hid ((Try.prog.info? 54).map (·.size) = some l.length) := by show _ = _; rw [← HLL.out, pl_length]; exact size47
  have HB : Hid (Below w.heap.size w (w.alloc (Obj.cells l.toArray 54))) := HP.out.below
  rw [HLL.out]
  clear hO hx ht
  obtain ⟨c, HC⟩ : ∃ c, Hid (chkS n m O L X T s.size = c) := ⟨_, (rfl : chkS n m O L X T s.size = chkS n m O L X T s.size)⟩
  rw [HC.out] at HQ hc ⊢
  have h3 : (c == 0) = false := by simp [hc]
  go_enter Try.func18, Try.ntmps18
  go_wp2_with (refine wpList_load_mid rfl 54 _ rfl w.heap.size 0 rfl l _ HI.out Try.underlying54 rfl HS.out ?_)
  refine HQ.out.mono ?_
  rintro _ w1 ⟨rfl, hb1⟩
  have B1 : Below w.heap.size w w1 := HB.out.trans (hb1.mono HB.out.size)
  clear hb1 HQ HI
  go_wp2_with fail
  go_ret3
  exact ⟨by rfl, B1⟩

set_option maxHeartbeats 1600000 in
set_option maxRecDepth 20000 in
theorem lex_ok (O : Nat → Nat) (nv tv : Value) (n : Nat) (L : Nat → Nat) (X : Nat → Nat → Int) (T : Nat → Int) (s : ByteArray) (w : World) (hO : ∀ j, O j < 256) (hx : Nx w nv n L X) (ht : Ts w tv n T) (hok : chkP n n O L X T = 0) (hs : s.size ≤ 2000) :
    Calls Try.prog 18 #[.agg (pl O nv tv).toArray, .string s] w fun e w' => ∃ v, e = .returned (.tuple #[v, .int .i64 (((Dfa.all (RR n O X) T s.data.toList).2.getD 0 : Nat) : Int), .int .i64 (errOf (Dfa.all (RR n O X) T s.data.toList).2)]) ∧
      w'.ownsRow w.heap.size 60 3 v (Dfa.all (RR n O X) T s.data.toList).1.length (tcs (Dfa.all (RR n O X) T s.data.toList).1) ∧ Below w.heap.size w w' := by
  obtain ⟨i0, hi, hz0, hz1, hz2⟩ := info_parts info60
  have hc0 : chkS n n O L X T s.size = 0 := by unfold chkS; rw [if_pos hok, if_neg (by omega)]
  obtain ⟨l, HLL⟩ : ∃ l, Hid (pl O nv tv = l) := ⟨_, (rfl : pl O nv tv = pl O nv tv)⟩
  have HP : Hid (Px w w.heap.size O nv tv n n L X T l (w.alloc (Obj.cells l.toArray 54))) := Px.box HLL.out hx ht
  have HI : Hid ((w.alloc (Obj.cells l.toArray 54)).rangeAt w.heap.size 0 l) := by show World.rangeAt _ _ _ _; rw [← HLL.out]; exact HLL.out ▸ HP.out.all
  have HQ : Hid (Calls Try.prog 42 #[.agg l.toArray, .string s] (w.alloc (Obj.cells l.toArray 54)) fun e w' => e = .returned (.int .i64 0) ∧ Below (w.alloc (Obj.cells l.toArray 54)).heap.size (w.alloc (Obj.cells l.toArray 54)) w') := by
    have := checkS_any O nv tv n n L X T s (w.alloc (Obj.cells l.toArray 54)) hO HP.out.next HP.out.tags (by omega)
    rw [HLL.out, hc0] at this
    exact this
  have HS : Hid ((Try.prog.info? 54).map (·.size) = some l.length) := by show _ = _; rw [← HLL.out, pl_length]; exact size47
  have HR : Hid (∀ wr, Px w w.heap.size O nv tv n n L X T l wr → wr.rangeAt w.heap.size 0 l) := fun wr h => by rw [← HLL.out]; exact h.all
  have HLG : Hid (∀ (wr : World) (k : Nat), Px w w.heap.size O nv tv n n L X T l wr → k ≤ s.size → Calls Try.prog 43 #[.agg l.toArray, .string s, .int .i64 (k : Int)] wr fun e w' => Tok k (lng (RR n O X) T (s.data.toList.drop k)) e ∧ Below wr.heap.size wr w') := fun wr k h hk => by
    have := long_any O nv tv n L X T s k wr hO h.next h.tags hok hs hk
    rw [HLL.out] at this
    exact this
  have hT := Tk.start (RR n O X) T s.data.toList
  rw [HLL.out]
  obtain ⟨an, HA⟩ : ∃ a, Hid (Dfa.all (RR n O X) T s.data.toList = a) := ⟨_, (rfl : Dfa.all (RR n O X) T s.data.toList = Dfa.all (RR n O X) T s.data.toList)⟩
  rw [HA.out]
  obtain ⟨er, HER⟩ : ∃ x, Hid (errOf an.2 = x) := ⟨_, (rfl : errOf an.2 = errOf an.2)⟩
  obtain ⟨pa, HPA⟩ : ∃ x : Nat, Hid (an.2.getD 0 = x) := ⟨_, (rfl : an.2.getD 0 = an.2.getD 0)⟩
  rw [HER.out, HPA.out]
  have HX0 : Hid (Nx w nv n L X) := hx
  have HT0 : Hid (Ts w tv n T) := ht
  clear hO hx ht hok hc0
  go_enter Try.func18, Try.ntmps18
  go_wp2_with (refine wpList_load_mid rfl 54 _ rfl w.heap.size 0 rfl l _ HI.out Try.underlying54 rfl HS.out ?_)
  refine HQ.out.mono ?_
  rintro _ w1 ⟨rfl, hb1⟩
  have HP1 : Hid (Px w w.heap.size O nv tv n n L X T l w1) := HP.out.step hb1
  clear hb1 HQ HI HP
  go_wp2_with fail
  go_loopw [8, 9] (fun v a wr => ∃ (k : Nat) (ts : List (Int × Nat × Nat)), a = .int .i64 (k : Int) ∧ Tk (RR n O X) T s.data.toList ts k ∧ wr.ownsRow (w.heap.size + 1) 60 3 v ts.length (tcs ts) ∧ Px w w.heap.size O nv tv n n L X T l wr) (fun _ a _ => s.size - (intOf a).toNat)
  case atStart => exact ⟨0, [], rfl, hT, World.ownsRow_nil _ _ _ _, HP1.out⟩
  case round =>
    obtain ⟨k, ts, rfl, htk, hown, hpx⟩ := hrel
    have HPX : Hid (Px w w.heap.size O nv tv n n L X T l wr) := hpx
    have HTK : Hid (Tk (RR n O X) T s.data.toList ts k) := htk
    have HI : Hid (wr.rangeAt w.heap.size 0 l) := HR.out wr hpx
    have hk : k ≤ s.size := by have := htk.1; rwa [data_size] at this
    have htl : ts.length ≤ k := htk.2.1
    have hpl := hpx.lt
    obtain ⟨va, vc, rfl⟩ := own_form hown
    have HOW : Hid (wr.ownsRow (w.heap.size + 1) 60 3 (.slice va ts.length vc) ts.length (tcs ts)) := hown
    clear hpx htk hT HP1 hown
    by_cases hlt : k < s.size
    · have hk1 : (k : Int) < (s.size : Int) := by omega
      have HL2 : Hid (k < s.data.toList.length) := by show _ < _; rw [data_size]; exact hlt
      go_wp2_with (refine wpList_load_mid rfl 54 _ rfl w.heap.size 0 rfl l _ HI.out Try.underlying54 rfl HS.out ?_)
      refine (HLG.out wr k HPX.out hk).mono ?_
      rintro _ w2 ⟨⟨ta, tb, tcc, bb, rfl, hv⟩, hb2⟩
      have HP2 : Hid (Px w w.heap.size O nv tv n n L X T l w2) := HPX.out.step hb2
      have HO2 : Hid (w2.ownsRow (w.heap.size + 1) 60 3 (.slice va ts.length vc) ts.length (tcs ts)) := own_below HOW.out hb2 (Nat.le_refl _)
      have hpl2 := HP2.out.lt
      clear hb2 HOW HPX HI
      rcases hv with ⟨hz, rfl, rfl, rfl, rfl⟩ | ⟨hz, rfl, rfl, rfl, rfl⟩
      · have HE : Hid (an = (ts, some k)) := by show _ = _; rw [← HA.out]; exact HTK.out.bad HL2.out hz
        go_wp2_with fail
        go_ret3
        have HBB : Below w.heap.size w (w2.alloc (Obj.cells #[.int .i64 0, .int .i64 0, .int .i64 0] 60)) := HP2.out.below.alloc HP2.out.below.size _
        exact ⟨_, by rw [← HER.out, ← HPA.out, HE.out]; rfl, by rw [HE.out]; exact own_less (own_below HO2.out ((Below.refl _ _).alloc (Nat.le_refl _) _) (Nat.le_refl _)) (by omega), HBB⟩
      · have HNX := HTK.out.next HL2.out (by omega)
        have hsz := HNX.1
        rw [data_size] at hsz
        obtain ⟨zr, HZ⟩ : ∃ z, Hid (lng (RR n O X) T (s.data.toList.drop k) = z) := ⟨_, (rfl : lng _ _ _ = lng _ _ _)⟩
        rw [HZ.out] at hz HNX hsz ⊢
        obtain ⟨r, z⟩ := zr
        simp only at hz HNX hsz ⊢
        have HNX2 : Hid (Tk (RR n O X) T s.data.toList (ts ++ [(r, k, k + z)]) (k + z)) := HNX
        clear HNX
        have HB2 : Hid (Below w2.heap.size w2 ((w2.alloc (Obj.cells #[Value.int .i64 r, Value.int .i64 (k : Int), Value.int .i64 ((k : Int) + (z : Int))] 60)).alloc (Obj.cells #[Value.int .i64 r, Value.int .i64 (k : Int), Value.int .i64 ((k : Int) + (z : Int))] 60))) := ((Below.refl _ _).alloc (Nat.le_refl _) _).alloc (by simp) _
        have HO3 : Hid (((w2.alloc (Obj.cells #[Value.int .i64 r, Value.int .i64 (k : Int), Value.int .i64 ((k : Int) + (z : Int))] 60)).alloc (Obj.cells #[Value.int .i64 r, Value.int .i64 (k : Int), Value.int .i64 ((k : Int) + (z : Int))] 60)).ownsRow (w.heap.size + 1) 60 3 (.slice va ts.length vc) ts.length (tcs ts)) := own_below HO2.out HB2.out (Nat.le_refl _)
        have HNB : Hid (((w2.alloc (Obj.cells #[Value.int .i64 r, Value.int .i64 (k : Int), Value.int .i64 ((k : Int) + (z : Int))] 60)).alloc (Obj.cells #[Value.int .i64 r, Value.int .i64 (k : Int), Value.int .i64 ((k : Int) + (z : Int))] 60)).heap[w2.heap.size + 1]? = some (.cells #[Value.int .i64 r, Value.int .i64 (k : Int), Value.int .i64 ((k : Int) + (z : Int))] 60 (0, 0))) := by
          have := heap_alloc_new (w2.alloc (Obj.cells #[Value.int .i64 r, Value.int .i64 (k : Int), Value.int .i64 ((k : Int) + (z : Int))] 60)) (Obj.cells #[Value.int .i64 r, Value.int .i64 (k : Int), Value.int .i64 ((k : Int) + (z : Int))] 60)
          rwa [World.size_alloc] at this
        have HFB : Hid (((w2.alloc (Obj.cells #[Value.int .i64 r, Value.int .i64 (k : Int), Value.int .i64 ((k : Int) + (z : Int))] 60)).alloc (Obj.cells #[Value.int .i64 r, Value.int .i64 (k : Int), Value.int .i64 ((k : Int) + (z : Int))] 60)).heap[w2.heap.size]? = some (.cells #[Value.int .i64 r, Value.int .i64 (k : Int), Value.int .i64 ((k : Int) + (z : Int))] 60 (0, 0))) :=
          (((Below.refl (w2.heap.size + 1) (w2.alloc _)).alloc (by simp) _).block w2.heap.size (by omega)).trans (heap_alloc_new w2 _)
        go_wp2_with (at_builtin; refine wpList_append_own _ rfl _ _ 55 rfl (w.heap.size + 1) 60 i0 (.agg #[.int .i64 0, .int .i64 0, .int .i64 0]) 3 24 Try.underlying55 hi hz0 hz1 hz2 rfl (by decide) _ _ _ rfl HO3.out ⟨w2.heap.size + 1, 0, none⟩ 1 1 [.int .i64 r, .int .i64 (k : Int), .int .i64 ((k : Int) + (z : Int))] rfl rfl (World.news_of_block (t := 60) (fr := (0, 0)) HNB.out) (by simp [Value.oneCell']) (by unfold maxLen; omega) (by omega) (by simp; omega) ?_)
        intro v' w4 hown' hgrow _
        have s4 := hgrow.size
        simp only [World.size_alloc] at s4
        have z2 : w4.cell? ⟨w2.heap.size, 2, none⟩ = some (.int .i64 ((k : Int) + (z : Int))) := by
          have h1 : w4.heap[w2.heap.size]? = _ := (hgrow.block w2.heap.size (by simp; omega) (fun e => by have := (HO2.out.lt _ e.symm).2; omega)).trans HFB.out
          exact block_cell h1 2
        have R1 : Hid (w4.ownsRow (w.heap.size + 1) 60 3 v' (ts ++ [(r, k, k + z)]).length (tcs (ts ++ [(r, k, k + z)]))) := by
          show World.ownsRow _ _ _ _ _ _ _
          rw [tcs_snoc, List.length_append]
          have e : ((k + z : Nat) : Int) = (k : Int) + (z : Int) := by omega
          simp only [e]
          exact hown'
        have HBW : Below w.heap.size w w4 := Below.grown (HP2.out.below.trans (HB2.out.mono HP2.out.below.size)) hgrow (by simp; have := HP2.out.below.size; omega) (fun q hq => by have := own_ge HO3.out q hq; omega)
        have HP4 : Hid (Px w w.heap.size O nv tv n n L X T l w4) := HP2.out.moved HX0.out HT0.out HBW ((hgrow.block _ (by simp; omega) (fun e => by have := own_ge HO3.out _ e.symm; omega)).trans (HB2.out.block _ hpl2)) (by omega)
        obtain ⟨v'a, v'c, rfl⟩ := own_form hown'
        clear hown' hgrow HO3 HNB HFB HB2 HO2 HP2 HBW
        go_wp2_with fail
        go_roundw
        case rel => exact ⟨k + z, _, by go_num, HNX2.out, R1.out, HP4.out⟩
        case measure => simp [intOf]; omega
    · have hk1 : ¬ (k : Int) < (s.size : Int) := by omega
      have HE : Hid (an = (ts, none)) := by show _ = _; rw [← HA.out]; exact HTK.out.over (by rw [data_size]; omega)
      go_wp2_with fail
      go_ret3
      exact ⟨_, by rw [← HER.out, ← HPA.out, HE.out]; rfl, by rw [HE.out]; exact own_less HOW.out (by omega), HPX.out.below⟩
end Go.Proofs.Ytlmlkpdppkgenaa.Pk
