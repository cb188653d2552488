/-
  The contract of pushref.Packed.
-/
import Derived.Test.YtkogbokelaanjaaPkRefHold
namespace Go.Proofs.Ytkogbokelaanjaa
open Go.RowKit
open Dfa

theorem pf256 (O : Nat → Nat) (u v : Value) : pf O u v 256 = u := by simp [pf]
structure RP1 (w w1 : World) (zs : Array Value) (n : Nat) (T : Nat → Int) (ra : Option Addr) (rc : Nat) (ta : Option Addr) (tc : Nat) (gN : Nat) (gp : Nat) (d : Nat → Bool) (x3 x10 x11 x12 x13 x14 x15 x16 : Value) (W : World) : Prop where
  f0 : d 0 = true → x10 = (.pointer (some ⟨w.heap.size, 0, none⟩))
  f1 : d 1 = true → x11 = (.slice ra n rc)
  f2 : d 2 = true → x12 = (.int .i64 (n : Int))
  f3 : d 3 = true → x13 = (.slice (some ⟨gN, 0, none⟩) n n)
  f4 : d 4 = true → x14 = (.pointer (some ⟨w.heap.size, 1, none⟩))
  f5 : d 5 = true → x15 = (.slice ta n tc)
  f6 : d 6 = true → x16 = (.agg (pl (fun _ => 0) (.slice (some ⟨gN, 0, none⟩) n n) (.slice ta n tc)).toArray)
  f7 : d 7 = true → x3 = (.pointer (some ⟨gp, 0, none⟩))
  f8 : d 8 = true → True
  q6_3 : d 6 = true → d 3 = true
  q8_7 : d 8 = true → d 7 = true
  q8_6 : d 8 = true → d 6 = true
  q8_3 : d 8 = true → d 3 = true
  bel : Below w.heap.size w W
  bx : W.cell? ⟨w.heap.size, 0, none⟩ = some (.slice ra n rc) ∧ W.cell? ⟨w.heap.size, 1, none⟩ = some (.slice ta n tc)
  sz : w1.heap.size ≤ W.heap.size
  rs : W.rowIs (w.heap.size + 1) 29 258 (pf (fun _ => 0) (.slice none 0 0) (.slice none 0 0))
  mr : d 3 = true → w1.heap.size ≤ gN ∧ W.rowIs gN 23 n (fun _ => .slice none 0 0)
  al : d 7 = true → d 8 = false → w1.heap.size ≤ gp ∧ W.rowIs gp 29 258 (pf (fun _ => 0) (.slice none 0 0) (.slice none 0 0))
  st : d 8 = true → w1.heap.size ≤ gp ∧ W.rowIs gp 29 258 (pf (fun _ => 0) (.slice (some ⟨gN, 0, none⟩) n n) (.slice ta n tc))
  n37 : d 3 = true → d 7 = true → gN ≠ gp

structure RQ20 (w : World) (n : Nat) (R : Nat → Nat → Int) (rb ro rc : Nat) (ta : Option Addr) (tc gN gp B b : Nat) (gs : List Nat) (fv : Value) (i : Nat) (C : Nat → Nat) (X : Nat → Nat → Int) (V : Nat → Value) (z : Int) (gb : Nat) (gr : Nat) (cr : Nat) (d : Nat → Bool) (x71 x72 x73 x74 x75 x76 x77 x78 x79 x80 x81 x82 x83 x84 x85 x86 x87 x88 x89 : Value) (W : World) : Prop where
  f0 : d 0 = true → x71 = (.pointer (some ⟨gp, 256, none⟩))
  f1 : d 1 = true → x72 = (.slice (some ⟨gN, 0, none⟩) n n)
  f2 : d 2 = true → x73 = (.int .i64 (i : Int))
  f3 : d 3 = true → x74 = (.pointer (some ⟨gp, 256, none⟩))
  f4 : d 4 = true → x75 = (.slice (some ⟨gN, 0, none⟩) n n)
  f5 : d 5 = true → x76 = (.int .i64 (i : Int))
  f6 : d 6 = true → x77 = (.pointer (some ⟨gN, i, none⟩))
  f7 : d 7 = true → x78 = (V i)
  f8 : d 8 = true → x79 = (.pointer (some ⟨w.heap.size, 0, none⟩))
  f9 : d 9 = true → x80 = (.slice (some ⟨rb, ro, none⟩) n rc)
  f10 : d 10 = true → x81 = (.int .i64 (i : Int))
  f11 : d 11 = true → x82 = (.int .i64 (b : Int))
  f12 : d 12 = true → x83 = (.pointer (some ⟨rb, ro + i * 256, none⟩))
  f13 : d 13 = true → x84 = (.pointer (some ⟨rb, ro + i * 256 + b, none⟩))
  f14 : d 14 = true → x85 = (.int .i16 z)
  f15 : d 15 = true → x86 = (.int .i64 z)
  f16 : d 16 = true → x87 = (.slice (some ⟨gb, 0, none⟩) 1 1)
  f17 : d 17 = true → x88 = (.slice (some ⟨gr, 0, none⟩) (C i + 1) cr)
  f18 : d 18 = true → x89 = (.pointer (some ⟨gN, i, none⟩))
  f19 : d 19 = true → True
  p7 : d 17 = true → d 7 = true
  p16 : d 17 = true → d 16 = true
  q19 : d 19 = true → d 17 = true
  kf : Kf w n R (.slice (some ⟨rb, ro, none⟩) n rc) (.slice ta n tc) gN gp B b gs fv W
  tn : d 17 = false → Tn B gN n C X V W
  bs : d 16 = true → d 17 = false → ∀ j u, ([.int .i64 z] : List Value)[j]? = some u → W.cell? ⟨gb, j, none⟩ = some u
  th : d 17 = true → d 19 = false → Th B gN n i C X V gr cr W
  ng : d 17 = true → fv.ownBlock ≠ some gr
  fin : d 19 = true → Tn B gN n (fun j => if j = i then C i + 1 else C j) X (fun j => if j = i then (.slice (some ⟨gr, 0, none⟩) (C i + 1) cr) else V j) W

set_option maxHeartbeats 8000000 in
set_option maxRecDepth 20000 in
theorem packed_ok (rv tv : Value) (n : Nat) (R : Nat → Nat → Int) (T : Nat → Int) (w : World) (hr : Rw w rv n R) (ht : Ts w tv n T) (n0 : 0 < n) (n1 : n ≤ 200) :
    Calls Try.prog 8 #[.agg #[rv, tv]] w fun e w' => ∃ nv, e = .returned (.agg (pl (fun b => idx n R (fsts n R b) b) nv tv).toArray) ∧ Nx w' nv n (fun _ => (fsts n R 256).length) (fun i t => R i ((fsts n R 256).getD t 0)) ∧ Ts w' tv n T ∧ Below w.heap.size w w' := by
  have HRR : Hid (∀ i j, -32768 ≤ R i j ∧ R i j ≤ 32767) := by obtain ⟨_, _, _, _, h, _⟩ := hr; exact h
  obtain ⟨ra, rc, rfl, -⟩ := id hr
  obtain ⟨ta, tc, rfl, -⟩ := id ht
  have HRW : Hid (Rw w (.slice ra n rc) n R) := hr
  have HTS : Hid (Ts w (.slice ta n tc) n T) := ht
  have HN0 : Hid (0 < n ∧ n ≤ 200) := ⟨n0, n1⟩
  obtain ⟨zs, hz29, hzsz, hzs⟩ := zero29
  have HZ29 : Hid (∀ w, (zeroValue 29).run Try.prog w = .ok (.agg zs) w) := hz29
  have HZSZ : Hid (zs.size = 258) := hzsz
  have HSET : Hid (∀ u v : Value, (zs.setIfInBounds 256 u).setIfInBounds 257 v = (pl (fun _ => 0) u v).toArray) := zset zs hzs
  have HROW : Hid (∀ W : World, (W.alloc (.cells zs 29)).rowIs W.heap.size 29 258 (pf (fun _ => 0) (.slice none 0 0) (.slice none 0 0))) := fun W => by
    have := World.rowIs_alloc W zs 29 (pf (fun _ => 0) (.slice none 0 0) (.slice none 0 0)) (fun i hi => by rw [hzs, List.getElem?_toArray]; exact pf_at _ _ _ i (by omega))
    rwa [hzsz] at this
  have HMK : Hid (∀ W : World, (Instr.makeSlice 27 (.int .i64 (n : Int)) (.int .i64 (n : Int))).run Try.prog W = .ok (.slice (some ⟨W.heap.size, 0, none⟩) n n) (W.alloc (.cells (madeCells #[.slice none 0 0] n) 23))) := fun W => run_make_row' (P := Try.prog) 27 23 (.slice none 0 0) 24 Try.underlying27 info23 rfl .i64 .i64 n (by omega) (by omega) W
  obtain ⟨w1, HW1⟩ : ∃ q, Hid ((w.alloc (Obj.cells #[(.slice ra n rc), (.slice ta n tc)] 25)).alloc (Obj.cells zs 29) = q) := ⟨_, (rfl : _ = _)⟩
  have HRS1 : Hid (w1.rowIs (w.heap.size + 1) 29 258 (pf (fun _ => 0) (.slice none 0 0) (.slice none 0 0))) := by
    have := HROW.out (w.alloc (Obj.cells #[(.slice ra n rc), (.slice ta n tc)] 25))
    rw [HW1.out] at this
    rwa [show (w.alloc (Obj.cells #[(.slice ra n rc), (.slice ta n tc)] 25)).heap.size = w.heap.size + 1 by simp] at this
  have HB1 : Hid (Below w.heap.size w w1) := by rw [← HW1.out]; exact ((Below.refl _ _).alloc (Nat.le_refl _) _).alloc (by simp) _
  have HBX1 : Hid (w1.cell? ⟨w.heap.size, 0, none⟩ = some (.slice ra n rc) ∧ w1.cell? ⟨w.heap.size, 1, none⟩ = some (.slice ta n tc)) := by rw [← HW1.out]; exact ⟨by simp, by simp⟩
  have HSW : Hid (w.heap.size + 2 ≤ w1.heap.size) := by show _ ≤ _; rw [← HW1.out]; simp
  clear hr ht n0 n1 hzs hzsz
  go_enter Try.func8, Try.ntmps8
  go_wp2_with fail
  rw [HW1.out]
  refine wp_region_free mixed (fun a0 d a W => ∃ (gN : Nat) (gp : Nat) (x3 x10 x11 x12 x13 x14 x15 x16 : Value), a = ((((((((a0.put (some 3) x3).put (some 10) x10).put (some 11) x11).put (some 12) x12).put (some 13) x13).put (some 14) x14).put (some 15) x15).put (some 16) x16) ∧ Hid (RP1 w w1 zs n T ra rc ta tc gN gp d x3 x10 x11 x12 x13 x14 x15 x16 W)) (by kernel_rfl) ⟨0, 0, undef, undef, undef, undef, undef, undef, undef, undef, by simp only [Act.put, List.setIfInBounds_toArray, List.set_cons_zero, List.set_cons_succ], ?_⟩ ?_ ?_
  · exact ⟨fun h => no_way h, fun h => no_way h, fun h => no_way h, fun h => no_way h, fun h => no_way h, fun h => no_way h, fun h => no_way h, fun h => no_way h, fun _ => trivial, fun h => no_way h, fun h => no_way h, fun h => no_way h, fun h => no_way h, HB1.out.drew, HBX1.out, Nat.le_refl _, HRS1.out, fun h => no_way h, fun h => no_way h, fun h => no_way h, fun h => no_way h⟩
  · simp only [StepAll, and_true]
    refine ⟨?_, ?_, ?_, ?_, ?_, ?_, ?_, ?_, ?_⟩
    · intro d a W hI hd hdep
      obtain ⟨gN, gp, x3, x10, x11, x12, x13, x14, x15, x16, rfl, hF⟩ := hI
      clear hdep hd
      intro K hK
      simp only [Act.put, List.setIfInBounds_toArray, List.set_cons_zero, List.set_cons_succ]
      go_simp
      refine hK.out _ _ ⟨gN, gp, x3, (.pointer (some ⟨w.heap.size, 0, none⟩)), x11, x12, x13, x14, x15, x16, by simp only [Act.put, List.setIfInBounds_toArray, List.set_cons_zero, List.set_cons_succ], ?_⟩
      exact ⟨fun _ => rfl, fun h => hF.out.f1 (by simpa using h), fun h => hF.out.f2 (by simpa using h), fun h => hF.out.f3 (by simpa using h), fun h => hF.out.f4 (by simpa using h), fun h => hF.out.f5 (by simpa using h), fun h => hF.out.f6 (by simpa using h), fun h => hF.out.f7 (by simpa using h), fun h => hF.out.f8 (by simpa using h), fun h => by have := hF.out.q6_3 (by simpa using h); simpa using this, fun h => by have := hF.out.q8_7 (by simpa using h); simpa using this, fun h => by have := hF.out.q8_6 (by simpa using h); simpa using this, fun h => by have := hF.out.q8_3 (by simpa using h); simpa using this, hF.out.bel, hF.out.bx, hF.out.sz, hF.out.rs, fun h => hF.out.mr (by simpa using h), fun h h2 => hF.out.al (by simpa using h) (by simpa using h2), fun h => hF.out.st (by simpa using h), fun h k => hF.out.n37 (by simpa using h) (by simpa using k)⟩
    · intro d a W hI hd hdep
      obtain ⟨gN, gp, x3, x10, x11, x12, x13, x14, x15, x16, rfl, hF⟩ := hI
      have hd0 : d 0 = true := dep_of hdep 0 (by kernel_rfl)
      obtain rfl := hF.out.f0 hd0
      have ya := hF.out.bx.1
      clear hdep hd hd0
      intro K hK
      simp only [Act.put, List.setIfInBounds_toArray, List.set_cons_zero, List.set_cons_succ]
      go_simp
      refine hK.out _ _ ⟨gN, gp, x3, (.pointer (some ⟨w.heap.size, 0, none⟩)), (.slice ra n rc), x12, x13, x14, x15, x16, by simp only [Act.put, List.setIfInBounds_toArray, List.set_cons_zero, List.set_cons_succ], ?_⟩
      exact ⟨fun h => hF.out.f0 (by simpa using h), fun _ => rfl, fun h => hF.out.f2 (by simpa using h), fun h => hF.out.f3 (by simpa using h), fun h => hF.out.f4 (by simpa using h), fun h => hF.out.f5 (by simpa using h), fun h => hF.out.f6 (by simpa using h), fun h => hF.out.f7 (by simpa using h), fun h => hF.out.f8 (by simpa using h), fun h => by have := hF.out.q6_3 (by simpa using h); simpa using this, fun h => by have := hF.out.q8_7 (by simpa using h); simpa using this, fun h => by have := hF.out.q8_6 (by simpa using h); simpa using this, fun h => by have := hF.out.q8_3 (by simpa using h); simpa using this, hF.out.bel, hF.out.bx, hF.out.sz, hF.out.rs, fun h => hF.out.mr (by simpa using h), fun h h2 => hF.out.al (by simpa using h) (by simpa using h2), fun h => hF.out.st (by simpa using h), fun h k => hF.out.n37 (by simpa using h) (by simpa using k)⟩
    · intro d a W hI hd hdep
      obtain ⟨gN, gp, x3, x10, x11, x12, x13, x14, x15, x16, rfl, hF⟩ := hI
      have hd1 : d 1 = true := dep_of hdep 1 (by kernel_rfl)
      obtain rfl := hF.out.f1 hd1
      clear hdep hd hd1
      intro K hK
      simp only [Act.put, List.setIfInBounds_toArray, List.set_cons_zero, List.set_cons_succ]
      go_simp
      refine hK.out _ _ ⟨gN, gp, x3, x10, (.slice ra n rc), (.int .i64 (n : Int)), x13, x14, x15, x16, by simp only [Act.put, List.setIfInBounds_toArray, List.set_cons_zero, List.set_cons_succ], ?_⟩
      exact ⟨fun h => hF.out.f0 (by simpa using h), fun h => hF.out.f1 (by simpa using h), fun _ => rfl, fun h => hF.out.f3 (by simpa using h), fun h => hF.out.f4 (by simpa using h), fun h => hF.out.f5 (by simpa using h), fun h => hF.out.f6 (by simpa using h), fun h => hF.out.f7 (by simpa using h), fun h => hF.out.f8 (by simpa using h), fun h => by have := hF.out.q6_3 (by simpa using h); simpa using this, fun h => by have := hF.out.q8_7 (by simpa using h); simpa using this, fun h => by have := hF.out.q8_6 (by simpa using h); simpa using this, fun h => by have := hF.out.q8_3 (by simpa using h); simpa using this, hF.out.bel, hF.out.bx, hF.out.sz, hF.out.rs, fun h => hF.out.mr (by simpa using h), fun h h2 => hF.out.al (by simpa using h) (by simpa using h2), fun h => hF.out.st (by simpa using h), fun h k => hF.out.n37 (by simpa using h) (by simpa using k)⟩
    · intro d a W hI hd hdep
      obtain ⟨gN, gp, x3, x10, x11, x12, x13, x14, x15, x16, rfl, hF⟩ := hI
      have hd2 : d 2 = true := dep_of hdep 2 (by kernel_rfl)
      obtain rfl := hF.out.f2 hd2
      have hmk := HMK.out W
      have HN8 : Hid (d 8 = false) := no_later hF.out.q8_3 hd
      have HN6 : Hid (d 6 = false) := no_later hF.out.q6_3 hd
      have B1 := (Below.refl W.heap.size W).alloc (Nat.le_refl _) (Obj.cells (madeCells #[Value.slice none 0 0] n) 23)
      clear hdep hd hd2
      intro K hK
      simp only [Act.put, List.setIfInBounds_toArray, List.set_cons_zero, List.set_cons_succ]
      go_simp
      refine hK.out _ _ ⟨W.heap.size, gp, x3, x10, x11, (.int .i64 (n : Int)), (.slice (some ⟨W.heap.size, 0, none⟩) n n), x14, x15, x16, by simp only [Act.put, List.setIfInBounds_toArray, List.set_cons_zero, List.set_cons_succ], ?_⟩
      exact ⟨fun h => hF.out.f0 (by simpa using h), fun h => hF.out.f1 (by simpa using h), fun h => hF.out.f2 (by simpa using h), fun _ => rfl, fun h => hF.out.f4 (by simpa using h), fun h => hF.out.f5 (by simpa using h), fun h => by have := HN6.out; simp [this] at h, fun h => hF.out.f7 (by simpa using h), fun h => hF.out.f8 (by simpa using h), fun _ => by simp, fun h => by have := hF.out.q8_7 (by simpa using h); simpa using this, fun h => by have := hF.out.q8_6 (by simpa using h); simpa using this, fun _ => by simp, hF.out.bel.trans (B1.mono hF.out.bel.size), ⟨Go.Lib.cell?_alloc_some _ hF.out.bx.1, Go.Lib.cell?_alloc_some _ hF.out.bx.2⟩, Nat.le_trans hF.out.sz B1.size, hF.out.rs.alloc _, fun _ => ⟨hF.out.sz, World.rowIs_made W _ n 23⟩, fun h h2 => have k := hF.out.al (by simpa using h) (by simpa using h2); ⟨k.1, k.2.alloc _⟩, fun h => by have := HN8.out; simp [this] at h, fun _ k => by have := (hF.out.al (by simpa using k) (by simpa using HN8.out)).2.lt; omega⟩
    · intro d a W hI hd hdep
      obtain ⟨gN, gp, x3, x10, x11, x12, x13, x14, x15, x16, rfl, hF⟩ := hI
      clear hdep hd
      intro K hK
      simp only [Act.put, List.setIfInBounds_toArray, List.set_cons_zero, List.set_cons_succ]
      go_simp
      refine hK.out _ _ ⟨gN, gp, x3, x10, x11, x12, x13, (.pointer (some ⟨w.heap.size, 1, none⟩)), x15, x16, by simp only [Act.put, List.setIfInBounds_toArray, List.set_cons_zero, List.set_cons_succ], ?_⟩
      exact ⟨fun h => hF.out.f0 (by simpa using h), fun h => hF.out.f1 (by simpa using h), fun h => hF.out.f2 (by simpa using h), fun h => hF.out.f3 (by simpa using h), fun _ => rfl, fun h => hF.out.f5 (by simpa using h), fun h => hF.out.f6 (by simpa using h), fun h => hF.out.f7 (by simpa using h), fun h => hF.out.f8 (by simpa using h), fun h => by have := hF.out.q6_3 (by simpa using h); simpa using this, fun h => by have := hF.out.q8_7 (by simpa using h); simpa using this, fun h => by have := hF.out.q8_6 (by simpa using h); simpa using this, fun h => by have := hF.out.q8_3 (by simpa using h); simpa using this, hF.out.bel, hF.out.bx, hF.out.sz, hF.out.rs, fun h => hF.out.mr (by simpa using h), fun h h2 => hF.out.al (by simpa using h) (by simpa using h2), fun h => hF.out.st (by simpa using h), fun h k => hF.out.n37 (by simpa using h) (by simpa using k)⟩
    · intro d a W hI hd hdep
      obtain ⟨gN, gp, x3, x10, x11, x12, x13, x14, x15, x16, rfl, hF⟩ := hI
      have hd4 : d 4 = true := dep_of hdep 4 (by kernel_rfl)
      obtain rfl := hF.out.f4 hd4
      have ya := hF.out.bx.2
      clear hdep hd hd4
      intro K hK
      simp only [Act.put, List.setIfInBounds_toArray, List.set_cons_zero, List.set_cons_succ]
      go_simp
      refine hK.out _ _ ⟨gN, gp, x3, x10, x11, x12, x13, (.pointer (some ⟨w.heap.size, 1, none⟩)), (.slice ta n tc), x16, by simp only [Act.put, List.setIfInBounds_toArray, List.set_cons_zero, List.set_cons_succ], ?_⟩
      exact ⟨fun h => hF.out.f0 (by simpa using h), fun h => hF.out.f1 (by simpa using h), fun h => hF.out.f2 (by simpa using h), fun h => hF.out.f3 (by simpa using h), fun h => hF.out.f4 (by simpa using h), fun _ => rfl, fun h => hF.out.f6 (by simpa using h), fun h => hF.out.f7 (by simpa using h), fun h => hF.out.f8 (by simpa using h), fun h => by have := hF.out.q6_3 (by simpa using h); simpa using this, fun h => by have := hF.out.q8_7 (by simpa using h); simpa using this, fun h => by have := hF.out.q8_6 (by simpa using h); simpa using this, fun h => by have := hF.out.q8_3 (by simpa using h); simpa using this, hF.out.bel, hF.out.bx, hF.out.sz, hF.out.rs, fun h => hF.out.mr (by simpa using h), fun h h2 => hF.out.al (by simpa using h) (by simpa using h2), fun h => hF.out.st (by simpa using h), fun h k => hF.out.n37 (by simpa using h) (by simpa using k)⟩
    · intro d a W hI hd hdep
      obtain ⟨gN, gp, x3, x10, x11, x12, x13, x14, x15, x16, rfl, hF⟩ := hI
      have hd3 : d 3 = true := dep_of hdep 3 (by kernel_rfl)
      have hd5 : d 5 = true := dep_of hdep 5 (by kernel_rfl)
      obtain rfl := hF.out.f3 hd3
      obtain rfl := hF.out.f5 hd5
      have e6_3 := hd3
      have hset := HSET.out
      have hz29 := HZ29.out
      have hsz := HZSZ.out
      clear hdep hd hd3 hd5
      intro K hK
      simp only [Act.put, List.setIfInBounds_toArray, List.set_cons_zero, List.set_cons_succ]
      go_simp
      refine hK.out _ _ ⟨gN, gp, x3, x10, x11, x12, (.slice (some ⟨gN, 0, none⟩) n n), x14, (.slice ta n tc), (.agg (pl (fun _ => 0) (.slice (some ⟨gN, 0, none⟩) n n) (.slice ta n tc)).toArray), by simp only [Act.put, List.setIfInBounds_toArray, List.set_cons_zero, List.set_cons_succ], ?_⟩
      exact ⟨fun h => hF.out.f0 (by simpa using h), fun h => hF.out.f1 (by simpa using h), fun h => hF.out.f2 (by simpa using h), fun h => hF.out.f3 (by simpa using h), fun h => hF.out.f4 (by simpa using h), fun h => hF.out.f5 (by simpa using h), fun _ => rfl, fun h => hF.out.f7 (by simpa using h), fun h => hF.out.f8 (by simpa using h), fun _ => by simpa using e6_3, fun h => by have := hF.out.q8_7 (by simpa using h); simpa using this, fun _ => by simp, fun h => by have := hF.out.q8_3 (by simpa using h); simpa using this, hF.out.bel, hF.out.bx, hF.out.sz, hF.out.rs, fun h => hF.out.mr (by simpa using h), fun h h2 => hF.out.al (by simpa using h) (by simpa using h2), fun h => hF.out.st (by simpa using h), fun h k => hF.out.n37 (by simpa using h) (by simpa using k)⟩
    · intro d a W hI hd hdep
      obtain ⟨gN, gp, x3, x10, x11, x12, x13, x14, x15, x16, rfl, hF⟩ := hI
      have HN8 : Hid (d 8 = false) := no_later hF.out.q8_7 hd
      have hz29 := HZ29.out
      have B1 := (Below.refl W.heap.size W).alloc (Nat.le_refl _) (Obj.cells zs 29)
      clear hdep hd
      intro K hK
      simp only [Act.put, List.setIfInBounds_toArray, List.set_cons_zero, List.set_cons_succ]
      go_simp
      refine hK.out _ _ ⟨gN, W.heap.size, (.pointer (some ⟨W.heap.size, 0, none⟩)), x10, x11, x12, x13, x14, x15, x16, by simp only [Act.put, List.setIfInBounds_toArray, List.set_cons_zero, List.set_cons_succ], ?_⟩
      exact ⟨fun h => hF.out.f0 (by simpa using h), fun h => hF.out.f1 (by simpa using h), fun h => hF.out.f2 (by simpa using h), fun h => hF.out.f3 (by simpa using h), fun h => hF.out.f4 (by simpa using h), fun h => hF.out.f5 (by simpa using h), fun h => hF.out.f6 (by simpa using h), fun _ => rfl, fun h => hF.out.f8 (by simpa using h), fun h => by have := hF.out.q6_3 (by simpa using h); simpa using this, fun _ => by simp, fun h => by have := hF.out.q8_6 (by simpa using h); simpa using this, fun h => by have := hF.out.q8_3 (by simpa using h); simpa using this, hF.out.bel.trans (B1.mono hF.out.bel.size), ⟨Go.Lib.cell?_alloc_some _ hF.out.bx.1, Go.Lib.cell?_alloc_some _ hF.out.bx.2⟩, Nat.le_trans hF.out.sz B1.size, hF.out.rs.alloc _, fun h => have k := hF.out.mr (by simpa using h); ⟨k.1, k.2.alloc _⟩, fun _ _ => ⟨hF.out.sz, HROW.out W⟩, fun h => by have := HN8.out; simp [this] at h, fun k _ => by have := (hF.out.mr (by simpa using k)).2.lt; omega⟩
    · intro d a W hI hd hdep
      obtain ⟨gN, gp, x3, x10, x11, x12, x13, x14, x15, x16, rfl, hF⟩ := hI
      have hd7 : d 7 = true := dep_of hdep 7 (by kernel_rfl)
      have hd6 : d 6 = true := dep_of hdep 6 (by kernel_rfl)
      obtain rfl := hF.out.f7 hd7
      obtain rfl := hF.out.f6 hd6
      have e8_7 := hd7
      have e8_6 := hd6
      have e8_3 := hF.out.q6_3 hd6
      have hal := hF.out.al hd7 hd
      have hn1 := hF.out.n37 e8_3 hd7
      have hlen := pl_length (fun _ => 0) (.slice (some ⟨gN, 0, none⟩) n n) (.slice ta n tc)
      clear hdep hd hd7 hd6
      intro K hK
      simp only [Act.put, List.setIfInBounds_toArray, List.set_cons_zero, List.set_cons_succ]
      refine wp_store_mid 29 _ _ rfl gp 0 (pl (fun _ => 0) (.slice (some ⟨gN, 0, none⟩) n n) (.slice ta n tc)).toArray rfl rfl (by rw [List.size_toArray, hlen]; exact there_row hal.2) (by rw [List.size_toArray, hlen]; exact size29) (pl_one _ _ _ _ _ _ _) ?_
      refine hK.out _ _ ⟨gN, gp, (.pointer (some ⟨gp, 0, none⟩)), x10, x11, x12, x13, x14, x15, (.agg (pl (fun _ => 0) (.slice (some ⟨gN, 0, none⟩) n n) (.slice ta n tc)).toArray), by simp only [Act.put, List.setIfInBounds_toArray, List.set_cons_zero, List.set_cons_succ], ?_⟩
      obtain ⟨f9, hf9, -, hf9b⟩ := rowIs_setCells (pl (fun _ => 0) (.slice (some ⟨gN, 0, none⟩) n n) (.slice ta n tc)).toArray.toList 0 _ hal.2 (by simp [hlen])
      have hoth : ∀ k, k ≠ gp → (W.setCells gp 0 (pl (fun _ => 0) (.slice (some ⟨gN, 0, none⟩) n n) (.slice ta n tc)).toArray.toList).heap[k]? = W.heap[k]? := fun k hk => heap_setCells_ne _ _ _ _ _ hk
      have hsz9 : (W.setCells gp 0 (pl (fun _ => 0) (.slice (some ⟨gN, 0, none⟩) n n) (.slice ta n tc)).toArray.toList).heap.size = W.heap.size := size_setCells _ _ _ _
      exact ⟨fun h => hF.out.f0 (by simpa using h), fun h => hF.out.f1 (by simpa using h), fun h => hF.out.f2 (by simpa using h), fun h => hF.out.f3 (by simpa using h), fun h => hF.out.f4 (by simpa using h), fun h => hF.out.f5 (by simpa using h), fun h => hF.out.f6 (by simpa using h), fun h => hF.out.f7 (by simpa using h), fun _ => trivial, fun h => by have := hF.out.q6_3 (by simpa using h); simpa using this, fun _ => by simpa using e8_7, fun _ => by simpa using e8_6, fun _ => by simpa using e8_3, setCells_below _ (by have := hal.1; have := HSW.out; omega) _ _ _ hF.out.bel, ⟨(cell_same (hoth w.heap.size (by have := hal.1; have := HSW.out; omega)) 0).trans hF.out.bx.1, (cell_same (hoth w.heap.size (by have := hal.1; have := HSW.out; omega)) 1).trans hF.out.bx.2⟩, by rw [hsz9]; exact hF.out.sz, hF.out.rs.of_block (hoth _ (by have := hal.1; have := HSW.out; omega)), fun _ => have k := hF.out.mr e8_3; ⟨k.1, k.2.of_block (hoth _ hn1)⟩, fun _ h => by simp at h, fun _ => ⟨hal.1, hf9.congr fun q hq => by have := hf9b q _ (by rw [List.toList_toArray]; exact pf_at _ _ _ q hq); rwa [Nat.zero_add] at this⟩, fun _ _ => hn1⟩
  · intro d a W hI hall
    obtain ⟨gN, gp, x3, x10, x11, x12, x13, x14, x15, x16, rfl, hF⟩ := hI
    simp only [List.length_cons, List.length_nil] at hall
    obtain rfl := hF.out.f0 (hall 0 (by omega))
    obtain rfl := hF.out.f1 (hall 1 (by omega))
    obtain rfl := hF.out.f2 (hall 2 (by omega))
    obtain rfl := hF.out.f3 (hall 3 (by omega))
    obtain rfl := hF.out.f4 (hall 4 (by omega))
    obtain rfl := hF.out.f5 (hall 5 (by omega))
    obtain rfl := hF.out.f6 (hall 6 (by omega))
    obtain rfl := hF.out.f7 (hall 7 (by omega))
    have HR : Hid (Below w.heap.size w W ∧ W.cell? ⟨w.heap.size, 0, none⟩ = some (.slice ra n rc) ∧ W.cell? ⟨w.heap.size, 1, none⟩ = some (.slice ta n tc) ∧ W.rowIs (w.heap.size + 1) 29 258 (pf (fun _ => 0) (.slice none 0 0) (.slice none 0 0)) ∧ W.rowIs gN 23 n (fun _ => .slice none 0 0) ∧ W.rowIs gp 29 258 (pf (fun _ => 0) (.slice (some ⟨gN, 0, none⟩) n n) (.slice ta n tc)) ∧ gN ≠ gp ∧ w1.heap.size ≤ gN ∧ w1.heap.size ≤ gp) := by
      have k3 := hF.out.mr (hall 3 (by omega))
      have k8 := hF.out.st (hall 8 (by omega))
      exact ⟨hF.out.bel, hF.out.bx.1, hF.out.bx.2, hF.out.rs, k3.2, k8.2, hF.out.n37 (hall 3 (by omega)) (hall 7 (by omega)), k3.1, k8.1⟩
    clear hF hall
    simp only [Act.put, List.setIfInBounds_toArray, List.set_cons_zero, List.set_cons_succ]
    go_wp2_with fail
    clear hz29 HMK HSET HROW HBX1 HRS1 HB1 HZ29 HZSZ
    obtain ⟨agl, HAG⟩ : ∃ q, Hid ((pl (fun _ => 0) (.slice (some ⟨gN, 0, none⟩) n n) (.slice ta n tc)).toArray = q) := ⟨_, (rfl : _ = _)⟩
    rw [HAG.out]
    clear HAG
    obtain ⟨B, HBB⟩ : ∃ q, Hid (W.heap.size = q) := ⟨_, (rfl : _ = _)⟩
    have HGO : Hid (w.heap.size + 2 ≤ gN ∧ w.heap.size + 2 ≤ gp ∧ gN ≠ gp ∧ gN < B ∧ gp < B) := by
      obtain ⟨-, -, -, -, h5, h6, h7, h8, h9⟩ := HR.out
      have := HSW.out; have := HBB.out; have := h5.lt; have := h6.lt
      exact ⟨by omega, by omega, h7, by omega, by omega⟩
    have HP0 : Hid (∃ V, PQ w n R (.slice ra n rc) (.slice ta n tc) gN gp B 0 (fsts n R 0) V (.slice none 0 0) W) := by
      obtain ⟨h1, h2, h3, h4, h5, h6, -⟩ := HR.out
      have := PQ.start (R := R) h1 h2 h3 h4 h5 h6
      rw [HBB.out] at this
      exact ⟨_, this⟩
    clear HR HSW HBB
    have HROWS : Hid (∃ rb ro, ra = some ⟨rb, ro, none⟩ ∧ rb < w.heap.size ∧ ∀ i, i < n → ∀ j, j < 256 → w.cell? ⟨rb, ro + i * 256 + j, none⟩ = some (.int .i16 (R i j))) := by
      obtain ⟨a1, c1, e, -, -, h⟩ := HRW.out
      simp at e
      obtain ⟨rb, ro, e2, h2, h3⟩ := h.resolve_left (by have := HN0.out.1; omega)
      exact ⟨rb, ro, by rw [e.1, e2], h2, h3⟩
    obtain ⟨rb, ro, hra, hrb, hrc⟩ := HROWS.out
    have HRC : Hid (rb < w.heap.size ∧ ∀ i, i < n → ∀ j, j < 256 → w.cell? ⟨rb, ro + i * 256 + j, none⟩ = some (.int .i16 (R i j))) := ⟨hrb, hrc⟩
    subst hra
    clear HROWS hrb hrc
    obtain ⟨i3, hi3, hz3, hs3, hb3⟩ := info_parts info3
    have H3 : Hid (Try.prog.info? 3 = some i3 ∧ i3.zero = some (.int .i64 0) ∧ i3.size = 1 ∧ i3.bytes = 8) := ⟨hi3, hz3, hs3, hb3⟩
    clear hi3 hz3 hs3 hb3
    go_loopw [4, 5] (fun f i wr => ∃ b : Nat, b ≤ 256 ∧ i = .int .i64 (b : Int) ∧ Hid (∃ V, PQ w n R (.slice (some ⟨rb, ro, none⟩) n rc) (.slice ta n tc) gN gp B b (fsts n R b) V f wr)) (fun _ i _ => 256 - (intOf i).toNat)
    case atStart => exact ⟨0, by omega, rfl, HP0.out⟩
    case round =>
      clear HP0
      obtain ⟨b, hb, rfl, HE⟩ := hrel
      obtain ⟨V, hP⟩ := HE.out
      obtain ⟨ao, fc, rfl, hcs⟩ := hP.shape
      obtain ⟨fs, HFS⟩ : ∃ q, Hid (fsts n R b = q) := ⟨_, (rfl : _ = _)⟩
      rw [HFS.out] at hP
      rw [HFS.out]
      obtain ⟨fl, HFL⟩ : ∃ q, Hid (fs.length = q) := ⟨_, (rfl : _ = _)⟩
      rw [HFL.out] at hP
      rw [HFL.out]
      have HP : Hid (PQ w n R (.slice (some ⟨rb, ro, none⟩) n rc) (.slice ta n tc) gN gp B b fs V (.slice ao fl fc) wr) := hP
      have hflb : fl ≤ b := by rw [← HFL.out, ← HFS.out]; exact fsts_length n R b
      have HFB : Hid (∀ t, t < fl → fs.getD t 0 < 256) := fun t ht => by
        have h1 : fs.getD t 0 ∈ fs := by rw [List.getD_eq_getElem?_getD, List.getElem?_eq_getElem (by have := HFL.out; omega)]; exact List.getElem_mem _
        have h2 := fsts_lt n R b (fs.getD t 0) (by rw [HFS.out]; exact h1)
        omega
      obtain ⟨W0, rfl⟩ : ∃ W0, W0 = wr := ⟨_, rfl⟩
      clear hP HE hcs
      by_cases hlt : b < 256
      · have hb0 : (0 : Int) ≤ (b : Int) := by omega
        have hb1 : (b : Int) < 256 := by omega
        go_wp2_with fail
        go_loopw [6] (fun t2 wx => ∃ t : Nat, t ≤ fl ∧ t2 = .int .i64 (t : Int) ∧ Hid (∀ u, u < t → eqc n R (fs.getD u 0) b = false) ∧ Hid (PQ w n R (.slice (some ⟨rb, ro, none⟩) n rc) (.slice ta n tc) gN gp B b fs V (.slice ao fl fc) wx)) (fun t2 _ => fl - (intOf t2).toNat)
        case atStart => exact ⟨0, by omega, rfl, fun u hu => by omega, HP⟩
        case round =>
          clear HP
          obtain ⟨t, ht, rfl, HNO, HP⟩ := hrel
          obtain ⟨W1, rfl⟩ : ∃ W1, W1 = wr := ⟨_, rfl⟩
          by_cases htl : t < fl
          · have htl1 : (t : Int) < (fl : Int) := by omega
            have ht0 : (0 : Int) ≤ (t : Int) := by omega
            obtain ⟨gf, rfl, -⟩ := HP.out.first HFL.out htl
            obtain ⟨f, HF⟩ : ∃ q, Hid (fs.getD t 0 = q) := ⟨_, (rfl : _ = _)⟩
            have hf : f < 256 := by rw [← HF.out]; exact HFB.out t htl
            have hf1 : (f : Int) < 256 := by omega
            have hf0 : (0 : Int) ≤ (f : Int) := by omega
            go_wp2_with fail
            go_loopw [7, 8] (fun sv iv wx => ∃ (i : Nat) (sm : Bool), i ≤ n ∧ sv = .bool sm ∧ iv = .int .i64 (i : Int) ∧ Hid ((sm = true → ∀ j, j < i → R j f = R j b) ∧ (sm = false → ∃ j, j < n ∧ R j f ≠ R j b)) ∧ Hid (PQ w n R (.slice (some ⟨rb, ro, none⟩) n rc) (.slice ta n tc) gN gp B b fs V (.slice (some ⟨gf, 0, none⟩) fl fc) wx)) (fun _ iv _ => n - (intOf iv).toNat)
            case atStart => exact ⟨0, true, by omega, rfl, rfl, ⟨fun _ j hj => by omega, fun h => by cases h⟩, HP⟩
            case round =>
              clear HP
              obtain ⟨i, sm, hi, rfl, rfl, HSM, HP⟩ := hrel
              have c0 := HP.out.c0
              have hn200 : n ≤ 200 := HN0.out.2
              cases sm
              · have HNE : Hid (∃ j, j < n ∧ R j f ≠ R j b) := HSM.out.2 rfl
                have HEQ : Hid (∀ u, u < t + 1 → eqc n R (fs.getD u 0) b = false) := fun u hu => by
                  by_cases e : u = t
                  · subst e
                    obtain ⟨j, h1, h2⟩ := HNE.out
                    cases h : eqc n R (fs.getD u 0) b with
                    | false => rfl
                    | true => have h3 := eqc_iff.1 h j h1; rw [HF.out] at h3; exact absurd h3 h2
                  · exact HNO.out u (by omega)
                by_cases hin : i < n
                · have hin1 : (i : Int) < (n : Int) := by omega
                  go_wp2_with fail
                  go_roundw
                  case rel => exact ⟨t + 1, by omega, by go_num, HEQ, HP⟩
                  case measure => simp [intOf]; omega
                · have hin1 : ¬ (i : Int) < (n : Int) := by omega
                  go_wp2_with fail
                  go_roundw
                  case rel => exact ⟨t + 1, by omega, by go_num, HEQ, HP⟩
                  case measure => simp [intOf]; omega
              · by_cases hin : i < n
                · have hin1 : (i : Int) < (n : Int) := by omega
                  have hin0 : (0 : Int) ≤ (i : Int) := by omega
                  obtain ⟨g2, e2, c1⟩ := HP.out.first HFL.out htl
                  simp at e2
                  subst e2
                  rw [HF.out] at c1
                  have c2 := (HP.out.below.cell (p := ⟨rb, ro + i * 256 + b, none⟩) HRC.out.1).trans (HRC.out.2 i hin b hlt)
                  have c3 := (HP.out.below.cell (p := ⟨rb, ro + i * 256 + f, none⟩) HRC.out.1).trans (HRC.out.2 i hin f hf)
                  by_cases he : R i b = R i f
                  · have HE : Hid (R i f = R i b) := he.symm
                    rw [he] at c2
                    obtain ⟨z, HZ⟩ : ∃ z, Hid (R i f = z) := ⟨_, (rfl : _ = _)⟩
                    rw [HZ.out] at c2 c3
                    have hzz : (z == z) = true := by simp
                    clear he
                    go_wp2_with (go_quiet (fail))
                    go_roundw
                    case rel => exact ⟨i + 1, true, by omega, rfl, by go_num, ⟨fun _ j hj => by
                      by_cases e : j = i
                      · subst e; exact HE.out
                      · exact HSM.out.1 rfl j (by omega), fun h => by cases h⟩, HP.out.same (sm_drewN _ _)⟩
                    case measure => simp [intOf]; omega
                  · have HE : Hid (R i f ≠ R i b) := fun h => he h.symm
                    obtain ⟨z, HZ⟩ : ∃ z, Hid (R i f = z) := ⟨_, (rfl : _ = _)⟩
                    obtain ⟨y, HY⟩ : ∃ z, Hid (R i b = z) := ⟨_, (rfl : _ = _)⟩
                    rw [HZ.out] at c3
                    rw [HY.out] at c2
                    have hzz : (y == z) = false := by rw [← HZ.out, ← HY.out]; simp [he]
                    clear he
                    go_wp2_with (go_quiet (fail))
                    go_roundw
                    case rel => exact ⟨i + 1, false, by omega, rfl, by go_num, ⟨fun h => (by cases h), fun _ => ⟨i, hin, HE.out⟩⟩, HP.out.same (sm_drewN _ _)⟩
                    case measure => simp [intOf]; omega
                · have hin1 : ¬ (i : Int) < (n : Int) := by omega
                  have HIX : Hid (idx n R (fsts n R b) b = t) := by
                    show _ = _
                    rw [HFS.out]
                    exact idx_is (by have := HFL.out; omega) (by rw [HF.out]; exact eqc_iff.2 fun j hj => HSM.out.1 rfl j (by omega)) HNO.out
                  have hte : ((t : Int) == (fl : Int)) = false := by simp; omega
                  have hwr : (t : Int) % 256 = (t : Int) := by omega
                  have y1 := HP.out.pb.frozen b
                  obtain ⟨yw, y0⟩ : ∃ v, wr.cell? ⟨gp, b, none⟩ = some v := ⟨_, HP.out.pb.cell (i := b) (by omega)⟩
                  go_wp2_with fail
                  go_roundw
                  case rel =>
                    refine ⟨b + 1, by omega, by go_num, V, ?_⟩
                    have e : fsts n R (b + 1) = fs := by
                      show (if _ then _ else _) = _
                      rw [if_neg (by rw [HIX.out, HFS.out, HFL.out]; omega), HFS.out]
                    have g := HGO.out
                    have h2 := HP.out.of g.2.1 g.2.2.1 g.2.2.2.2 hlt
                    rw [HIX.out] at h2
                    rw [e]
                    exact h2
                  case measure => simp [intOf]; omega
          · have hte : t = fl := by omega
            subst hte
            have hix : idx n R fs b = t := idx_all HFL.out HNO.out
            have HIX : Hid (idx n R (fsts n R b) b = t) := by show _ = _; rw [HFS.out]; exact hix
            clear hix
            have htt : ((t : Int) == (t : Int)) = true := by simp
            have hth : ¬ (t : Int) < (t : Int) := by omega
            have HOWN : Hid ((W1.alloc (Obj.cells #[.int .i64 (b : Int)] 3)).ownsRow B 3 1 (.slice ao t fc) t (tl t (fun u => ((fs.getD u 0 : Nat) : Int)))) := by
              have h1 := HP.out.ff
              rw [HFL.out] at h1
              exact own_same h1 fun k hk => ((Below.refl W1.heap.size W1).alloc (Nat.le_refl _) _).block k (h1.lt k hk).2
            have HSZ1 : Hid (B ≤ W1.heap.size) := HP.out.tn.size
            have hm := run_append_lies (P := Try.prog) (W1.alloc (Obj.cells #[.int .i64 (b : Int)] 3)) 23 23 B 3 i3 _ 1 8 Try.underlying23 H3.out.1 H3.out.2.1 H3.out.2.2.1 H3.out.2.2.2 rfl (by omega) (.slice ao t fc) t _ HOWN.out ⟨W1.heap.size, 0, none⟩ 1 1 [.int .i64 (b : Int)] rfl (fun j u hj => by rw [Addr.add_lit, Nat.zero_add, cell_of_one3]; exact hj) (by intro u hu; simp at hu; subst hu; rfl) (by omega) (by unfold maxLen; omega) (by omega) (by have := HSZ1.out; simp; omega) (W1.alloc (Obj.cells #[.int .i64 (b : Int)] 3)).heap.size rfl
            have hmm := hm.choose_spec.choose_spec.choose_spec
            generalize hm.choose_spec.choose_spec.choose = W2 at hmm
            generalize hm.choose_spec.choose = cq at hmm
            generalize hm.choose = gq at hmm
            have HRUN : Hid _ := hmm.1
            have HKF : Hid (Kf w n R (.slice (some ⟨rb, ro, none⟩) n rc) (.slice ta n tc) gN gp B b (fs ++ [b]) (.slice (some ⟨gq, 0, none⟩) (t + 1) cq) W2 ∧ Tn B gN n (fun _ => t) (fun i u => R i ((fs ++ [b]).getD u 0)) V W2 ∧ ∀ j, j < n → ∀ q, (V j).ownBlock = some q → (Value.slice (some ⟨gq, 0, none⟩) (t + 1) cq).ownBlock ≠ some q) := by
              have g := HGO.out
              have hal := (Below.refl W1.heap.size W1).alloc (Nat.le_refl _) (Obj.cells #[.int .i64 (b : Int)] 3)
              have hP2 := HP.out.next hal
              exact hP2.appended HFL.out g.2.1 g.2.2.2.2 (by simpa using hmm.2.1) hmm.2.2.1 (by have := hmm.2.2.2.1; simpa [Value.ownBlock] using this)
            clear hmm hm
            have HXB : Hid (∀ i, R i ((fs ++ [b]).getD t 0) = R i b) := fun i => by rw [← HFL.out]; simp
            obtain ⟨gs, HGS⟩ : ∃ q, Hid (fs ++ [b] = q) := ⟨_, (rfl : _ = _)⟩
            rw [HGS.out] at HKF HXB
            go_wp2_with (at_builtin; refine wpList_append_run (by rfl) _ _ 23 (by rfl) (by rfl) (by rfl) (by exact HRUN.out) ?_)
            have hn200 : n ≤ 200 := HN0.out.2
            clear HRUN HOWN HP
            go_loopw [9] (fun i2 wx => ∃ i : Nat, i ≤ n ∧ i2 = .int .i64 (i : Int) ∧ Hid (∃ V, Tn B gN n (fun j => if j < i then t + 1 else t) (fun i u => R i (gs.getD u 0)) V wx ∧ (∀ j, j < n → ∀ q, (V j).ownBlock = some q → (Value.slice (some ⟨gq, 0, none⟩) (t + 1) cq).ownBlock ≠ some q) ∧ Kf w n R (.slice (some ⟨rb, ro, none⟩) n rc) (.slice ta n tc) gN gp B b gs (.slice (some ⟨gq, 0, none⟩) (t + 1) cq) wx)) (fun i2 _ => n - (intOf i2).toNat)
            case atStart => exact ⟨0, by omega, rfl, V, HKF.out.2.1.congrC (fun j _ => by simp), HKF.out.2.2, HKF.out.1⟩
            case round =>
              clear HKF
              obtain ⟨i, hi, rfl, HE⟩ := hrel
              obtain ⟨V2, htn, hnf, hkf⟩ := HE.out
              have HNF : Hid (∀ j, j < n → ∀ q, (V2 j).ownBlock = some q → (Value.slice (some ⟨gq, 0, none⟩) (t + 1) cq).ownBlock ≠ some q) := hnf
              have HKF : Hid (Kf w n R (.slice (some ⟨rb, ro, none⟩) n rc) (.slice ta n tc) gN gp B b gs (.slice (some ⟨gq, 0, none⟩) (t + 1) cq) wr) := hkf
              have c0 := hkf.c0
              by_cases hin : i < n
              · have hin1 : (i : Int) < (n : Int) := by omega
                have hin0 : (0 : Int) ≤ (i : Int) := by omega
                obtain ⟨C, HCE⟩ : ∃ q, Hid ((fun j => if j < i then t + 1 else t) = q) := ⟨_, (rfl : _ = _)⟩
                have HCK : Hid (C i = t) := by show _ = _; rw [← HCE.out]; simp
                rw [HCE.out] at htn
                obtain ⟨X, HXE⟩ : ∃ q, Hid ((fun i u => R i (gs.getD u 0)) = q) := ⟨_, (rfl : _ = _)⟩
                have HXK : Hid (X i (C i) = R i b) := by show _ = _; rw [HCK.out, ← HXE.out]; exact HXB.out i
                rw [HXE.out] at htn
                have HTN : Hid (Tn B gN n C X V2 wr) := htn
                have HIL : Hid (i < n) := hin
                have HCI : Hid (C i ≤ 256) := by show _ ≤ _; rw [HCK.out]; omega
                have HWR : Hid (IntKind.i64.wrap (R i b) = R i b) := wrap_small (HRR.out i b)
                have HCB : Hid (w.cell? ⟨rb, ro + i * 256 + b, none⟩ = some (.int .i16 (R i b)) ∧ rb < w.heap.size) := ⟨HRC.out.2 i hin b hlt, HRC.out.1⟩
                obtain ⟨z, HZ⟩ : ∃ z, Hid (R i b = z) := ⟨_, (rfl : _ = _)⟩
                rw [HZ.out] at HXK HWR HCB
                clear htn hnf hkf HE
                go_wp2_with fail
                refine wp_region_free mixed (fun a0 d a W => ∃ (gb : Nat) (gr : Nat) (cr : Nat) (x71 x72 x73 x74 x75 x76 x77 x78 x79 x80 x81 x82 x83 x84 x85 x86 x87 x88 x89 : Value), a = (((((((((((((((((((a0.put (some 71) x71).put (some 72) x72).put (some 73) x73).put (some 74) x74).put (some 75) x75).put (some 76) x76).put (some 77) x77).put (some 78) x78).put (some 79) x79).put (some 80) x80).put (some 81) x81).put (some 82) x82).put (some 83) x83).put (some 84) x84).put (some 85) x85).put (some 86) x86).put (some 87) x87).put (some 88) x88).put (some 89) x89) ∧ Hid (RQ20 w n R rb ro rc ta tc gN gp B b gs (.slice (some ⟨gq, 0, none⟩) (t + 1) cq) i C X V2 z gb gr cr d x71 x72 x73 x74 x75 x76 x77 x78 x79 x80 x81 x82 x83 x84 x85 x86 x87 x88 x89 W)) (by kernel_rfl) ⟨0, 0, 0, u71, u72, u73, u74, u75, u76, u77, u78, u79, u80, u81, u82, u83, u84, u85, u86, u87, u88, u89, by simp only [Act.put, List.setIfInBounds_toArray, List.set_cons_zero, List.set_cons_succ], ?_⟩ ?_ ?_
                · exact ⟨fun h => no_way h, fun h => no_way h, fun h => no_way h, fun h => no_way h, fun h => no_way h, fun h => no_way h, fun h => no_way h, fun h => no_way h, fun h => no_way h, fun h => no_way h, fun h => no_way h, fun h => no_way h, fun h => no_way h, fun h => no_way h, fun h => no_way h, fun h => no_way h, fun h => no_way h, fun h => no_way h, fun h => no_way h, fun _ => trivial, fun h => no_way h, fun h => no_way h, fun h => no_way h, HKF.out.next (Below.refl _ _).drew, fun _ => HTN.out.next (Below.refl _ _).drew, fun h => no_way h, fun h => no_way h, fun h => no_way h, fun h => no_way h⟩
                · simp only [StepAll, and_true]
                  refine ⟨?_, ?_, ?_, ?_, ?_, ?_, ?_, ?_, ?_, ?_, ?_, ?_, ?_, ?_, ?_, ?_, ?_, ?_, ?_, ?_⟩
                  · intro d a W hI hd hdep
                    obtain ⟨gb, gr, cr, x71, x72, x73, x74, x75, x76, x77, x78, x79, x80, x81, x82, x83, x84, x85, x86, x87, x88, x89, rfl, hF⟩ := hI
                    clear hdep hd
                    intro K hK
                    simp only [Act.put, List.setIfInBounds_toArray, List.set_cons_zero, List.set_cons_succ]
                    go_simp
                    refine hK.out _ _ ⟨gb, gr, cr, (.pointer (some ⟨gp, 256, none⟩)), x72, x73, x74, x75, x76, x77, x78, x79, x80, x81, x82, x83, x84, x85, x86, x87, x88, x89, by simp only [Act.put, List.setIfInBounds_toArray, List.set_cons_zero, List.set_cons_succ], ?_⟩
                    exact ⟨fun _ => rfl, fun h => hF.out.f1 (by simpa using h), fun h => hF.out.f2 (by simpa using h), fun h => hF.out.f3 (by simpa using h), fun h => hF.out.f4 (by simpa using h), fun h => hF.out.f5 (by simpa using h), fun h => hF.out.f6 (by simpa using h), fun h => hF.out.f7 (by simpa using h), fun h => hF.out.f8 (by simpa using h), fun h => hF.out.f9 (by simpa using h), fun h => hF.out.f10 (by simpa using h), fun h => hF.out.f11 (by simpa using h), fun h => hF.out.f12 (by simpa using h), fun h => hF.out.f13 (by simpa using h), fun h => hF.out.f14 (by simpa using h), fun h => hF.out.f15 (by simpa using h), fun h => hF.out.f16 (by simpa using h), fun h => hF.out.f17 (by simpa using h), fun h => hF.out.f18 (by simpa using h), fun h => hF.out.f19 (by simpa using h), fun h => by have := hF.out.p7 (by simpa using h); simpa using this, fun h => by have := hF.out.p16 (by simpa using h); simpa using this, fun h => by have := hF.out.q19 (by simpa using h); simpa using this, hF.out.kf, fun h => hF.out.tn (by simpa using h), fun h h2 => hF.out.bs (by simpa using h) (by simpa using h2), fun h h2 => hF.out.th (by simpa using h) (by simpa using h2), fun h => hF.out.ng (by simpa using h), fun h => hF.out.fin (by simpa using h)⟩
                  · intro d a W hI hd hdep
                    obtain ⟨gb, gr, cr, x71, x72, x73, x74, x75, x76, x77, x78, x79, x80, x81, x82, x83, x84, x85, x86, x87, x88, x89, rfl, hF⟩ := hI
                    have hd0 : d 0 = true := dep_of hdep 0 (by kernel_rfl)
                    obtain rfl := hF.out.f0 hd0
                    have y256 := hF.out.kf.pb.cell (i := 256) (by omega)
                    rw [pf256] at y256
                    clear hdep hd hd0
                    intro K hK
                    simp only [Act.put, List.setIfInBounds_toArray, List.set_cons_zero, List.set_cons_succ]
                    go_simp
                    refine hK.out _ _ ⟨gb, gr, cr, (.pointer (some ⟨gp, 256, none⟩)), (.slice (some ⟨gN, 0, none⟩) n n), x73, x74, x75, x76, x77, x78, x79, x80, x81, x82, x83, x84, x85, x86, x87, x88, x89, by simp only [Act.put, List.setIfInBounds_toArray, List.set_cons_zero, List.set_cons_succ], ?_⟩
                    exact ⟨fun h => hF.out.f0 (by simpa using h), fun _ => rfl, fun h => hF.out.f2 (by simpa using h), fun h => hF.out.f3 (by simpa using h), fun h => hF.out.f4 (by simpa using h), fun h => hF.out.f5 (by simpa using h), fun h => hF.out.f6 (by simpa using h), fun h => hF.out.f7 (by simpa using h), fun h => hF.out.f8 (by simpa using h), fun h => hF.out.f9 (by simpa using h), fun h => hF.out.f10 (by simpa using h), fun h => hF.out.f11 (by simpa using h), fun h => hF.out.f12 (by simpa using h), fun h => hF.out.f13 (by simpa using h), fun h => hF.out.f14 (by simpa using h), fun h => hF.out.f15 (by simpa using h), fun h => hF.out.f16 (by simpa using h), fun h => hF.out.f17 (by simpa using h), fun h => hF.out.f18 (by simpa using h), fun h => hF.out.f19 (by simpa using h), fun h => by have := hF.out.p7 (by simpa using h); simpa using this, fun h => by have := hF.out.p16 (by simpa using h); simpa using this, fun h => by have := hF.out.q19 (by simpa using h); simpa using this, hF.out.kf, fun h => hF.out.tn (by simpa using h), fun h h2 => hF.out.bs (by simpa using h) (by simpa using h2), fun h h2 => hF.out.th (by simpa using h) (by simpa using h2), fun h => hF.out.ng (by simpa using h), fun h => hF.out.fin (by simpa using h)⟩
                  · intro d a W hI hd hdep
                    obtain ⟨gb, gr, cr, x71, x72, x73, x74, x75, x76, x77, x78, x79, x80, x81, x82, x83, x84, x85, x86, x87, x88, x89, rfl, hF⟩ := hI
                    clear hdep hd
                    intro K hK
                    simp only [Act.put, List.setIfInBounds_toArray, List.set_cons_zero, List.set_cons_succ]
                    go_simp
                    refine hK.out _ _ ⟨gb, gr, cr, x71, x72, (.int .i64 (i : Int)), x74, x75, x76, x77, x78, x79, x80, x81, x82, x83, x84, x85, x86, x87, x88, x89, by simp only [Act.put, List.setIfInBounds_toArray, List.set_cons_zero, List.set_cons_succ], ?_⟩
                    exact ⟨fun h => hF.out.f0 (by simpa using h), fun h => hF.out.f1 (by simpa using h), fun _ => rfl, fun h => hF.out.f3 (by simpa using h), fun h => hF.out.f4 (by simpa using h), fun h => hF.out.f5 (by simpa using h), fun h => hF.out.f6 (by simpa using h), fun h => hF.out.f7 (by simpa using h), fun h => hF.out.f8 (by simpa using h), fun h => hF.out.f9 (by simpa using h), fun h => hF.out.f10 (by simpa using h), fun h => hF.out.f11 (by simpa using h), fun h => hF.out.f12 (by simpa using h), fun h => hF.out.f13 (by simpa using h), fun h => hF.out.f14 (by simpa using h), fun h => hF.out.f15 (by simpa using h), fun h => hF.out.f16 (by simpa using h), fun h => hF.out.f17 (by simpa using h), fun h => hF.out.f18 (by simpa using h), fun h => hF.out.f19 (by simpa using h), fun h => by have := hF.out.p7 (by simpa using h); simpa using this, fun h => by have := hF.out.p16 (by simpa using h); simpa using this, fun h => by have := hF.out.q19 (by simpa using h); simpa using this, hF.out.kf, fun h => hF.out.tn (by simpa using h), fun h h2 => hF.out.bs (by simpa using h) (by simpa using h2), fun h h2 => hF.out.th (by simpa using h) (by simpa using h2), fun h => hF.out.ng (by simpa using h), fun h => hF.out.fin (by simpa using h)⟩
                  · intro d a W hI hd hdep
                    obtain ⟨gb, gr, cr, x71, x72, x73, x74, x75, x76, x77, x78, x79, x80, x81, x82, x83, x84, x85, x86, x87, x88, x89, rfl, hF⟩ := hI
                    clear hdep hd
                    intro K hK
                    simp only [Act.put, List.setIfInBounds_toArray, List.set_cons_zero, List.set_cons_succ]
                    go_simp
                    refine hK.out _ _ ⟨gb, gr, cr, x71, x72, x73, (.pointer (some ⟨gp, 256, none⟩)), x75, x76, x77, x78, x79, x80, x81, x82, x83, x84, x85, x86, x87, x88, x89, by simp only [Act.put, List.setIfInBounds_toArray, List.set_cons_zero, List.set_cons_succ], ?_⟩
                    exact ⟨fun h => hF.out.f0 (by simpa using h), fun h => hF.out.f1 (by simpa using h), fun h => hF.out.f2 (by simpa using h), fun _ => rfl, fun h => hF.out.f4 (by simpa using h), fun h => hF.out.f5 (by simpa using h), fun h => hF.out.f6 (by simpa using h), fun h => hF.out.f7 (by simpa using h), fun h => hF.out.f8 (by simpa using h), fun h => hF.out.f9 (by simpa using h), fun h => hF.out.f10 (by simpa using h), fun h => hF.out.f11 (by simpa using h), fun h => hF.out.f12 (by simpa using h), fun h => hF.out.f13 (by simpa using h), fun h => hF.out.f14 (by simpa using h), fun h => hF.out.f15 (by simpa using h), fun h => hF.out.f16 (by simpa using h), fun h => hF.out.f17 (by simpa using h), fun h => hF.out.f18 (by simpa using h), fun h => hF.out.f19 (by simpa using h), fun h => by have := hF.out.p7 (by simpa using h); simpa using this, fun h => by have := hF.out.p16 (by simpa using h); simpa using this, fun h => by have := hF.out.q19 (by simpa using h); simpa using this, hF.out.kf, fun h => hF.out.tn (by simpa using h), fun h h2 => hF.out.bs (by simpa using h) (by simpa using h2), fun h h2 => hF.out.th (by simpa using h) (by simpa using h2), fun h => hF.out.ng (by simpa using h), fun h => hF.out.fin (by simpa using h)⟩
                  · intro d a W hI hd hdep
                    obtain ⟨gb, gr, cr, x71, x72, x73, x74, x75, x76, x77, x78, x79, x80, x81, x82, x83, x84, x85, x86, x87, x88, x89, rfl, hF⟩ := hI
                    have hd3 : d 3 = true := dep_of hdep 3 (by kernel_rfl)
                    obtain rfl := hF.out.f3 hd3
                    have y256 := hF.out.kf.pb.cell (i := 256) (by omega)
                    rw [pf256] at y256
                    clear hdep hd hd3
                    intro K hK
                    simp only [Act.put, List.setIfInBounds_toArray, List.set_cons_zero, List.set_cons_succ]
                    go_simp
                    refine hK.out _ _ ⟨gb, gr, cr, x71, x72, x73, (.pointer (some ⟨gp, 256, none⟩)), (.slice (some ⟨gN, 0, none⟩) n n), x76, x77, x78, x79, x80, x81, x82, x83, x84, x85, x86, x87, x88, x89, by simp only [Act.put, List.setIfInBounds_toArray, List.set_cons_zero, List.set_cons_succ], ?_⟩
                    exact ⟨fun h => hF.out.f0 (by simpa using h), fun h => hF.out.f1 (by simpa using h), fun h => hF.out.f2 (by simpa using h), fun h => hF.out.f3 (by simpa using h), fun _ => rfl, fun h => hF.out.f5 (by simpa using h), fun h => hF.out.f6 (by simpa using h), fun h => hF.out.f7 (by simpa using h), fun h => hF.out.f8 (by simpa using h), fun h => hF.out.f9 (by simpa using h), fun h => hF.out.f10 (by simpa using h), fun h => hF.out.f11 (by simpa using h), fun h => hF.out.f12 (by simpa using h), fun h => hF.out.f13 (by simpa using h), fun h => hF.out.f14 (by simpa using h), fun h => hF.out.f15 (by simpa using h), fun h => hF.out.f16 (by simpa using h), fun h => hF.out.f17 (by simpa using h), fun h => hF.out.f18 (by simpa using h), fun h => hF.out.f19 (by simpa using h), fun h => by have := hF.out.p7 (by simpa using h); simpa using this, fun h => by have := hF.out.p16 (by simpa using h); simpa using this, fun h => by have := hF.out.q19 (by simpa using h); simpa using this, hF.out.kf, fun h => hF.out.tn (by simpa using h), fun h h2 => hF.out.bs (by simpa using h) (by simpa using h2), fun h h2 => hF.out.th (by simpa using h) (by simpa using h2), fun h => hF.out.ng (by simpa using h), fun h => hF.out.fin (by simpa using h)⟩
                  · intro d a W hI hd hdep
                    obtain ⟨gb, gr, cr, x71, x72, x73, x74, x75, x76, x77, x78, x79, x80, x81, x82, x83, x84, x85, x86, x87, x88, x89, rfl, hF⟩ := hI
                    clear hdep hd
                    intro K hK
                    simp only [Act.put, List.setIfInBounds_toArray, List.set_cons_zero, List.set_cons_succ]
                    go_simp
                    refine hK.out _ _ ⟨gb, gr, cr, x71, x72, x73, x74, x75, (.int .i64 (i : Int)), x77, x78, x79, x80, x81, x82, x83, x84, x85, x86, x87, x88, x89, by simp only [Act.put, List.setIfInBounds_toArray, List.set_cons_zero, List.set_cons_succ], ?_⟩
                    exact ⟨fun h => hF.out.f0 (by simpa using h), fun h => hF.out.f1 (by simpa using h), fun h => hF.out.f2 (by simpa using h), fun h => hF.out.f3 (by simpa using h), fun h => hF.out.f4 (by simpa using h), fun _ => rfl, fun h => hF.out.f6 (by simpa using h), fun h => hF.out.f7 (by simpa using h), fun h => hF.out.f8 (by simpa using h), fun h => hF.out.f9 (by simpa using h), fun h => hF.out.f10 (by simpa using h), fun h => hF.out.f11 (by simpa using h), fun h => hF.out.f12 (by simpa using h), fun h => hF.out.f13 (by simpa using h), fun h => hF.out.f14 (by simpa using h), fun h => hF.out.f15 (by simpa using h), fun h => hF.out.f16 (by simpa using h), fun h => hF.out.f17 (by simpa using h), fun h => hF.out.f18 (by simpa using h), fun h => hF.out.f19 (by simpa using h), fun h => by have := hF.out.p7 (by simpa using h); simpa using this, fun h => by have := hF.out.p16 (by simpa using h); simpa using this, fun h => by have := hF.out.q19 (by simpa using h); simpa using this, hF.out.kf, fun h => hF.out.tn (by simpa using h), fun h h2 => hF.out.bs (by simpa using h) (by simpa using h2), fun h h2 => hF.out.th (by simpa using h) (by simpa using h2), fun h => hF.out.ng (by simpa using h), fun h => hF.out.fin (by simpa using h)⟩
                  · intro d a W hI hd hdep
                    obtain ⟨gb, gr, cr, x71, x72, x73, x74, x75, x76, x77, x78, x79, x80, x81, x82, x83, x84, x85, x86, x87, x88, x89, rfl, hF⟩ := hI
                    have hd4 : d 4 = true := dep_of hdep 4 (by kernel_rfl)
                    have hd5 : d 5 = true := dep_of hdep 5 (by kernel_rfl)
                    obtain rfl := hF.out.f4 hd4
                    obtain rfl := hF.out.f5 hd5
                    clear hdep hd hd4 hd5
                    intro K hK
                    simp only [Act.put, List.setIfInBounds_toArray, List.set_cons_zero, List.set_cons_succ]
                    go_simp
                    refine hK.out _ _ ⟨gb, gr, cr, x71, x72, x73, x74, (.slice (some ⟨gN, 0, none⟩) n n), (.int .i64 (i : Int)), (.pointer (some ⟨gN, i, none⟩)), x78, x79, x80, x81, x82, x83, x84, x85, x86, x87, x88, x89, by simp only [Act.put, List.setIfInBounds_toArray, List.set_cons_zero, List.set_cons_succ], ?_⟩
                    exact ⟨fun h => hF.out.f0 (by simpa using h), fun h => hF.out.f1 (by simpa using h), fun h => hF.out.f2 (by simpa using h), fun h => hF.out.f3 (by simpa using h), fun h => hF.out.f4 (by simpa using h), fun h => hF.out.f5 (by simpa using h), fun _ => rfl, fun h => hF.out.f7 (by simpa using h), fun h => hF.out.f8 (by simpa using h), fun h => hF.out.f9 (by simpa using h), fun h => hF.out.f10 (by simpa using h), fun h => hF.out.f11 (by simpa using h), fun h => hF.out.f12 (by simpa using h), fun h => hF.out.f13 (by simpa using h), fun h => hF.out.f14 (by simpa using h), fun h => hF.out.f15 (by simpa using h), fun h => hF.out.f16 (by simpa using h), fun h => hF.out.f17 (by simpa using h), fun h => hF.out.f18 (by simpa using h), fun h => hF.out.f19 (by simpa using h), fun h => by have := hF.out.p7 (by simpa using h); simpa using this, fun h => by have := hF.out.p16 (by simpa using h); simpa using this, fun h => by have := hF.out.q19 (by simpa using h); simpa using this, hF.out.kf, fun h => hF.out.tn (by simpa using h), fun h h2 => hF.out.bs (by simpa using h) (by simpa using h2), fun h h2 => hF.out.th (by simpa using h) (by simpa using h2), fun h => hF.out.ng (by simpa using h), fun h => hF.out.fin (by simpa using h)⟩
                  · intro d a W hI hd hdep
                    obtain ⟨gb, gr, cr, x71, x72, x73, x74, x75, x76, x77, x78, x79, x80, x81, x82, x83, x84, x85, x86, x87, x88, x89, rfl, hF⟩ := hI
                    have hd6 : d 6 = true := dep_of hdep 6 (by kernel_rfl)
                    obtain rfl := hF.out.f6 hd6
                    have HN17 : Hid (d 17 = false) := no_later hF.out.p7 hd
                    have htn := hF.out.tn HN17.out
                    have ya := htn.top.cell HIL.out
                    clear hdep hd hd6
                    intro K hK
                    simp only [Act.put, List.setIfInBounds_toArray, List.set_cons_zero, List.set_cons_succ]
                    go_simp
                    refine hK.out _ _ ⟨gb, gr, cr, x71, x72, x73, x74, x75, x76, (.pointer (some ⟨gN, i, none⟩)), (V2 i), x79, x80, x81, x82, x83, x84, x85, x86, x87, x88, x89, by simp only [Act.put, List.setIfInBounds_toArray, List.set_cons_zero, List.set_cons_succ], ?_⟩
                    exact ⟨fun h => hF.out.f0 (by simpa using h), fun h => hF.out.f1 (by simpa using h), fun h => hF.out.f2 (by simpa using h), fun h => hF.out.f3 (by simpa using h), fun h => hF.out.f4 (by simpa using h), fun h => hF.out.f5 (by simpa using h), fun h => hF.out.f6 (by simpa using h), fun _ => rfl, fun h => hF.out.f8 (by simpa using h), fun h => hF.out.f9 (by simpa using h), fun h => hF.out.f10 (by simpa using h), fun h => hF.out.f11 (by simpa using h), fun h => hF.out.f12 (by simpa using h), fun h => hF.out.f13 (by simpa using h), fun h => hF.out.f14 (by simpa using h), fun h => hF.out.f15 (by simpa using h), fun h => hF.out.f16 (by simpa using h), fun h => hF.out.f17 (by simpa using h), fun h => hF.out.f18 (by simpa using h), fun h => hF.out.f19 (by simpa using h), fun _ => by simp, fun h => by have := hF.out.p16 (by simpa using h); simpa using this, fun h => by have := hF.out.q19 (by simpa using h); simpa using this, hF.out.kf, fun h => hF.out.tn (by simpa using h), fun h h2 => hF.out.bs (by simpa using h) (by simpa using h2), fun h h2 => hF.out.th (by simpa using h) (by simpa using h2), fun h => hF.out.ng (by simpa using h), fun h => hF.out.fin (by simpa using h)⟩
                  · intro d a W hI hd hdep
                    obtain ⟨gb, gr, cr, x71, x72, x73, x74, x75, x76, x77, x78, x79, x80, x81, x82, x83, x84, x85, x86, x87, x88, x89, rfl, hF⟩ := hI
                    clear hdep hd
                    intro K hK
                    simp only [Act.put, List.setIfInBounds_toArray, List.set_cons_zero, List.set_cons_succ]
                    go_simp
                    refine hK.out _ _ ⟨gb, gr, cr, x71, x72, x73, x74, x75, x76, x77, x78, (.pointer (some ⟨w.heap.size, 0, none⟩)), x80, x81, x82, x83, x84, x85, x86, x87, x88, x89, by simp only [Act.put, List.setIfInBounds_toArray, List.set_cons_zero, List.set_cons_succ], ?_⟩
                    exact ⟨fun h => hF.out.f0 (by simpa using h), fun h => hF.out.f1 (by simpa using h), fun h => hF.out.f2 (by simpa using h), fun h => hF.out.f3 (by simpa using h), fun h => hF.out.f4 (by simpa using h), fun h => hF.out.f5 (by simpa using h), fun h => hF.out.f6 (by simpa using h), fun h => hF.out.f7 (by simpa using h), fun _ => rfl, fun h => hF.out.f9 (by simpa using h), fun h => hF.out.f10 (by simpa using h), fun h => hF.out.f11 (by simpa using h), fun h => hF.out.f12 (by simpa using h), fun h => hF.out.f13 (by simpa using h), fun h => hF.out.f14 (by simpa using h), fun h => hF.out.f15 (by simpa using h), fun h => hF.out.f16 (by simpa using h), fun h => hF.out.f17 (by simpa using h), fun h => hF.out.f18 (by simpa using h), fun h => hF.out.f19 (by simpa using h), fun h => by have := hF.out.p7 (by simpa using h); simpa using this, fun h => by have := hF.out.p16 (by simpa using h); simpa using this, fun h => by have := hF.out.q19 (by simpa using h); simpa using this, hF.out.kf, fun h => hF.out.tn (by simpa using h), fun h h2 => hF.out.bs (by simpa using h) (by simpa using h2), fun h h2 => hF.out.th (by simpa using h) (by simpa using h2), fun h => hF.out.ng (by simpa using h), fun h => hF.out.fin (by simpa using h)⟩
                  · intro d a W hI hd hdep
                    obtain ⟨gb, gr, cr, x71, x72, x73, x74, x75, x76, x77, x78, x79, x80, x81, x82, x83, x84, x85, x86, x87, x88, x89, rfl, hF⟩ := hI
                    have hd8 : d 8 = true := dep_of hdep 8 (by kernel_rfl)
                    obtain rfl := hF.out.f8 hd8
                    have ya := hF.out.kf.c0
                    clear hdep hd hd8
                    intro K hK
                    simp only [Act.put, List.setIfInBounds_toArray, List.set_cons_zero, List.set_cons_succ]
                    go_simp
                    refine hK.out _ _ ⟨gb, gr, cr, x71, x72, x73, x74, x75, x76, x77, x78, (.pointer (some ⟨w.heap.size, 0, none⟩)), (.slice (some ⟨rb, ro, none⟩) n rc), x81, x82, x83, x84, x85, x86, x87, x88, x89, by simp only [Act.put, List.setIfInBounds_toArray, List.set_cons_zero, List.set_cons_succ], ?_⟩
                    exact ⟨fun h => hF.out.f0 (by simpa using h), fun h => hF.out.f1 (by simpa using h), fun h => hF.out.f2 (by simpa using h), fun h => hF.out.f3 (by simpa using h), fun h => hF.out.f4 (by simpa using h), fun h => hF.out.f5 (by simpa using h), fun h => hF.out.f6 (by simpa using h), fun h => hF.out.f7 (by simpa using h), fun h => hF.out.f8 (by simpa using h), fun _ => rfl, fun h => hF.out.f10 (by simpa using h), fun h => hF.out.f11 (by simpa using h), fun h => hF.out.f12 (by simpa using h), fun h => hF.out.f13 (by simpa using h), fun h => hF.out.f14 (by simpa using h), fun h => hF.out.f15 (by simpa using h), fun h => hF.out.f16 (by simpa using h), fun h => hF.out.f17 (by simpa using h), fun h => hF.out.f18 (by simpa using h), fun h => hF.out.f19 (by simpa using h), fun h => by have := hF.out.p7 (by simpa using h); simpa using this, fun h => by have := hF.out.p16 (by simpa using h); simpa using this, fun h => by have := hF.out.q19 (by simpa using h); simpa using this, hF.out.kf, fun h => hF.out.tn (by simpa using h), fun h h2 => hF.out.bs (by simpa using h) (by simpa using h2), fun h h2 => hF.out.th (by simpa using h) (by simpa using h2), fun h => hF.out.ng (by simpa using h), fun h => hF.out.fin (by simpa using h)⟩
                  · intro d a W hI hd hdep
                    obtain ⟨gb, gr, cr, x71, x72, x73, x74, x75, x76, x77, x78, x79, x80, x81, x82, x83, x84, x85, x86, x87, x88, x89, rfl, hF⟩ := hI
                    clear hdep hd
                    intro K hK
                    simp only [Act.put, List.setIfInBounds_toArray, List.set_cons_zero, List.set_cons_succ]
                    go_simp
                    refine hK.out _ _ ⟨gb, gr, cr, x71, x72, x73, x74, x75, x76, x77, x78, x79, x80, (.int .i64 (i : Int)), x82, x83, x84, x85, x86, x87, x88, x89, by simp only [Act.put, List.setIfInBounds_toArray, List.set_cons_zero, List.set_cons_succ], ?_⟩
                    exact ⟨fun h => hF.out.f0 (by simpa using h), fun h => hF.out.f1 (by simpa using h), fun h => hF.out.f2 (by simpa using h), fun h => hF.out.f3 (by simpa using h), fun h => hF.out.f4 (by simpa using h), fun h => hF.out.f5 (by simpa using h), fun h => hF.out.f6 (by simpa using h), fun h => hF.out.f7 (by simpa using h), fun h => hF.out.f8 (by simpa using h), fun h => hF.out.f9 (by simpa using h), fun _ => rfl, fun h => hF.out.f11 (by simpa using h), fun h => hF.out.f12 (by simpa using h), fun h => hF.out.f13 (by simpa using h), fun h => hF.out.f14 (by simpa using h), fun h => hF.out.f15 (by simpa using h), fun h => hF.out.f16 (by simpa using h), fun h => hF.out.f17 (by simpa using h), fun h => hF.out.f18 (by simpa using h), fun h => hF.out.f19 (by simpa using h), fun h => by have := hF.out.p7 (by simpa using h); simpa using this, fun h => by have := hF.out.p16 (by simpa using h); simpa using this, fun h => by have := hF.out.q19 (by simpa using h); simpa using this, hF.out.kf, fun h => hF.out.tn (by simpa using h), fun h h2 => hF.out.bs (by simpa using h) (by simpa using h2), fun h h2 => hF.out.th (by simpa using h) (by simpa using h2), fun h => hF.out.ng (by simpa using h), fun h => hF.out.fin (by simpa using h)⟩
                  · intro d a W hI hd hdep
                    obtain ⟨gb, gr, cr, x71, x72, x73, x74, x75, x76, x77, x78, x79, x80, x81, x82, x83, x84, x85, x86, x87, x88, x89, rfl, hF⟩ := hI
                    clear hdep hd
                    intro K hK
                    simp only [Act.put, List.setIfInBounds_toArray, List.set_cons_zero, List.set_cons_succ]
                    go_simp
                    refine hK.out _ _ ⟨gb, gr, cr, x71, x72, x73, x74, x75, x76, x77, x78, x79, x80, x81, (.int .i64 (b : Int)), x83, x84, x85, x86, x87, x88, x89, by simp only [Act.put, List.setIfInBounds_toArray, List.set_cons_zero, List.set_cons_succ], ?_⟩
                    exact ⟨fun h => hF.out.f0 (by simpa using h), fun h => hF.out.f1 (by simpa using h), fun h => hF.out.f2 (by simpa using h), fun h => hF.out.f3 (by simpa using h), fun h => hF.out.f4 (by simpa using h), fun h => hF.out.f5 (by simpa using h), fun h => hF.out.f6 (by simpa using h), fun h => hF.out.f7 (by simpa using h), fun h => hF.out.f8 (by simpa using h), fun h => hF.out.f9 (by simpa using h), fun h => hF.out.f10 (by simpa using h), fun _ => rfl, fun h => hF.out.f12 (by simpa using h), fun h => hF.out.f13 (by simpa using h), fun h => hF.out.f14 (by simpa using h), fun h => hF.out.f15 (by simpa using h), fun h => hF.out.f16 (by simpa using h), fun h => hF.out.f17 (by simpa using h), fun h => hF.out.f18 (by simpa using h), fun h => hF.out.f19 (by simpa using h), fun h => by have := hF.out.p7 (by simpa using h); simpa using this, fun h => by have := hF.out.p16 (by simpa using h); simpa using this, fun h => by have := hF.out.q19 (by simpa using h); simpa using this, hF.out.kf, fun h => hF.out.tn (by simpa using h), fun h h2 => hF.out.bs (by simpa using h) (by simpa using h2), fun h h2 => hF.out.th (by simpa using h) (by simpa using h2), fun h => hF.out.ng (by simpa using h), fun h => hF.out.fin (by simpa using h)⟩
                  · intro d a W hI hd hdep
                    obtain ⟨gb, gr, cr, x71, x72, x73, x74, x75, x76, x77, x78, x79, x80, x81, x82, x83, x84, x85, x86, x87, x88, x89, rfl, hF⟩ := hI
                    have hd9 : d 9 = true := dep_of hdep 9 (by kernel_rfl)
                    have hd10 : d 10 = true := dep_of hdep 10 (by kernel_rfl)
                    obtain rfl := hF.out.f9 hd9
                    obtain rfl := hF.out.f10 hd10
                    clear hdep hd hd9 hd10
                    intro K hK
                    simp only [Act.put, List.setIfInBounds_toArray, List.set_cons_zero, List.set_cons_succ]
                    go_simp
                    refine hK.out _ _ ⟨gb, gr, cr, x71, x72, x73, x74, x75, x76, x77, x78, x79, (.slice (some ⟨rb, ro, none⟩) n rc), (.int .i64 (i : Int)), x82, (.pointer (some ⟨rb, ro + i * 256, none⟩)), x84, x85, x86, x87, x88, x89, by simp only [Act.put, List.setIfInBounds_toArray, List.set_cons_zero, List.set_cons_succ], ?_⟩
                    exact ⟨fun h => hF.out.f0 (by simpa using h), fun h => hF.out.f1 (by simpa using h), fun h => hF.out.f2 (by simpa using h), fun h => hF.out.f3 (by simpa using h), fun h => hF.out.f4 (by simpa using h), fun h => hF.out.f5 (by simpa using h), fun h => hF.out.f6 (by simpa using h), fun h => hF.out.f7 (by simpa using h), fun h => hF.out.f8 (by simpa using h), fun h => hF.out.f9 (by simpa using h), fun h => hF.out.f10 (by simpa using h), fun h => hF.out.f11 (by simpa using h), fun _ => rfl, fun h => hF.out.f13 (by simpa using h), fun h => hF.out.f14 (by simpa using h), fun h => hF.out.f15 (by simpa using h), fun h => hF.out.f16 (by simpa using h), fun h => hF.out.f17 (by simpa using h), fun h => hF.out.f18 (by simpa using h), fun h => hF.out.f19 (by simpa using h), fun h => by have := hF.out.p7 (by simpa using h); simpa using this, fun h => by have := hF.out.p16 (by simpa using h); simpa using this, fun h => by have := hF.out.q19 (by simpa using h); simpa using this, hF.out.kf, fun h => hF.out.tn (by simpa using h), fun h h2 => hF.out.bs (by simpa using h) (by simpa using h2), fun h h2 => hF.out.th (by simpa using h) (by simpa using h2), fun h => hF.out.ng (by simpa using h), fun h => hF.out.fin (by simpa using h)⟩
                  · intro d a W hI hd hdep
                    obtain ⟨gb, gr, cr, x71, x72, x73, x74, x75, x76, x77, x78, x79, x80, x81, x82, x83, x84, x85, x86, x87, x88, x89, rfl, hF⟩ := hI
                    have hd12 : d 12 = true := dep_of hdep 12 (by kernel_rfl)
                    have hd11 : d 11 = true := dep_of hdep 11 (by kernel_rfl)
                    obtain rfl := hF.out.f12 hd12
                    obtain rfl := hF.out.f11 hd11
                    clear hdep hd hd12 hd11
                    intro K hK
                    simp only [Act.put, List.setIfInBounds_toArray, List.set_cons_zero, List.set_cons_succ]
                    go_simp
                    refine hK.out _ _ ⟨gb, gr, cr, x71, x72, x73, x74, x75, x76, x77, x78, x79, x80, x81, (.int .i64 (b : Int)), (.pointer (some ⟨rb, ro + i * 256, none⟩)), (.pointer (some ⟨rb, ro + i * 256 + b, none⟩)), x85, x86, x87, x88, x89, by simp only [Act.put, List.setIfInBounds_toArray, List.set_cons_zero, List.set_cons_succ], ?_⟩
                    exact ⟨fun h => hF.out.f0 (by simpa using h), fun h => hF.out.f1 (by simpa using h), fun h => hF.out.f2 (by simpa using h), fun h => hF.out.f3 (by simpa using h), fun h => hF.out.f4 (by simpa using h), fun h => hF.out.f5 (by simpa using h), fun h => hF.out.f6 (by simpa using h), fun h => hF.out.f7 (by simpa using h), fun h => hF.out.f8 (by simpa using h), fun h => hF.out.f9 (by simpa using h), fun h => hF.out.f10 (by simpa using h), fun h => hF.out.f11 (by simpa using h), fun h => hF.out.f12 (by simpa using h), fun _ => rfl, fun h => hF.out.f14 (by simpa using h), fun h => hF.out.f15 (by simpa using h), fun h => hF.out.f16 (by simpa using h), fun h => hF.out.f17 (by simpa using h), fun h => hF.out.f18 (by simpa using h), fun h => hF.out.f19 (by simpa using h), fun h => by have := hF.out.p7 (by simpa using h); simpa using this, fun h => by have := hF.out.p16 (by simpa using h); simpa using this, fun h => by have := hF.out.q19 (by simpa using h); simpa using this, hF.out.kf, fun h => hF.out.tn (by simpa using h), fun h h2 => hF.out.bs (by simpa using h) (by simpa using h2), fun h h2 => hF.out.th (by simpa using h) (by simpa using h2), fun h => hF.out.ng (by simpa using h), fun h => hF.out.fin (by simpa using h)⟩
                  · intro d a W hI hd hdep
                    obtain ⟨gb, gr, cr, x71, x72, x73, x74, x75, x76, x77, x78, x79, x80, x81, x82, x83, x84, x85, x86, x87, x88, x89, rfl, hF⟩ := hI
                    have hd13 : d 13 = true := dep_of hdep 13 (by kernel_rfl)
                    obtain rfl := hF.out.f13 hd13
                    have ya := (hF.out.kf.below.cell (p := ⟨rb, ro + i * 256 + b, none⟩) HCB.out.2).trans HCB.out.1
                    clear hdep hd hd13
                    intro K hK
                    simp only [Act.put, List.setIfInBounds_toArray, List.set_cons_zero, List.set_cons_succ]
                    go_simp
                    refine hK.out _ _ ⟨gb, gr, cr, x71, x72, x73, x74, x75, x76, x77, x78, x79, x80, x81, x82, x83, (.pointer (some ⟨rb, ro + i * 256 + b, none⟩)), (.int .i16 z), x86, x87, x88, x89, by simp only [Act.put, List.setIfInBounds_toArray, List.set_cons_zero, List.set_cons_succ], ?_⟩
                    exact ⟨fun h => hF.out.f0 (by simpa using h), fun h => hF.out.f1 (by simpa using h), fun h => hF.out.f2 (by simpa using h), fun h => hF.out.f3 (by simpa using h), fun h => hF.out.f4 (by simpa using h), fun h => hF.out.f5 (by simpa using h), fun h => hF.out.f6 (by simpa using h), fun h => hF.out.f7 (by simpa using h), fun h => hF.out.f8 (by simpa using h), fun h => hF.out.f9 (by simpa using h), fun h => hF.out.f10 (by simpa using h), fun h => hF.out.f11 (by simpa using h), fun h => hF.out.f12 (by simpa using h), fun h => hF.out.f13 (by simpa using h), fun _ => rfl, fun h => hF.out.f15 (by simpa using h), fun h => hF.out.f16 (by simpa using h), fun h => hF.out.f17 (by simpa using h), fun h => hF.out.f18 (by simpa using h), fun h => hF.out.f19 (by simpa using h), fun h => by have := hF.out.p7 (by simpa using h); simpa using this, fun h => by have := hF.out.p16 (by simpa using h); simpa using this, fun h => by have := hF.out.q19 (by simpa using h); simpa using this, hF.out.kf, fun h => hF.out.tn (by simpa using h), fun h h2 => hF.out.bs (by simpa using h) (by simpa using h2), fun h h2 => hF.out.th (by simpa using h) (by simpa using h2), fun h => hF.out.ng (by simpa using h), fun h => hF.out.fin (by simpa using h)⟩
                  · intro d a W hI hd hdep
                    obtain ⟨gb, gr, cr, x71, x72, x73, x74, x75, x76, x77, x78, x79, x80, x81, x82, x83, x84, x85, x86, x87, x88, x89, rfl, hF⟩ := hI
                    have hd14 : d 14 = true := dep_of hdep 14 (by kernel_rfl)
                    obtain rfl := hF.out.f14 hd14
                    have hwr := HWR.out
                    clear hdep hd hd14
                    intro K hK
                    simp only [Act.put, List.setIfInBounds_toArray, List.set_cons_zero, List.set_cons_succ]
                    go_simp
                    refine hK.out _ _ ⟨gb, gr, cr, x71, x72, x73, x74, x75, x76, x77, x78, x79, x80, x81, x82, x83, x84, (.int .i16 z), (.int .i64 z), x87, x88, x89, by simp only [Act.put, List.setIfInBounds_toArray, List.set_cons_zero, List.set_cons_succ], ?_⟩
                    exact ⟨fun h => hF.out.f0 (by simpa using h), fun h => hF.out.f1 (by simpa using h), fun h => hF.out.f2 (by simpa using h), fun h => hF.out.f3 (by simpa using h), fun h => hF.out.f4 (by simpa using h), fun h => hF.out.f5 (by simpa using h), fun h => hF.out.f6 (by simpa using h), fun h => hF.out.f7 (by simpa using h), fun h => hF.out.f8 (by simpa using h), fun h => hF.out.f9 (by simpa using h), fun h => hF.out.f10 (by simpa using h), fun h => hF.out.f11 (by simpa using h), fun h => hF.out.f12 (by simpa using h), fun h => hF.out.f13 (by simpa using h), fun h => hF.out.f14 (by simpa using h), fun _ => rfl, fun h => hF.out.f16 (by simpa using h), fun h => hF.out.f17 (by simpa using h), fun h => hF.out.f18 (by simpa using h), fun h => hF.out.f19 (by simpa using h), fun h => by have := hF.out.p7 (by simpa using h); simpa using this, fun h => by have := hF.out.p16 (by simpa using h); simpa using this, fun h => by have := hF.out.q19 (by simpa using h); simpa using this, hF.out.kf, fun h => hF.out.tn (by simpa using h), fun h h2 => hF.out.bs (by simpa using h) (by simpa using h2), fun h h2 => hF.out.th (by simpa using h) (by simpa using h2), fun h => hF.out.ng (by simpa using h), fun h => hF.out.fin (by simpa using h)⟩
                  · intro d a W hI hd hdep
                    obtain ⟨gb, gr, cr, x71, x72, x73, x74, x75, x76, x77, x78, x79, x80, x81, x82, x83, x84, x85, x86, x87, x88, x89, rfl, hF⟩ := hI
                    have hd15 : d 15 = true := dep_of hdep 15 (by kernel_rfl)
                    obtain rfl := hF.out.f15 hd15
                    have HN17 : Hid (d 17 = false) := no_later hF.out.p16 hd
                    have htn := hF.out.tn HN17.out
                    clear hdep hd hd15
                    intro K hK
                    simp only [Act.put, List.setIfInBounds_toArray, List.set_cons_zero, List.set_cons_succ]
                    go_simp
                    refine hK.out _ _ ⟨W.heap.size, gr, cr, x71, x72, x73, x74, x75, x76, x77, x78, x79, x80, x81, x82, x83, x84, x85, (.int .i64 z), (.slice (some ⟨W.heap.size, 0, none⟩) 1 1), x88, x89, by simp only [Act.put, List.setIfInBounds_toArray, List.set_cons_zero, List.set_cons_succ], ?_⟩
                    have B1 := (Below.refl W.heap.size W).alloc (Nat.le_refl _) (Obj.cells #[Value.int .i64 z] 3)
                    exact ⟨fun h => hF.out.f0 (by simpa using h), fun h => hF.out.f1 (by simpa using h), fun h => hF.out.f2 (by simpa using h), fun h => hF.out.f3 (by simpa using h), fun h => hF.out.f4 (by simpa using h), fun h => hF.out.f5 (by simpa using h), fun h => hF.out.f6 (by simpa using h), fun h => hF.out.f7 (by simpa using h), fun h => hF.out.f8 (by simpa using h), fun h => hF.out.f9 (by simpa using h), fun h => hF.out.f10 (by simpa using h), fun h => hF.out.f11 (by simpa using h), fun h => hF.out.f12 (by simpa using h), fun h => hF.out.f13 (by simpa using h), fun h => hF.out.f14 (by simpa using h), fun h => hF.out.f15 (by simpa using h), fun _ => rfl, fun h => hF.out.f17 (by simpa using h), fun h => hF.out.f18 (by simpa using h), fun h => hF.out.f19 (by simpa using h), fun h => by have := hF.out.p7 (by simpa using h); simpa using this, fun _ => by simp, fun h => by have := hF.out.q19 (by simpa using h); simpa using this, hF.out.kf.next B1, fun _ => htn.next B1, fun _ _ j u hj => by rw [cell_of_one3]; exact hj, fun h => by have := HN17.out; simp [this] at h, fun h => by have := HN17.out; simp [this] at h, fun h => by have : d 19 = false := no_later hF.out.q19 HN17.out; simp [this] at h⟩
                  · intro d a W hI hd hdep
                    obtain ⟨gb, gr, cr, x71, x72, x73, x74, x75, x76, x77, x78, x79, x80, x81, x82, x83, x84, x85, x86, x87, x88, x89, rfl, hF⟩ := hI
                    have hd7 : d 7 = true := dep_of hdep 7 (by kernel_rfl)
                    have hd16 : d 16 = true := dep_of hdep 16 (by kernel_rfl)
                    obtain rfl := hF.out.f7 hd7
                    obtain rfl := hF.out.f16 hd16
                    have htn := hF.out.tn hd
                    have HN19 : Hid (d 19 = false) := no_later hF.out.q19 hd
                    have e17_7 := hd7
                    have e17_16 := hd16
                    have hbk := hF.out.bs hd16 hd
                    have hm := run_append_lies (P := Try.prog) W 23 23 B 3 i3 _ 1 8 Try.underlying23 H3.out.1 H3.out.2.1 H3.out.2.2.1 H3.out.2.2.2 rfl (by omega) (V2 i) (C i) (tl (C i) (X i)) (htn.own i HIL.out) ⟨gb, 0, none⟩ 1 1 [.int .i64 z] rfl (fun j u hj => by rw [Addr.add_lit, Nat.zero_add]; exact hbk j u hj) (by intro u hu; simp at hu; subst hu; rfl) (by omega) (by unfold maxLen; have := HCI.out; omega) (by have := HCI.out; omega) htn.size W.heap.size rfl
                    have hmm := hm.choose_spec.choose_spec.choose_spec
                    generalize hm.choose_spec.choose_spec.choose = W1x at hmm
                    generalize hm.choose_spec.choose = cr1 at hmm
                    generalize hm.choose = gr1 at hmm
                    have hrun := hmm.1
                    have HM : Hid (Th B gN n i C X V2 gr1 cr1 W1x ∧ W.grownBy W1x (V2 i).ownBlock) := ⟨htn.grow HIL.out hmm.2.2.1 (by rw [tl_succ, HXK.out]; exact hmm.2.1) hmm.2.2.2.1, hmm.2.2.1⟩
                    have HOB : Hid (∀ k, (V2 i).ownBlock = some k → B ≤ k) := fun k hk => ((htn.own i HIL.out).lt k hk).1
                    have HNG : Hid (((.slice (some ⟨gq, 0, none⟩) (t + 1) cq) : Value).ownBlock ≠ some gr1) := by
                      rcases hmm.2.2.2.1 with h | h
                      · exact HNF.out i HIL.out gr1 h
                      · intro e
                        have := (hF.out.kf.ff.lt gr1 e).2
                        omega
                    clear hmm hm hbk htn
                    clear hdep hd hd7 hd16
                    intro K hK
                    refine step_call_append (sv := V2 i) (xv := .slice (some ⟨gb, 0, none⟩) 1 1) (v := .slice (some ⟨gr1, 0, none⟩) (C i + 1) cr1) (W1 := W1x) (by rfl) _ _ 23 (by rfl) (by simp only [Act.put, List.setIfInBounds_toArray, List.set_cons_zero, List.set_cons_succ]; rfl) (by simp only [Act.put, List.setIfInBounds_toArray, List.set_cons_zero, List.set_cons_succ]; rfl) (by exact hrun) ?_
                    simp only [Act.put, List.setIfInBounds_toArray, List.set_cons_zero, List.set_cons_succ]
                    refine hK.out _ _ ⟨gb, gr1, cr1, x71, x72, x73, x74, x75, x76, x77, (V2 i), x79, x80, x81, x82, x83, x84, x85, x86, (.slice (some ⟨gb, 0, none⟩) 1 1), (.slice (some ⟨gr1, 0, none⟩) (C i + 1) cr1), x89, by simp only [Act.put, List.setIfInBounds_toArray, List.set_cons_zero, List.set_cons_succ], ?_⟩
                    exact ⟨fun h => hF.out.f0 (by simpa using h), fun h => hF.out.f1 (by simpa using h), fun h => hF.out.f2 (by simpa using h), fun h => hF.out.f3 (by simpa using h), fun h => hF.out.f4 (by simpa using h), fun h => hF.out.f5 (by simpa using h), fun h => hF.out.f6 (by simpa using h), fun h => hF.out.f7 (by simpa using h), fun h => hF.out.f8 (by simpa using h), fun h => hF.out.f9 (by simpa using h), fun h => hF.out.f10 (by simpa using h), fun h => hF.out.f11 (by simpa using h), fun h => hF.out.f12 (by simpa using h), fun h => hF.out.f13 (by simpa using h), fun h => hF.out.f14 (by simpa using h), fun h => hF.out.f15 (by simpa using h), fun h => hF.out.f16 (by simpa using h), fun _ => rfl, fun h => hF.out.f18 (by simpa using h), fun h => hF.out.f19 (by simpa using h), fun _ => by simpa using e17_7, fun _ => by simpa using e17_16, fun _ => by simp, hF.out.kf.grown (by have := HGO.out; omega) HGO.out.2.2.2.2 HM.out.2 HOB.out (fun k hk => HNF.out i HIL.out k hk), fun h => by simp at h, fun _ h => by simp at h, fun _ _ => HM.out.1, fun _ => HNG.out, fun h => by have := HN19.out; simp [this] at h⟩
                  · intro d a W hI hd hdep
                    obtain ⟨gb, gr, cr, x71, x72, x73, x74, x75, x76, x77, x78, x79, x80, x81, x82, x83, x84, x85, x86, x87, x88, x89, rfl, hF⟩ := hI
                    have hd1 : d 1 = true := dep_of hdep 1 (by kernel_rfl)
                    have hd2 : d 2 = true := dep_of hdep 2 (by kernel_rfl)
                    obtain rfl := hF.out.f1 hd1
                    obtain rfl := hF.out.f2 hd2
                    clear hdep hd hd1 hd2
                    intro K hK
                    simp only [Act.put, List.setIfInBounds_toArray, List.set_cons_zero, List.set_cons_succ]
                    go_simp
                    refine hK.out _ _ ⟨gb, gr, cr, x71, (.slice (some ⟨gN, 0, none⟩) n n), (.int .i64 (i : Int)), x74, x75, x76, x77, x78, x79, x80, x81, x82, x83, x84, x85, x86, x87, x88, (.pointer (some ⟨gN, i, none⟩)), by simp only [Act.put, List.setIfInBounds_toArray, List.set_cons_zero, List.set_cons_succ], ?_⟩
                    exact ⟨fun h => hF.out.f0 (by simpa using h), fun h => hF.out.f1 (by simpa using h), fun h => hF.out.f2 (by simpa using h), fun h => hF.out.f3 (by simpa using h), fun h => hF.out.f4 (by simpa using h), fun h => hF.out.f5 (by simpa using h), fun h => hF.out.f6 (by simpa using h), fun h => hF.out.f7 (by simpa using h), fun h => hF.out.f8 (by simpa using h), fun h => hF.out.f9 (by simpa using h), fun h => hF.out.f10 (by simpa using h), fun h => hF.out.f11 (by simpa using h), fun h => hF.out.f12 (by simpa using h), fun h => hF.out.f13 (by simpa using h), fun h => hF.out.f14 (by simpa using h), fun h => hF.out.f15 (by simpa using h), fun h => hF.out.f16 (by simpa using h), fun h => hF.out.f17 (by simpa using h), fun _ => rfl, fun h => hF.out.f19 (by simpa using h), fun h => by have := hF.out.p7 (by simpa using h); simpa using this, fun h => by have := hF.out.p16 (by simpa using h); simpa using this, fun h => by have := hF.out.q19 (by simpa using h); simpa using this, hF.out.kf, fun h => hF.out.tn (by simpa using h), fun h h2 => hF.out.bs (by simpa using h) (by simpa using h2), fun h h2 => hF.out.th (by simpa using h) (by simpa using h2), fun h => hF.out.ng (by simpa using h), fun h => hF.out.fin (by simpa using h)⟩
                  · intro d a W hI hd hdep
                    obtain ⟨gb, gr, cr, x71, x72, x73, x74, x75, x76, x77, x78, x79, x80, x81, x82, x83, x84, x85, x86, x87, x88, x89, rfl, hF⟩ := hI
                    have hd18 : d 18 = true := dep_of hdep 18 (by kernel_rfl)
                    have hd17 : d 17 = true := dep_of hdep 17 (by kernel_rfl)
                    obtain rfl := hF.out.f18 hd18
                    obtain rfl := hF.out.f17 hd17
                    have g17 := hd17
                    have hth := hF.out.th hd17 hd
                    have HTH : Hid (Th B gN n i C X V2 gr cr W) := hth
                    have ya := hth.top.cell HIL.out
                    have yb := hth.top.frozen i
                    clear hth
                    clear hdep hd hd18 hd17
                    intro K hK
                    simp only [Act.put, List.setIfInBounds_toArray, List.set_cons_zero, List.set_cons_succ]
                    go_simp
                    refine hK.out _ _ ⟨gb, gr, cr, x71, x72, x73, x74, x75, x76, x77, x78, x79, x80, x81, x82, x83, x84, x85, x86, x87, (.slice (some ⟨gr, 0, none⟩) (C i + 1) cr), (.pointer (some ⟨gN, i, none⟩)), by simp only [Act.put, List.setIfInBounds_toArray, List.set_cons_zero, List.set_cons_succ], ?_⟩
                    exact ⟨fun h => hF.out.f0 (by simpa using h), fun h => hF.out.f1 (by simpa using h), fun h => hF.out.f2 (by simpa using h), fun h => hF.out.f3 (by simpa using h), fun h => hF.out.f4 (by simpa using h), fun h => hF.out.f5 (by simpa using h), fun h => hF.out.f6 (by simpa using h), fun h => hF.out.f7 (by simpa using h), fun h => hF.out.f8 (by simpa using h), fun h => hF.out.f9 (by simpa using h), fun h => hF.out.f10 (by simpa using h), fun h => hF.out.f11 (by simpa using h), fun h => hF.out.f12 (by simpa using h), fun h => hF.out.f13 (by simpa using h), fun h => hF.out.f14 (by simpa using h), fun h => hF.out.f15 (by simpa using h), fun h => hF.out.f16 (by simpa using h), fun h => hF.out.f17 (by simpa using h), fun h => hF.out.f18 (by simpa using h), fun _ => trivial, fun h => by have := hF.out.p7 (by simpa using h); simpa using this, fun h => by have := hF.out.p16 (by simpa using h); simpa using this, fun _ => by simpa using g17, hF.out.kf.set HGO.out.1 HGO.out.2.2.1 HGO.out.2.2.2.1 _ _, fun h => by have := g17; simp [this] at h, fun _ h => by have := g17; simp [this] at h, fun _ h => by simp at h, fun h => hF.out.ng (by simpa using h), fun _ => HTH.out.put HIL.out⟩
                · intro d a W hI hall
                  obtain ⟨gb, gr, cr, x71, x72, x73, x74, x75, x76, x77, x78, x79, x80, x81, x82, x83, x84, x85, x86, x87, x88, x89, rfl, hF⟩ := hI
                  simp only [List.length_cons, List.length_nil] at hall
                  obtain rfl := hF.out.f0 (hall 0 (by omega))
                  obtain rfl := hF.out.f1 (hall 1 (by omega))
                  obtain rfl := hF.out.f2 (hall 2 (by omega))
                  obtain rfl := hF.out.f3 (hall 3 (by omega))
                  obtain rfl := hF.out.f4 (hall 4 (by omega))
                  obtain rfl := hF.out.f5 (hall 5 (by omega))
                  obtain rfl := hF.out.f6 (hall 6 (by omega))
                  obtain rfl := hF.out.f7 (hall 7 (by omega))
                  obtain rfl := hF.out.f8 (hall 8 (by omega))
                  obtain rfl := hF.out.f9 (hall 9 (by omega))
                  obtain rfl := hF.out.f10 (hall 10 (by omega))
                  obtain rfl := hF.out.f11 (hall 11 (by omega))
                  obtain rfl := hF.out.f12 (hall 12 (by omega))
                  obtain rfl := hF.out.f13 (hall 13 (by omega))
                  obtain rfl := hF.out.f14 (hall 14 (by omega))
                  obtain rfl := hF.out.f15 (hall 15 (by omega))
                  obtain rfl := hF.out.f16 (hall 16 (by omega))
                  obtain rfl := hF.out.f17 (hall 17 (by omega))
                  obtain rfl := hF.out.f18 (hall 18 (by omega))
                  have HR : Hid (Tn B gN n (fun j => if j = i then C i + 1 else C j) X (fun j => if j = i then (.slice (some ⟨gr, 0, none⟩) (C i + 1) cr) else V2 j) W ∧ Kf w n R (.slice (some ⟨rb, ro, none⟩) n rc) (.slice ta n tc) gN gp B b gs (.slice (some ⟨gq, 0, none⟩) (t + 1) cq) W ∧ ((.slice (some ⟨gq, 0, none⟩) (t + 1) cq) : Value).ownBlock ≠ some gr) := ⟨hF.out.fin (hall 19 (by omega)), hF.out.kf, hF.out.ng (hall 17 (by omega))⟩
                  clear hF hall
                  simp only [Act.put, List.setIfInBounds_toArray, List.set_cons_zero, List.set_cons_succ]
                  go_wp2_with fail
                  go_roundw
                  case rel =>
                    have hfin : ∃ V, Tn B gN n (fun j => if j < i + 1 then t + 1 else t) (fun i u => R i (gs.getD u 0)) V W ∧ (∀ j, j < n → ∀ q, (V j).ownBlock = some q → (Value.slice (some ⟨gq, 0, none⟩) (t + 1) cq).ownBlock ≠ some q) ∧ Kf w n R (.slice (some ⟨rb, ro, none⟩) n rc) (.slice ta n tc) gN gp B b gs (.slice (some ⟨gq, 0, none⟩) (t + 1) cq) W := by
                      refine ⟨fun j => if j = i then (.slice (some ⟨gr, 0, none⟩) (C i + 1) cr) else V2 j, ?_, fun j hj q => ?_, HR.out.2.1⟩
                      · rw [HXE.out]
                        refine HR.out.1.congrC fun j hj => ?_
                        rw [HCK.out]
                        by_cases e : j = i
                        · subst e; simp
                        · have hcj : C j = if j < i then t + 1 else t := by rw [← HCE.out]
                          by_cases e2 : j < i
                          · simp [e, hcj, e2, show j < i + 1 by omega]
                          · simp [e, hcj, e2, show ¬ j < i + 1 by omega]
                      · by_cases e : j = i
                        · subst e
                          simp only [if_true]
                          intro hq
                          simp [Value.ownBlock] at hq
                          subst hq
                          exact HR.out.2.2
                        · simp only [e, if_false]
                          exact HNF.out j hj q
                    exact ⟨i + 1, by omega, by go_num, hfin⟩
                  case measure => simp [intOf]; omega
              · have hin1 : ¬ (i : Int) < (n : Int) := by omega
                have HPN : Hid (PQ w n R (.slice (some ⟨rb, ro, none⟩) n rc) (.slice ta n tc) gN gp B b gs V2 (.slice (some ⟨gq, 0, none⟩) (t + 1) cq) wr) := by
                  have hgl : gs.length = t + 1 := by rw [← HGS.out, List.length_append, HFL.out]; rfl
                  refine ⟨hkf.below, hkf.c0, hkf.c1, hkf.rs, hkf.pb, ?_, hkf.ff, hnf⟩
                  rw [hgl]
                  exact htn.congrC fun j hj => by rw [if_pos (by omega)]
                clear htn hnf hkf HE HKF HNF
                have hwr : (t : Int) % 256 = (t : Int) := by omega
                have y1 := HPN.out.pb.frozen b
                obtain ⟨yw, y0⟩ : ∃ v, wr.cell? ⟨gp, b, none⟩ = some v := ⟨_, HPN.out.pb.cell (i := b) (by omega)⟩
                go_wp2_with fail
                go_roundw
                case rel =>
                  refine ⟨b + 1, by omega, by go_num, V2, ?_⟩
                  have e : fsts n R (b + 1) = gs := by
                    show (if _ then _ else _) = _
                    rw [if_pos (by rw [HIX.out, HFS.out, HFL.out]), HFS.out, HGS.out]
                  have g := HGO.out
                  have h2 := HPN.out.of g.2.1 g.2.2.1 g.2.2.2.2 hlt
                  rw [HIX.out] at h2
                  rw [e]
                  exact h2
                case measure => simp [intOf]; omega
      · obtain rfl : b = 256 := by omega
        obtain ⟨l, HL⟩ : ∃ q, Hid (pl (ofb n R 256) (.slice (some ⟨gN, 0, none⟩) n n) (.slice ta n tc) = q) := ⟨_, (rfl : _ = _)⟩
        have HLL : Hid (l.length = 258) := by show _ = _; rw [← HL.out]; exact pl_length _ _ _
        have HRG : Hid (W0.rangeAt gp 0 l) := fun j v hv => by
          have hj : j < 258 := by have := (List.getElem?_eq_some_iff.1 hv).1; have := HLL.out; omega
          rw [← HL.out, pf_at _ _ _ j hj] at hv
          rw [Nat.zero_add, HP.out.pb.cell hj]; exact hv
        have HL1 : Hid (l.toArray.all (·.oneCell') = true) := by show _ = _; rw [← HL.out]; exact pl_one _ _ _ _ _ _ _
        have HSZ : Hid (l.toArray.size = 258) := by show _ = _; rw [List.size_toArray]; exact HLL.out
        have HTH : Hid (W0.there (w.heap.size + 1) 0 l.toArray.size) := by rw [HSZ.out]; exact there_row HP.out.rs
        have HI9 : Hid ((Try.prog.info? 29).map (·.size) = some l.toArray.size) := by rw [HSZ.out]; exact size29
        go_wp2_with (first | refine wpList_load_mid rfl 29 _ rfl gp 0 rfl l _ HRG.out Try.underlying29 rfl (by rw [HLL.out]; exact size29) ?_ | refine wpList_store_mid rfl 29 _ _ rfl (w.heap.size + 1) 0 l.toArray rfl rfl HTH.out HI9.out HL1.out ?_)
        have hoth : ∀ k, k ≠ w.heap.size + 1 → (W0.setCells (w.heap.size + 1) 0 l.toArray.toList).heap[k]? = W0.heap[k]? := fun k hk => heap_setCells_ne _ _ _ _ _ hk
        have hsz9 : (W0.setCells (w.heap.size + 1) 0 l.toArray.toList).heap.size = W0.heap.size := size_setCells _ _ _ _
        have g := HGO.out
        have hTN : Tn B gN n (fun _ => (fsts n R 256).length) (fun i t => R i ((fsts n R 256).getD t 0)) V (W0.setCells (w.heap.size + 1) 0 l.toArray.toList) := by
          rw [HFS.out]
          exact ⟨HP.out.tn.top.of_block (hoth _ (by have := g.1; omega)), fun i hi => own_same (HP.out.tn.own i hi) fun k hk => hoth k (by have := ((HP.out.tn.own i hi).lt k hk).1; have := g.1; have := g.2.2.2.1; omega), HP.out.tn.ne, HP.out.tn.lt, by rw [hsz9]; exact HP.out.tn.size⟩
        have hBL : Below w.heap.size w (W0.setCells (w.heap.size + 1) 0 l.toArray.toList) := setCells_below _ (by omega) _ _ _ HP.out.below
        refine bodyPost_ret (v := .agg l.toArray) ?_ rfl ?_
        · exact results_cell_mid Try.results8 _ _ (w.heap.size + 1) l _ rfl (World.rangeAt_setCells_same _ _ _ _ (by rw [HLL.out]; exact there_row HP.out.rs)) Try.underlying29 rfl (by rw [HLL.out]; exact size29)
        · exact ⟨(.slice (some ⟨gN, 0, none⟩) n n), by rw [← HL.out, pl_congr _ _ (fun j hj => by rw [ofb, if_pos hj])], hTN.nx HN0.out.2 (fun i j => HRR.out _ _) (fun _ => fsts_length n R 256), HTS.out.below hBL (Nat.le_refl _), hBL⟩

end Go.Proofs.Ytkogbokelaanjaa
