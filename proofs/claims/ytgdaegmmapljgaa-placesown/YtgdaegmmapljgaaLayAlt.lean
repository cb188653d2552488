/-
  plan.layRex at an alternation.
-/
import Derived.Test.YtgdaegmmapljgaaLayRex
namespace Go.Proofs.Ytgdaegmmapljgaa
open Go.RowKit
open Cls Rex
/-- What the region of an alternation keeps, whichever of its operations are done. -/
structure CA (wr : World) (B pp bx b o cap nx r1v r2v r3v : Nat) (f e : Value) (ps : List St) (x y : E) (k0 k1 : Int) (c0 c1 : Cl) (a0 a1 : Option Addr) (n0 p0 n1 p1 nb : Nat) (d : Nat → Bool) (x6 x40 x41 x42 x43 x44 x45 x46 x47 x48 x49 x50 x51 x52 x53 x54 x55 x56 x57 : Value) (W : World) : Prop where
  f0 : d 0 = true → x40 = (.pointer (some ⟨pp, 0, none⟩))
  f1 : d 1 = true → x41 = (.pointer (some ⟨pp, 0, none⟩))
  f2 : d 2 = true → x42 = (.pointer (some ⟨bx, 5, none⟩))
  f3 : d 3 = true → x43 = (.slice (some ⟨b, o, none⟩) 2 cap)
  f4 : d 4 = true → x44 = (.pointer (some ⟨b, o, none⟩))
  f5 : d 5 = true → x45 = (.agg #[.int .i64 k0, .int .u64 (c0.1.toNat : Int), .int .u64 (c0.2.1.toNat : Int), .int .u64 (c0.2.2.1.toNat : Int), .int .u64 (c0.2.2.2.toNat : Int), .slice a0 n0 p0])
  f6 : d 6 = true → x46 = (.int .i64 (nx : Int))
  f7 : d 7 = true → x47 = (.int .i64 (r1v : Int))
  f8 : d 8 = true → x48 = (.pointer (some ⟨pp, 0, none⟩))
  f9 : d 9 = true → x49 = (.pointer (some ⟨bx, 5, none⟩))
  f10 : d 10 = true → x50 = (.slice (some ⟨b, o, none⟩) 2 cap)
  f11 : d 11 = true → x51 = (.pointer (some ⟨b, o + 6, none⟩))
  f12 : d 12 = true → x52 = (.agg #[.int .i64 k1, .int .u64 (c1.1.toNat : Int), .int .u64 (c1.2.1.toNat : Int), .int .u64 (c1.2.2.1.toNat : Int), .int .u64 (c1.2.2.2.toNat : Int), .slice a1 n1 p1])
  f13 : d 13 = true → x53 = (.int .i64 (nx : Int))
  f14 : d 14 = true → x54 = (.int .i64 (r2v : Int))
  f15 : d 15 = true → x55 = (.slice (some ⟨nb, 0, none⟩) 2 2)
  f16 : d 16 = true → x56 = (.agg #[.int .u64 0, .int .u64 0, .int .u64 0, .int .u64 0, .slice (some ⟨nb, 0, none⟩) 2 2])
  f17 : d 17 = true → x57 = (.int .i64 (r3v : Int))
  f18 : d 18 = true → x6 = (.int .i64 (r3v : Int))
  below : Below B wr W
  size : wr.heap.size ≤ W.heap.size
  keep : Keep3 wr W
  q0 : d 7 = false → Pl B pp f e ps W
  q1 : d 7 = true → d 14 = false → Pl B pp f e (lay x ps nx).1 W
  q2 : d 14 = true → d 17 = false → Pl B pp f e (lay y (lay x ps nx).1 nx).1 W
  q3 : d 17 = true → Pl B pp f e (lay (.alt x y) ps nx).1 W
  nblk : d 15 = true → d 17 = false → W.heap[nb]? = some (.cells #[.int .i64 (r1v : Int), .int .i64 (r2v : Int)] 3) ∧ B ≤ nb
  g14 : d 14 = true → d 7 = true
  g15 : d 15 = true → d 14 = true
  g16 : d 16 = true → d 15 = true
  g17 : d 17 = true → d 15 = true
set_option maxHeartbeats 4000000 in
set_option maxRecDepth 20000 in
theorem lr_alt {s t : T} {x y : E} (h1 : LR s x) (h2 : LR t y) : LR (.mk 5 empty [s, t]) (.alt x y) := by
  intro v ps nx B pp f e w hx hP hBp hBw hlen
  obtain ⟨b, o, cap, k0, k1, c0, c1, a0, a1, n0, p0, n1, p1, rfl, hbB, r0, r1, hcl⟩ := rxtwo_kids hx
  simp only [E.nodes] at hlen
  obtain ⟨bx, HBX⟩ : ∃ bx, Hid (w.heap.size = bx) := ⟨_, (rfl : w.heap.size = w.heap.size)⟩
  have HR : Hid (Rx w B (.agg #[.int .i64 k0, .int .u64 (c0.1.toNat : Int), .int .u64 (c0.2.1.toNat : Int), .int .u64 (c0.2.2.1.toNat : Int), .int .u64 (c0.2.2.2.toNat : Int), .slice a0 n0 p0]) s ∧ Rx w B (.agg #[.int .i64 k1, .int .u64 (c1.1.toNat : Int), .int .u64 (c1.2.1.toNat : Int), .int .u64 (c1.2.2.1.toNat : Int), .int .u64 (c1.2.2.2.toNat : Int), .slice a1 n1 p1]) t ∧ Pl B pp f e ps w) := ⟨r0, r1, hP⟩
  have hb0 := box_keep w (.cells #[.int .i64 5, .int .u64 0, .int .u64 0, .int .u64 0, .int .u64 0, .slice (some ⟨b, o, none⟩) 2 cap] 44)
  have HZ : Hid ((w.alloc (.cells #[.int .i64 5, .int .u64 0, .int .u64 0, .int .u64 0, .int .u64 0, .slice (some ⟨b, o, none⟩) 2 cap] 44)).heap[bx]? = some (.cells #[.int .i64 5, .int .u64 0, .int .u64 0, .int .u64 0, .int .u64 0, .slice (some ⟨b, o, none⟩) 2 cap] 44)) := by
    show _ = _
    rw [← HBX.out]; exact block_new w _
  generalize hwr : w.alloc (.cells #[.int .i64 5, .int .u64 0, .int .u64 0, .int .u64 0, .int .u64 0, .slice (some ⟨b, o, none⟩) 2 cap] 44) = wr at hb0 HZ
  have HWR : Hid (w.alloc (.cells #[.int .i64 5, .int .u64 0, .int .u64 0, .int .u64 0, .int .u64 0, .slice (some ⟨b, o, none⟩) 2 cap] 44) = wr) := hwr
  clear hwr
  have hS : wr.cell? ⟨bx, 5, none⟩ = some (.slice (some ⟨b, o, none⟩) 2 cap) ∧ wr.cell? ⟨b, o, none⟩ = some (.int .i64 k0) ∧ wr.cell? ⟨b, o + 1, none⟩ = some (.int .u64 (c0.1.toNat : Int)) ∧ wr.cell? ⟨b, o + 2, none⟩ = some (.int .u64 (c0.2.1.toNat : Int)) ∧ wr.cell? ⟨b, o + 3, none⟩ = some (.int .u64 (c0.2.2.1.toNat : Int)) ∧ wr.cell? ⟨b, o + 4, none⟩ = some (.int .u64 (c0.2.2.2.toNat : Int)) ∧ wr.cell? ⟨b, o + 5, none⟩ = some (.slice a0 n0 p0) ∧ wr.cell? ⟨b, o + 6, none⟩ = some (.int .i64 k1) ∧ wr.cell? ⟨b, o + 6 + 1, none⟩ = some (.int .u64 (c1.1.toNat : Int)) ∧ wr.cell? ⟨b, o + 6 + 2, none⟩ = some (.int .u64 (c1.2.1.toNat : Int)) ∧ wr.cell? ⟨b, o + 6 + 3, none⟩ = some (.int .u64 (c1.2.2.1.toNat : Int)) ∧ wr.cell? ⟨b, o + 6 + 4, none⟩ = some (.int .u64 (c1.2.2.2.toNat : Int)) ∧ wr.cell? ⟨b, o + 6 + 5, none⟩ = some (.slice a1 n1 p1) := by
    have hw : ∀ j v, w.cell? ⟨b, j, none⟩ = some v → wr.cell? ⟨b, j, none⟩ = some v := fun j v h => cell_next h hb0
    obtain ⟨x0, x1, x2, x3, x4, x5, y0, y1, y2, y3, y4, y5⟩ := hcl
    exact ⟨by simp [World.cell?, HZ.out], hw _ _ x0, hw _ _ x1, hw _ _ x2, hw _ _ x3, hw _ _ x4, hw _ _ x5, hw _ _ y0, hw _ _ y1, hw _ _ y2, hw _ _ y3, hw _ _ y4, hw _ _ y5⟩
  have HC1 : Hid (∀ W1, Below B wr W1 → Pl B pp f e ps W1 → B ≤ W1.heap.size → Calls Try.prog 63 #[.pointer (some ⟨pp, 0, none⟩), .agg #[.int .i64 k0, .int .u64 (c0.1.toNat : Int), .int .u64 (c0.2.1.toNat : Int), .int .u64 (c0.2.2.1.toNat : Int), .int .u64 (c0.2.2.2.toNat : Int), .slice a0 n0 p0], .int .i64 (nx : Int)] W1 fun e' w' => e' = .returned (.int .i64 ((lay x ps nx).2 : Int)) ∧ Pl B pp f e (lay x ps nx).1 w' ∧ Below B W1 w' ∧ Keep3 W1 w') := fun W1 hb hp hB =>
    h1 _ ps nx B pp f e W1 ((HR.out.1.next (hb0.mono hBw)).next hb) hp hBp hB (by omega)
  have HC2 : Hid (∀ W1, Below B wr W1 → Pl B pp f e (lay x ps nx).1 W1 → B ≤ W1.heap.size → Calls Try.prog 63 #[.pointer (some ⟨pp, 0, none⟩), .agg #[.int .i64 k1, .int .u64 (c1.1.toNat : Int), .int .u64 (c1.2.1.toNat : Int), .int .u64 (c1.2.2.1.toNat : Int), .int .u64 (c1.2.2.2.toNat : Int), .slice a1 n1 p1], .int .i64 (nx : Int)] W1 fun e' w' => e' = .returned (.int .i64 ((lay y (lay x ps nx).1 nx).2 : Int)) ∧ Pl B pp f e (lay y (lay x ps nx).1 nx).1 w' ∧ Below B W1 w' ∧ Keep3 W1 w') := fun W1 hb hp hB =>
    h2 _ _ nx B pp f e W1 ((HR.out.2.1.next (hb0.mono hBw)).next hb) hp hBp hB (by have := (lay_len x ps nx).2; omega)
  obtain ⟨r1v, HV1⟩ : ∃ r : Nat, Hid ((lay x ps nx).2 = r) := ⟨_, (rfl : (lay x ps nx).2 = (lay x ps nx).2)⟩
  obtain ⟨r3v, HV3⟩ : ∃ r : Nat, Hid ((lay y (lay x ps nx).1 nx).1.length = r) := ⟨_, (rfl : (lay y (lay x ps nx).1 nx).1.length = (lay y (lay x ps nx).1 nx).1.length)⟩
  obtain ⟨r2v, HV2⟩ : ∃ r : Nat, Hid ((lay y (lay x ps nx).1 nx).2 = r) := ⟨_, (rfl : (lay y (lay x ps nx).1 nx).2 = (lay y (lay x ps nx).1 nx).2)⟩
  have HC3 : Hid (∀ W1 nb, Pl B pp f e (lay y (lay x ps nx).1 nx).1 W1 → B ≤ W1.heap.size → B ≤ nb → W1.heap[nb]? = some (.cells #[.int .i64 (r1v : Int), .int .i64 (r2v : Int)] 3) → Calls Try.prog 62 #[.pointer (some ⟨pp, 0, none⟩), (.agg #[.int .u64 0, .int .u64 0, .int .u64 0, .int .u64 0, .slice (some ⟨nb, 0, none⟩) 2 2])] W1 fun e' w' => e' = .returned (.int .i64 (r3v : Int)) ∧ Pl B pp f e (lay (.alt x y) ps nx).1 w' ∧ Below B W1 w' ∧ Keep3 W1 w') := fun W1 nb hp hB hnb hz => by
    have h := lay_any B pp f e (lay y (lay x ps nx).1 nx).1 empty (.slice (some ⟨nb, 0, none⟩) 2 2) [r1v, r2v] W1 hp hBp hB (Or.inr ⟨nb, rfl, hnb, hz⟩) (by have := (lay_len x ps nx).2; have := (lay_len y (lay x ps nx).1 nx).2; omega)
    rw [HV3.out] at h
    simp only [lay]
    rw [HV1.out, HV2.out]
    exact h
  rw [HV1.out] at HC1
  rw [HV2.out] at HC2
  have HS : Hid (wr.cell? ⟨bx, 5, none⟩ = some (.slice (some ⟨b, o, none⟩) 2 cap) ∧ wr.cell? ⟨b, o, none⟩ = some (.int .i64 k0) ∧ wr.cell? ⟨b, o + 1, none⟩ = some (.int .u64 (c0.1.toNat : Int)) ∧ wr.cell? ⟨b, o + 2, none⟩ = some (.int .u64 (c0.2.1.toNat : Int)) ∧ wr.cell? ⟨b, o + 3, none⟩ = some (.int .u64 (c0.2.2.1.toNat : Int)) ∧ wr.cell? ⟨b, o + 4, none⟩ = some (.int .u64 (c0.2.2.2.toNat : Int)) ∧ wr.cell? ⟨b, o + 5, none⟩ = some (.slice a0 n0 p0) ∧ wr.cell? ⟨b, o + 6, none⟩ = some (.int .i64 k1) ∧ wr.cell? ⟨b, o + 6 + 1, none⟩ = some (.int .u64 (c1.1.toNat : Int)) ∧ wr.cell? ⟨b, o + 6 + 2, none⟩ = some (.int .u64 (c1.2.1.toNat : Int)) ∧ wr.cell? ⟨b, o + 6 + 3, none⟩ = some (.int .u64 (c1.2.2.1.toNat : Int)) ∧ wr.cell? ⟨b, o + 6 + 4, none⟩ = some (.int .u64 (c1.2.2.2.toNat : Int)) ∧ wr.cell? ⟨b, o + 6 + 5, none⟩ = some (.slice a1 n1 p1)) := hS
  have hBW : B ≤ wr.heap.size := Nat.le_trans hBw hb0.size
  have HP0 : Hid (Pl B pp f e ps wr) := HR.out.2.2.keep hb0
  clear r0 r1 hP hx hcl hS
  go_enter Try.func63, Try.ntmps63
  go_upto_region 9 with fail
  rw [HBX.out, HWR.out]
  go_cut [6] (fun z wx => z = .int .i64 (r3v : Int) ∧ Hid (Below B wr wx ∧ Keep3 wr wx ∧ Pl B pp f e (lay (.alt x y) ps nx).1 wx))
  case first =>
    refine wp_region_inv mixed (fun aa0 d a W => ∃ (nb : Nat) (x6 x40 x41 x42 x43 x44 x45 x46 x47 x48 x49 x50 x51 x52 x53 x54 x55 x56 x57 : Value), a = (((((((((((((((((((aa0.put (some 6) x6).put (some 40) x40).put (some 41) x41).put (some 42) x42).put (some 43) x43).put (some 44) x44).put (some 45) x45).put (some 46) x46).put (some 47) x47).put (some 48) x48).put (some 49) x49).put (some 50) x50).put (some 51) x51).put (some 52) x52).put (some 53) x53).put (some 54) x54).put (some 55) x55).put (some 56) x56).put (some 57) x57) ∧ Hid (CA wr B pp bx b o cap nx r1v r2v r3v f e ps x y k0 k1 c0 c1 a0 a1 n0 p0 n1 p1 nb d x6 x40 x41 x42 x43 x44 x45 x46 x47 x48 x49 x50 x51 x52 x53 x54 x55 x56 x57 W)) (by kernel_rfl) ⟨0, (.int .i64 0), undef, undef, undef, undef, undef, undef, undef, undef, undef, undef, undef, undef, undef, undef, undef, undef, undef, undef, by simp only [Act.put, List.setIfInBounds_toArray, List.set_cons_zero, List.set_cons_succ], ?_⟩ ?_ ?_
    · exact ⟨fun h => rxno_way h, fun h => rxno_way h, fun h => rxno_way h, fun h => rxno_way h, fun h => rxno_way h, fun h => rxno_way h, fun h => rxno_way h, fun h => rxno_way h, fun h => rxno_way h, fun h => rxno_way h, fun h => rxno_way h, fun h => rxno_way h, fun h => rxno_way h, fun h => rxno_way h, fun h => rxno_way h, fun h => rxno_way h, fun h => rxno_way h, fun h => rxno_way h, fun h => rxno_way h, (Below.refl _ wr).drew, Nat.le_refl _, fun _ _ _ _ _ h => h, fun _ => HP0.out.keep (Below.refl _ wr).drew, fun h _ => rxno_way h, fun h _ => rxno_way h, fun h => rxno_way h, fun h _ => rxno_way h, fun h => rxno_way h, fun h => rxno_way h, fun h => rxno_way h, fun h => rxno_way h⟩
    · simp only [StepAll, and_true]
      refine ⟨?_, ?_, ?_, ?_, ?_, ?_, ?_, ?_, ?_, ?_, ?_, ?_, ?_, ?_, ?_, ?_, ?_, ?_, ?_⟩
      · intro d a W hI hd hdep
        obtain ⟨nb, x6, x40, x41, x42, x43, x44, x45, x46, x47, x48, x49, x50, x51, x52, x53, x54, x55, x56, x57, rfl, hF⟩ := hI
        clear hdep hd
        intro K hK
        simp only [Act.put, List.setIfInBounds_toArray, List.set_cons_zero, List.set_cons_succ]
        go_simp
        refine hK.out _ _ ⟨nb, x6, (.pointer (some ⟨pp, 0, none⟩)), x41, x42, x43, x44, x45, x46, x47, x48, x49, x50, x51, x52, x53, x54, x55, x56, x57, by simp only [Act.put, List.setIfInBounds_toArray, List.set_cons_zero, List.set_cons_succ], ?_⟩
        exact ⟨fun _ => rfl, fun h => hF.out.f1 (by simpa using h), fun h => hF.out.f2 (by simpa using h), fun h => hF.out.f3 (by simpa using h), fun h => hF.out.f4 (by simpa using h), fun h => hF.out.f5 (by simpa using h), fun h => hF.out.f6 (by simpa using h), fun h => hF.out.f7 (by simpa using h), fun h => hF.out.f8 (by simpa using h), fun h => hF.out.f9 (by simpa using h), fun h => hF.out.f10 (by simpa using h), fun h => hF.out.f11 (by simpa using h), fun h => hF.out.f12 (by simpa using h), fun h => hF.out.f13 (by simpa using h), fun h => hF.out.f14 (by simpa using h), fun h => hF.out.f15 (by simpa using h), fun h => hF.out.f16 (by simpa using h), fun h => hF.out.f17 (by simpa using h), fun h => hF.out.f18 (by simpa using h), hF.out.below, hF.out.size, hF.out.keep, fun h => hF.out.q0 (by simpa using h), fun h h2 => hF.out.q1 (by simpa using h) (by simpa using h2), fun h h2 => hF.out.q2 (by simpa using h) (by simpa using h2), fun h => hF.out.q3 (by simpa using h), fun h h2 => hF.out.nblk (by simpa using h) (by simpa using h2), fun h => by simpa using hF.out.g14 (by simpa using h), fun h => by simpa using hF.out.g15 (by simpa using h), fun h => by simpa using hF.out.g16 (by simpa using h), fun h => by simpa using hF.out.g17 (by simpa using h)⟩
      · intro d a W hI hd hdep
        obtain ⟨nb, x6, x40, x41, x42, x43, x44, x45, x46, x47, x48, x49, x50, x51, x52, x53, x54, x55, x56, x57, rfl, hF⟩ := hI
        clear hdep hd
        intro K hK
        simp only [Act.put, List.setIfInBounds_toArray, List.set_cons_zero, List.set_cons_succ]
        go_simp
        refine hK.out _ _ ⟨nb, x6, x40, (.pointer (some ⟨pp, 0, none⟩)), x42, x43, x44, x45, x46, x47, x48, x49, x50, x51, x52, x53, x54, x55, x56, x57, by simp only [Act.put, List.setIfInBounds_toArray, List.set_cons_zero, List.set_cons_succ], ?_⟩
        exact ⟨fun h => hF.out.f0 (by simpa using h), fun _ => rfl, fun h => hF.out.f2 (by simpa using h), fun h => hF.out.f3 (by simpa using h), fun h => hF.out.f4 (by simpa using h), fun h => hF.out.f5 (by simpa using h), fun h => hF.out.f6 (by simpa using h), fun h => hF.out.f7 (by simpa using h), fun h => hF.out.f8 (by simpa using h), fun h => hF.out.f9 (by simpa using h), fun h => hF.out.f10 (by simpa using h), fun h => hF.out.f11 (by simpa using h), fun h => hF.out.f12 (by simpa using h), fun h => hF.out.f13 (by simpa using h), fun h => hF.out.f14 (by simpa using h), fun h => hF.out.f15 (by simpa using h), fun h => hF.out.f16 (by simpa using h), fun h => hF.out.f17 (by simpa using h), fun h => hF.out.f18 (by simpa using h), hF.out.below, hF.out.size, hF.out.keep, fun h => hF.out.q0 (by simpa using h), fun h h2 => hF.out.q1 (by simpa using h) (by simpa using h2), fun h h2 => hF.out.q2 (by simpa using h) (by simpa using h2), fun h => hF.out.q3 (by simpa using h), fun h h2 => hF.out.nblk (by simpa using h) (by simpa using h2), fun h => by simpa using hF.out.g14 (by simpa using h), fun h => by simpa using hF.out.g15 (by simpa using h), fun h => by simpa using hF.out.g16 (by simpa using h), fun h => by simpa using hF.out.g17 (by simpa using h)⟩
      · intro d a W hI hd hdep
        obtain ⟨nb, x6, x40, x41, x42, x43, x44, x45, x46, x47, x48, x49, x50, x51, x52, x53, x54, x55, x56, x57, rfl, hF⟩ := hI
        clear hdep hd
        intro K hK
        simp only [Act.put, List.setIfInBounds_toArray, List.set_cons_zero, List.set_cons_succ]
        go_simp
        refine hK.out _ _ ⟨nb, x6, x40, x41, (.pointer (some ⟨bx, 5, none⟩)), x43, x44, x45, x46, x47, x48, x49, x50, x51, x52, x53, x54, x55, x56, x57, by simp only [Act.put, List.setIfInBounds_toArray, List.set_cons_zero, List.set_cons_succ], ?_⟩
        exact ⟨fun h => hF.out.f0 (by simpa using h), fun h => hF.out.f1 (by simpa using h), fun _ => rfl, fun h => hF.out.f3 (by simpa using h), fun h => hF.out.f4 (by simpa using h), fun h => hF.out.f5 (by simpa using h), fun h => hF.out.f6 (by simpa using h), fun h => hF.out.f7 (by simpa using h), fun h => hF.out.f8 (by simpa using h), fun h => hF.out.f9 (by simpa using h), fun h => hF.out.f10 (by simpa using h), fun h => hF.out.f11 (by simpa using h), fun h => hF.out.f12 (by simpa using h), fun h => hF.out.f13 (by simpa using h), fun h => hF.out.f14 (by simpa using h), fun h => hF.out.f15 (by simpa using h), fun h => hF.out.f16 (by simpa using h), fun h => hF.out.f17 (by simpa using h), fun h => hF.out.f18 (by simpa using h), hF.out.below, hF.out.size, hF.out.keep, fun h => hF.out.q0 (by simpa using h), fun h h2 => hF.out.q1 (by simpa using h) (by simpa using h2), fun h h2 => hF.out.q2 (by simpa using h) (by simpa using h2), fun h => hF.out.q3 (by simpa using h), fun h h2 => hF.out.nblk (by simpa using h) (by simpa using h2), fun h => by simpa using hF.out.g14 (by simpa using h), fun h => by simpa using hF.out.g15 (by simpa using h), fun h => by simpa using hF.out.g16 (by simpa using h), fun h => by simpa using hF.out.g17 (by simpa using h)⟩
      · intro d a W hI hd hdep
        obtain ⟨nb, x6, x40, x41, x42, x43, x44, x45, x46, x47, x48, x49, x50, x51, x52, x53, x54, x55, x56, x57, rfl, hF⟩ := hI
        have hd2 : d 2 = true := rxdep_of hdep 2 (by kernel_rfl)
        obtain rfl := hF.out.f2 hd2
        have HSW : Hid (W.cell? ⟨bx, 5, none⟩ = some (.slice (some ⟨b, o, none⟩) 2 cap) ∧ W.cell? ⟨b, o, none⟩ = some (.int .i64 k0) ∧ W.cell? ⟨b, o + 1, none⟩ = some (.int .u64 (c0.1.toNat : Int)) ∧ W.cell? ⟨b, o + 2, none⟩ = some (.int .u64 (c0.2.1.toNat : Int)) ∧ W.cell? ⟨b, o + 3, none⟩ = some (.int .u64 (c0.2.2.1.toNat : Int)) ∧ W.cell? ⟨b, o + 4, none⟩ = some (.int .u64 (c0.2.2.2.toNat : Int)) ∧ W.cell? ⟨b, o + 5, none⟩ = some (.slice a0 n0 p0) ∧ W.cell? ⟨b, o + 6, none⟩ = some (.int .i64 k1) ∧ W.cell? ⟨b, o + 6 + 1, none⟩ = some (.int .u64 (c1.1.toNat : Int)) ∧ W.cell? ⟨b, o + 6 + 2, none⟩ = some (.int .u64 (c1.2.1.toNat : Int)) ∧ W.cell? ⟨b, o + 6 + 3, none⟩ = some (.int .u64 (c1.2.2.1.toNat : Int)) ∧ W.cell? ⟨b, o + 6 + 4, none⟩ = some (.int .u64 (c1.2.2.2.toNat : Int)) ∧ W.cell? ⟨b, o + 6 + 5, none⟩ = some (.slice a1 n1 p1)) := s2_next HZ.out hbB HS.out hF.out.below hF.out.keep
        have s5 := HSW.out.1
        clear HSW
        clear hdep hd hd2
        intro K hK
        simp only [Act.put, List.setIfInBounds_toArray, List.set_cons_zero, List.set_cons_succ]
        go_simp
        refine hK.out _ _ ⟨nb, x6, x40, x41, (.pointer (some ⟨bx, 5, none⟩)), (.slice (some ⟨b, o, none⟩) 2 cap), x44, x45, x46, x47, x48, x49, x50, x51, x52, x53, x54, x55, x56, x57, by simp only [Act.put, List.setIfInBounds_toArray, List.set_cons_zero, List.set_cons_succ], ?_⟩
        exact ⟨fun h => hF.out.f0 (by simpa using h), fun h => hF.out.f1 (by simpa using h), fun h => hF.out.f2 (by simpa using h), fun _ => rfl, fun h => hF.out.f4 (by simpa using h), fun h => hF.out.f5 (by simpa using h), fun h => hF.out.f6 (by simpa using h), fun h => hF.out.f7 (by simpa using h), fun h => hF.out.f8 (by simpa using h), fun h => hF.out.f9 (by simpa using h), fun h => hF.out.f10 (by simpa using h), fun h => hF.out.f11 (by simpa using h), fun h => hF.out.f12 (by simpa using h), fun h => hF.out.f13 (by simpa using h), fun h => hF.out.f14 (by simpa using h), fun h => hF.out.f15 (by simpa using h), fun h => hF.out.f16 (by simpa using h), fun h => hF.out.f17 (by simpa using h), fun h => hF.out.f18 (by simpa using h), hF.out.below, hF.out.size, hF.out.keep, fun h => hF.out.q0 (by simpa using h), fun h h2 => hF.out.q1 (by simpa using h) (by simpa using h2), fun h h2 => hF.out.q2 (by simpa using h) (by simpa using h2), fun h => hF.out.q3 (by simpa using h), fun h h2 => hF.out.nblk (by simpa using h) (by simpa using h2), fun h => by simpa using hF.out.g14 (by simpa using h), fun h => by simpa using hF.out.g15 (by simpa using h), fun h => by simpa using hF.out.g16 (by simpa using h), fun h => by simpa using hF.out.g17 (by simpa using h)⟩
      · intro d a W hI hd hdep
        obtain ⟨nb, x6, x40, x41, x42, x43, x44, x45, x46, x47, x48, x49, x50, x51, x52, x53, x54, x55, x56, x57, rfl, hF⟩ := hI
        have hd3 : d 3 = true := rxdep_of hdep 3 (by kernel_rfl)
        obtain rfl := hF.out.f3 hd3
        clear hdep hd hd3
        intro K hK
        simp only [Act.put, List.setIfInBounds_toArray, List.set_cons_zero, List.set_cons_succ]
        go_simp
        refine hK.out _ _ ⟨nb, x6, x40, x41, x42, (.slice (some ⟨b, o, none⟩) 2 cap), (.pointer (some ⟨b, o, none⟩)), x45, x46, x47, x48, x49, x50, x51, x52, x53, x54, x55, x56, x57, by simp only [Act.put, List.setIfInBounds_toArray, List.set_cons_zero, List.set_cons_succ], ?_⟩
        exact ⟨fun h => hF.out.f0 (by simpa using h), fun h => hF.out.f1 (by simpa using h), fun h => hF.out.f2 (by simpa using h), fun h => hF.out.f3 (by simpa using h), fun _ => rfl, fun h => hF.out.f5 (by simpa using h), fun h => hF.out.f6 (by simpa using h), fun h => hF.out.f7 (by simpa using h), fun h => hF.out.f8 (by simpa using h), fun h => hF.out.f9 (by simpa using h), fun h => hF.out.f10 (by simpa using h), fun h => hF.out.f11 (by simpa using h), fun h => hF.out.f12 (by simpa using h), fun h => hF.out.f13 (by simpa using h), fun h => hF.out.f14 (by simpa using h), fun h => hF.out.f15 (by simpa using h), fun h => hF.out.f16 (by simpa using h), fun h => hF.out.f17 (by simpa using h), fun h => hF.out.f18 (by simpa using h), hF.out.below, hF.out.size, hF.out.keep, fun h => hF.out.q0 (by simpa using h), fun h h2 => hF.out.q1 (by simpa using h) (by simpa using h2), fun h h2 => hF.out.q2 (by simpa using h) (by simpa using h2), fun h => hF.out.q3 (by simpa using h), fun h h2 => hF.out.nblk (by simpa using h) (by simpa using h2), fun h => by simpa using hF.out.g14 (by simpa using h), fun h => by simpa using hF.out.g15 (by simpa using h), fun h => by simpa using hF.out.g16 (by simpa using h), fun h => by simpa using hF.out.g17 (by simpa using h)⟩
      · intro d a W hI hd hdep
        obtain ⟨nb, x6, x40, x41, x42, x43, x44, x45, x46, x47, x48, x49, x50, x51, x52, x53, x54, x55, x56, x57, rfl, hF⟩ := hI
        have hd4 : d 4 = true := rxdep_of hdep 4 (by kernel_rfl)
        obtain rfl := hF.out.f4 hd4
        have HSW : Hid (W.cell? ⟨bx, 5, none⟩ = some (.slice (some ⟨b, o, none⟩) 2 cap) ∧ W.cell? ⟨b, o, none⟩ = some (.int .i64 k0) ∧ W.cell? ⟨b, o + 1, none⟩ = some (.int .u64 (c0.1.toNat : Int)) ∧ W.cell? ⟨b, o + 2, none⟩ = some (.int .u64 (c0.2.1.toNat : Int)) ∧ W.cell? ⟨b, o + 3, none⟩ = some (.int .u64 (c0.2.2.1.toNat : Int)) ∧ W.cell? ⟨b, o + 4, none⟩ = some (.int .u64 (c0.2.2.2.toNat : Int)) ∧ W.cell? ⟨b, o + 5, none⟩ = some (.slice a0 n0 p0) ∧ W.cell? ⟨b, o + 6, none⟩ = some (.int .i64 k1) ∧ W.cell? ⟨b, o + 6 + 1, none⟩ = some (.int .u64 (c1.1.toNat : Int)) ∧ W.cell? ⟨b, o + 6 + 2, none⟩ = some (.int .u64 (c1.2.1.toNat : Int)) ∧ W.cell? ⟨b, o + 6 + 3, none⟩ = some (.int .u64 (c1.2.2.1.toNat : Int)) ∧ W.cell? ⟨b, o + 6 + 4, none⟩ = some (.int .u64 (c1.2.2.2.toNat : Int)) ∧ W.cell? ⟨b, o + 6 + 5, none⟩ = some (.slice a1 n1 p1)) := s2_next HZ.out hbB HS.out hF.out.below hF.out.keep
        have s0 := HSW.out.2.1
        have s1 := HSW.out.2.2.1
        have s2 := HSW.out.2.2.2.1
        have s3 := HSW.out.2.2.2.2.1
        have s4 := HSW.out.2.2.2.2.2.1
        have s5 := HSW.out.2.2.2.2.2.2.1
        clear HSW
        clear hdep hd hd4
        intro K hK
        simp only [Act.put, List.setIfInBounds_toArray, List.set_cons_zero, List.set_cons_succ]
        go_simp
        refine hK.out _ _ ⟨nb, x6, x40, x41, x42, x43, (.pointer (some ⟨b, o, none⟩)), (.agg #[.int .i64 k0, .int .u64 (c0.1.toNat : Int), .int .u64 (c0.2.1.toNat : Int), .int .u64 (c0.2.2.1.toNat : Int), .int .u64 (c0.2.2.2.toNat : Int), .slice a0 n0 p0]), x46, x47, x48, x49, x50, x51, x52, x53, x54, x55, x56, x57, by simp only [Act.put, List.setIfInBounds_toArray, List.set_cons_zero, List.set_cons_succ], ?_⟩
        exact ⟨fun h => hF.out.f0 (by simpa using h), fun h => hF.out.f1 (by simpa using h), fun h => hF.out.f2 (by simpa using h), fun h => hF.out.f3 (by simpa using h), fun h => hF.out.f4 (by simpa using h), fun _ => rfl, fun h => hF.out.f6 (by simpa using h), fun h => hF.out.f7 (by simpa using h), fun h => hF.out.f8 (by simpa using h), fun h => hF.out.f9 (by simpa using h), fun h => hF.out.f10 (by simpa using h), fun h => hF.out.f11 (by simpa using h), fun h => hF.out.f12 (by simpa using h), fun h => hF.out.f13 (by simpa using h), fun h => hF.out.f14 (by simpa using h), fun h => hF.out.f15 (by simpa using h), fun h => hF.out.f16 (by simpa using h), fun h => hF.out.f17 (by simpa using h), fun h => hF.out.f18 (by simpa using h), hF.out.below, hF.out.size, hF.out.keep, fun h => hF.out.q0 (by simpa using h), fun h h2 => hF.out.q1 (by simpa using h) (by simpa using h2), fun h h2 => hF.out.q2 (by simpa using h) (by simpa using h2), fun h => hF.out.q3 (by simpa using h), fun h h2 => hF.out.nblk (by simpa using h) (by simpa using h2), fun h => by simpa using hF.out.g14 (by simpa using h), fun h => by simpa using hF.out.g15 (by simpa using h), fun h => by simpa using hF.out.g16 (by simpa using h), fun h => by simpa using hF.out.g17 (by simpa using h)⟩
      · intro d a W hI hd hdep
        obtain ⟨nb, x6, x40, x41, x42, x43, x44, x45, x46, x47, x48, x49, x50, x51, x52, x53, x54, x55, x56, x57, rfl, hF⟩ := hI
        clear hdep hd
        intro K hK
        simp only [Act.put, List.setIfInBounds_toArray, List.set_cons_zero, List.set_cons_succ]
        go_simp
        refine hK.out _ _ ⟨nb, x6, x40, x41, x42, x43, x44, x45, (.int .i64 (nx : Int)), x47, x48, x49, x50, x51, x52, x53, x54, x55, x56, x57, by simp only [Act.put, List.setIfInBounds_toArray, List.set_cons_zero, List.set_cons_succ], ?_⟩
        exact ⟨fun h => hF.out.f0 (by simpa using h), fun h => hF.out.f1 (by simpa using h), fun h => hF.out.f2 (by simpa using h), fun h => hF.out.f3 (by simpa using h), fun h => hF.out.f4 (by simpa using h), fun h => hF.out.f5 (by simpa using h), fun _ => rfl, fun h => hF.out.f7 (by simpa using h), fun h => hF.out.f8 (by simpa using h), fun h => hF.out.f9 (by simpa using h), fun h => hF.out.f10 (by simpa using h), fun h => hF.out.f11 (by simpa using h), fun h => hF.out.f12 (by simpa using h), fun h => hF.out.f13 (by simpa using h), fun h => hF.out.f14 (by simpa using h), fun h => hF.out.f15 (by simpa using h), fun h => hF.out.f16 (by simpa using h), fun h => hF.out.f17 (by simpa using h), fun h => hF.out.f18 (by simpa using h), hF.out.below, hF.out.size, hF.out.keep, fun h => hF.out.q0 (by simpa using h), fun h h2 => hF.out.q1 (by simpa using h) (by simpa using h2), fun h h2 => hF.out.q2 (by simpa using h) (by simpa using h2), fun h => hF.out.q3 (by simpa using h), fun h h2 => hF.out.nblk (by simpa using h) (by simpa using h2), fun h => by simpa using hF.out.g14 (by simpa using h), fun h => by simpa using hF.out.g15 (by simpa using h), fun h => by simpa using hF.out.g16 (by simpa using h), fun h => by simpa using hF.out.g17 (by simpa using h)⟩
      · intro d a W hI hd hdep
        obtain ⟨nb, x6, x40, x41, x42, x43, x44, x45, x46, x47, x48, x49, x50, x51, x52, x53, x54, x55, x56, x57, rfl, hF⟩ := hI
        have hd1 : d 1 = true := rxdep_of hdep 1 (by kernel_rfl)
        have hd5 : d 5 = true := rxdep_of hdep 5 (by kernel_rfl)
        have hd6 : d 6 = true := rxdep_of hdep 6 (by kernel_rfl)
        obtain rfl := hF.out.f1 hd1
        obtain rfl := hF.out.f5 hd5
        obtain rfl := hF.out.f6 hd6
        have h14 : d 14 = false := by
          cases hx : d 14 with
          | false => rfl
          | true => have := hF.out.g14 hx; rw [hd] at this; cases this
        have h15 : d 15 = false := by
          cases hx : d 15 with
          | false => rfl
          | true => have := hF.out.g14 (hF.out.g15 hx); rw [hd] at this; cases this
        have h17 : d 17 = false := by
          cases hx : d 17 with
          | false => rfl
          | true => have := hF.out.g14 (hF.out.g15 (hF.out.g17 hx)); rw [hd] at this; cases this
        have hcl := HC1.out W hF.out.below (hF.out.q0 hd) (Nat.le_trans hBW hF.out.size)
        have HD : Hid (d 14 = false ∧ d 15 = false ∧ d 17 = false) := ⟨h14, h15, h17⟩
        clear h14 h15 h17
        clear hdep hd hd1 hd5 hd6
        intro K hK
        simp only [Act.put, List.setIfInBounds_toArray, List.set_cons_zero, List.set_cons_succ]
        go_simp
        refine hcl.mono ?_
        rintro e1 W1 ⟨rfl, hp1, hb1, hk1⟩
        go_simp
        refine hK.out _ _ ⟨nb, x6, x40, (.pointer (some ⟨pp, 0, none⟩)), x42, x43, x44, (.agg #[.int .i64 k0, .int .u64 (c0.1.toNat : Int), .int .u64 (c0.2.1.toNat : Int), .int .u64 (c0.2.2.1.toNat : Int), .int .u64 (c0.2.2.2.toNat : Int), .slice a0 n0 p0]), (.int .i64 (nx : Int)), (.int .i64 (r1v : Int)), x48, x49, x50, x51, x52, x53, x54, x55, x56, x57, by simp only [Act.put, List.setIfInBounds_toArray, List.set_cons_zero, List.set_cons_succ], ?_⟩
        exact ⟨fun h => hF.out.f0 (by simpa using h), fun h => hF.out.f1 (by simpa using h), fun h => hF.out.f2 (by simpa using h), fun h => hF.out.f3 (by simpa using h), fun h => hF.out.f4 (by simpa using h), fun h => hF.out.f5 (by simpa using h), fun h => hF.out.f6 (by simpa using h), fun _ => rfl, fun h => hF.out.f8 (by simpa using h), fun h => hF.out.f9 (by simpa using h), fun h => hF.out.f10 (by simpa using h), fun h => hF.out.f11 (by simpa using h), fun h => hF.out.f12 (by simpa using h), fun h => hF.out.f13 (by simpa using h), fun h => hF.out.f14 (by simpa using h), fun h => hF.out.f15 (by simpa using h), fun h => hF.out.f16 (by simpa using h), fun h => hF.out.f17 (by simpa using h), fun h => hF.out.f18 (by simpa using h), hF.out.below.trans hb1, Nat.le_trans hF.out.size hb1.size, hF.out.keep.trans hk1, fun h => by simp at h, fun _ _ => hp1, fun h _ => rxno_way (HD.out.1.symm.trans (show d 14 = true by simpa using h)), fun h => rxno_way (HD.out.2.2.symm.trans (show d 17 = true by simpa using h)), fun h _ => rxno_way (HD.out.2.1.symm.trans (show d 15 = true by simpa using h)), fun _ => by simp, fun h => by simpa using hF.out.g15 (by simpa using h), fun h => by simpa using hF.out.g16 (by simpa using h), fun h => by simpa using hF.out.g17 (by simpa using h)⟩
      · intro d a W hI hd hdep
        obtain ⟨nb, x6, x40, x41, x42, x43, x44, x45, x46, x47, x48, x49, x50, x51, x52, x53, x54, x55, x56, x57, rfl, hF⟩ := hI
        clear hdep hd
        intro K hK
        simp only [Act.put, List.setIfInBounds_toArray, List.set_cons_zero, List.set_cons_succ]
        go_simp
        refine hK.out _ _ ⟨nb, x6, x40, x41, x42, x43, x44, x45, x46, x47, (.pointer (some ⟨pp, 0, none⟩)), x49, x50, x51, x52, x53, x54, x55, x56, x57, by simp only [Act.put, List.setIfInBounds_toArray, List.set_cons_zero, List.set_cons_succ], ?_⟩
        exact ⟨fun h => hF.out.f0 (by simpa using h), fun h => hF.out.f1 (by simpa using h), fun h => hF.out.f2 (by simpa using h), fun h => hF.out.f3 (by simpa using h), fun h => hF.out.f4 (by simpa using h), fun h => hF.out.f5 (by simpa using h), fun h => hF.out.f6 (by simpa using h), fun h => hF.out.f7 (by simpa using h), fun _ => rfl, fun h => hF.out.f9 (by simpa using h), fun h => hF.out.f10 (by simpa using h), fun h => hF.out.f11 (by simpa using h), fun h => hF.out.f12 (by simpa using h), fun h => hF.out.f13 (by simpa using h), fun h => hF.out.f14 (by simpa using h), fun h => hF.out.f15 (by simpa using h), fun h => hF.out.f16 (by simpa using h), fun h => hF.out.f17 (by simpa using h), fun h => hF.out.f18 (by simpa using h), hF.out.below, hF.out.size, hF.out.keep, fun h => hF.out.q0 (by simpa using h), fun h h2 => hF.out.q1 (by simpa using h) (by simpa using h2), fun h h2 => hF.out.q2 (by simpa using h) (by simpa using h2), fun h => hF.out.q3 (by simpa using h), fun h h2 => hF.out.nblk (by simpa using h) (by simpa using h2), fun h => by simpa using hF.out.g14 (by simpa using h), fun h => by simpa using hF.out.g15 (by simpa using h), fun h => by simpa using hF.out.g16 (by simpa using h), fun h => by simpa using hF.out.g17 (by simpa using h)⟩
      · intro d a W hI hd hdep
        obtain ⟨nb, x6, x40, x41, x42, x43, x44, x45, x46, x47, x48, x49, x50, x51, x52, x53, x54, x55, x56, x57, rfl, hF⟩ := hI
        clear hdep hd
        intro K hK
        simp only [Act.put, List.setIfInBounds_toArray, List.set_cons_zero, List.set_cons_succ]
        go_simp
        refine hK.out _ _ ⟨nb, x6, x40, x41, x42, x43, x44, x45, x46, x47, x48, (.pointer (some ⟨bx, 5, none⟩)), x50, x51, x52, x53, x54, x55, x56, x57, by simp only [Act.put, List.setIfInBounds_toArray, List.set_cons_zero, List.set_cons_succ], ?_⟩
        exact ⟨fun h => hF.out.f0 (by simpa using h), fun h => hF.out.f1 (by simpa using h), fun h => hF.out.f2 (by simpa using h), fun h => hF.out.f3 (by simpa using h), fun h => hF.out.f4 (by simpa using h), fun h => hF.out.f5 (by simpa using h), fun h => hF.out.f6 (by simpa using h), fun h => hF.out.f7 (by simpa using h), fun h => hF.out.f8 (by simpa using h), fun _ => rfl, fun h => hF.out.f10 (by simpa using h), fun h => hF.out.f11 (by simpa using h), fun h => hF.out.f12 (by simpa using h), fun h => hF.out.f13 (by simpa using h), fun h => hF.out.f14 (by simpa using h), fun h => hF.out.f15 (by simpa using h), fun h => hF.out.f16 (by simpa using h), fun h => hF.out.f17 (by simpa using h), fun h => hF.out.f18 (by simpa using h), hF.out.below, hF.out.size, hF.out.keep, fun h => hF.out.q0 (by simpa using h), fun h h2 => hF.out.q1 (by simpa using h) (by simpa using h2), fun h h2 => hF.out.q2 (by simpa using h) (by simpa using h2), fun h => hF.out.q3 (by simpa using h), fun h h2 => hF.out.nblk (by simpa using h) (by simpa using h2), fun h => by simpa using hF.out.g14 (by simpa using h), fun h => by simpa using hF.out.g15 (by simpa using h), fun h => by simpa using hF.out.g16 (by simpa using h), fun h => by simpa using hF.out.g17 (by simpa using h)⟩
      · intro d a W hI hd hdep
        obtain ⟨nb, x6, x40, x41, x42, x43, x44, x45, x46, x47, x48, x49, x50, x51, x52, x53, x54, x55, x56, x57, rfl, hF⟩ := hI
        have hd9 : d 9 = true := rxdep_of hdep 9 (by kernel_rfl)
        obtain rfl := hF.out.f9 hd9
        have HSW : Hid (W.cell? ⟨bx, 5, none⟩ = some (.slice (some ⟨b, o, none⟩) 2 cap) ∧ W.cell? ⟨b, o, none⟩ = some (.int .i64 k0) ∧ W.cell? ⟨b, o + 1, none⟩ = some (.int .u64 (c0.1.toNat : Int)) ∧ W.cell? ⟨b, o + 2, none⟩ = some (.int .u64 (c0.2.1.toNat : Int)) ∧ W.cell? ⟨b, o + 3, none⟩ = some (.int .u64 (c0.2.2.1.toNat : Int)) ∧ W.cell? ⟨b, o + 4, none⟩ = some (.int .u64 (c0.2.2.2.toNat : Int)) ∧ W.cell? ⟨b, o + 5, none⟩ = some (.slice a0 n0 p0) ∧ W.cell? ⟨b, o + 6, none⟩ = some (.int .i64 k1) ∧ W.cell? ⟨b, o + 6 + 1, none⟩ = some (.int .u64 (c1.1.toNat : Int)) ∧ W.cell? ⟨b, o + 6 + 2, none⟩ = some (.int .u64 (c1.2.1.toNat : Int)) ∧ W.cell? ⟨b, o + 6 + 3, none⟩ = some (.int .u64 (c1.2.2.1.toNat : Int)) ∧ W.cell? ⟨b, o + 6 + 4, none⟩ = some (.int .u64 (c1.2.2.2.toNat : Int)) ∧ W.cell? ⟨b, o + 6 + 5, none⟩ = some (.slice a1 n1 p1)) := s2_next HZ.out hbB HS.out hF.out.below hF.out.keep
        have s5 := HSW.out.1
        clear HSW
        clear hdep hd hd9
        intro K hK
        simp only [Act.put, List.setIfInBounds_toArray, List.set_cons_zero, List.set_cons_succ]
        go_simp
        refine hK.out _ _ ⟨nb, x6, x40, x41, x42, x43, x44, x45, x46, x47, x48, (.pointer (some ⟨bx, 5, none⟩)), (.slice (some ⟨b, o, none⟩) 2 cap), x51, x52, x53, x54, x55, x56, x57, by simp only [Act.put, List.setIfInBounds_toArray, List.set_cons_zero, List.set_cons_succ], ?_⟩
        exact ⟨fun h => hF.out.f0 (by simpa using h), fun h => hF.out.f1 (by simpa using h), fun h => hF.out.f2 (by simpa using h), fun h => hF.out.f3 (by simpa using h), fun h => hF.out.f4 (by simpa using h), fun h => hF.out.f5 (by simpa using h), fun h => hF.out.f6 (by simpa using h), fun h => hF.out.f7 (by simpa using h), fun h => hF.out.f8 (by simpa using h), fun h => hF.out.f9 (by simpa using h), fun _ => rfl, fun h => hF.out.f11 (by simpa using h), fun h => hF.out.f12 (by simpa using h), fun h => hF.out.f13 (by simpa using h), fun h => hF.out.f14 (by simpa using h), fun h => hF.out.f15 (by simpa using h), fun h => hF.out.f16 (by simpa using h), fun h => hF.out.f17 (by simpa using h), fun h => hF.out.f18 (by simpa using h), hF.out.below, hF.out.size, hF.out.keep, fun h => hF.out.q0 (by simpa using h), fun h h2 => hF.out.q1 (by simpa using h) (by simpa using h2), fun h h2 => hF.out.q2 (by simpa using h) (by simpa using h2), fun h => hF.out.q3 (by simpa using h), fun h h2 => hF.out.nblk (by simpa using h) (by simpa using h2), fun h => by simpa using hF.out.g14 (by simpa using h), fun h => by simpa using hF.out.g15 (by simpa using h), fun h => by simpa using hF.out.g16 (by simpa using h), fun h => by simpa using hF.out.g17 (by simpa using h)⟩
      · intro d a W hI hd hdep
        obtain ⟨nb, x6, x40, x41, x42, x43, x44, x45, x46, x47, x48, x49, x50, x51, x52, x53, x54, x55, x56, x57, rfl, hF⟩ := hI
        have hd10 : d 10 = true := rxdep_of hdep 10 (by kernel_rfl)
        obtain rfl := hF.out.f10 hd10
        clear hdep hd hd10
        intro K hK
        simp only [Act.put, List.setIfInBounds_toArray, List.set_cons_zero, List.set_cons_succ]
        go_simp
        refine hK.out _ _ ⟨nb, x6, x40, x41, x42, x43, x44, x45, x46, x47, x48, x49, (.slice (some ⟨b, o, none⟩) 2 cap), (.pointer (some ⟨b, o + 6, none⟩)), x52, x53, x54, x55, x56, x57, by simp only [Act.put, List.setIfInBounds_toArray, List.set_cons_zero, List.set_cons_succ], ?_⟩
        exact ⟨fun h => hF.out.f0 (by simpa using h), fun h => hF.out.f1 (by simpa using h), fun h => hF.out.f2 (by simpa using h), fun h => hF.out.f3 (by simpa using h), fun h => hF.out.f4 (by simpa using h), fun h => hF.out.f5 (by simpa using h), fun h => hF.out.f6 (by simpa using h), fun h => hF.out.f7 (by simpa using h), fun h => hF.out.f8 (by simpa using h), fun h => hF.out.f9 (by simpa using h), fun h => hF.out.f10 (by simpa using h), fun _ => rfl, fun h => hF.out.f12 (by simpa using h), fun h => hF.out.f13 (by simpa using h), fun h => hF.out.f14 (by simpa using h), fun h => hF.out.f15 (by simpa using h), fun h => hF.out.f16 (by simpa using h), fun h => hF.out.f17 (by simpa using h), fun h => hF.out.f18 (by simpa using h), hF.out.below, hF.out.size, hF.out.keep, fun h => hF.out.q0 (by simpa using h), fun h h2 => hF.out.q1 (by simpa using h) (by simpa using h2), fun h h2 => hF.out.q2 (by simpa using h) (by simpa using h2), fun h => hF.out.q3 (by simpa using h), fun h h2 => hF.out.nblk (by simpa using h) (by simpa using h2), fun h => by simpa using hF.out.g14 (by simpa using h), fun h => by simpa using hF.out.g15 (by simpa using h), fun h => by simpa using hF.out.g16 (by simpa using h), fun h => by simpa using hF.out.g17 (by simpa using h)⟩
      · intro d a W hI hd hdep
        obtain ⟨nb, x6, x40, x41, x42, x43, x44, x45, x46, x47, x48, x49, x50, x51, x52, x53, x54, x55, x56, x57, rfl, hF⟩ := hI
        have hd11 : d 11 = true := rxdep_of hdep 11 (by kernel_rfl)
        obtain rfl := hF.out.f11 hd11
        have HSW : Hid (W.cell? ⟨bx, 5, none⟩ = some (.slice (some ⟨b, o, none⟩) 2 cap) ∧ W.cell? ⟨b, o, none⟩ = some (.int .i64 k0) ∧ W.cell? ⟨b, o + 1, none⟩ = some (.int .u64 (c0.1.toNat : Int)) ∧ W.cell? ⟨b, o + 2, none⟩ = some (.int .u64 (c0.2.1.toNat : Int)) ∧ W.cell? ⟨b, o + 3, none⟩ = some (.int .u64 (c0.2.2.1.toNat : Int)) ∧ W.cell? ⟨b, o + 4, none⟩ = some (.int .u64 (c0.2.2.2.toNat : Int)) ∧ W.cell? ⟨b, o + 5, none⟩ = some (.slice a0 n0 p0) ∧ W.cell? ⟨b, o + 6, none⟩ = some (.int .i64 k1) ∧ W.cell? ⟨b, o + 6 + 1, none⟩ = some (.int .u64 (c1.1.toNat : Int)) ∧ W.cell? ⟨b, o + 6 + 2, none⟩ = some (.int .u64 (c1.2.1.toNat : Int)) ∧ W.cell? ⟨b, o + 6 + 3, none⟩ = some (.int .u64 (c1.2.2.1.toNat : Int)) ∧ W.cell? ⟨b, o + 6 + 4, none⟩ = some (.int .u64 (c1.2.2.2.toNat : Int)) ∧ W.cell? ⟨b, o + 6 + 5, none⟩ = some (.slice a1 n1 p1)) := s2_next HZ.out hbB HS.out hF.out.below hF.out.keep
        have s0 := HSW.out.2.2.2.2.2.2.2.1
        have s1 := HSW.out.2.2.2.2.2.2.2.2.1
        have s2 := HSW.out.2.2.2.2.2.2.2.2.2.1
        have s3 := HSW.out.2.2.2.2.2.2.2.2.2.2.1
        have s4 := HSW.out.2.2.2.2.2.2.2.2.2.2.2.1
        have s5 := HSW.out.2.2.2.2.2.2.2.2.2.2.2.2
        clear HSW
        clear hdep hd hd11
        intro K hK
        simp only [Act.put, List.setIfInBounds_toArray, List.set_cons_zero, List.set_cons_succ]
        go_simp
        refine hK.out _ _ ⟨nb, x6, x40, x41, x42, x43, x44, x45, x46, x47, x48, x49, x50, (.pointer (some ⟨b, o + 6, none⟩)), (.agg #[.int .i64 k1, .int .u64 (c1.1.toNat : Int), .int .u64 (c1.2.1.toNat : Int), .int .u64 (c1.2.2.1.toNat : Int), .int .u64 (c1.2.2.2.toNat : Int), .slice a1 n1 p1]), x53, x54, x55, x56, x57, by simp only [Act.put, List.setIfInBounds_toArray, List.set_cons_zero, List.set_cons_succ], ?_⟩
        exact ⟨fun h => hF.out.f0 (by simpa using h), fun h => hF.out.f1 (by simpa using h), fun h => hF.out.f2 (by simpa using h), fun h => hF.out.f3 (by simpa using h), fun h => hF.out.f4 (by simpa using h), fun h => hF.out.f5 (by simpa using h), fun h => hF.out.f6 (by simpa using h), fun h => hF.out.f7 (by simpa using h), fun h => hF.out.f8 (by simpa using h), fun h => hF.out.f9 (by simpa using h), fun h => hF.out.f10 (by simpa using h), fun h => hF.out.f11 (by simpa using h), fun _ => rfl, fun h => hF.out.f13 (by simpa using h), fun h => hF.out.f14 (by simpa using h), fun h => hF.out.f15 (by simpa using h), fun h => hF.out.f16 (by simpa using h), fun h => hF.out.f17 (by simpa using h), fun h => hF.out.f18 (by simpa using h), hF.out.below, hF.out.size, hF.out.keep, fun h => hF.out.q0 (by simpa using h), fun h h2 => hF.out.q1 (by simpa using h) (by simpa using h2), fun h h2 => hF.out.q2 (by simpa using h) (by simpa using h2), fun h => hF.out.q3 (by simpa using h), fun h h2 => hF.out.nblk (by simpa using h) (by simpa using h2), fun h => by simpa using hF.out.g14 (by simpa using h), fun h => by simpa using hF.out.g15 (by simpa using h), fun h => by simpa using hF.out.g16 (by simpa using h), fun h => by simpa using hF.out.g17 (by simpa using h)⟩
      · intro d a W hI hd hdep
        obtain ⟨nb, x6, x40, x41, x42, x43, x44, x45, x46, x47, x48, x49, x50, x51, x52, x53, x54, x55, x56, x57, rfl, hF⟩ := hI
        clear hdep hd
        intro K hK
        simp only [Act.put, List.setIfInBounds_toArray, List.set_cons_zero, List.set_cons_succ]
        go_simp
        refine hK.out _ _ ⟨nb, x6, x40, x41, x42, x43, x44, x45, x46, x47, x48, x49, x50, x51, x52, (.int .i64 (nx : Int)), x54, x55, x56, x57, by simp only [Act.put, List.setIfInBounds_toArray, List.set_cons_zero, List.set_cons_succ], ?_⟩
        exact ⟨fun h => hF.out.f0 (by simpa using h), fun h => hF.out.f1 (by simpa using h), fun h => hF.out.f2 (by simpa using h), fun h => hF.out.f3 (by simpa using h), fun h => hF.out.f4 (by simpa using h), fun h => hF.out.f5 (by simpa using h), fun h => hF.out.f6 (by simpa using h), fun h => hF.out.f7 (by simpa using h), fun h => hF.out.f8 (by simpa using h), fun h => hF.out.f9 (by simpa using h), fun h => hF.out.f10 (by simpa using h), fun h => hF.out.f11 (by simpa using h), fun h => hF.out.f12 (by simpa using h), fun _ => rfl, fun h => hF.out.f14 (by simpa using h), fun h => hF.out.f15 (by simpa using h), fun h => hF.out.f16 (by simpa using h), fun h => hF.out.f17 (by simpa using h), fun h => hF.out.f18 (by simpa using h), hF.out.below, hF.out.size, hF.out.keep, fun h => hF.out.q0 (by simpa using h), fun h h2 => hF.out.q1 (by simpa using h) (by simpa using h2), fun h h2 => hF.out.q2 (by simpa using h) (by simpa using h2), fun h => hF.out.q3 (by simpa using h), fun h h2 => hF.out.nblk (by simpa using h) (by simpa using h2), fun h => by simpa using hF.out.g14 (by simpa using h), fun h => by simpa using hF.out.g15 (by simpa using h), fun h => by simpa using hF.out.g16 (by simpa using h), fun h => by simpa using hF.out.g17 (by simpa using h)⟩
      · intro d a W hI hd hdep
        obtain ⟨nb, x6, x40, x41, x42, x43, x44, x45, x46, x47, x48, x49, x50, x51, x52, x53, x54, x55, x56, x57, rfl, hF⟩ := hI
        have hd8 : d 8 = true := rxdep_of hdep 8 (by kernel_rfl)
        have hd12 : d 12 = true := rxdep_of hdep 12 (by kernel_rfl)
        have hd13 : d 13 = true := rxdep_of hdep 13 (by kernel_rfl)
        have hd7 : d 7 = true := rxdep_of hdep 7 (by kernel_rfl)
        obtain rfl := hF.out.f8 hd8
        obtain rfl := hF.out.f12 hd12
        obtain rfl := hF.out.f13 hd13
        obtain rfl := hF.out.f7 hd7
        have h15 : d 15 = false := by
          cases hx : d 15 with
          | false => rfl
          | true => have := hF.out.g15 hx; rw [hd] at this; cases this
        have h17 : d 17 = false := by
          cases hx : d 17 with
          | false => rfl
          | true => have := hF.out.g15 (hF.out.g17 hx); rw [hd] at this; cases this
        have hcl := HC2.out W hF.out.below (hF.out.q1 hd7 hd) (Nat.le_trans hBW hF.out.size)
        have HD : Hid (d 7 = true ∧ d 15 = false ∧ d 17 = false) := ⟨hd7, h15, h17⟩
        clear h15 h17
        clear hdep hd hd8 hd12 hd13 hd7
        intro K hK
        simp only [Act.put, List.setIfInBounds_toArray, List.set_cons_zero, List.set_cons_succ]
        go_simp
        refine hcl.mono ?_
        rintro e1 W1 ⟨rfl, hp1, hb1, hk1⟩
        go_simp
        refine hK.out _ _ ⟨nb, x6, x40, x41, x42, x43, x44, x45, x46, (.int .i64 (r1v : Int)), (.pointer (some ⟨pp, 0, none⟩)), x49, x50, x51, (.agg #[.int .i64 k1, .int .u64 (c1.1.toNat : Int), .int .u64 (c1.2.1.toNat : Int), .int .u64 (c1.2.2.1.toNat : Int), .int .u64 (c1.2.2.2.toNat : Int), .slice a1 n1 p1]), (.int .i64 (nx : Int)), (.int .i64 (r2v : Int)), x55, x56, x57, by simp only [Act.put, List.setIfInBounds_toArray, List.set_cons_zero, List.set_cons_succ], ?_⟩
        exact ⟨fun h => hF.out.f0 (by simpa using h), fun h => hF.out.f1 (by simpa using h), fun h => hF.out.f2 (by simpa using h), fun h => hF.out.f3 (by simpa using h), fun h => hF.out.f4 (by simpa using h), fun h => hF.out.f5 (by simpa using h), fun h => hF.out.f6 (by simpa using h), fun h => hF.out.f7 (by simpa using h), fun h => hF.out.f8 (by simpa using h), fun h => hF.out.f9 (by simpa using h), fun h => hF.out.f10 (by simpa using h), fun h => hF.out.f11 (by simpa using h), fun h => hF.out.f12 (by simpa using h), fun h => hF.out.f13 (by simpa using h), fun _ => rfl, fun h => hF.out.f15 (by simpa using h), fun h => hF.out.f16 (by simpa using h), fun h => hF.out.f17 (by simpa using h), fun h => hF.out.f18 (by simpa using h), hF.out.below.trans hb1, Nat.le_trans hF.out.size hb1.size, hF.out.keep.trans hk1, fun h => rxno_way ((show d 7 = false by simpa using h).symm.trans HD.out.1), fun _ h => by simp at h, fun _ _ => hp1, fun h => rxno_way (HD.out.2.2.symm.trans (show d 17 = true by simpa using h)), fun h _ => rxno_way (HD.out.2.1.symm.trans (show d 15 = true by simpa using h)), fun _ => by simpa using HD.out.1, fun _ => by simp, fun h => by simpa using hF.out.g16 (by simpa using h), fun h => by simpa using hF.out.g17 (by simpa using h)⟩
      · intro d a W hI hd hdep
        obtain ⟨nb, x6, x40, x41, x42, x43, x44, x45, x46, x47, x48, x49, x50, x51, x52, x53, x54, x55, x56, x57, rfl, hF⟩ := hI
        have hd7 : d 7 = true := rxdep_of hdep 7 (by kernel_rfl)
        have hd14 : d 14 = true := rxdep_of hdep 14 (by kernel_rfl)
        obtain rfl := hF.out.f7 hd7
        obtain rfl := hF.out.f14 hd14
        have h16 : d 16 = false := by
          cases hx : d 16 with
          | false => rfl
          | true => have := hF.out.g16 hx; rw [hd] at this; cases this
        have h17 : d 17 = false := by
          cases hx : d 17 with
          | false => rfl
          | true => have := hF.out.g17 hx; rw [hd] at this; cases this
        have HD : Hid (d 14 = true ∧ d 16 = false ∧ d 17 = false) := ⟨hd14, h16, h17⟩
        clear h16 h17
        clear hdep hd hd7 hd14
        intro K hK
        simp only [Act.put, List.setIfInBounds_toArray, List.set_cons_zero, List.set_cons_succ]
        go_simp
        refine hK.out _ _ ⟨W.heap.size, x6, x40, x41, x42, x43, x44, x45, x46, (.int .i64 (r1v : Int)), x48, x49, x50, x51, x52, x53, (.int .i64 (r2v : Int)), (.slice (some ⟨W.heap.size, 0, none⟩) 2 2), x56, x57, by simp only [Act.put, List.setIfInBounds_toArray, List.set_cons_zero, List.set_cons_succ], ?_⟩
        have hb := box_keep W (.cells #[.int .i64 (r1v : Int), .int .i64 (r2v : Int)] 3)
        have hBW2 : B ≤ W.heap.size := Nat.le_trans hBW hF.out.size
        exact ⟨fun h => hF.out.f0 (by simpa using h), fun h => hF.out.f1 (by simpa using h), fun h => hF.out.f2 (by simpa using h), fun h => hF.out.f3 (by simpa using h), fun h => hF.out.f4 (by simpa using h), fun h => hF.out.f5 (by simpa using h), fun h => hF.out.f6 (by simpa using h), fun h => hF.out.f7 (by simpa using h), fun h => hF.out.f8 (by simpa using h), fun h => hF.out.f9 (by simpa using h), fun h => hF.out.f10 (by simpa using h), fun h => hF.out.f11 (by simpa using h), fun h => hF.out.f12 (by simpa using h), fun h => hF.out.f13 (by simpa using h), fun h => hF.out.f14 (by simpa using h), fun _ => rfl, fun h => rxno_way (HD.out.2.1.symm.trans (show d 16 = true by simpa using h)), fun h => hF.out.f17 (by simpa using h), fun h => hF.out.f18 (by simpa using h), hF.out.below.alloc hBW2 _, Nat.le_trans hF.out.size hb.size, hF.out.keep.below hb, fun h => (hF.out.q0 (by simpa using h)).keep hb, fun h h2 => (hF.out.q1 (by simpa using h) (by simpa using h2)).keep hb, fun h h2 => (hF.out.q2 (by simpa using h) (by simpa using h2)).keep hb, fun h => rxno_way (HD.out.2.2.symm.trans (show d 17 = true by simpa using h)), fun _ _ => ⟨block_new W _, hBW2⟩, fun h => by simpa using hF.out.g14 (by simpa using h), fun _ => by simpa using HD.out.1, fun _ => by simp, fun _ => by simp⟩
      · intro d a W hI hd hdep
        obtain ⟨nb, x6, x40, x41, x42, x43, x44, x45, x46, x47, x48, x49, x50, x51, x52, x53, x54, x55, x56, x57, rfl, hF⟩ := hI
        have hd15 : d 15 = true := rxdep_of hdep 15 (by kernel_rfl)
        obtain rfl := hF.out.f15 hd15
        have HD : Hid (d 15 = true) := hd15
        clear hdep hd hd15
        intro K hK
        simp only [Act.put, List.setIfInBounds_toArray, List.set_cons_zero, List.set_cons_succ]
        go_simp
        refine hK.out _ _ ⟨nb, x6, x40, x41, x42, x43, x44, x45, x46, x47, x48, x49, x50, x51, x52, x53, x54, (.slice (some ⟨nb, 0, none⟩) 2 2), (.agg #[.int .u64 0, .int .u64 0, .int .u64 0, .int .u64 0, .slice (some ⟨nb, 0, none⟩) 2 2]), x57, by simp only [Act.put, List.setIfInBounds_toArray, List.set_cons_zero, List.set_cons_succ], ?_⟩
        exact ⟨fun h => hF.out.f0 (by simpa using h), fun h => hF.out.f1 (by simpa using h), fun h => hF.out.f2 (by simpa using h), fun h => hF.out.f3 (by simpa using h), fun h => hF.out.f4 (by simpa using h), fun h => hF.out.f5 (by simpa using h), fun h => hF.out.f6 (by simpa using h), fun h => hF.out.f7 (by simpa using h), fun h => hF.out.f8 (by simpa using h), fun h => hF.out.f9 (by simpa using h), fun h => hF.out.f10 (by simpa using h), fun h => hF.out.f11 (by simpa using h), fun h => hF.out.f12 (by simpa using h), fun h => hF.out.f13 (by simpa using h), fun h => hF.out.f14 (by simpa using h), fun h => hF.out.f15 (by simpa using h), fun _ => rfl, fun h => hF.out.f17 (by simpa using h), fun h => hF.out.f18 (by simpa using h), hF.out.below, hF.out.size, hF.out.keep, fun h => hF.out.q0 (by simpa using h), fun h h2 => hF.out.q1 (by simpa using h) (by simpa using h2), fun h h2 => hF.out.q2 (by simpa using h) (by simpa using h2), fun h => hF.out.q3 (by simpa using h), fun h h2 => hF.out.nblk (by simpa using h) (by simpa using h2), fun h => by simpa using hF.out.g14 (by simpa using h), fun h => by simpa using hF.out.g15 (by simpa using h), fun _ => by simpa using HD.out, fun h => by simpa using hF.out.g17 (by simpa using h)⟩
      · intro d a W hI hd hdep
        obtain ⟨nb, x6, x40, x41, x42, x43, x44, x45, x46, x47, x48, x49, x50, x51, x52, x53, x54, x55, x56, x57, rfl, hF⟩ := hI
        have hd0 : d 0 = true := rxdep_of hdep 0 (by kernel_rfl)
        have hd16 : d 16 = true := rxdep_of hdep 16 (by kernel_rfl)
        have hd14 : d 14 = true := rxdep_of hdep 14 (by kernel_rfl)
        obtain rfl := hF.out.f0 hd0
        obtain rfl := hF.out.f16 hd16
        obtain rfl := hF.out.f14 hd14
        have h15 := hF.out.g16 hd16
        have h7 := hF.out.g14 hd14
        have hcl := HC3.out W nb (hF.out.q2 hd14 hd) (Nat.le_trans hBW hF.out.size) (hF.out.nblk h15 hd).2 (hF.out.nblk h15 hd).1
        have HD : Hid (d 7 = true ∧ d 14 = true ∧ d 15 = true) := ⟨h7, hd14, h15⟩
        clear h7 h15
        clear hdep hd hd0 hd16 hd14
        intro K hK
        simp only [Act.put, List.setIfInBounds_toArray, List.set_cons_zero, List.set_cons_succ]
        go_simp
        refine hcl.mono ?_
        rintro e1 W1 ⟨rfl, hp1, hb1, hk1⟩
        go_simp
        refine hK.out _ _ ⟨nb, x6, (.pointer (some ⟨pp, 0, none⟩)), x41, x42, x43, x44, x45, x46, x47, x48, x49, x50, x51, x52, x53, (.int .i64 (r2v : Int)), x55, (.agg #[.int .u64 0, .int .u64 0, .int .u64 0, .int .u64 0, .slice (some ⟨nb, 0, none⟩) 2 2]), (.int .i64 (r3v : Int)), by simp only [Act.put, List.setIfInBounds_toArray, List.set_cons_zero, List.set_cons_succ], ?_⟩
        exact ⟨fun h => hF.out.f0 (by simpa using h), fun h => hF.out.f1 (by simpa using h), fun h => hF.out.f2 (by simpa using h), fun h => hF.out.f3 (by simpa using h), fun h => hF.out.f4 (by simpa using h), fun h => hF.out.f5 (by simpa using h), fun h => hF.out.f6 (by simpa using h), fun h => hF.out.f7 (by simpa using h), fun h => hF.out.f8 (by simpa using h), fun h => hF.out.f9 (by simpa using h), fun h => hF.out.f10 (by simpa using h), fun h => hF.out.f11 (by simpa using h), fun h => hF.out.f12 (by simpa using h), fun h => hF.out.f13 (by simpa using h), fun h => hF.out.f14 (by simpa using h), fun h => hF.out.f15 (by simpa using h), fun h => hF.out.f16 (by simpa using h), fun _ => rfl, fun h => hF.out.f18 (by simpa using h), hF.out.below.trans hb1, Nat.le_trans hF.out.size hb1.size, hF.out.keep.trans hk1, fun h => rxno_way ((show d 7 = false by simpa using h).symm.trans HD.out.1), fun _ h => rxno_way ((show d 14 = false by simpa using h).symm.trans HD.out.2.1), fun _ h => by simp at h, fun _ => hp1, fun _ h => by simp at h, fun h => by simpa using hF.out.g14 (by simpa using h), fun h => by simpa using hF.out.g15 (by simpa using h), fun h => by simpa using hF.out.g16 (by simpa using h), fun _ => by simpa using HD.out.2.2⟩
      · intro d a W hI hd hdep
        obtain ⟨nb, x6, x40, x41, x42, x43, x44, x45, x46, x47, x48, x49, x50, x51, x52, x53, x54, x55, x56, x57, rfl, hF⟩ := hI
        have hd17 : d 17 = true := rxdep_of hdep 17 (by kernel_rfl)
        obtain rfl := hF.out.f17 hd17
        clear hdep hd hd17
        intro K hK
        simp only [Act.put, List.setIfInBounds_toArray, List.set_cons_zero, List.set_cons_succ]
        go_simp
        refine hK.out _ _ ⟨nb, (.int .i64 (r3v : Int)), x40, x41, x42, x43, x44, x45, x46, x47, x48, x49, x50, x51, x52, x53, x54, x55, x56, (.int .i64 (r3v : Int)), by simp only [Act.put, List.setIfInBounds_toArray, List.set_cons_zero, List.set_cons_succ], ?_⟩
        exact ⟨fun h => hF.out.f0 (by simpa using h), fun h => hF.out.f1 (by simpa using h), fun h => hF.out.f2 (by simpa using h), fun h => hF.out.f3 (by simpa using h), fun h => hF.out.f4 (by simpa using h), fun h => hF.out.f5 (by simpa using h), fun h => hF.out.f6 (by simpa using h), fun h => hF.out.f7 (by simpa using h), fun h => hF.out.f8 (by simpa using h), fun h => hF.out.f9 (by simpa using h), fun h => hF.out.f10 (by simpa using h), fun h => hF.out.f11 (by simpa using h), fun h => hF.out.f12 (by simpa using h), fun h => hF.out.f13 (by simpa using h), fun h => hF.out.f14 (by simpa using h), fun h => hF.out.f15 (by simpa using h), fun h => hF.out.f16 (by simpa using h), fun h => hF.out.f17 (by simpa using h), fun _ => rfl, hF.out.below, hF.out.size, hF.out.keep, fun h => hF.out.q0 (by simpa using h), fun h h2 => hF.out.q1 (by simpa using h) (by simpa using h2), fun h h2 => hF.out.q2 (by simpa using h) (by simpa using h2), fun h => hF.out.q3 (by simpa using h), fun h h2 => hF.out.nblk (by simpa using h) (by simpa using h2), fun h => by simpa using hF.out.g14 (by simpa using h), fun h => by simpa using hF.out.g15 (by simpa using h), fun h => by simpa using hF.out.g16 (by simpa using h), fun h => by simpa using hF.out.g17 (by simpa using h)⟩
    · intro d a W hI hall
      obtain ⟨nb, x6, x40, x41, x42, x43, x44, x45, x46, x47, x48, x49, x50, x51, x52, x53, x54, x55, x56, x57, rfl, hF⟩ := hI
      simp only [List.length_cons, List.length_nil] at hall
      obtain rfl := hF.out.f0 (hall 0 (by omega))
      obtain rfl := hF.out.f1 (hall 1 (by omega))
      obtain rfl := hF.out.f2 (hall 2 (by omega))
      obtain rfl := hF.out.f3 (hall 3 (by omega))
      obtain rfl := hF.out.f4 (hall 4 (by omega))
      obtain rfl := hF.out.f5 (hall 5 (by omega))
      obtain rfl := hF.out.f6 (hall 6 (by omega))
      obtain rfl := hF.out.f7 (hall 7 (by omega))
      obtain rfl := hF.out.f8 (hall 8 (by omega))
      obtain rfl := hF.out.f9 (hall 9 (by omega))
      obtain rfl := hF.out.f10 (hall 10 (by omega))
      obtain rfl := hF.out.f11 (hall 11 (by omega))
      obtain rfl := hF.out.f12 (hall 12 (by omega))
      obtain rfl := hF.out.f13 (hall 13 (by omega))
      obtain rfl := hF.out.f14 (hall 14 (by omega))
      obtain rfl := hF.out.f15 (hall 15 (by omega))
      obtain rfl := hF.out.f16 (hall 16 (by omega))
      obtain rfl := hF.out.f17 (hall 17 (by omega))
      obtain rfl := hF.out.f18 (hall 18 (by omega))
      have HF : Hid (Below B wr W ∧ Keep3 wr W ∧ Pl B pp f e (lay (.alt x y) ps nx).1 W) := ⟨hF.out.below, hF.out.keep, hF.out.q3 (hall 17 (by omega))⟩
      clear hF hall
      simp only [Act.put, List.setIfInBounds_toArray, List.set_cons_zero, List.set_cons_succ]
      go_wp2_with fail
      go_meet
      case rel => exact ⟨rfl, HF⟩
  case rest =>
    obtain ⟨rfl, HX⟩ := hcut
    go_wp2_with fail
    go_ret
    exact ⟨by simp only [lay]; rw [HV3.out]; rfl, HX.out.2.2, (hb0.mono hBw).trans HX.out.1, ((Keep3.refl w).below hb0).trans HX.out.2.1⟩
end Go.Proofs.Ytgdaegmmapljgaa
