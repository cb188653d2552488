/-
  pushref.spans at one behind the other.
-/
import Derived.Test.YtdnagboonjcehaaSpanC
import Derived.Test.YtdnagboonjcehaaFree
namespace Go.Proofs.Ytdnagboonjcehaa
open Go.RowKit
open Cls Rex
structure CT (w W1 : World) (m : Nat) (s : ByteArray) (b o cap : Nat) (x y : E) (k0 : Int) (c0 : Cl) (ao0 : Option Addr) (n0 p0 : Nat) (k1 : Int) (c1 : Cl) (ao1 : Option Addr) (n1 p1 : Nat) (ga : Nat) (gb : Nat) (A : Nat → Nat → Bool) (Bf : Nat → Nat → Bool) (gc : Nat) (Fc : Nat → Nat → Bool) (d : Nat → Bool) (x4 x59 x60 x61 x62 x63 x64 x65 x66 x67 x68 x69 x70 x71 : Value) (W : World) : Prop where
  f0 : d 0 = true → x59 = (.pointer (some ⟨w.heap.size, 5, none⟩))
  f1 : d 1 = true → x60 = (.slice (some ⟨b, o, none⟩) 2 cap)
  f2 : d 2 = true → x61 = (.pointer (some ⟨b, o, none⟩))
  f3 : d 3 = true → x62 = (.agg #[.int .i64 k0, .int .u64 (c0.1.toNat : Int), .int .u64 (c0.2.1.toNat : Int), .int .u64 (c0.2.2.1.toNat : Int), .int .u64 (c0.2.2.2.toNat : Int), .slice ao0 n0 p0])
  f4 : d 4 = true → x63 = (.string s)
  f5 : d 5 = true → x64 = (.slice (some ⟨ga, 0, none⟩) (s.size + 1) (s.size + 1))
  f6 : d 6 = true → x65 = (.pointer (some ⟨w.heap.size, 5, none⟩))
  f7 : d 7 = true → x66 = (.slice (some ⟨b, o, none⟩) 2 cap)
  f8 : d 8 = true → x67 = (.pointer (some ⟨b, o + 6, none⟩))
  f9 : d 9 = true → x68 = (.agg #[.int .i64 k1, .int .u64 (c1.1.toNat : Int), .int .u64 (c1.2.1.toNat : Int), .int .u64 (c1.2.2.1.toNat : Int), .int .u64 (c1.2.2.2.toNat : Int), .slice ao1 n1 p1])
  f10 : d 10 = true → x69 = (.string s)
  f11 : d 11 = true → x70 = (.slice (some ⟨gb, 0, none⟩) (s.size + 1) (s.size + 1))
  f12 : d 12 = true → x71 = (.slice (some ⟨gc, 0, none⟩) (s.size + 1) (s.size + 1))
  f13 : d 13 = true → x4 = (.slice (some ⟨gc, 0, none⟩) (s.size + 1) (s.size + 1))
  below : Sb W1 W
  ra : d 5 = true → Tb W ga m A ∧ W1.heap.size ≤ ga ∧ ∀ u v, u < m → v < m → (A u v = true ↔ Sp x s.data.toList u v)
  rb : d 11 = true → Tb W gb m Bf ∧ W1.heap.size ≤ gb ∧ ∀ u v, u < m → v < m → (Bf u v = true ↔ Sp y s.data.toList u v)
  rc : d 12 = true → Tb W gc m Fc ∧ W1.heap.size ≤ gc ∧ ∀ u v, u < m → v < m → (Fc u v = true ↔ Rb A Bf u v)
  g12 : d 12 = true → d 5 = true ∧ d 11 = true
  g13 : d 13 = true → d 12 = true
set_option maxHeartbeats 4000000 in
set_option maxRecDepth 20000 in
theorem spans_cat (a c : T) (x y : E) (IA : SC a x) (IC : SC c y) : SC (.mk 4 empty [a, c]) (.cat x y) := by
  intro v B s w hs hx hBw
  obtain ⟨k_, c_, ao, cap, kids_, vals, rfl, ht, -, -, hc, hr⟩ := hx.shape
  injection ht with e1 e2 e3
  subst e1 e2 e3
  obtain ⟨b, o, rfl, hbB, hcl⟩ : ∃ b o, ao = some ⟨b, o, none⟩ ∧ b < B ∧ ∀ i, i < 2 → ∀ j, j < 6 → w.cell? ⟨b, o + i * 6 + j, none⟩ = (vals i).cells[j]? := by
    rcases hc with h | ⟨b, o, h1, h2, h3⟩
    · cases h
    · exact ⟨b, o, h1, h2, h3⟩
  have hr0 : Rx w B (vals 0) a := hr 0 (by simp)
  have hr1 : Rx w B (vals 1) c := hr 1 (by simp)
  obtain ⟨k0, c0, ao0, n0, p0, hv0, q00, q01, q02, q03, q04, q05⟩ := kid_cells hr0 (hcl 0 (by omega))
  obtain ⟨k1, c1, ao1, n1, p1, hv1, q10, q11, q12, q13, q14, q15⟩ := kid_cells hr1 (hcl 1 (by omega))
  simp only [Nat.zero_mul, Nat.add_zero] at q00 q01 q02 q03 q04 q05
  simp only [Nat.one_mul] at q10 q11 q12 q13 q14 q15
  rw [hv0] at hr0
  rw [hv1] at hr1
  have HQ0 : Hid (w.cell? ⟨b, o, none⟩ = some (.int .i64 k0) ∧ w.cell? ⟨b, o + 1, none⟩ = some (.int .u64 (c0.1.toNat : Int)) ∧ w.cell? ⟨b, o + 2, none⟩ = some (.int .u64 (c0.2.1.toNat : Int)) ∧ w.cell? ⟨b, o + 3, none⟩ = some (.int .u64 (c0.2.2.1.toNat : Int)) ∧ w.cell? ⟨b, o + 4, none⟩ = some (.int .u64 (c0.2.2.2.toNat : Int)) ∧ w.cell? ⟨b, o + 5, none⟩ = some (.slice ao0 n0 p0)) := ⟨q00, q01, q02, q03, q04, q05⟩
  have HX0 : Hid (Rx w B (.agg #[.int .i64 k0, .int .u64 (c0.1.toNat : Int), .int .u64 (c0.2.1.toNat : Int), .int .u64 (c0.2.2.1.toNat : Int), .int .u64 (c0.2.2.2.toNat : Int), .slice ao0 n0 p0]) a) := hr0
  have HQ1 : Hid (w.cell? ⟨b, o + 6, none⟩ = some (.int .i64 k1) ∧ w.cell? ⟨b, o + 6 + 1, none⟩ = some (.int .u64 (c1.1.toNat : Int)) ∧ w.cell? ⟨b, o + 6 + 2, none⟩ = some (.int .u64 (c1.2.1.toNat : Int)) ∧ w.cell? ⟨b, o + 6 + 3, none⟩ = some (.int .u64 (c1.2.2.1.toNat : Int)) ∧ w.cell? ⟨b, o + 6 + 4, none⟩ = some (.int .u64 (c1.2.2.2.toNat : Int)) ∧ w.cell? ⟨b, o + 6 + 5, none⟩ = some (.slice ao1 n1 p1)) := ⟨q10, q11, q12, q13, q14, q15⟩
  have HX1 : Hid (Rx w B (.agg #[.int .i64 k1, .int .u64 (c1.1.toNat : Int), .int .u64 (c1.2.1.toNat : Int), .int .u64 (c1.2.2.1.toNat : Int), .int .u64 (c1.2.2.2.toNat : Int), .slice ao1 n1 p1]) c) := hr1
  have HI0 : Hid (SC a x) := IA
  have HI1 : Hid (SC c y) := IC
  clear hx hc hr IA IC hr0 hr1 hv0 hv1 hcl q00 q01 q02 q03 q04 q05 q10 q11 q12 q13 q14 q15
  simp only [List.length_cons, List.length_nil, Nat.zero_add, Nat.reduceAdd]
  obtain ⟨w0, HW0⟩ : ∃ w0, Hid (w.alloc (.cells #[.int .i64 4, .int .u64 (empty.1.toNat : Int), .int .u64 (empty.2.1.toNat : Int), .int .u64 (empty.2.2.1.toNat : Int), .int .u64 (empty.2.2.2.toNat : Int), .slice (some ⟨b, o, none⟩) 2 cap] 27) = w0) := ⟨_, (rfl : w.alloc (.cells #[.int .i64 4, .int .u64 (empty.1.toNat : Int), .int .u64 (empty.2.1.toNat : Int), .int .u64 (empty.2.2.1.toNat : Int), .int .u64 (empty.2.2.2.toNat : Int), .slice (some ⟨b, o, none⟩) 2 cap] 27) = w.alloc (.cells #[.int .i64 4, .int .u64 (empty.1.toNat : Int), .int .u64 (empty.2.1.toNat : Int), .int .u64 (empty.2.2.1.toNat : Int), .int .u64 (empty.2.2.2.toNat : Int), .slice (some ⟨b, o, none⟩) 2 cap] 27))⟩
  have hb0 : Below w.heap.size w w0 := by rw [← HW0.out]; exact box_keep w _
  have hz0 : w0.heap[w.heap.size]? = some (.cells #[.int .i64 4, .int .u64 (empty.1.toNat : Int), .int .u64 (empty.2.1.toNat : Int), .int .u64 (empty.2.2.1.toNat : Int), .int .u64 (empty.2.2.2.toNat : Int), .slice (some ⟨b, o, none⟩) 2 cap] 27) := by rw [← HW0.out]; exact block_new w _
  obtain ⟨g, HG⟩ : ∃ g, Hid (w0.heap.size = g) := ⟨_, (rfl : w0.heap.size = w0.heap.size)⟩
  have hbl := blank_any s.size (by omega) w0
  rw [HG.out] at hbl
  have hgl : w.heap.size + 1 ≤ g := by rw [← HG.out, ← HW0.out]; simp
  go_enter Try.func22, Try.ntmps22
  go_wp2_with fail
  rw [HW0.out]
  refine hbl.mono ?_
  rintro _ W1 ⟨rfl, hT, hBl, hsz⟩
  have hB1 : Below w0.heap.size w0 W1 := by rw [HG.out]; exact hBl
  have H0 : Hid (Sg w (.cells #[.int .i64 4, .int .u64 (empty.1.toNat : Int), .int .u64 (empty.2.1.toNat : Int), .int .u64 (empty.2.2.1.toNat : Int), .int .u64 (empty.2.2.2.toNat : Int), .slice (some ⟨b, o, none⟩) 2 cap] 27) g (s.size + 1) (fun _ _ => false) W1) := ⟨hb0.trans (hB1.mono hb0.size), blk_next hB1 hz0, hT, hgl⟩
  clear hT hBl hsz hbl hB1 hb0 hz0
  have y0 := cell_of_row W1 w.heap.size 0 _ 27 (0, 0) H0.out.box
  simp only [List.getElem?_toArray, List.getElem?_cons_zero] at y0
  have HY5 : Hid (W1.cell? ⟨w.heap.size, 5, none⟩ = some (.slice (some ⟨b, o, none⟩) 2 cap)) := by
    show _ = _
    have := cell_of_row W1 w.heap.size 5 _ 27 (0, 0) H0.out.box
    simpa using this
  have HLW : Hid (w.heap.size < W1.heap.size) := blk_lt H0.out.box
  go_wp2_with fail
  clear y0
  refine wp_region_free mixed (fun a0 d a W => ∃ (ga : Nat) (gb : Nat) (A : Nat → Nat → Bool) (Bf : Nat → Nat → Bool) (gc : Nat) (Fc : Nat → Nat → Bool) (x4 x59 x60 x61 x62 x63 x64 x65 x66 x67 x68 x69 x70 x71 : Value), a = ((((((((((((((a0.put (some 4) x4).put (some 59) x59).put (some 60) x60).put (some 61) x61).put (some 62) x62).put (some 63) x63).put (some 64) x64).put (some 65) x65).put (some 66) x66).put (some 67) x67).put (some 68) x68).put (some 69) x69).put (some 70) x70).put (some 71) x71) ∧ Hid (CT w W1 (s.size + 1) s b o cap x y k0 c0 ao0 n0 p0 k1 c1 ao1 n1 p1 ga gb A Bf gc Fc d x4 x59 x60 x61 x62 x63 x64 x65 x66 x67 x68 x69 x70 x71 W)) (by kernel_rfl) ⟨0, 0, (fun _ _ => false), (fun _ _ => false), 0, (fun _ _ => false), (.slice none 0 0), undef, undef, undef, undef, undef, undef, undef, undef, undef, undef, undef, undef, undef, by simp only [Act.put, List.setIfInBounds_toArray, List.set_cons_zero, List.set_cons_succ], ?_⟩ ?_ ?_
  · exact ⟨fun h => no_way h, fun h => no_way h, fun h => no_way h, fun h => no_way h, fun h => no_way h, fun h => no_way h, fun h => no_way h, fun h => no_way h, fun h => no_way h, fun h => no_way h, fun h => no_way h, fun h => no_way h, fun h => no_way h, fun h => no_way h, Below.drew (Below.refl _ W1), fun h => no_way h, fun h => no_way h, fun h => no_way h, fun h => no_way h, fun h => no_way h⟩
  · simp only [StepAll, and_true]
    refine ⟨?_, ?_, ?_, ?_, ?_, ?_, ?_, ?_, ?_, ?_, ?_, ?_, ?_, ?_⟩
    · intro d a W hI hd hdep
      obtain ⟨ga, gb, A, Bf, gc, Fc, x4, x59, x60, x61, x62, x63, x64, x65, x66, x67, x68, x69, x70, x71, rfl, hF⟩ := hI
      clear hdep hd
      intro K hK
      simp only [Act.put, List.setIfInBounds_toArray, List.set_cons_zero, List.set_cons_succ]
      go_simp
      refine hK.out _ _ ⟨ga, gb, A, Bf, gc, Fc, x4, (.pointer (some ⟨w.heap.size, 5, none⟩)), x60, x61, x62, x63, x64, x65, x66, x67, x68, x69, x70, x71, by simp only [Act.put, List.setIfInBounds_toArray, List.set_cons_zero, List.set_cons_succ], ?_⟩
      exact ⟨fun _ => rfl, fun h => hF.out.f1 (by simpa using h), fun h => hF.out.f2 (by simpa using h), fun h => hF.out.f3 (by simpa using h), fun h => hF.out.f4 (by simpa using h), fun h => hF.out.f5 (by simpa using h), fun h => hF.out.f6 (by simpa using h), fun h => hF.out.f7 (by simpa using h), fun h => hF.out.f8 (by simpa using h), fun h => hF.out.f9 (by simpa using h), fun h => hF.out.f10 (by simpa using h), fun h => hF.out.f11 (by simpa using h), fun h => hF.out.f12 (by simpa using h), fun h => hF.out.f13 (by simpa using h), hF.out.below, fun h => hF.out.ra (by simpa using h), fun h => hF.out.rb (by simpa using h), fun h => hF.out.rc (by simpa using h), fun h => by simpa using hF.out.g12 (by simpa using h), fun h => by simpa using hF.out.g13 (by simpa using h)⟩
    · intro d a W hI hd hdep
      obtain ⟨ga, gb, A, Bf, gc, Fc, x4, x59, x60, x61, x62, x63, x64, x65, x66, x67, x68, x69, x70, x71, rfl, hF⟩ := hI
      have hd0 : d 0 = true := dep_of hdep 0 (by kernel_rfl)
      obtain rfl := hF.out.f0 hd0
      have s5 : W.cell? ⟨w.heap.size, 5, none⟩ = some (.slice (some ⟨b, o, none⟩) 2 cap) := (Below.cell hF.out.below (p := ⟨w.heap.size, 5, none⟩) HLW.out).trans HY5.out
      clear hdep hd hd0
      intro K hK
      simp only [Act.put, List.setIfInBounds_toArray, List.set_cons_zero, List.set_cons_succ]
      go_simp
      refine hK.out _ _ ⟨ga, gb, A, Bf, gc, Fc, x4, (.pointer (some ⟨w.heap.size, 5, none⟩)), (.slice (some ⟨b, o, none⟩) 2 cap), x61, x62, x63, x64, x65, x66, x67, x68, x69, x70, x71, by simp only [Act.put, List.setIfInBounds_toArray, List.set_cons_zero, List.set_cons_succ], ?_⟩
      exact ⟨fun h => hF.out.f0 (by simpa using h), fun _ => rfl, fun h => hF.out.f2 (by simpa using h), fun h => hF.out.f3 (by simpa using h), fun h => hF.out.f4 (by simpa using h), fun h => hF.out.f5 (by simpa using h), fun h => hF.out.f6 (by simpa using h), fun h => hF.out.f7 (by simpa using h), fun h => hF.out.f8 (by simpa using h), fun h => hF.out.f9 (by simpa using h), fun h => hF.out.f10 (by simpa using h), fun h => hF.out.f11 (by simpa using h), fun h => hF.out.f12 (by simpa using h), fun h => hF.out.f13 (by simpa using h), hF.out.below, fun h => hF.out.ra (by simpa using h), fun h => hF.out.rb (by simpa using h), fun h => hF.out.rc (by simpa using h), fun h => by simpa using hF.out.g12 (by simpa using h), fun h => by simpa using hF.out.g13 (by simpa using h)⟩
    · intro d a W hI hd hdep
      obtain ⟨ga, gb, A, Bf, gc, Fc, x4, x59, x60, x61, x62, x63, x64, x65, x66, x67, x68, x69, x70, x71, rfl, hF⟩ := hI
      have hd1 : d 1 = true := dep_of hdep 1 (by kernel_rfl)
      obtain rfl := hF.out.f1 hd1
      clear hdep hd hd1
      intro K hK
      simp only [Act.put, List.setIfInBounds_toArray, List.set_cons_zero, List.set_cons_succ]
      go_simp
      refine hK.out _ _ ⟨ga, gb, A, Bf, gc, Fc, x4, x59, (.slice (some ⟨b, o, none⟩) 2 cap), (.pointer (some ⟨b, o, none⟩)), x62, x63, x64, x65, x66, x67, x68, x69, x70, x71, by simp only [Act.put, List.setIfInBounds_toArray, List.set_cons_zero, List.set_cons_succ], ?_⟩
      exact ⟨fun h => hF.out.f0 (by simpa using h), fun h => hF.out.f1 (by simpa using h), fun _ => rfl, fun h => hF.out.f3 (by simpa using h), fun h => hF.out.f4 (by simpa using h), fun h => hF.out.f5 (by simpa using h), fun h => hF.out.f6 (by simpa using h), fun h => hF.out.f7 (by simpa using h), fun h => hF.out.f8 (by simpa using h), fun h => hF.out.f9 (by simpa using h), fun h => hF.out.f10 (by simpa using h), fun h => hF.out.f11 (by simpa using h), fun h => hF.out.f12 (by simpa using h), fun h => hF.out.f13 (by simpa using h), hF.out.below, fun h => hF.out.ra (by simpa using h), fun h => hF.out.rb (by simpa using h), fun h => hF.out.rc (by simpa using h), fun h => by simpa using hF.out.g12 (by simpa using h), fun h => by simpa using hF.out.g13 (by simpa using h)⟩
    · intro d a W hI hd hdep
      obtain ⟨ga, gb, A, Bf, gc, Fc, x4, x59, x60, x61, x62, x63, x64, x65, x66, x67, x68, x69, x70, x71, rfl, hF⟩ := hI
      have hd2 : d 2 = true := dep_of hdep 2 (by kernel_rfl)
      obtain rfl := hF.out.f2 hd2
      have hBW : Below B w W := (H0.out.below.trans (Below.mono hF.out.below H0.out.below.size)).mono hBw
      have s0 := (hBW.cell (p := ⟨b, o, none⟩) hbB).trans HQ0.out.1
      have s1 := (hBW.cell (p := ⟨b, o + 1, none⟩) hbB).trans HQ0.out.2.1
      have s2 := (hBW.cell (p := ⟨b, o + 2, none⟩) hbB).trans HQ0.out.2.2.1
      have s3 := (hBW.cell (p := ⟨b, o + 3, none⟩) hbB).trans HQ0.out.2.2.2.1
      have s4 := (hBW.cell (p := ⟨b, o + 4, none⟩) hbB).trans HQ0.out.2.2.2.2.1
      have s5 := (hBW.cell (p := ⟨b, o + 5, none⟩) hbB).trans HQ0.out.2.2.2.2.2
      clear hBW
      clear hdep hd hd2
      intro K hK
      simp only [Act.put, List.setIfInBounds_toArray, List.set_cons_zero, List.set_cons_succ]
      go_simp
      refine hK.out _ _ ⟨ga, gb, A, Bf, gc, Fc, x4, x59, x60, (.pointer (some ⟨b, o, none⟩)), (.agg #[.int .i64 k0, .int .u64 (c0.1.toNat : Int), .int .u64 (c0.2.1.toNat : Int), .int .u64 (c0.2.2.1.toNat : Int), .int .u64 (c0.2.2.2.toNat : Int), .slice ao0 n0 p0]), x63, x64, x65, x66, x67, x68, x69, x70, x71, by simp only [Act.put, List.setIfInBounds_toArray, List.set_cons_zero, List.set_cons_succ], ?_⟩
      exact ⟨fun h => hF.out.f0 (by simpa using h), fun h => hF.out.f1 (by simpa using h), fun h => hF.out.f2 (by simpa using h), fun _ => rfl, fun h => hF.out.f4 (by simpa using h), fun h => hF.out.f5 (by simpa using h), fun h => hF.out.f6 (by simpa using h), fun h => hF.out.f7 (by simpa using h), fun h => hF.out.f8 (by simpa using h), fun h => hF.out.f9 (by simpa using h), fun h => hF.out.f10 (by simpa using h), fun h => hF.out.f11 (by simpa using h), fun h => hF.out.f12 (by simpa using h), fun h => hF.out.f13 (by simpa using h), hF.out.below, fun h => hF.out.ra (by simpa using h), fun h => hF.out.rb (by simpa using h), fun h => hF.out.rc (by simpa using h), fun h => by simpa using hF.out.g12 (by simpa using h), fun h => by simpa using hF.out.g13 (by simpa using h)⟩
    · intro d a W hI hd hdep
      obtain ⟨ga, gb, A, Bf, gc, Fc, x4, x59, x60, x61, x62, x63, x64, x65, x66, x67, x68, x69, x70, x71, rfl, hF⟩ := hI
      clear hdep hd
      intro K hK
      simp only [Act.put, List.setIfInBounds_toArray, List.set_cons_zero, List.set_cons_succ]
      go_simp
      refine hK.out _ _ ⟨ga, gb, A, Bf, gc, Fc, x4, x59, x60, x61, x62, (.string s), x64, x65, x66, x67, x68, x69, x70, x71, by simp only [Act.put, List.setIfInBounds_toArray, List.set_cons_zero, List.set_cons_succ], ?_⟩
      exact ⟨fun h => hF.out.f0 (by simpa using h), fun h => hF.out.f1 (by simpa using h), fun h => hF.out.f2 (by simpa using h), fun h => hF.out.f3 (by simpa using h), fun _ => rfl, fun h => hF.out.f5 (by simpa using h), fun h => hF.out.f6 (by simpa using h), fun h => hF.out.f7 (by simpa using h), fun h => hF.out.f8 (by simpa using h), fun h => hF.out.f9 (by simpa using h), fun h => hF.out.f10 (by simpa using h), fun h => hF.out.f11 (by simpa using h), fun h => hF.out.f12 (by simpa using h), fun h => hF.out.f13 (by simpa using h), hF.out.below, fun h => hF.out.ra (by simpa using h), fun h => hF.out.rb (by simpa using h), fun h => hF.out.rc (by simpa using h), fun h => by simpa using hF.out.g12 (by simpa using h), fun h => by simpa using hF.out.g13 (by simpa using h)⟩
    · intro d a W hI hd hdep
      obtain ⟨ga, gb, A, Bf, gc, Fc, x4, x59, x60, x61, x62, x63, x64, x65, x66, x67, x68, x69, x70, x71, rfl, hF⟩ := hI
      have hd3 : d 3 = true := dep_of hdep 3 (by kernel_rfl)
      have hd4 : d 4 = true := dep_of hdep 4 (by kernel_rfl)
      obtain rfl := hF.out.f3 hd3
      obtain rfl := hF.out.f4 hd4
      have h12 : d 12 = false := by
        cases hx : d 12 with
        | false => rfl
        | true => exact absurd ((hF.out.g12 hx).1) (by rw [hd]; simp)
      have HD : Hid (d 12 = false) := h12
      clear h12
      have hcl := HI0.out _ B s W hs ((HX0.out.next ((H0.out.below.trans (Below.mono hF.out.below H0.out.below.size)).mono hBw))) (Nat.le_trans hBw (Nat.le_trans H0.out.below.size (Below.size hF.out.below)))
      clear hdep hd hd3 hd4
      intro K hK
      simp only [Act.put, List.setIfInBounds_toArray, List.set_cons_zero, List.set_cons_succ]
      go_simp
      refine hcl.mono ?_
      rintro _ W2 ⟨ga1, rfl, hga, ⟨A1, hT, hA⟩, hb1⟩
      go_simp
      refine hK.out _ _ ⟨ga1, gb, A1, Bf, gc, Fc, x4, x59, x60, x61, (.agg #[.int .i64 k0, .int .u64 (c0.1.toNat : Int), .int .u64 (c0.2.1.toNat : Int), .int .u64 (c0.2.2.1.toNat : Int), .int .u64 (c0.2.2.2.toNat : Int), .slice ao0 n0 p0]), (.string s), (.slice (some ⟨ga1, 0, none⟩) (s.size + 1) (s.size + 1)), x65, x66, x67, x68, x69, x70, x71, by simp only [Act.put, List.setIfInBounds_toArray, List.set_cons_zero, List.set_cons_succ], ?_⟩
      exact ⟨fun h => hF.out.f0 (by simpa using h), fun h => hF.out.f1 (by simpa using h), fun h => hF.out.f2 (by simpa using h), fun h => hF.out.f3 (by simpa using h), fun h => hF.out.f4 (by simpa using h), fun _ => rfl, fun h => hF.out.f6 (by simpa using h), fun h => hF.out.f7 (by simpa using h), fun h => hF.out.f8 (by simpa using h), fun h => hF.out.f9 (by simpa using h), fun h => hF.out.f10 (by simpa using h), fun h => hF.out.f11 (by simpa using h), fun h => hF.out.f12 (by simpa using h), fun h => hF.out.f13 (by simpa using h), Sb.next _ _ hF.out.below hb1, fun _ => ⟨hT, Nat.le_trans (Below.size hF.out.below) hga, hA⟩, fun h => ⟨(hF.out.rb (by simpa using h)).1.next hb1, (hF.out.rb (by simpa using h)).2⟩, fun h => no_way (HD.out.symm.trans (by simpa using h)), fun h => ⟨by simp, by simpa using (hF.out.g12 (by simpa using h)).2⟩, fun h => by simpa using hF.out.g13 (by simpa using h)⟩
    · intro d a W hI hd hdep
      obtain ⟨ga, gb, A, Bf, gc, Fc, x4, x59, x60, x61, x62, x63, x64, x65, x66, x67, x68, x69, x70, x71, rfl, hF⟩ := hI
      clear hdep hd
      intro K hK
      simp only [Act.put, List.setIfInBounds_toArray, List.set_cons_zero, List.set_cons_succ]
      go_simp
      refine hK.out _ _ ⟨ga, gb, A, Bf, gc, Fc, x4, x59, x60, x61, x62, x63, x64, (.pointer (some ⟨w.heap.size, 5, none⟩)), x66, x67, x68, x69, x70, x71, by simp only [Act.put, List.setIfInBounds_toArray, List.set_cons_zero, List.set_cons_succ], ?_⟩
      exact ⟨fun h => hF.out.f0 (by simpa using h), fun h => hF.out.f1 (by simpa using h), fun h => hF.out.f2 (by simpa using h), fun h => hF.out.f3 (by simpa using h), fun h => hF.out.f4 (by simpa using h), fun h => hF.out.f5 (by simpa using h), fun _ => rfl, fun h => hF.out.f7 (by simpa using h), fun h => hF.out.f8 (by simpa using h), fun h => hF.out.f9 (by simpa using h), fun h => hF.out.f10 (by simpa using h), fun h => hF.out.f11 (by simpa using h), fun h => hF.out.f12 (by simpa using h), fun h => hF.out.f13 (by simpa using h), hF.out.below, fun h => hF.out.ra (by simpa using h), fun h => hF.out.rb (by simpa using h), fun h => hF.out.rc (by simpa using h), fun h => by simpa using hF.out.g12 (by simpa using h), fun h => by simpa using hF.out.g13 (by simpa using h)⟩
    · intro d a W hI hd hdep
      obtain ⟨ga, gb, A, Bf, gc, Fc, x4, x59, x60, x61, x62, x63, x64, x65, x66, x67, x68, x69, x70, x71, rfl, hF⟩ := hI
      have hd6 : d 6 = true := dep_of hdep 6 (by kernel_rfl)
      obtain rfl := hF.out.f6 hd6
      have s5 : W.cell? ⟨w.heap.size, 5, none⟩ = some (.slice (some ⟨b, o, none⟩) 2 cap) := (Below.cell hF.out.below (p := ⟨w.heap.size, 5, none⟩) HLW.out).trans HY5.out
      clear hdep hd hd6
      intro K hK
      simp only [Act.put, List.setIfInBounds_toArray, List.set_cons_zero, List.set_cons_succ]
      go_simp
      refine hK.out _ _ ⟨ga, gb, A, Bf, gc, Fc, x4, x59, x60, x61, x62, x63, x64, (.pointer (some ⟨w.heap.size, 5, none⟩)), (.slice (some ⟨b, o, none⟩) 2 cap), x67, x68, x69, x70, x71, by simp only [Act.put, List.setIfInBounds_toArray, List.set_cons_zero, List.set_cons_succ], ?_⟩
      exact ⟨fun h => hF.out.f0 (by simpa using h), fun h => hF.out.f1 (by simpa using h), fun h => hF.out.f2 (by simpa using h), fun h => hF.out.f3 (by simpa using h), fun h => hF.out.f4 (by simpa using h), fun h => hF.out.f5 (by simpa using h), fun h => hF.out.f6 (by simpa using h), fun _ => rfl, fun h => hF.out.f8 (by simpa using h), fun h => hF.out.f9 (by simpa using h), fun h => hF.out.f10 (by simpa using h), fun h => hF.out.f11 (by simpa using h), fun h => hF.out.f12 (by simpa using h), fun h => hF.out.f13 (by simpa using h), hF.out.below, fun h => hF.out.ra (by simpa using h), fun h => hF.out.rb (by simpa using h), fun h => hF.out.rc (by simpa using h), fun h => by simpa using hF.out.g12 (by simpa using h), fun h => by simpa using hF.out.g13 (by simpa using h)⟩
    · intro d a W hI hd hdep
      obtain ⟨ga, gb, A, Bf, gc, Fc, x4, x59, x60, x61, x62, x63, x64, x65, x66, x67, x68, x69, x70, x71, rfl, hF⟩ := hI
      have hd7 : d 7 = true := dep_of hdep 7 (by kernel_rfl)
      obtain rfl := hF.out.f7 hd7
      clear hdep hd hd7
      intro K hK
      simp only [Act.put, List.setIfInBounds_toArray, List.set_cons_zero, List.set_cons_succ]
      go_simp
      refine hK.out _ _ ⟨ga, gb, A, Bf, gc, Fc, x4, x59, x60, x61, x62, x63, x64, x65, (.slice (some ⟨b, o, none⟩) 2 cap), (.pointer (some ⟨b, o + 6, none⟩)), x68, x69, x70, x71, by simp only [Act.put, List.setIfInBounds_toArray, List.set_cons_zero, List.set_cons_succ], ?_⟩
      exact ⟨fun h => hF.out.f0 (by simpa using h), fun h => hF.out.f1 (by simpa using h), fun h => hF.out.f2 (by simpa using h), fun h => hF.out.f3 (by simpa using h), fun h => hF.out.f4 (by simpa using h), fun h => hF.out.f5 (by simpa using h), fun h => hF.out.f6 (by simpa using h), fun h => hF.out.f7 (by simpa using h), fun _ => rfl, fun h => hF.out.f9 (by simpa using h), fun h => hF.out.f10 (by simpa using h), fun h => hF.out.f11 (by simpa using h), fun h => hF.out.f12 (by simpa using h), fun h => hF.out.f13 (by simpa using h), hF.out.below, fun h => hF.out.ra (by simpa using h), fun h => hF.out.rb (by simpa using h), fun h => hF.out.rc (by simpa using h), fun h => by simpa using hF.out.g12 (by simpa using h), fun h => by simpa using hF.out.g13 (by simpa using h)⟩
    · intro d a W hI hd hdep
      obtain ⟨ga, gb, A, Bf, gc, Fc, x4, x59, x60, x61, x62, x63, x64, x65, x66, x67, x68, x69, x70, x71, rfl, hF⟩ := hI
      have hd8 : d 8 = true := dep_of hdep 8 (by kernel_rfl)
      obtain rfl := hF.out.f8 hd8
      have hBW : Below B w W := (H0.out.below.trans (Below.mono hF.out.below H0.out.below.size)).mono hBw
      have s0 := (hBW.cell (p := ⟨b, o + 6, none⟩) hbB).trans HQ1.out.1
      have s1 := (hBW.cell (p := ⟨b, o + 6 + 1, none⟩) hbB).trans HQ1.out.2.1
      have s2 := (hBW.cell (p := ⟨b, o + 6 + 2, none⟩) hbB).trans HQ1.out.2.2.1
      have s3 := (hBW.cell (p := ⟨b, o + 6 + 3, none⟩) hbB).trans HQ1.out.2.2.2.1
      have s4 := (hBW.cell (p := ⟨b, o + 6 + 4, none⟩) hbB).trans HQ1.out.2.2.2.2.1
      have s5 := (hBW.cell (p := ⟨b, o + 6 + 5, none⟩) hbB).trans HQ1.out.2.2.2.2.2
      clear hBW
      clear hdep hd hd8
      intro K hK
      simp only [Act.put, List.setIfInBounds_toArray, List.set_cons_zero, List.set_cons_succ]
      go_simp
      refine hK.out _ _ ⟨ga, gb, A, Bf, gc, Fc, x4, x59, x60, x61, x62, x63, x64, x65, x66, (.pointer (some ⟨b, o + 6, none⟩)), (.agg #[.int .i64 k1, .int .u64 (c1.1.toNat : Int), .int .u64 (c1.2.1.toNat : Int), .int .u64 (c1.2.2.1.toNat : Int), .int .u64 (c1.2.2.2.toNat : Int), .slice ao1 n1 p1]), x69, x70, x71, by simp only [Act.put, List.setIfInBounds_toArray, List.set_cons_zero, List.set_cons_succ], ?_⟩
      exact ⟨fun h => hF.out.f0 (by simpa using h), fun h => hF.out.f1 (by simpa using h), fun h => hF.out.f2 (by simpa using h), fun h => hF.out.f3 (by simpa using h), fun h => hF.out.f4 (by simpa using h), fun h => hF.out.f5 (by simpa using h), fun h => hF.out.f6 (by simpa using h), fun h => hF.out.f7 (by simpa using h), fun h => hF.out.f8 (by simpa using h), fun _ => rfl, fun h => hF.out.f10 (by simpa using h), fun h => hF.out.f11 (by simpa using h), fun h => hF.out.f12 (by simpa using h), fun h => hF.out.f13 (by simpa using h), hF.out.below, fun h => hF.out.ra (by simpa using h), fun h => hF.out.rb (by simpa using h), fun h => hF.out.rc (by simpa using h), fun h => by simpa using hF.out.g12 (by simpa using h), fun h => by simpa using hF.out.g13 (by simpa using h)⟩
    · intro d a W hI hd hdep
      obtain ⟨ga, gb, A, Bf, gc, Fc, x4, x59, x60, x61, x62, x63, x64, x65, x66, x67, x68, x69, x70, x71, rfl, hF⟩ := hI
      clear hdep hd
      intro K hK
      simp only [Act.put, List.setIfInBounds_toArray, List.set_cons_zero, List.set_cons_succ]
      go_simp
      refine hK.out _ _ ⟨ga, gb, A, Bf, gc, Fc, x4, x59, x60, x61, x62, x63, x64, x65, x66, x67, x68, (.string s), x70, x71, by simp only [Act.put, List.setIfInBounds_toArray, List.set_cons_zero, List.set_cons_succ], ?_⟩
      exact ⟨fun h => hF.out.f0 (by simpa using h), fun h => hF.out.f1 (by simpa using h), fun h => hF.out.f2 (by simpa using h), fun h => hF.out.f3 (by simpa using h), fun h => hF.out.f4 (by simpa using h), fun h => hF.out.f5 (by simpa using h), fun h => hF.out.f6 (by simpa using h), fun h => hF.out.f7 (by simpa using h), fun h => hF.out.f8 (by simpa using h), fun h => hF.out.f9 (by simpa using h), fun _ => rfl, fun h => hF.out.f11 (by simpa using h), fun h => hF.out.f12 (by simpa using h), fun h => hF.out.f13 (by simpa using h), hF.out.below, fun h => hF.out.ra (by simpa using h), fun h => hF.out.rb (by simpa using h), fun h => hF.out.rc (by simpa using h), fun h => by simpa using hF.out.g12 (by simpa using h), fun h => by simpa using hF.out.g13 (by simpa using h)⟩
    · intro d a W hI hd hdep
      obtain ⟨ga, gb, A, Bf, gc, Fc, x4, x59, x60, x61, x62, x63, x64, x65, x66, x67, x68, x69, x70, x71, rfl, hF⟩ := hI
      have hd9 : d 9 = true := dep_of hdep 9 (by kernel_rfl)
      have hd10 : d 10 = true := dep_of hdep 10 (by kernel_rfl)
      obtain rfl := hF.out.f9 hd9
      obtain rfl := hF.out.f10 hd10
      have h12 : d 12 = false := by
        cases hx : d 12 with
        | false => rfl
        | true => exact absurd ((hF.out.g12 hx).2) (by rw [hd]; simp)
      have HD : Hid (d 12 = false) := h12
      clear h12
      have hcl := HI1.out _ B s W hs ((HX1.out.next ((H0.out.below.trans (Below.mono hF.out.below H0.out.below.size)).mono hBw))) (Nat.le_trans hBw (Nat.le_trans H0.out.below.size (Below.size hF.out.below)))
      clear hdep hd hd9 hd10
      intro K hK
      simp only [Act.put, List.setIfInBounds_toArray, List.set_cons_zero, List.set_cons_succ]
      go_simp
      refine hcl.mono ?_
      rintro _ W2 ⟨gb1, rfl, hga, ⟨Bf1, hT, hA⟩, hb1⟩
      go_simp
      refine hK.out _ _ ⟨ga, gb1, A, Bf1, gc, Fc, x4, x59, x60, x61, x62, x63, x64, x65, x66, x67, (.agg #[.int .i64 k1, .int .u64 (c1.1.toNat : Int), .int .u64 (c1.2.1.toNat : Int), .int .u64 (c1.2.2.1.toNat : Int), .int .u64 (c1.2.2.2.toNat : Int), .slice ao1 n1 p1]), (.string s), (.slice (some ⟨gb1, 0, none⟩) (s.size + 1) (s.size + 1)), x71, by simp only [Act.put, List.setIfInBounds_toArray, List.set_cons_zero, List.set_cons_succ], ?_⟩
      exact ⟨fun h => hF.out.f0 (by simpa using h), fun h => hF.out.f1 (by simpa using h), fun h => hF.out.f2 (by simpa using h), fun h => hF.out.f3 (by simpa using h), fun h => hF.out.f4 (by simpa using h), fun h => hF.out.f5 (by simpa using h), fun h => hF.out.f6 (by simpa using h), fun h => hF.out.f7 (by simpa using h), fun h => hF.out.f8 (by simpa using h), fun h => hF.out.f9 (by simpa using h), fun h => hF.out.f10 (by simpa using h), fun _ => rfl, fun h => hF.out.f12 (by simpa using h), fun h => hF.out.f13 (by simpa using h), Sb.next _ _ hF.out.below hb1, fun h => ⟨(hF.out.ra (by simpa using h)).1.next hb1, (hF.out.ra (by simpa using h)).2⟩, fun _ => ⟨hT, Nat.le_trans (Below.size hF.out.below) hga, hA⟩, fun h => no_way (HD.out.symm.trans (by simpa using h)), fun h => ⟨by simpa using (hF.out.g12 (by simpa using h)).1, by simp⟩, fun h => by simpa using hF.out.g13 (by simpa using h)⟩
    · intro d a W hI hd hdep
      obtain ⟨ga, gb, A, Bf, gc, Fc, x4, x59, x60, x61, x62, x63, x64, x65, x66, x67, x68, x69, x70, x71, rfl, hF⟩ := hI
      have hd5 : d 5 = true := dep_of hdep 5 (by kernel_rfl)
      have hd11 : d 11 = true := dep_of hdep 11 (by kernel_rfl)
      obtain rfl := hF.out.f5 hd5
      obtain rfl := hF.out.f11 hd11
      have h13 : d 13 = false := by
        cases hx : d 13 with
        | false => rfl
        | true => exact absurd (hF.out.g13 hx) (by rw [hd]; simp)
      have HD13 : Hid (d 13 = false) := h13
      clear h13
      have HA := hF.out.ra hd5
      have HB := hF.out.rb hd11
      have hcl := refBehind_any s.size ga gb (by omega) A Bf W HA.1 HB.1
      have HD : Hid (d 5 = true ∧ d 11 = true) := ⟨hd5, hd11⟩
      have HSZ : Hid (W1.heap.size ≤ W.heap.size) := Below.size hF.out.below
      clear HA HB
      clear hdep hd hd5 hd11
      intro K hK
      simp only [Act.put, List.setIfInBounds_toArray, List.set_cons_zero, List.set_cons_succ]
      go_simp
      refine hcl.mono ?_
      rintro _ W2 ⟨rfl, ⟨F1, hT, hA⟩, hb1, -⟩
      go_simp
      refine hK.out _ _ ⟨ga, gb, A, Bf, W.heap.size, F1, x4, x59, x60, x61, x62, x63, (.slice (some ⟨ga, 0, none⟩) (s.size + 1) (s.size + 1)), x65, x66, x67, x68, x69, (.slice (some ⟨gb, 0, none⟩) (s.size + 1) (s.size + 1)), (.slice (some ⟨W.heap.size, 0, none⟩) (s.size + 1) (s.size + 1)), by simp only [Act.put, List.setIfInBounds_toArray, List.set_cons_zero, List.set_cons_succ], ?_⟩
      exact ⟨fun h => hF.out.f0 (by simpa using h), fun h => hF.out.f1 (by simpa using h), fun h => hF.out.f2 (by simpa using h), fun h => hF.out.f3 (by simpa using h), fun h => hF.out.f4 (by simpa using h), fun h => hF.out.f5 (by simpa using h), fun h => hF.out.f6 (by simpa using h), fun h => hF.out.f7 (by simpa using h), fun h => hF.out.f8 (by simpa using h), fun h => hF.out.f9 (by simpa using h), fun h => hF.out.f10 (by simpa using h), fun h => hF.out.f11 (by simpa using h), fun _ => rfl, fun h => no_way (HD13.out.symm.trans (by simpa using h)), Sb.next _ _ hF.out.below hb1, fun h => ⟨(hF.out.ra (by simpa using h)).1.next hb1, (hF.out.ra (by simpa using h)).2⟩, fun h => ⟨(hF.out.rb (by simpa using h)).1.next hb1, (hF.out.rb (by simpa using h)).2⟩, fun _ => ⟨hT, HSZ.out, hA⟩, fun _ => ⟨by simpa using HD.out.1, by simpa using HD.out.2⟩, fun _ => by simp⟩
    · intro d a W hI hd hdep
      obtain ⟨ga, gb, A, Bf, gc, Fc, x4, x59, x60, x61, x62, x63, x64, x65, x66, x67, x68, x69, x70, x71, rfl, hF⟩ := hI
      have hd12 : d 12 = true := dep_of hdep 12 (by kernel_rfl)
      obtain rfl := hF.out.f12 hd12
      have HD13 : Hid (d 12 = true) := hd12
      clear hdep hd hd12
      intro K hK
      simp only [Act.put, List.setIfInBounds_toArray, List.set_cons_zero, List.set_cons_succ]
      go_simp
      refine hK.out _ _ ⟨ga, gb, A, Bf, gc, Fc, (.slice (some ⟨gc, 0, none⟩) (s.size + 1) (s.size + 1)), x59, x60, x61, x62, x63, x64, x65, x66, x67, x68, x69, x70, (.slice (some ⟨gc, 0, none⟩) (s.size + 1) (s.size + 1)), by simp only [Act.put, List.setIfInBounds_toArray, List.set_cons_zero, List.set_cons_succ], ?_⟩
      exact ⟨fun h => hF.out.f0 (by simpa using h), fun h => hF.out.f1 (by simpa using h), fun h => hF.out.f2 (by simpa using h), fun h => hF.out.f3 (by simpa using h), fun h => hF.out.f4 (by simpa using h), fun h => hF.out.f5 (by simpa using h), fun h => hF.out.f6 (by simpa using h), fun h => hF.out.f7 (by simpa using h), fun h => hF.out.f8 (by simpa using h), fun h => hF.out.f9 (by simpa using h), fun h => hF.out.f10 (by simpa using h), fun h => hF.out.f11 (by simpa using h), fun h => hF.out.f12 (by simpa using h), fun _ => rfl, hF.out.below, fun h => hF.out.ra (by simpa using h), fun h => hF.out.rb (by simpa using h), fun h => hF.out.rc (by simpa using h), fun h => by simpa using hF.out.g12 (by simpa using h), fun _ => by simpa using HD13.out⟩
  · intro d a W hI hall
    obtain ⟨ga, gb, A, Bf, gc, Fc, x4, x59, x60, x61, x62, x63, x64, x65, x66, x67, x68, x69, x70, x71, rfl, hF⟩ := hI
    simp only [List.length_cons, List.length_nil] at hall
    obtain rfl := hF.out.f0 (hall 0 (by omega))
    obtain rfl := hF.out.f1 (hall 1 (by omega))
    obtain rfl := hF.out.f2 (hall 2 (by omega))
    obtain rfl := hF.out.f3 (hall 3 (by omega))
    obtain rfl := hF.out.f4 (hall 4 (by omega))
    obtain rfl := hF.out.f5 (hall 5 (by omega))
    obtain rfl := hF.out.f6 (hall 6 (by omega))
    obtain rfl := hF.out.f7 (hall 7 (by omega))
    obtain rfl := hF.out.f8 (hall 8 (by omega))
    obtain rfl := hF.out.f9 (hall 9 (by omega))
    obtain rfl := hF.out.f10 (hall 10 (by omega))
    obtain rfl := hF.out.f11 (hall 11 (by omega))
    obtain rfl := hF.out.f12 (hall 12 (by omega))
    obtain rfl := hF.out.f13 (hall 13 (by omega))
    have HF : Hid (Tb W gc (s.size + 1) Fc ∧ W1.heap.size ≤ gc ∧ (∀ u v, u < (s.size + 1) → v < (s.size + 1) → (Fc u v = true ↔ Sp (.cat x y) s.data.toList u v)) ∧ Sb W1 W) := by
      obtain ⟨t1, t2, t3⟩ := hF.out.rc (hall 12 (by omega))
      obtain ⟨_, _, u3⟩ := hF.out.ra (hall 5 (by omega))
      obtain ⟨_, _, v3⟩ := hF.out.rb (hall 11 (by omega))
      refine ⟨t1, t2, fun u v hu hv => ?_, hF.out.below⟩
      rw [t3 u v hu hv, sp_cat]
      constructor
      · rintro ⟨m, h1, h2, h3, h4⟩; exact ⟨m, h1, h2, (u3 u m hu (by omega)).1 h3, (v3 m v (by omega) hv).1 h4⟩
      · rintro ⟨m, h1, h2, h3, h4⟩; exact ⟨m, h1, h2, (u3 u m hu (by omega)).2 h3, (v3 m v (by omega) hv).2 h4⟩
    clear hF hall
    simp only [Act.put, List.setIfInBounds_toArray, List.set_cons_zero, List.set_cons_succ]
    go_wp2_with fail
    go_ret
    exact ⟨gc, rfl, Nat.le_trans H0.out.below.size HF.out.2.1, ⟨Fc, HF.out.1, HF.out.2.2.1⟩, H0.out.below.trans (Below.mono HF.out.2.2.2 H0.out.below.size)⟩
end Go.Proofs.Ytdnagboonjcehaa
