/-
  The contract of items.ahead at the WHOLE, and of any item.
-/
import Derived.Test.YtpbnnmfjahckmaaGrC
namespace Go.Proofs.Ytpbnnmfjahckmaa
open Go.RowKit
open Cg

structure RW0 (w : World) (t n : Int) (ao : Option Addr) (c : Nat) (ps : List Pd) (z2 : Int) (g : Nat) (d : Nat → Bool) (x4 x5 x6 x7 x8 x9 x10 x11 : Value) (W : World) : Prop where
  f0 : d 0 = true → x5 = (.agg #[.int .i64 t, .int .i64 n, .slice ao ps.length c])
  f1 : d 1 = true → x6 = (.pointer (some ⟨w.heap.size + 1, 0, none⟩))
  f2 : d 2 = true → x7 = (.int .i64 (ps.length : Int))
  f3 : d 3 = true → x8 = (.slice (some ⟨g, 0, none⟩) 1 1)
  f4 : d 4 = true → x9 = (.pointer (some ⟨w.heap.size + 1, 1, none⟩))
  f5 : d 5 = true → x10 = (.int .i64 0)
  f6 : d 6 = true → x11 = (.slice (some ⟨g, 0, none⟩) 1 1)
  f7 : d 7 = true → x4 = (.slice (some ⟨g, 0, none⟩) 1 1)
  o6_3 : d 6 = true → d 3 = true
  o7_6 : d 7 = true → d 6 = true
  ib : Ib2 w t n (.slice ao ps.length c) ps (ps.length : Int) 0 z2 W
  gg : d 3 = true → g < W.heap.size ∧ W.cell? ⟨g, 0, none⟩ = some (.int .i64 2) ∧ W.cell? ⟨g, 1, none⟩ = some (.int .i64 0)
set_option maxHeartbeats 8000000 in
set_option maxRecDepth 20000 in
theorem ahead_w0 (t n : Int) (pv : Value) (ps : List Pd) (z2 : Int) (w : World) (h : Pds w pv ps) :
    Calls Try.prog 92 #[.agg #[.int .i64 t, .int .i64 n, pv], .agg #[.int .i64 (ps.length : Int), .int .i64 0, .int .i64 z2]] w fun e w' => ∃ v, e = .returned v ∧ Syms w' v [(2, 0)] ∧ Below w.heap.size w w' := by
  have HB0 := Ib2.box h t n (ps.length : Int) 0 z2
  have HPD : Hid (Pds w pv ps) := h
  obtain ⟨ao, c, rfl⟩ := h.len
  obtain ⟨wb, HWB⟩ : ∃ wb, Hid (((w.alloc (Obj.cells #[.int .i64 t, .int .i64 n, .slice ao ps.length c] 24)).alloc (Obj.cells #[.int .i64 (ps.length : Int), .int .i64 0, .int .i64 z2] 145)) = wb) := ⟨_, (rfl : ((w.alloc (Obj.cells #[.int .i64 t, .int .i64 n, .slice ao ps.length c] 24)).alloc (Obj.cells #[.int .i64 (ps.length : Int), .int .i64 0, .int .i64 z2] 145)) = _)⟩
  rw [HWB.out] at HB0
  have HT : Hid (Ib2 w t n (.slice ao ps.length c) ps (ps.length : Int) 0 z2 wb) := HB0
  clear HB0
  go_enter Try.func92, Try.ntmps92
  go_wp2_with fail
  rw [HWB.out]
  refine wp_region_free mixed (fun a0 d a W => ∃ (g : Nat) (x4 x5 x6 x7 x8 x9 x10 x11 : Value), a = ((((((((a0.put (some 4) x4).put (some 5) x5).put (some 6) x6).put (some 7) x7).put (some 8) x8).put (some 9) x9).put (some 10) x10).put (some 11) x11) ∧ Hid (RW0 w t n ao c ps z2 g d x4 x5 x6 x7 x8 x9 x10 x11 W)) (by kernel_rfl) ⟨0, (.slice none 0 0), undef, undef, undef, undef, undef, undef, undef, by simp only [Act.put, List.setIfInBounds_toArray, List.set_cons_zero, List.set_cons_succ], ?_⟩ ?_ ?_
  · exact ⟨fun h => no_way h, fun h => no_way h, fun h => no_way h, fun h => no_way h, fun h => no_way h, fun h => no_way h, fun h => no_way h, fun h => no_way h, fun h => no_way h, fun h => no_way h, HT.out.next (Sb.drew wb), fun h => no_way h⟩
  · simp only [StepAll, and_true]
    refine ⟨?_, ?_, ?_, ?_, ?_, ?_, ?_, ?_⟩
    · intro d a W hI hd hdep
      obtain ⟨g, x4, x5, x6, x7, x8, x9, x10, x11, rfl, hF⟩ := hI
      have cc := hF.out.ib.gb.c0
      have cd := hF.out.ib.gb.c1
      have ce := hF.out.ib.gb.c2
      clear hdep hd
      intro K hK
      simp only [Act.put, List.setIfInBounds_toArray, List.set_cons_zero, List.set_cons_succ]
      go_simp
      refine hK.out _ _ ⟨g, x4, (.agg #[.int .i64 t, .int .i64 n, .slice ao ps.length c]), x6, x7, x8, x9, x10, x11, by simp only [Act.put, List.setIfInBounds_toArray, List.set_cons_zero, List.set_cons_succ], ?_⟩
      exact ⟨fun _ => rfl, fun h => hF.out.f1 (by simpa using h), fun h => hF.out.f2 (by simpa using h), fun h => hF.out.f3 (by simpa using h), fun h => hF.out.f4 (by simpa using h), fun h => hF.out.f5 (by simpa using h), fun h => hF.out.f6 (by simpa using h), fun h => hF.out.f7 (by simpa using h), fun h => by have := hF.out.o6_3 (by simpa using h); simpa using this, fun h => by have := hF.out.o7_6 (by simpa using h); simpa using this, hF.out.ib, fun h => hF.out.gg (by simpa using h)⟩
    · intro d a W hI hd hdep
      obtain ⟨g, x4, x5, x6, x7, x8, x9, x10, x11, rfl, hF⟩ := hI
      clear hdep hd
      intro K hK
      simp only [Act.put, List.setIfInBounds_toArray, List.set_cons_zero, List.set_cons_succ]
      go_simp
      refine hK.out _ _ ⟨g, x4, x5, (.pointer (some ⟨w.heap.size + 1, 0, none⟩)), x7, x8, x9, x10, x11, by simp only [Act.put, List.setIfInBounds_toArray, List.set_cons_zero, List.set_cons_succ], ?_⟩
      exact ⟨fun h => hF.out.f0 (by simpa using h), fun _ => rfl, fun h => hF.out.f2 (by simpa using h), fun h => hF.out.f3 (by simpa using h), fun h => hF.out.f4 (by simpa using h), fun h => hF.out.f5 (by simpa using h), fun h => hF.out.f6 (by simpa using h), fun h => hF.out.f7 (by simpa using h), fun h => by have := hF.out.o6_3 (by simpa using h); simpa using this, fun h => by have := hF.out.o7_6 (by simpa using h); simpa using this, hF.out.ib, fun h => hF.out.gg (by simpa using h)⟩
    · intro d a W hI hd hdep
      obtain ⟨g, x4, x5, x6, x7, x8, x9, x10, x11, rfl, hF⟩ := hI
      have hd1 : d 1 = true := dep_of hdep 1 (by kernel_rfl)
      obtain rfl := hF.out.f1 hd1
      have cc := hF.out.ib.d0
      clear hdep hd hd1
      intro K hK
      simp only [Act.put, List.setIfInBounds_toArray, List.set_cons_zero, List.set_cons_succ]
      go_simp
      refine hK.out _ _ ⟨g, x4, x5, (.pointer (some ⟨w.heap.size + 1, 0, none⟩)), (.int .i64 (ps.length : Int)), x8, x9, x10, x11, by simp only [Act.put, List.setIfInBounds_toArray, List.set_cons_zero, List.set_cons_succ], ?_⟩
      exact ⟨fun h => hF.out.f0 (by simpa using h), fun h => hF.out.f1 (by simpa using h), fun _ => rfl, fun h => hF.out.f3 (by simpa using h), fun h => hF.out.f4 (by simpa using h), fun h => hF.out.f5 (by simpa using h), fun h => hF.out.f6 (by simpa using h), fun h => hF.out.f7 (by simpa using h), fun h => by have := hF.out.o6_3 (by simpa using h); simpa using this, fun h => by have := hF.out.o7_6 (by simpa using h); simpa using this, hF.out.ib, fun h => hF.out.gg (by simpa using h)⟩
    · intro d a W hI hd hdep
      obtain ⟨g, x4, x5, x6, x7, x8, x9, x10, x11, rfl, hF⟩ := hI
      have hd0 : d 0 = true := dep_of hdep 0 (by kernel_rfl)
      have hd2 : d 2 = true := dep_of hdep 2 (by kernel_rfl)
      obtain rfl := hF.out.f0 hd0
      obtain rfl := hF.out.f2 hd2
      have HN6 : Hid (d 6 = false) := no_later hF.out.o6_3 hd
      have HN7 : Hid (d 7 = false) := no_later hF.out.o7_6 HN6.out
      clear hdep hd hd0 hd2
      intro K hK
      simp only [Act.put, List.setIfInBounds_toArray, List.set_cons_zero, List.set_cons_succ]
      go_simp
      refine (bodyOf_wh t n ao ps.length c W).mono ?_
      rintro _ W2 ⟨g9, rfl, hg, e0, e1, hb⟩
      refine hK.out _ _ ⟨g9, x4, (.agg #[.int .i64 t, .int .i64 n, .slice ao ps.length c]), x6, (.int .i64 (ps.length : Int)), (.slice (some ⟨g9, 0, none⟩) 1 1), x9, x10, x11, by simp only [Act.put, List.setIfInBounds_toArray, List.set_cons_zero, List.set_cons_succ], ?_⟩
      exact ⟨fun h => hF.out.f0 (by simpa using h), fun h => hF.out.f1 (by simpa using h), fun h => hF.out.f2 (by simpa using h), fun _ => rfl, fun h => hF.out.f4 (by simpa using h), fun h => hF.out.f5 (by simpa using h), fun h => by have := HN6.out; simp [this] at h, fun h => by have := HN7.out; simp [this] at h, fun _ => by simp, fun h => by have := hF.out.o7_6 (by simpa using h); simpa using this, hF.out.ib.next hb, fun _ => ⟨hg, e0, e1⟩⟩
    · intro d a W hI hd hdep
      obtain ⟨g, x4, x5, x6, x7, x8, x9, x10, x11, rfl, hF⟩ := hI
      clear hdep hd
      intro K hK
      simp only [Act.put, List.setIfInBounds_toArray, List.set_cons_zero, List.set_cons_succ]
      go_simp
      refine hK.out _ _ ⟨g, x4, x5, x6, x7, x8, (.pointer (some ⟨w.heap.size + 1, 1, none⟩)), x10, x11, by simp only [Act.put, List.setIfInBounds_toArray, List.set_cons_zero, List.set_cons_succ], ?_⟩
      exact ⟨fun h => hF.out.f0 (by simpa using h), fun h => hF.out.f1 (by simpa using h), fun h => hF.out.f2 (by simpa using h), fun h => hF.out.f3 (by simpa using h), fun _ => rfl, fun h => hF.out.f5 (by simpa using h), fun h => hF.out.f6 (by simpa using h), fun h => hF.out.f7 (by simpa using h), fun h => by have := hF.out.o6_3 (by simpa using h); simpa using this, fun h => by have := hF.out.o7_6 (by simpa using h); simpa using this, hF.out.ib, fun h => hF.out.gg (by simpa using h)⟩
    · intro d a W hI hd hdep
      obtain ⟨g, x4, x5, x6, x7, x8, x9, x10, x11, rfl, hF⟩ := hI
      have hd4 : d 4 = true := dep_of hdep 4 (by kernel_rfl)
      obtain rfl := hF.out.f4 hd4
      have cc := hF.out.ib.d1
      clear hdep hd hd4
      intro K hK
      simp only [Act.put, List.setIfInBounds_toArray, List.set_cons_zero, List.set_cons_succ]
      go_simp
      refine hK.out _ _ ⟨g, x4, x5, x6, x7, x8, (.pointer (some ⟨w.heap.size + 1, 1, none⟩)), (.int .i64 0), x11, by simp only [Act.put, List.setIfInBounds_toArray, List.set_cons_zero, List.set_cons_succ], ?_⟩
      exact ⟨fun h => hF.out.f0 (by simpa using h), fun h => hF.out.f1 (by simpa using h), fun h => hF.out.f2 (by simpa using h), fun h => hF.out.f3 (by simpa using h), fun h => hF.out.f4 (by simpa using h), fun _ => rfl, fun h => hF.out.f6 (by simpa using h), fun h => hF.out.f7 (by simpa using h), fun h => by have := hF.out.o6_3 (by simpa using h); simpa using this, fun h => by have := hF.out.o7_6 (by simpa using h); simpa using this, hF.out.ib, fun h => hF.out.gg (by simpa using h)⟩
    · intro d a W hI hd hdep
      obtain ⟨g, x4, x5, x6, x7, x8, x9, x10, x11, rfl, hF⟩ := hI
      have hd3 : d 3 = true := dep_of hdep 3 (by kernel_rfl)
      have hd5 : d 5 = true := dep_of hdep 5 (by kernel_rfl)
      obtain rfl := hF.out.f3 hd3
      obtain rfl := hF.out.f5 hd5
      have e6_3 := hd3
      clear hdep hd hd3 hd5
      intro K hK
      simp only [Act.put, List.setIfInBounds_toArray, List.set_cons_zero, List.set_cons_succ]
      go_simp
      refine hK.out _ _ ⟨g, x4, x5, x6, x7, (.slice (some ⟨g, 0, none⟩) 1 1), x9, (.int .i64 0), (.slice (some ⟨g, 0, none⟩) 1 1), by simp only [Act.put, List.setIfInBounds_toArray, List.set_cons_zero, List.set_cons_succ], ?_⟩
      exact ⟨fun h => hF.out.f0 (by simpa using h), fun h => hF.out.f1 (by simpa using h), fun h => hF.out.f2 (by simpa using h), fun h => hF.out.f3 (by simpa using h), fun h => hF.out.f4 (by simpa using h), fun h => hF.out.f5 (by simpa using h), fun _ => rfl, fun h => hF.out.f7 (by simpa using h), fun _ => by simpa using e6_3, fun _ => by simp, hF.out.ib, fun h => hF.out.gg (by simpa using h)⟩
    · intro d a W hI hd hdep
      obtain ⟨g, x4, x5, x6, x7, x8, x9, x10, x11, rfl, hF⟩ := hI
      have hd6 : d 6 = true := dep_of hdep 6 (by kernel_rfl)
      obtain rfl := hF.out.f6 hd6
      have e7_6 := hd6
      clear hdep hd hd6
      intro K hK
      simp only [Act.put, List.setIfInBounds_toArray, List.set_cons_zero, List.set_cons_succ]
      go_simp
      refine hK.out _ _ ⟨g, (.slice (some ⟨g, 0, none⟩) 1 1), x5, x6, x7, x8, x9, x10, (.slice (some ⟨g, 0, none⟩) 1 1), by simp only [Act.put, List.setIfInBounds_toArray, List.set_cons_zero, List.set_cons_succ], ?_⟩
      exact ⟨fun h => hF.out.f0 (by simpa using h), fun h => hF.out.f1 (by simpa using h), fun h => hF.out.f2 (by simpa using h), fun h => hF.out.f3 (by simpa using h), fun h => hF.out.f4 (by simpa using h), fun h => hF.out.f5 (by simpa using h), fun h => hF.out.f6 (by simpa using h), fun _ => rfl, fun h => by have := hF.out.o6_3 (by simpa using h); simpa using this, fun _ => by simpa using e7_6, hF.out.ib, fun h => hF.out.gg (by simpa using h)⟩
  · intro d a W hI hall
    obtain ⟨g, x4, x5, x6, x7, x8, x9, x10, x11, rfl, hF⟩ := hI
    simp only [List.length_cons, List.length_nil] at hall
    obtain rfl := hF.out.f0 (hall 0 (by omega))
    obtain rfl := hF.out.f1 (hall 1 (by omega))
    obtain rfl := hF.out.f2 (hall 2 (by omega))
    obtain rfl := hF.out.f3 (hall 3 (by omega))
    obtain rfl := hF.out.f4 (hall 4 (by omega))
    obtain rfl := hF.out.f5 (hall 5 (by omega))
    obtain rfl := hF.out.f6 (hall 6 (by omega))
    obtain rfl := hF.out.f7 (hall 7 (by omega))
    have HB5 : Hid (Below w.heap.size w W) := hF.out.ib.gb.below
    have hgg := hF.out.gg (hall 3 (by omega))
    have HSY : Hid (Syms W (.slice (some ⟨g, 0, none⟩) 1 1) [(2, 0)]) := ⟨_, _, rfl, by simp, Or.inr ⟨g, 0, rfl, hgg.1, fun i hi => by
      have : i = 0 := by simp at hi; omega
      subst this
      exact ⟨hgg.2.1, hgg.2.2⟩⟩⟩
    clear hF HT HWB hgg
    simp only [Act.put, List.setIfInBounds_toArray, List.set_cons_zero, List.set_cons_succ]
    go_wp2_with fail
    go_ret
    exact ⟨_, rfl, HSY.out, HB5.out⟩
structure RW1 (w : World) (t n : Int) (ao : Option Addr) (c : Nat) (ps : List Pd) (z2 : Int) (g : Nat) (d : Nat → Bool) (x4 x5 x6 x7 x8 x9 x10 x11 : Value) (W : World) : Prop where
  f0 : d 0 = true → x5 = (.agg #[.int .i64 t, .int .i64 n, .slice ao ps.length c])
  f1 : d 1 = true → x6 = (.pointer (some ⟨w.heap.size + 1, 0, none⟩))
  f2 : d 2 = true → x7 = (.int .i64 (ps.length : Int))
  f3 : d 3 = true → x8 = (.slice (some ⟨g, 0, none⟩) 1 1)
  f4 : d 4 = true → x9 = (.pointer (some ⟨w.heap.size + 1, 1, none⟩))
  f5 : d 5 = true → x10 = (.int .i64 1)
  f6 : d 6 = true → x11 = (.slice (some ⟨g, 0, none⟩) 0 0)
  f7 : d 7 = true → x4 = (.slice (some ⟨g, 0, none⟩) 0 0)
  o6_3 : d 6 = true → d 3 = true
  o7_6 : d 7 = true → d 6 = true
  ib : Ib2 w t n (.slice ao ps.length c) ps (ps.length : Int) 1 z2 W
  gg : d 3 = true → g < W.heap.size ∧ W.cell? ⟨g, 0, none⟩ = some (.int .i64 2) ∧ W.cell? ⟨g, 1, none⟩ = some (.int .i64 0)
set_option maxHeartbeats 8000000 in
set_option maxRecDepth 20000 in
theorem ahead_w1 (t n : Int) (pv : Value) (ps : List Pd) (z2 : Int) (w : World) (h : Pds w pv ps) :
    Calls Try.prog 92 #[.agg #[.int .i64 t, .int .i64 n, pv], .agg #[.int .i64 (ps.length : Int), .int .i64 1, .int .i64 z2]] w fun e w' => ∃ v, e = .returned v ∧ Syms w' v [] ∧ Below w.heap.size w w' := by
  have HB0 := Ib2.box h t n (ps.length : Int) 1 z2
  have HPD : Hid (Pds w pv ps) := h
  obtain ⟨ao, c, rfl⟩ := h.len
  obtain ⟨wb, HWB⟩ : ∃ wb, Hid (((w.alloc (Obj.cells #[.int .i64 t, .int .i64 n, .slice ao ps.length c] 24)).alloc (Obj.cells #[.int .i64 (ps.length : Int), .int .i64 1, .int .i64 z2] 145)) = wb) := ⟨_, (rfl : ((w.alloc (Obj.cells #[.int .i64 t, .int .i64 n, .slice ao ps.length c] 24)).alloc (Obj.cells #[.int .i64 (ps.length : Int), .int .i64 1, .int .i64 z2] 145)) = _)⟩
  rw [HWB.out] at HB0
  have HT : Hid (Ib2 w t n (.slice ao ps.length c) ps (ps.length : Int) 1 z2 wb) := HB0
  clear HB0
  go_enter Try.func92, Try.ntmps92
  go_wp2_with fail
  rw [HWB.out]
  refine wp_region_free mixed (fun a0 d a W => ∃ (g : Nat) (x4 x5 x6 x7 x8 x9 x10 x11 : Value), a = ((((((((a0.put (some 4) x4).put (some 5) x5).put (some 6) x6).put (some 7) x7).put (some 8) x8).put (some 9) x9).put (some 10) x10).put (some 11) x11) ∧ Hid (RW1 w t n ao c ps z2 g d x4 x5 x6 x7 x8 x9 x10 x11 W)) (by kernel_rfl) ⟨0, (.slice none 0 0), undef, undef, undef, undef, undef, undef, undef, by simp only [Act.put, List.setIfInBounds_toArray, List.set_cons_zero, List.set_cons_succ], ?_⟩ ?_ ?_
  · exact ⟨fun h => no_way h, fun h => no_way h, fun h => no_way h, fun h => no_way h, fun h => no_way h, fun h => no_way h, fun h => no_way h, fun h => no_way h, fun h => no_way h, fun h => no_way h, HT.out.next (Sb.drew wb), fun h => no_way h⟩
  · simp only [StepAll, and_true]
    refine ⟨?_, ?_, ?_, ?_, ?_, ?_, ?_, ?_⟩
    · intro d a W hI hd hdep
      obtain ⟨g, x4, x5, x6, x7, x8, x9, x10, x11, rfl, hF⟩ := hI
      have cc := hF.out.ib.gb.c0
      have cd := hF.out.ib.gb.c1
      have ce := hF.out.ib.gb.c2
      clear hdep hd
      intro K hK
      simp only [Act.put, List.setIfInBounds_toArray, List.set_cons_zero, List.set_cons_succ]
      go_simp
      refine hK.out _ _ ⟨g, x4, (.agg #[.int .i64 t, .int .i64 n, .slice ao ps.length c]), x6, x7, x8, x9, x10, x11, by simp only [Act.put, List.setIfInBounds_toArray, List.set_cons_zero, List.set_cons_succ], ?_⟩
      exact ⟨fun _ => rfl, fun h => hF.out.f1 (by simpa using h), fun h => hF.out.f2 (by simpa using h), fun h => hF.out.f3 (by simpa using h), fun h => hF.out.f4 (by simpa using h), fun h => hF.out.f5 (by simpa using h), fun h => hF.out.f6 (by simpa using h), fun h => hF.out.f7 (by simpa using h), fun h => by have := hF.out.o6_3 (by simpa using h); simpa using this, fun h => by have := hF.out.o7_6 (by simpa using h); simpa using this, hF.out.ib, fun h => hF.out.gg (by simpa using h)⟩
    · intro d a W hI hd hdep
      obtain ⟨g, x4, x5, x6, x7, x8, x9, x10, x11, rfl, hF⟩ := hI
      clear hdep hd
      intro K hK
      simp only [Act.put, List.setIfInBounds_toArray, List.set_cons_zero, List.set_cons_succ]
      go_simp
      refine hK.out _ _ ⟨g, x4, x5, (.pointer (some ⟨w.heap.size + 1, 0, none⟩)), x7, x8, x9, x10, x11, by simp only [Act.put, List.setIfInBounds_toArray, List.set_cons_zero, List.set_cons_succ], ?_⟩
      exact ⟨fun h => hF.out.f0 (by simpa using h), fun _ => rfl, fun h => hF.out.f2 (by simpa using h), fun h => hF.out.f3 (by simpa using h), fun h => hF.out.f4 (by simpa using h), fun h => hF.out.f5 (by simpa using h), fun h => hF.out.f6 (by simpa using h), fun h => hF.out.f7 (by simpa using h), fun h => by have := hF.out.o6_3 (by simpa using h); simpa using this, fun h => by have := hF.out.o7_6 (by simpa using h); simpa using this, hF.out.ib, fun h => hF.out.gg (by simpa using h)⟩
    · intro d a W hI hd hdep
      obtain ⟨g, x4, x5, x6, x7, x8, x9, x10, x11, rfl, hF⟩ := hI
      have hd1 : d 1 = true := dep_of hdep 1 (by kernel_rfl)
      obtain rfl := hF.out.f1 hd1
      have cc := hF.out.ib.d0
      clear hdep hd hd1
      intro K hK
      simp only [Act.put, List.setIfInBounds_toArray, List.set_cons_zero, List.set_cons_succ]
      go_simp
      refine hK.out _ _ ⟨g, x4, x5, (.pointer (some ⟨w.heap.size + 1, 0, none⟩)), (.int .i64 (ps.length : Int)), x8, x9, x10, x11, by simp only [Act.put, List.setIfInBounds_toArray, List.set_cons_zero, List.set_cons_succ], ?_⟩
      exact ⟨fun h => hF.out.f0 (by simpa using h), fun h => hF.out.f1 (by simpa using h), fun _ => rfl, fun h => hF.out.f3 (by simpa using h), fun h => hF.out.f4 (by simpa using h), fun h => hF.out.f5 (by simpa using h), fun h => hF.out.f6 (by simpa using h), fun h => hF.out.f7 (by simpa using h), fun h => by have := hF.out.o6_3 (by simpa using h); simpa using this, fun h => by have := hF.out.o7_6 (by simpa using h); simpa using this, hF.out.ib, fun h => hF.out.gg (by simpa using h)⟩
    · intro d a W hI hd hdep
      obtain ⟨g, x4, x5, x6, x7, x8, x9, x10, x11, rfl, hF⟩ := hI
      have hd0 : d 0 = true := dep_of hdep 0 (by kernel_rfl)
      have hd2 : d 2 = true := dep_of hdep 2 (by kernel_rfl)
      obtain rfl := hF.out.f0 hd0
      obtain rfl := hF.out.f2 hd2
      have HN6 : Hid (d 6 = false) := no_later hF.out.o6_3 hd
      have HN7 : Hid (d 7 = false) := no_later hF.out.o7_6 HN6.out
      clear hdep hd hd0 hd2
      intro K hK
      simp only [Act.put, List.setIfInBounds_toArray, List.set_cons_zero, List.set_cons_succ]
      go_simp
      refine (bodyOf_wh t n ao ps.length c W).mono ?_
      rintro _ W2 ⟨g9, rfl, hg, e0, e1, hb⟩
      refine hK.out _ _ ⟨g9, x4, (.agg #[.int .i64 t, .int .i64 n, .slice ao ps.length c]), x6, (.int .i64 (ps.length : Int)), (.slice (some ⟨g9, 0, none⟩) 1 1), x9, x10, x11, by simp only [Act.put, List.setIfInBounds_toArray, List.set_cons_zero, List.set_cons_succ], ?_⟩
      exact ⟨fun h => hF.out.f0 (by simpa using h), fun h => hF.out.f1 (by simpa using h), fun h => hF.out.f2 (by simpa using h), fun _ => rfl, fun h => hF.out.f4 (by simpa using h), fun h => hF.out.f5 (by simpa using h), fun h => by have := HN6.out; simp [this] at h, fun h => by have := HN7.out; simp [this] at h, fun _ => by simp, fun h => by have := hF.out.o7_6 (by simpa using h); simpa using this, hF.out.ib.next hb, fun _ => ⟨hg, e0, e1⟩⟩
    · intro d a W hI hd hdep
      obtain ⟨g, x4, x5, x6, x7, x8, x9, x10, x11, rfl, hF⟩ := hI
      clear hdep hd
      intro K hK
      simp only [Act.put, List.setIfInBounds_toArray, List.set_cons_zero, List.set_cons_succ]
      go_simp
      refine hK.out _ _ ⟨g, x4, x5, x6, x7, x8, (.pointer (some ⟨w.heap.size + 1, 1, none⟩)), x10, x11, by simp only [Act.put, List.setIfInBounds_toArray, List.set_cons_zero, List.set_cons_succ], ?_⟩
      exact ⟨fun h => hF.out.f0 (by simpa using h), fun h => hF.out.f1 (by simpa using h), fun h => hF.out.f2 (by simpa using h), fun h => hF.out.f3 (by simpa using h), fun _ => rfl, fun h => hF.out.f5 (by simpa using h), fun h => hF.out.f6 (by simpa using h), fun h => hF.out.f7 (by simpa using h), fun h => by have := hF.out.o6_3 (by simpa using h); simpa using this, fun h => by have := hF.out.o7_6 (by simpa using h); simpa using this, hF.out.ib, fun h => hF.out.gg (by simpa using h)⟩
    · intro d a W hI hd hdep
      obtain ⟨g, x4, x5, x6, x7, x8, x9, x10, x11, rfl, hF⟩ := hI
      have hd4 : d 4 = true := dep_of hdep 4 (by kernel_rfl)
      obtain rfl := hF.out.f4 hd4
      have cc := hF.out.ib.d1
      clear hdep hd hd4
      intro K hK
      simp only [Act.put, List.setIfInBounds_toArray, List.set_cons_zero, List.set_cons_succ]
      go_simp
      refine hK.out _ _ ⟨g, x4, x5, x6, x7, x8, (.pointer (some ⟨w.heap.size + 1, 1, none⟩)), (.int .i64 1), x11, by simp only [Act.put, List.setIfInBounds_toArray, List.set_cons_zero, List.set_cons_succ], ?_⟩
      exact ⟨fun h => hF.out.f0 (by simpa using h), fun h => hF.out.f1 (by simpa using h), fun h => hF.out.f2 (by simpa using h), fun h => hF.out.f3 (by simpa using h), fun h => hF.out.f4 (by simpa using h), fun _ => rfl, fun h => hF.out.f6 (by simpa using h), fun h => hF.out.f7 (by simpa using h), fun h => by have := hF.out.o6_3 (by simpa using h); simpa using this, fun h => by have := hF.out.o7_6 (by simpa using h); simpa using this, hF.out.ib, fun h => hF.out.gg (by simpa using h)⟩
    · intro d a W hI hd hdep
      obtain ⟨g, x4, x5, x6, x7, x8, x9, x10, x11, rfl, hF⟩ := hI
      have hd3 : d 3 = true := dep_of hdep 3 (by kernel_rfl)
      have hd5 : d 5 = true := dep_of hdep 5 (by kernel_rfl)
      obtain rfl := hF.out.f3 hd3
      obtain rfl := hF.out.f5 hd5
      have e6_3 := hd3
      clear hdep hd hd3 hd5
      intro K hK
      simp only [Act.put, List.setIfInBounds_toArray, List.set_cons_zero, List.set_cons_succ]
      go_simp
      refine hK.out _ _ ⟨g, x4, x5, x6, x7, (.slice (some ⟨g, 0, none⟩) 1 1), x9, (.int .i64 1), (.slice (some ⟨g, 0, none⟩) 0 0), by simp only [Act.put, List.setIfInBounds_toArray, List.set_cons_zero, List.set_cons_succ], ?_⟩
      exact ⟨fun h => hF.out.f0 (by simpa using h), fun h => hF.out.f1 (by simpa using h), fun h => hF.out.f2 (by simpa using h), fun h => hF.out.f3 (by simpa using h), fun h => hF.out.f4 (by simpa using h), fun h => hF.out.f5 (by simpa using h), fun _ => rfl, fun h => hF.out.f7 (by simpa using h), fun _ => by simpa using e6_3, fun _ => by simp, hF.out.ib, fun h => hF.out.gg (by simpa using h)⟩
    · intro d a W hI hd hdep
      obtain ⟨g, x4, x5, x6, x7, x8, x9, x10, x11, rfl, hF⟩ := hI
      have hd6 : d 6 = true := dep_of hdep 6 (by kernel_rfl)
      obtain rfl := hF.out.f6 hd6
      have e7_6 := hd6
      clear hdep hd hd6
      intro K hK
      simp only [Act.put, List.setIfInBounds_toArray, List.set_cons_zero, List.set_cons_succ]
      go_simp
      refine hK.out _ _ ⟨g, (.slice (some ⟨g, 0, none⟩) 0 0), x5, x6, x7, x8, x9, x10, (.slice (some ⟨g, 0, none⟩) 0 0), by simp only [Act.put, List.setIfInBounds_toArray, List.set_cons_zero, List.set_cons_succ], ?_⟩
      exact ⟨fun h => hF.out.f0 (by simpa using h), fun h => hF.out.f1 (by simpa using h), fun h => hF.out.f2 (by simpa using h), fun h => hF.out.f3 (by simpa using h), fun h => hF.out.f4 (by simpa using h), fun h => hF.out.f5 (by simpa using h), fun h => hF.out.f6 (by simpa using h), fun _ => rfl, fun h => by have := hF.out.o6_3 (by simpa using h); simpa using this, fun _ => by simpa using e7_6, hF.out.ib, fun h => hF.out.gg (by simpa using h)⟩
  · intro d a W hI hall
    obtain ⟨g, x4, x5, x6, x7, x8, x9, x10, x11, rfl, hF⟩ := hI
    simp only [List.length_cons, List.length_nil] at hall
    obtain rfl := hF.out.f0 (hall 0 (by omega))
    obtain rfl := hF.out.f1 (hall 1 (by omega))
    obtain rfl := hF.out.f2 (hall 2 (by omega))
    obtain rfl := hF.out.f3 (hall 3 (by omega))
    obtain rfl := hF.out.f4 (hall 4 (by omega))
    obtain rfl := hF.out.f5 (hall 5 (by omega))
    obtain rfl := hF.out.f6 (hall 6 (by omega))
    obtain rfl := hF.out.f7 (hall 7 (by omega))
    have HB5 : Hid (Below w.heap.size w W) := hF.out.ib.gb.below
    have hgg := hF.out.gg (hall 3 (by omega))
    have HSY : Hid (Syms W (.slice (some ⟨g, 0, none⟩) 0 0) []) := ⟨_, _, rfl, by simp, Or.inl rfl⟩
    clear hF HT HWB hgg
    simp only [Act.put, List.setIfInBounds_toArray, List.set_cons_zero, List.set_cons_succ]
    go_wp2_with fail
    go_ret
    exact ⟨_, rfl, HSY.out, HB5.out⟩
/-- What has not been had, of any item. -/
theorem ahead_any (t n : Int) (pv : Value) (ps : List Pd) (T : Nat) (x : It) (hx : OkIt T ps x) (w : World) (h : Pds w pv ps) :
    Calls Try.prog 92 #[.agg #[.int .i64 t, .int .i64 n, pv], .agg #[.int .i64 (x.1 : Int), .int .i64 (x.2.1 : Int), .int .i64 (x.2.2 : Int)]] w fun e w' => ∃ v, e = .returned v ∧ Syms w' v (rst ps x) ∧ Below w.heap.size w w' := by
  by_cases h1 : x.1 < ps.length
  · exact ahead_in t n pv ps x h1 hx.d w h
  · have e1 : x.1 = ps.length := by have := hx.p; omega
    have hd := hx.d
    rw [e1, bod_whole] at hd
    have hr : rst ps x = ([(2, 0)] : List Sy).drop x.2.1 := by unfold rst; rw [e1, bod_whole]
    rw [hr, e1]
    have h01 : x.2.1 = 0 ∨ x.2.1 = 1 := by simp at hd; omega
    rcases h01 with e2 | e2
    · rw [e2]; exact ahead_w0 t n pv ps _ w h
    · rw [e2]; exact ahead_w1 t n pv ps _ w h
end Go.Proofs.Ytpbnnmfjahckmaa
