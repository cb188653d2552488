/-
  The contract of pushref.AllFacts.
-/
import Derived.Test.YtdclhkjhbippdaaFcAf
import Derived.Laws.EntriesVeiled
namespace Go.Proofs.Ytdclhkjhbippdaa
open Go.RowKit
open Cg

theorem row_three (w : World) (a b c : Value) (t : TypeId) : (w.alloc (.cells #[a, b, c] t)).rowIs w.heap.size t 3 (fun i => if i = 0 then a else if i = 1 then b else c) :=
  World.rowIs_alloc w _ t _ fun i hi => by
    have : i = 0 ∨ i = 1 ∨ i = 2 := by simp at hi; omega
    rcases this with rfl | rfl | rfl <;> rfl
theorem arr4 (a b c d e : Value) : (#[a] ++ #[b, c, d, e] : Array Value) = #[a, b, c, d, e] := by simp
structure RAf (w0 : World) (n : Nat) (be : Nat) (bm : Nat) (br : Nat) (bf : Nat) (bw : Nat) (cf : Nat) (d : Nat → Bool) (x4 x19 x20 x21 x22 x23 x24 x25 x26 x27 x28 x29 : Value) (W : World) : Prop where
  f0 : d 0 = true → x19 = (.int .i64 (n : Int))
  f1 : d 1 = true → x20 = (.slice (some ⟨be, 0, none⟩) n n)
  f2 : d 2 = true → x21 = (.int .i64 (n : Int))
  f3 : d 3 = true → x22 = (.slice (some ⟨bm, 0, none⟩) n n)
  f4 : d 4 = true → x23 = (.int .i64 (n : Int))
  f5 : d 5 = true → x24 = (.slice (some ⟨br, 0, none⟩) n n)
  f6 : d 6 = true → x25 = (.int .i64 (n : Int))
  f7 : d 7 = true → x26 = (.slice (some ⟨bf, 0, none⟩) n n)
  f8 : d 8 = true → x27 = (.int .i64 (n : Int))
  f9 : d 9 = true → x28 = (.slice (some ⟨bw, 0, none⟩) n n)
  f10 : d 10 = true → x29 = (.agg #[(.slice (some ⟨be, 0, none⟩) n n), (.slice (some ⟨bf, 0, none⟩) n n), (.slice (some ⟨bw, 0, none⟩) n n), (.slice (some ⟨br, 0, none⟩) n n), (.slice (some ⟨bm, 0, none⟩) n n)])
  f11 : d 11 = true → x4 = (.pointer (some ⟨cf, 0, none⟩))
  f12 : d 12 = true → True
  kp : Below w0.heap.size w0 W
  o1 : d 10 = true → d 1 = true
  o3 : d 10 = true → d 3 = true
  o5 : d 10 = true → d 5 = true
  o7 : d 10 = true → d 7 = true
  o9 : d 10 = true → d 9 = true
  o12 : d 12 = true → d 11 = true
  o121 : d 12 = true → d 10 = true
  r1 : d 1 = true → w0.heap.size ≤ be ∧ Rb W be n (fun _ => false)
  r3 : d 3 = true → w0.heap.size ≤ bm ∧ Rb W bm n (fun _ => false)
  r5 : d 5 = true → w0.heap.size ≤ br ∧ Rb W br n (fun _ => false)
  r7 : d 7 = true → w0.heap.size ≤ bf ∧ Rw W bf n (fun _ => 0#64)
  r9 : d 9 = true → w0.heap.size ≤ bw ∧ Rw W bw n (fun _ => 0#64)
  n13 : d 1 = true → d 3 = true → be ≠ bm
  n15 : d 1 = true → d 5 = true → be ≠ br
  n35 : d 3 = true → d 5 = true → bm ≠ br
  n79 : d 7 = true → d 9 = true → bf ≠ bw
  c : d 11 = true → d 12 = false → w0.heap.size ≤ cf ∧ W.rowIs cf 55 5 (fun _ => .slice none 0 0)
  c12 : d 12 = true → w0.heap.size ≤ cf ∧ W.rowIs cf 55 5 (fv (.slice (some ⟨be, 0, none⟩) n n) (.slice (some ⟨bf, 0, none⟩) n n) (.slice (some ⟨bw, 0, none⟩) n n) (.slice (some ⟨br, 0, none⟩) n n) (.slice (some ⟨bm, 0, none⟩) n n))
set_option maxHeartbeats 16000000 in
set_option maxRecDepth 20000 in
theorem AllFacts_any (t : Int) (n : Nat) (pv : Value) (ps : List Pd) (w : World) (hp : Pds w pv ps) (hk : chk t n ps = 0) :
    Calls Try.prog 17 #[.agg #[.int .i64 t, .int .i64 (n : Int), pv]] w fun e w' => ∃ be bf bw br bm, e = .returned (.agg #[(.slice (some ⟨be, 0, none⟩) n n), (.slice (some ⟨bf, 0, none⟩) n n), (.slice (some ⟨bw, 0, none⟩) n n), (.slice (some ⟨br, 0, none⟩) n n), (.slice (some ⟨bm, 0, none⟩) n n)]) ∧ Fw w n ps be bf bw br bm w' := by
  have HP : Hid (Pds w pv ps) := hp
  have HG : Hid (Rg t n ps) := rg_of hk
  have HSN : Hid (∀ p ∈ ps, ∀ s ∈ p.2, s.1 = 2 → s.2.toNat < n) := fun p hp s hs h2 => by
    obtain ⟨q, hq, rfl⟩ := List.getElem_of_mem hp
    rcases HG.out.ok q hq s hs with h | h
    · omega
    · omega
  have HHD : Hid (∀ p ∈ ps, p.1.toNat < n) := fun p hp => by
    obtain ⟨q, hq, rfl⟩ := List.getElem_of_mem hp
    obtain ⟨m, e1, e2, h3⟩ := HG.out.hd q hq
    omega
  obtain ⟨ao, c, rfl, hm, hcs⟩ := hp
  have HCS : Hid (ps = [] ∨ _) := hcs
  obtain ⟨w0, HW0⟩ : ∃ w0, Hid ((w.alloc (Obj.cells #[.int .i64 t, .int .i64 (n : Int), .slice ao ps.length c] 24)).alloc (Obj.cells #[(.slice none 0 0), (.slice none 0 0), (.slice none 0 0), (.slice none 0 0), (.slice none 0 0)] 55) = w0) := ⟨_, (rfl : _ = _)⟩
  have hb0 := below_alloc2 w (Obj.cells #[.int .i64 t, .int .i64 (n : Int), .slice ao ps.length c] 24) (Obj.cells #[(.slice none 0 0), (.slice none 0 0), (.slice none 0 0), (.slice none 0 0), (.slice none 0 0)] 55)
  have hgr := (row_three w (.int .i64 t) (.int .i64 (n : Int)) (.slice ao ps.length c) 24).alloc (Obj.cells #[(.slice none 0 0), (.slice none 0 0), (.slice none 0 0), (.slice none 0 0), (.slice none 0 0)] 55)
  have hrr := row_new5 (w.alloc (Obj.cells #[.int .i64 t, .int .i64 (n : Int), .slice ao ps.length c] 24))
  have k1 := hgr.cell (i := 1) (by omega)
  rw [show (w.alloc (Obj.cells #[.int .i64 t, .int .i64 (n : Int), .slice ao ps.length c] 24)).heap.size = w.heap.size + 1 by simp, HW0.out] at hrr
  rw [HW0.out] at hb0 hgr
  have HB0 : Hid (Below w.heap.size w w0) := hb0
  have HGR : Hid (w0.rowIs w.heap.size 24 3 (fun i => if i = 0 then .int .i64 t else if i = 1 then .int .i64 (n : Int) else .slice ao ps.length c)) := hgr
  have HRR : Hid (w0.rowIs (w.heap.size + 1) 55 5 (fun _ => .slice none 0 0)) := hrr
  have hmf : ∀ (fn : Fn) (first cap : Array Value) (w : World), (Instr.makeFunc fn first cap).run Try.prog w = .ok (.func fn first cap) w := fun _ _ _ _ => rfl
  simp only [if_neg (by omega : ¬ (1 : Nat) = 0), if_true] at k1
  clear hb0 hgr hrr hcs hk
  go_enter Try.func17, Try.ntmps17
  go_wp2_with fail
  rw [HW0.out]
  clear k1 HW0
  refine wp_region_free mixed (fun a0 d a W => ∃ (be : Nat) (bm : Nat) (br : Nat) (bf : Nat) (bw : Nat) (cf : Nat) (x4 x19 x20 x21 x22 x23 x24 x25 x26 x27 x28 x29 : Value), a = ((((((((((((a0.put (some 4) x4).put (some 19) x19).put (some 20) x20).put (some 21) x21).put (some 22) x22).put (some 23) x23).put (some 24) x24).put (some 25) x25).put (some 26) x26).put (some 27) x27).put (some 28) x28).put (some 29) x29) ∧ Hid (RAf w0 n be bm br bf bw cf d x4 x19 x20 x21 x22 x23 x24 x25 x26 x27 x28 x29 W)) (by kernel_rfl) ⟨0, 0, 0, 0, 0, 0, undef, undef, undef, undef, undef, undef, undef, undef, undef, undef, undef, undef, by simp only [Act.put, List.setIfInBounds_toArray, List.set_cons_zero, List.set_cons_succ], ?_⟩ ?_ ?_
  · exact ⟨fun h => no_way h, fun h => no_way h, fun h => no_way h, fun h => no_way h, fun h => no_way h, fun h => no_way h, fun h => no_way h, fun h => no_way h, fun h => no_way h, fun h => no_way h, fun h => no_way h, fun h => no_way h, fun _ => trivial, Below.drew (Below.refl _ _), fun h => no_way h, fun h => no_way h, fun h => no_way h, fun h => no_way h, fun h => no_way h, fun h => no_way h, fun h => no_way h, fun h => no_way h, fun h => no_way h, fun h => no_way h, fun h => no_way h, fun h => no_way h, fun h _ => no_way h, fun h _ => no_way h, fun h _ => no_way h, fun h _ => no_way h, fun h _ => no_way h, fun h => no_way h⟩
  · simp only [StepAll, and_true]
    refine ⟨?_, ?_, ?_, ?_, ?_, ?_, ?_, ?_, ?_, ?_, ?_, ?_, ?_⟩
    · intro d a W hI hd hdep
      obtain ⟨be, bm, br, bf, bw, cf, x4, x19, x20, x21, x22, x23, x24, x25, x26, x27, x28, x29, rfl, hF⟩ := hI
      clear hdep hd
      intro K hK
      simp only [Act.put, List.setIfInBounds_toArray, List.set_cons_zero, List.set_cons_succ]
      go_simp
      refine hK.out _ _ ⟨be, bm, br, bf, bw, cf, x4, (.int .i64 (n : Int)), x20, x21, x22, x23, x24, x25, x26, x27, x28, x29, by simp only [Act.put, List.setIfInBounds_toArray, List.set_cons_zero, List.set_cons_succ], ?_⟩
      exact ⟨fun _ => rfl, fun h => hF.out.f1 (by simpa using h), fun h => hF.out.f2 (by simpa using h), fun h => hF.out.f3 (by simpa using h), fun h => hF.out.f4 (by simpa using h), fun h => hF.out.f5 (by simpa using h), fun h => hF.out.f6 (by simpa using h), fun h => hF.out.f7 (by simpa using h), fun h => hF.out.f8 (by simpa using h), fun h => hF.out.f9 (by simpa using h), fun h => hF.out.f10 (by simpa using h), fun h => hF.out.f11 (by simpa using h), fun h => hF.out.f12 (by simpa using h), hF.out.kp, fun h => by have := hF.out.o1 (by simpa using h); simp [this], fun h => by have := hF.out.o3 (by simpa using h); simp [this], fun h => by have := hF.out.o5 (by simpa using h); simp [this], fun h => by have := hF.out.o7 (by simpa using h); simp [this], fun h => by have := hF.out.o9 (by simpa using h); simp [this], fun h => by have := hF.out.o12 (by simpa using h); simp [this], fun h => by have := hF.out.o121 (by simpa using h); simp [this], fun h => hF.out.r1 (by simpa using h), fun h => hF.out.r3 (by simpa using h), fun h => hF.out.r5 (by simpa using h), fun h => hF.out.r7 (by simpa using h), fun h => hF.out.r9 (by simpa using h), fun h h2 => hF.out.n13 (by simpa using h) (by simpa using h2), fun h h2 => hF.out.n15 (by simpa using h) (by simpa using h2), fun h h2 => hF.out.n35 (by simpa using h) (by simpa using h2), fun h h2 => hF.out.n79 (by simpa using h) (by simpa using h2), fun h h2 => hF.out.c (by simpa using h) (by simpa using h2), fun h => hF.out.c12 (by simpa using h)⟩
    · intro d a W hI hd hdep
      obtain ⟨be, bm, br, bf, bw, cf, x4, x19, x20, x21, x22, x23, x24, x25, x26, x27, x28, x29, rfl, hF⟩ := hI
      have hd0 : d 0 = true := dep_of hdep 0 (by kernel_rfl)
      obtain rfl := hF.out.f0 hd0
      have hmk := run_make_row' (P := Try.prog) 53 4 (.bool false) 1 Try.underlying53 info4 rfl .i64 .i64 n (by have := HG.out.n2; omega) (by have := HG.out.n2; omega)
      have HKP : Hid (Below w0.heap.size w0 W) := hF.out.kp
      have HN10 : Hid (d 10 = false) := no_later hF.out.o1 hd
      clear hdep hd hd0
      intro K hK
      simp only [Act.put, List.setIfInBounds_toArray, List.set_cons_zero, List.set_cons_succ]
      go_simp
      refine hK.out _ _ ⟨W.heap.size, bm, br, bf, bw, cf, x4, (.int .i64 (n : Int)), (.slice (some ⟨W.heap.size, 0, none⟩) n n), x21, x22, x23, x24, x25, x26, x27, x28, x29, by simp only [Act.put, List.setIfInBounds_toArray, List.set_cons_zero, List.set_cons_succ], ?_⟩
      have hb1 := below_alloc W (Obj.cells (madeCells #[Value.bool false] n) 4)
      exact ⟨fun h => hF.out.f0 (by simpa using h), fun _ => rfl, fun h => hF.out.f2 (by simpa using h), fun h => hF.out.f3 (by simpa using h), fun h => hF.out.f4 (by simpa using h), fun h => hF.out.f5 (by simpa using h), fun h => hF.out.f6 (by simpa using h), fun h => hF.out.f7 (by simpa using h), fun h => hF.out.f8 (by simpa using h), fun h => hF.out.f9 (by simpa using h), fun h => by have := HN10.out; simp [this] at h, fun h => hF.out.f11 (by simpa using h), fun h => hF.out.f12 (by simpa using h), HKP.out.trans (hb1.mono HKP.out.size), fun _ => by simp, fun h => by have := hF.out.o3 (by simpa using h); simp [this], fun h => by have := hF.out.o5 (by simpa using h); simp [this], fun h => by have := hF.out.o7 (by simpa using h); simp [this], fun h => by have := hF.out.o9 (by simpa using h); simp [this], fun h => by have := hF.out.o12 (by simpa using h); simp [this], fun h => by have := hF.out.o121 (by simpa using h); simp [this], fun _ => ⟨HKP.out.size, World.rowIs_made W _ n 4⟩, fun h => have q := hF.out.r3 (by simpa using h); ⟨q.1, q.2.next hb1⟩, fun h => have q := hF.out.r5 (by simpa using h); ⟨q.1, q.2.next hb1⟩, fun h => have q := hF.out.r7 (by simpa using h); ⟨q.1, q.2.next hb1⟩, fun h => have q := hF.out.r9 (by simpa using h); ⟨q.1, q.2.next hb1⟩, fun _ h2 => by have := (hF.out.r3 (by simpa using h2)).2.lt; omega, fun _ h2 => by have := (hF.out.r5 (by simpa using h2)).2.lt; omega, fun h h2 => hF.out.n35 (by simpa using h) (by simpa using h2), fun h h2 => hF.out.n79 (by simpa using h) (by simpa using h2), fun h h2 => have q := hF.out.c (by simpa using h) (by simpa using h2); ⟨q.1, q.2.of_block (hb1.block _ q.2.lt)⟩, fun h => by have := hF.out.o121 (by simpa using h); simp [HN10.out] at this⟩
    · intro d a W hI hd hdep
      obtain ⟨be, bm, br, bf, bw, cf, x4, x19, x20, x21, x22, x23, x24, x25, x26, x27, x28, x29, rfl, hF⟩ := hI
      clear hdep hd
      intro K hK
      simp only [Act.put, List.setIfInBounds_toArray, List.set_cons_zero, List.set_cons_succ]
      go_simp
      refine hK.out _ _ ⟨be, bm, br, bf, bw, cf, x4, x19, x20, (.int .i64 (n : Int)), x22, x23, x24, x25, x26, x27, x28, x29, by simp only [Act.put, List.setIfInBounds_toArray, List.set_cons_zero, List.set_cons_succ], ?_⟩
      exact ⟨fun h => hF.out.f0 (by simpa using h), fun h => hF.out.f1 (by simpa using h), fun _ => rfl, fun h => hF.out.f3 (by simpa using h), fun h => hF.out.f4 (by simpa using h), fun h => hF.out.f5 (by simpa using h), fun h => hF.out.f6 (by simpa using h), fun h => hF.out.f7 (by simpa using h), fun h => hF.out.f8 (by simpa using h), fun h => hF.out.f9 (by simpa using h), fun h => hF.out.f10 (by simpa using h), fun h => hF.out.f11 (by simpa using h), fun h => hF.out.f12 (by simpa using h), hF.out.kp, fun h => by have := hF.out.o1 (by simpa using h); simp [this], fun h => by have := hF.out.o3 (by simpa using h); simp [this], fun h => by have := hF.out.o5 (by simpa using h); simp [this], fun h => by have := hF.out.o7 (by simpa using h); simp [this], fun h => by have := hF.out.o9 (by simpa using h); simp [this], fun h => by have := hF.out.o12 (by simpa using h); simp [this], fun h => by have := hF.out.o121 (by simpa using h); simp [this], fun h => hF.out.r1 (by simpa using h), fun h => hF.out.r3 (by simpa using h), fun h => hF.out.r5 (by simpa using h), fun h => hF.out.r7 (by simpa using h), fun h => hF.out.r9 (by simpa using h), fun h h2 => hF.out.n13 (by simpa using h) (by simpa using h2), fun h h2 => hF.out.n15 (by simpa using h) (by simpa using h2), fun h h2 => hF.out.n35 (by simpa using h) (by simpa using h2), fun h h2 => hF.out.n79 (by simpa using h) (by simpa using h2), fun h h2 => hF.out.c (by simpa using h) (by simpa using h2), fun h => hF.out.c12 (by simpa using h)⟩
    · intro d a W hI hd hdep
      obtain ⟨be, bm, br, bf, bw, cf, x4, x19, x20, x21, x22, x23, x24, x25, x26, x27, x28, x29, rfl, hF⟩ := hI
      have hd2 : d 2 = true := dep_of hdep 2 (by kernel_rfl)
      obtain rfl := hF.out.f2 hd2
      have hmk := run_make_row' (P := Try.prog) 53 4 (.bool false) 1 Try.underlying53 info4 rfl .i64 .i64 n (by have := HG.out.n2; omega) (by have := HG.out.n2; omega)
      have HKP : Hid (Below w0.heap.size w0 W) := hF.out.kp
      have HN10 : Hid (d 10 = false) := no_later hF.out.o3 hd
      clear hdep hd hd2
      intro K hK
      simp only [Act.put, List.setIfInBounds_toArray, List.set_cons_zero, List.set_cons_succ]
      go_simp
      refine hK.out _ _ ⟨be, W.heap.size, br, bf, bw, cf, x4, x19, x20, (.int .i64 (n : Int)), (.slice (some ⟨W.heap.size, 0, none⟩) n n), x23, x24, x25, x26, x27, x28, x29, by simp only [Act.put, List.setIfInBounds_toArray, List.set_cons_zero, List.set_cons_succ], ?_⟩
      have hb1 := below_alloc W (Obj.cells (madeCells #[Value.bool false] n) 4)
      exact ⟨fun h => hF.out.f0 (by simpa using h), fun h => hF.out.f1 (by simpa using h), fun h => hF.out.f2 (by simpa using h), fun _ => rfl, fun h => hF.out.f4 (by simpa using h), fun h => hF.out.f5 (by simpa using h), fun h => hF.out.f6 (by simpa using h), fun h => hF.out.f7 (by simpa using h), fun h => hF.out.f8 (by simpa using h), fun h => hF.out.f9 (by simpa using h), fun h => by have := HN10.out; simp [this] at h, fun h => hF.out.f11 (by simpa using h), fun h => hF.out.f12 (by simpa using h), HKP.out.trans (hb1.mono HKP.out.size), fun h => by have := hF.out.o1 (by simpa using h); simp [this], fun _ => by simp, fun h => by have := hF.out.o5 (by simpa using h); simp [this], fun h => by have := hF.out.o7 (by simpa using h); simp [this], fun h => by have := hF.out.o9 (by simpa using h); simp [this], fun h => by have := hF.out.o12 (by simpa using h); simp [this], fun h => by have := hF.out.o121 (by simpa using h); simp [this], fun h => have q := hF.out.r1 (by simpa using h); ⟨q.1, q.2.next hb1⟩, fun _ => ⟨HKP.out.size, World.rowIs_made W _ n 4⟩, fun h => have q := hF.out.r5 (by simpa using h); ⟨q.1, q.2.next hb1⟩, fun h => have q := hF.out.r7 (by simpa using h); ⟨q.1, q.2.next hb1⟩, fun h => have q := hF.out.r9 (by simpa using h); ⟨q.1, q.2.next hb1⟩, fun h _ => by have := (hF.out.r1 (by simpa using h)).2.lt; omega, fun h h2 => hF.out.n15 (by simpa using h) (by simpa using h2), fun _ h2 => by have := (hF.out.r5 (by simpa using h2)).2.lt; omega, fun h h2 => hF.out.n79 (by simpa using h) (by simpa using h2), fun h h2 => have q := hF.out.c (by simpa using h) (by simpa using h2); ⟨q.1, q.2.of_block (hb1.block _ q.2.lt)⟩, fun h => by have := hF.out.o121 (by simpa using h); simp [HN10.out] at this⟩
    · intro d a W hI hd hdep
      obtain ⟨be, bm, br, bf, bw, cf, x4, x19, x20, x21, x22, x23, x24, x25, x26, x27, x28, x29, rfl, hF⟩ := hI
      clear hdep hd
      intro K hK
      simp only [Act.put, List.setIfInBounds_toArray, List.set_cons_zero, List.set_cons_succ]
      go_simp
      refine hK.out _ _ ⟨be, bm, br, bf, bw, cf, x4, x19, x20, x21, x22, (.int .i64 (n : Int)), x24, x25, x26, x27, x28, x29, by simp only [Act.put, List.setIfInBounds_toArray, List.set_cons_zero, List.set_cons_succ], ?_⟩
      exact ⟨fun h => hF.out.f0 (by simpa using h), fun h => hF.out.f1 (by simpa using h), fun h => hF.out.f2 (by simpa using h), fun h => hF.out.f3 (by simpa using h), fun _ => rfl, fun h => hF.out.f5 (by simpa using h), fun h => hF.out.f6 (by simpa using h), fun h => hF.out.f7 (by simpa using h), fun h => hF.out.f8 (by simpa using h), fun h => hF.out.f9 (by simpa using h), fun h => hF.out.f10 (by simpa using h), fun h => hF.out.f11 (by simpa using h), fun h => hF.out.f12 (by simpa using h), hF.out.kp, fun h => by have := hF.out.o1 (by simpa using h); simp [this], fun h => by have := hF.out.o3 (by simpa using h); simp [this], fun h => by have := hF.out.o5 (by simpa using h); simp [this], fun h => by have := hF.out.o7 (by simpa using h); simp [this], fun h => by have := hF.out.o9 (by simpa using h); simp [this], fun h => by have := hF.out.o12 (by simpa using h); simp [this], fun h => by have := hF.out.o121 (by simpa using h); simp [this], fun h => hF.out.r1 (by simpa using h), fun h => hF.out.r3 (by simpa using h), fun h => hF.out.r5 (by simpa using h), fun h => hF.out.r7 (by simpa using h), fun h => hF.out.r9 (by simpa using h), fun h h2 => hF.out.n13 (by simpa using h) (by simpa using h2), fun h h2 => hF.out.n15 (by simpa using h) (by simpa using h2), fun h h2 => hF.out.n35 (by simpa using h) (by simpa using h2), fun h h2 => hF.out.n79 (by simpa using h) (by simpa using h2), fun h h2 => hF.out.c (by simpa using h) (by simpa using h2), fun h => hF.out.c12 (by simpa using h)⟩
    · intro d a W hI hd hdep
      obtain ⟨be, bm, br, bf, bw, cf, x4, x19, x20, x21, x22, x23, x24, x25, x26, x27, x28, x29, rfl, hF⟩ := hI
      have hd4 : d 4 = true := dep_of hdep 4 (by kernel_rfl)
      obtain rfl := hF.out.f4 hd4
      have hmk := run_make_row' (P := Try.prog) 53 4 (.bool false) 1 Try.underlying53 info4 rfl .i64 .i64 n (by have := HG.out.n2; omega) (by have := HG.out.n2; omega)
      have HKP : Hid (Below w0.heap.size w0 W) := hF.out.kp
      have HN10 : Hid (d 10 = false) := no_later hF.out.o5 hd
      clear hdep hd hd4
      intro K hK
      simp only [Act.put, List.setIfInBounds_toArray, List.set_cons_zero, List.set_cons_succ]
      go_simp
      refine hK.out _ _ ⟨be, bm, W.heap.size, bf, bw, cf, x4, x19, x20, x21, x22, (.int .i64 (n : Int)), (.slice (some ⟨W.heap.size, 0, none⟩) n n), x25, x26, x27, x28, x29, by simp only [Act.put, List.setIfInBounds_toArray, List.set_cons_zero, List.set_cons_succ], ?_⟩
      have hb1 := below_alloc W (Obj.cells (madeCells #[Value.bool false] n) 4)
      exact ⟨fun h => hF.out.f0 (by simpa using h), fun h => hF.out.f1 (by simpa using h), fun h => hF.out.f2 (by simpa using h), fun h => hF.out.f3 (by simpa using h), fun h => hF.out.f4 (by simpa using h), fun _ => rfl, fun h => hF.out.f6 (by simpa using h), fun h => hF.out.f7 (by simpa using h), fun h => hF.out.f8 (by simpa using h), fun h => hF.out.f9 (by simpa using h), fun h => by have := HN10.out; simp [this] at h, fun h => hF.out.f11 (by simpa using h), fun h => hF.out.f12 (by simpa using h), HKP.out.trans (hb1.mono HKP.out.size), fun h => by have := hF.out.o1 (by simpa using h); simp [this], fun h => by have := hF.out.o3 (by simpa using h); simp [this], fun _ => by simp, fun h => by have := hF.out.o7 (by simpa using h); simp [this], fun h => by have := hF.out.o9 (by simpa using h); simp [this], fun h => by have := hF.out.o12 (by simpa using h); simp [this], fun h => by have := hF.out.o121 (by simpa using h); simp [this], fun h => have q := hF.out.r1 (by simpa using h); ⟨q.1, q.2.next hb1⟩, fun h => have q := hF.out.r3 (by simpa using h); ⟨q.1, q.2.next hb1⟩, fun _ => ⟨HKP.out.size, World.rowIs_made W _ n 4⟩, fun h => have q := hF.out.r7 (by simpa using h); ⟨q.1, q.2.next hb1⟩, fun h => have q := hF.out.r9 (by simpa using h); ⟨q.1, q.2.next hb1⟩, fun h h2 => hF.out.n13 (by simpa using h) (by simpa using h2), fun h _ => by have := (hF.out.r1 (by simpa using h)).2.lt; omega, fun h _ => by have := (hF.out.r3 (by simpa using h)).2.lt; omega, fun h h2 => hF.out.n79 (by simpa using h) (by simpa using h2), fun h h2 => have q := hF.out.c (by simpa using h) (by simpa using h2); ⟨q.1, q.2.of_block (hb1.block _ q.2.lt)⟩, fun h => by have := hF.out.o121 (by simpa using h); simp [HN10.out] at this⟩
    · intro d a W hI hd hdep
      obtain ⟨be, bm, br, bf, bw, cf, x4, x19, x20, x21, x22, x23, x24, x25, x26, x27, x28, x29, rfl, hF⟩ := hI
      clear hdep hd
      intro K hK
      simp only [Act.put, List.setIfInBounds_toArray, List.set_cons_zero, List.set_cons_succ]
      go_simp
      refine hK.out _ _ ⟨be, bm, br, bf, bw, cf, x4, x19, x20, x21, x22, x23, x24, (.int .i64 (n : Int)), x26, x27, x28, x29, by simp only [Act.put, List.setIfInBounds_toArray, List.set_cons_zero, List.set_cons_succ], ?_⟩
      exact ⟨fun h => hF.out.f0 (by simpa using h), fun h => hF.out.f1 (by simpa using h), fun h => hF.out.f2 (by simpa using h), fun h => hF.out.f3 (by simpa using h), fun h => hF.out.f4 (by simpa using h), fun h => hF.out.f5 (by simpa using h), fun _ => rfl, fun h => hF.out.f7 (by simpa using h), fun h => hF.out.f8 (by simpa using h), fun h => hF.out.f9 (by simpa using h), fun h => hF.out.f10 (by simpa using h), fun h => hF.out.f11 (by simpa using h), fun h => hF.out.f12 (by simpa using h), hF.out.kp, fun h => by have := hF.out.o1 (by simpa using h); simp [this], fun h => by have := hF.out.o3 (by simpa using h); simp [this], fun h => by have := hF.out.o5 (by simpa using h); simp [this], fun h => by have := hF.out.o7 (by simpa using h); simp [this], fun h => by have := hF.out.o9 (by simpa using h); simp [this], fun h => by have := hF.out.o12 (by simpa using h); simp [this], fun h => by have := hF.out.o121 (by simpa using h); simp [this], fun h => hF.out.r1 (by simpa using h), fun h => hF.out.r3 (by simpa using h), fun h => hF.out.r5 (by simpa using h), fun h => hF.out.r7 (by simpa using h), fun h => hF.out.r9 (by simpa using h), fun h h2 => hF.out.n13 (by simpa using h) (by simpa using h2), fun h h2 => hF.out.n15 (by simpa using h) (by simpa using h2), fun h h2 => hF.out.n35 (by simpa using h) (by simpa using h2), fun h h2 => hF.out.n79 (by simpa using h) (by simpa using h2), fun h h2 => hF.out.c (by simpa using h) (by simpa using h2), fun h => hF.out.c12 (by simpa using h)⟩
    · intro d a W hI hd hdep
      obtain ⟨be, bm, br, bf, bw, cf, x4, x19, x20, x21, x22, x23, x24, x25, x26, x27, x28, x29, rfl, hF⟩ := hI
      have hd6 : d 6 = true := dep_of hdep 6 (by kernel_rfl)
      obtain rfl := hF.out.f6 hd6
      have hmk := run_make_row' (P := Try.prog) 41 58 (.int .u64 0) 8 Try.underlying41 info58 rfl .i64 .i64 n (by have := HG.out.n2; omega) (by have := HG.out.n2; omega)
      have HKP : Hid (Below w0.heap.size w0 W) := hF.out.kp
      have HN10 : Hid (d 10 = false) := no_later hF.out.o7 hd
      clear hdep hd hd6
      intro K hK
      simp only [Act.put, List.setIfInBounds_toArray, List.set_cons_zero, List.set_cons_succ]
      go_simp
      refine hK.out _ _ ⟨be, bm, br, W.heap.size, bw, cf, x4, x19, x20, x21, x22, x23, x24, (.int .i64 (n : Int)), (.slice (some ⟨W.heap.size, 0, none⟩) n n), x27, x28, x29, by simp only [Act.put, List.setIfInBounds_toArray, List.set_cons_zero, List.set_cons_succ], ?_⟩
      have hb1 := below_alloc W (Obj.cells (madeCells #[Value.int .u64 0] n) 58)
      exact ⟨fun h => hF.out.f0 (by simpa using h), fun h => hF.out.f1 (by simpa using h), fun h => hF.out.f2 (by simpa using h), fun h => hF.out.f3 (by simpa using h), fun h => hF.out.f4 (by simpa using h), fun h => hF.out.f5 (by simpa using h), fun h => hF.out.f6 (by simpa using h), fun _ => rfl, fun h => hF.out.f8 (by simpa using h), fun h => hF.out.f9 (by simpa using h), fun h => by have := HN10.out; simp [this] at h, fun h => hF.out.f11 (by simpa using h), fun h => hF.out.f12 (by simpa using h), HKP.out.trans (hb1.mono HKP.out.size), fun h => by have := hF.out.o1 (by simpa using h); simp [this], fun h => by have := hF.out.o3 (by simpa using h); simp [this], fun h => by have := hF.out.o5 (by simpa using h); simp [this], fun _ => by simp, fun h => by have := hF.out.o9 (by simpa using h); simp [this], fun h => by have := hF.out.o12 (by simpa using h); simp [this], fun h => by have := hF.out.o121 (by simpa using h); simp [this], fun h => have q := hF.out.r1 (by simpa using h); ⟨q.1, q.2.next hb1⟩, fun h => have q := hF.out.r3 (by simpa using h); ⟨q.1, q.2.next hb1⟩, fun h => have q := hF.out.r5 (by simpa using h); ⟨q.1, q.2.next hb1⟩, fun _ => ⟨HKP.out.size, World.rowIs_made W _ n 58⟩, fun h => have q := hF.out.r9 (by simpa using h); ⟨q.1, q.2.next hb1⟩, fun h h2 => hF.out.n13 (by simpa using h) (by simpa using h2), fun h h2 => hF.out.n15 (by simpa using h) (by simpa using h2), fun h h2 => hF.out.n35 (by simpa using h) (by simpa using h2), fun _ h2 => by have := (hF.out.r9 (by simpa using h2)).2.lt; omega, fun h h2 => have q := hF.out.c (by simpa using h) (by simpa using h2); ⟨q.1, q.2.of_block (hb1.block _ q.2.lt)⟩, fun h => by have := hF.out.o121 (by simpa using h); simp [HN10.out] at this⟩
    · intro d a W hI hd hdep
      obtain ⟨be, bm, br, bf, bw, cf, x4, x19, x20, x21, x22, x23, x24, x25, x26, x27, x28, x29, rfl, hF⟩ := hI
      clear hdep hd
      intro K hK
      simp only [Act.put, List.setIfInBounds_toArray, List.set_cons_zero, List.set_cons_succ]
      go_simp
      refine hK.out _ _ ⟨be, bm, br, bf, bw, cf, x4, x19, x20, x21, x22, x23, x24, x25, x26, (.int .i64 (n : Int)), x28, x29, by simp only [Act.put, List.setIfInBounds_toArray, List.set_cons_zero, List.set_cons_succ], ?_⟩
      exact ⟨fun h => hF.out.f0 (by simpa using h), fun h => hF.out.f1 (by simpa using h), fun h => hF.out.f2 (by simpa using h), fun h => hF.out.f3 (by simpa using h), fun h => hF.out.f4 (by simpa using h), fun h => hF.out.f5 (by simpa using h), fun h => hF.out.f6 (by simpa using h), fun h => hF.out.f7 (by simpa using h), fun _ => rfl, fun h => hF.out.f9 (by simpa using h), fun h => hF.out.f10 (by simpa using h), fun h => hF.out.f11 (by simpa using h), fun h => hF.out.f12 (by simpa using h), hF.out.kp, fun h => by have := hF.out.o1 (by simpa using h); simp [this], fun h => by have := hF.out.o3 (by simpa using h); simp [this], fun h => by have := hF.out.o5 (by simpa using h); simp [this], fun h => by have := hF.out.o7 (by simpa using h); simp [this], fun h => by have := hF.out.o9 (by simpa using h); simp [this], fun h => by have := hF.out.o12 (by simpa using h); simp [this], fun h => by have := hF.out.o121 (by simpa using h); simp [this], fun h => hF.out.r1 (by simpa using h), fun h => hF.out.r3 (by simpa using h), fun h => hF.out.r5 (by simpa using h), fun h => hF.out.r7 (by simpa using h), fun h => hF.out.r9 (by simpa using h), fun h h2 => hF.out.n13 (by simpa using h) (by simpa using h2), fun h h2 => hF.out.n15 (by simpa using h) (by simpa using h2), fun h h2 => hF.out.n35 (by simpa using h) (by simpa using h2), fun h h2 => hF.out.n79 (by simpa using h) (by simpa using h2), fun h h2 => hF.out.c (by simpa using h) (by simpa using h2), fun h => hF.out.c12 (by simpa using h)⟩
    · intro d a W hI hd hdep
      obtain ⟨be, bm, br, bf, bw, cf, x4, x19, x20, x21, x22, x23, x24, x25, x26, x27, x28, x29, rfl, hF⟩ := hI
      have hd8 : d 8 = true := dep_of hdep 8 (by kernel_rfl)
      obtain rfl := hF.out.f8 hd8
      have hmk := run_make_row' (P := Try.prog) 41 58 (.int .u64 0) 8 Try.underlying41 info58 rfl .i64 .i64 n (by have := HG.out.n2; omega) (by have := HG.out.n2; omega)
      have HKP : Hid (Below w0.heap.size w0 W) := hF.out.kp
      have HN10 : Hid (d 10 = false) := no_later hF.out.o9 hd
      clear hdep hd hd8
      intro K hK
      simp only [Act.put, List.setIfInBounds_toArray, List.set_cons_zero, List.set_cons_succ]
      go_simp
      refine hK.out _ _ ⟨be, bm, br, bf, W.heap.size, cf, x4, x19, x20, x21, x22, x23, x24, x25, x26, (.int .i64 (n : Int)), (.slice (some ⟨W.heap.size, 0, none⟩) n n), x29, by simp only [Act.put, List.setIfInBounds_toArray, List.set_cons_zero, List.set_cons_succ], ?_⟩
      have hb1 := below_alloc W (Obj.cells (madeCells #[Value.int .u64 0] n) 58)
      exact ⟨fun h => hF.out.f0 (by simpa using h), fun h => hF.out.f1 (by simpa using h), fun h => hF.out.f2 (by simpa using h), fun h => hF.out.f3 (by simpa using h), fun h => hF.out.f4 (by simpa using h), fun h => hF.out.f5 (by simpa using h), fun h => hF.out.f6 (by simpa using h), fun h => hF.out.f7 (by simpa using h), fun h => hF.out.f8 (by simpa using h), fun _ => rfl, fun h => by have := HN10.out; simp [this] at h, fun h => hF.out.f11 (by simpa using h), fun h => hF.out.f12 (by simpa using h), HKP.out.trans (hb1.mono HKP.out.size), fun h => by have := hF.out.o1 (by simpa using h); simp [this], fun h => by have := hF.out.o3 (by simpa using h); simp [this], fun h => by have := hF.out.o5 (by simpa using h); simp [this], fun h => by have := hF.out.o7 (by simpa using h); simp [this], fun _ => by simp, fun h => by have := hF.out.o12 (by simpa using h); simp [this], fun h => by have := hF.out.o121 (by simpa using h); simp [this], fun h => have q := hF.out.r1 (by simpa using h); ⟨q.1, q.2.next hb1⟩, fun h => have q := hF.out.r3 (by simpa using h); ⟨q.1, q.2.next hb1⟩, fun h => have q := hF.out.r5 (by simpa using h); ⟨q.1, q.2.next hb1⟩, fun h => have q := hF.out.r7 (by simpa using h); ⟨q.1, q.2.next hb1⟩, fun _ => ⟨HKP.out.size, World.rowIs_made W _ n 58⟩, fun h h2 => hF.out.n13 (by simpa using h) (by simpa using h2), fun h h2 => hF.out.n15 (by simpa using h) (by simpa using h2), fun h h2 => hF.out.n35 (by simpa using h) (by simpa using h2), fun h _ => by have := (hF.out.r7 (by simpa using h)).2.lt; omega, fun h h2 => have q := hF.out.c (by simpa using h) (by simpa using h2); ⟨q.1, q.2.of_block (hb1.block _ q.2.lt)⟩, fun h => by have := hF.out.o121 (by simpa using h); simp [HN10.out] at this⟩
    · intro d a W hI hd hdep
      obtain ⟨be, bm, br, bf, bw, cf, x4, x19, x20, x21, x22, x23, x24, x25, x26, x27, x28, x29, rfl, hF⟩ := hI
      have hd1 : d 1 = true := dep_of hdep 1 (by kernel_rfl)
      have hd3 : d 3 = true := dep_of hdep 3 (by kernel_rfl)
      have hd5 : d 5 = true := dep_of hdep 5 (by kernel_rfl)
      have hd7 : d 7 = true := dep_of hdep 7 (by kernel_rfl)
      have hd9 : d 9 = true := dep_of hdep 9 (by kernel_rfl)
      obtain rfl := hF.out.f1 hd1
      obtain rfl := hF.out.f3 hd3
      obtain rfl := hF.out.f5 hd5
      obtain rfl := hF.out.f7 hd7
      obtain rfl := hF.out.f9 hd9
      have e1 := hd1
      have e3 := hd3
      have e5 := hd5
      have e7 := hd7
      have e9 := hd9
      clear hdep hd hd1 hd3 hd5 hd7 hd9
      intro K hK
      simp only [Act.put, List.setIfInBounds_toArray, List.set_cons_zero, List.set_cons_succ]
      go_simp
      refine hK.out _ _ ⟨be, bm, br, bf, bw, cf, x4, x19, (.slice (some ⟨be, 0, none⟩) n n), x21, (.slice (some ⟨bm, 0, none⟩) n n), x23, (.slice (some ⟨br, 0, none⟩) n n), x25, (.slice (some ⟨bf, 0, none⟩) n n), x27, (.slice (some ⟨bw, 0, none⟩) n n), (.agg #[(.slice (some ⟨be, 0, none⟩) n n), (.slice (some ⟨bf, 0, none⟩) n n), (.slice (some ⟨bw, 0, none⟩) n n), (.slice (some ⟨br, 0, none⟩) n n), (.slice (some ⟨bm, 0, none⟩) n n)]), by simp only [Act.put, List.setIfInBounds_toArray, List.set_cons_zero, List.set_cons_succ], ?_⟩
      exact ⟨fun h => hF.out.f0 (by simpa using h), fun h => hF.out.f1 (by simpa using h), fun h => hF.out.f2 (by simpa using h), fun h => hF.out.f3 (by simpa using h), fun h => hF.out.f4 (by simpa using h), fun h => hF.out.f5 (by simpa using h), fun h => hF.out.f6 (by simpa using h), fun h => hF.out.f7 (by simpa using h), fun h => hF.out.f8 (by simpa using h), fun h => hF.out.f9 (by simpa using h), fun _ => rfl, fun h => hF.out.f11 (by simpa using h), fun h => hF.out.f12 (by simpa using h), hF.out.kp, fun _ => by simp [e1], fun _ => by simp [e3], fun _ => by simp [e5], fun _ => by simp [e7], fun _ => by simp [e9], fun h => by have := hF.out.o12 (by simpa using h); simp [this], fun _ => by simp, fun h => hF.out.r1 (by simpa using h), fun h => hF.out.r3 (by simpa using h), fun h => hF.out.r5 (by simpa using h), fun h => hF.out.r7 (by simpa using h), fun h => hF.out.r9 (by simpa using h), fun h h2 => hF.out.n13 (by simpa using h) (by simpa using h2), fun h h2 => hF.out.n15 (by simpa using h) (by simpa using h2), fun h h2 => hF.out.n35 (by simpa using h) (by simpa using h2), fun h h2 => hF.out.n79 (by simpa using h) (by simpa using h2), fun h h2 => hF.out.c (by simpa using h) (by simpa using h2), fun h => hF.out.c12 (by simpa using h)⟩
    · intro d a W hI hd hdep
      obtain ⟨be, bm, br, bf, bw, cf, x4, x19, x20, x21, x22, x23, x24, x25, x26, x27, x28, x29, rfl, hF⟩ := hI
      have HKP : Hid (Below w0.heap.size w0 W) := hF.out.kp
      have HN12 : Hid (d 12 = false) := no_later hF.out.o12 hd
      clear hdep hd
      intro K hK
      simp only [Act.put, List.setIfInBounds_toArray, List.set_cons_zero, List.set_cons_succ]
      go_simp
      refine hK.out _ _ ⟨be, bm, br, bf, bw, W.heap.size, (.pointer (some ⟨W.heap.size, 0, none⟩)), x19, x20, x21, x22, x23, x24, x25, x26, x27, x28, x29, by simp only [Act.put, List.setIfInBounds_toArray, List.set_cons_zero, List.set_cons_succ], ?_⟩
      have hb1 := below_alloc W (Obj.cells #[(.slice none 0 0), (.slice none 0 0), (.slice none 0 0), (.slice none 0 0), (.slice none 0 0)] 55)
      exact ⟨fun h => hF.out.f0 (by simpa using h), fun h => hF.out.f1 (by simpa using h), fun h => hF.out.f2 (by simpa using h), fun h => hF.out.f3 (by simpa using h), fun h => hF.out.f4 (by simpa using h), fun h => hF.out.f5 (by simpa using h), fun h => hF.out.f6 (by simpa using h), fun h => hF.out.f7 (by simpa using h), fun h => hF.out.f8 (by simpa using h), fun h => hF.out.f9 (by simpa using h), fun h => hF.out.f10 (by simpa using h), fun _ => rfl, fun h => hF.out.f12 (by simpa using h), HKP.out.trans (hb1.mono HKP.out.size), fun h => by have := hF.out.o1 (by simpa using h); simp [this], fun h => by have := hF.out.o3 (by simpa using h); simp [this], fun h => by have := hF.out.o5 (by simpa using h); simp [this], fun h => by have := hF.out.o7 (by simpa using h); simp [this], fun h => by have := hF.out.o9 (by simpa using h); simp [this], fun _ => by simp, fun h => by have := hF.out.o121 (by simpa using h); simp [this], fun h => have q := hF.out.r1 (by simpa using h); ⟨q.1, q.2.next hb1⟩, fun h => have q := hF.out.r3 (by simpa using h); ⟨q.1, q.2.next hb1⟩, fun h => have q := hF.out.r5 (by simpa using h); ⟨q.1, q.2.next hb1⟩, fun h => have q := hF.out.r7 (by simpa using h); ⟨q.1, q.2.next hb1⟩, fun h => have q := hF.out.r9 (by simpa using h); ⟨q.1, q.2.next hb1⟩, fun h h2 => hF.out.n13 (by simpa using h) (by simpa using h2), fun h h2 => hF.out.n15 (by simpa using h) (by simpa using h2), fun h h2 => hF.out.n35 (by simpa using h) (by simpa using h2), fun h h2 => hF.out.n79 (by simpa using h) (by simpa using h2), fun _ _ => ⟨HKP.out.size, row_new5 W⟩, fun h => by simp [HN12.out] at h⟩
    · intro d a W hI hd hdep
      obtain ⟨be, bm, br, bf, bw, cf, x4, x19, x20, x21, x22, x23, x24, x25, x26, x27, x28, x29, rfl, hF⟩ := hI
      have hd10 : d 10 = true := dep_of hdep 10 (by kernel_rfl)
      have hd11 : d 11 = true := dep_of hdep 11 (by kernel_rfl)
      obtain rfl := hF.out.f10 hd10
      obtain rfl := hF.out.f11 hd11
      have e11 := hd11
      have e10 := hd10
      have HKP : Hid (Below w0.heap.size w0 W) := hF.out.kp
      have HCF : Hid (w0.heap.size ≤ cf ∧ W.rowIs cf 55 5 (fun _ => .slice none 0 0)) := hF.out.c hd11 hd
      have a0 := HCF.out.2.cell (i := 0) (by omega)
      have z0 := HCF.out.2.frozen 0
      have a1 := HCF.out.2.cell (i := 1) (by omega)
      have z1 := HCF.out.2.frozen 1
      have a2 := HCF.out.2.cell (i := 2) (by omega)
      have z2 := HCF.out.2.frozen 2
      have a3 := HCF.out.2.cell (i := 3) (by omega)
      have z3 := HCF.out.2.frozen 3
      have a4 := HCF.out.2.cell (i := 4) (by omega)
      have z4 := HCF.out.2.frozen 4
      clear hdep hd hd10 hd11
      intro K hK
      simp only [Act.put, List.setIfInBounds_toArray, List.set_cons_zero, List.set_cons_succ]
      go_simp
      refine hK.out _ _ ⟨be, bm, br, bf, bw, cf, (.pointer (some ⟨cf, 0, none⟩)), x19, x20, x21, x22, x23, x24, x25, x26, x27, x28, (.agg #[(.slice (some ⟨be, 0, none⟩) n n), (.slice (some ⟨bf, 0, none⟩) n n), (.slice (some ⟨bw, 0, none⟩) n n), (.slice (some ⟨br, 0, none⟩) n n), (.slice (some ⟨bm, 0, none⟩) n n)]), by simp only [Act.put, List.setIfInBounds_toArray, List.set_cons_zero, List.set_cons_succ], ?_⟩
      have HSET := row_five HCF.out.2 (.slice (some ⟨be, 0, none⟩) n n) (.slice (some ⟨bf, 0, none⟩) n n) (.slice (some ⟨bw, 0, none⟩) n n) (.slice (some ⟨br, 0, none⟩) n n) (.slice (some ⟨bm, 0, none⟩) n n)
      have HOTH := five_other W cf (.slice (some ⟨be, 0, none⟩) n n) (.slice (some ⟨bf, 0, none⟩) n n) (.slice (some ⟨bw, 0, none⟩) n n) (.slice (some ⟨br, 0, none⟩) n n) (.slice (some ⟨bm, 0, none⟩) n n)
      exact ⟨fun h => hF.out.f0 (by simpa using h), fun h => hF.out.f1 (by simpa using h), fun h => hF.out.f2 (by simpa using h), fun h => hF.out.f3 (by simpa using h), fun h => hF.out.f4 (by simpa using h), fun h => hF.out.f5 (by simpa using h), fun h => hF.out.f6 (by simpa using h), fun h => hF.out.f7 (by simpa using h), fun h => hF.out.f8 (by simpa using h), fun h => hF.out.f9 (by simpa using h), fun h => hF.out.f10 (by simpa using h), fun h => hF.out.f11 (by simpa using h), fun _ => trivial, (((((HKP.out.setCell HCF.out.1 _).setCell HCF.out.1 _).setCell HCF.out.1 _).setCell HCF.out.1 _).setCell HCF.out.1 _), fun h => by have := hF.out.o1 (by simpa using h); simp [this], fun h => by have := hF.out.o3 (by simpa using h); simp [this], fun h => by have := hF.out.o5 (by simpa using h); simp [this], fun h => by have := hF.out.o7 (by simpa using h); simp [this], fun h => by have := hF.out.o9 (by simpa using h); simp [this], fun _ => by simp [e11], fun _ => by simp [e10], fun h => have q := hF.out.r1 (by simpa using h); ⟨q.1, q.2.of (HOTH _ (row_ne q.2 HCF.out.2 (by decide)))⟩, fun h => have q := hF.out.r3 (by simpa using h); ⟨q.1, q.2.of (HOTH _ (row_ne q.2 HCF.out.2 (by decide)))⟩, fun h => have q := hF.out.r5 (by simpa using h); ⟨q.1, q.2.of (HOTH _ (row_ne q.2 HCF.out.2 (by decide)))⟩, fun h => have q := hF.out.r7 (by simpa using h); ⟨q.1, q.2.of (HOTH _ (row_ne q.2 HCF.out.2 (by decide)))⟩, fun h => have q := hF.out.r9 (by simpa using h); ⟨q.1, q.2.of (HOTH _ (row_ne q.2 HCF.out.2 (by decide)))⟩, fun h h2 => hF.out.n13 (by simpa using h) (by simpa using h2), fun h h2 => hF.out.n15 (by simpa using h) (by simpa using h2), fun h h2 => hF.out.n35 (by simpa using h) (by simpa using h2), fun h h2 => hF.out.n79 (by simpa using h) (by simpa using h2), fun _ h => by simp at h, fun _ => ⟨HCF.out.1, HSET⟩⟩
  · intro d a W hI hall
    obtain ⟨be, bm, br, bf, bw, cf, x4, x19, x20, x21, x22, x23, x24, x25, x26, x27, x28, x29, rfl, hF⟩ := hI
    simp only [List.length_cons, List.length_nil] at hall
    obtain rfl := hF.out.f0 (hall 0 (by omega))
    obtain rfl := hF.out.f1 (hall 1 (by omega))
    obtain rfl := hF.out.f2 (hall 2 (by omega))
    obtain rfl := hF.out.f3 (hall 3 (by omega))
    obtain rfl := hF.out.f4 (hall 4 (by omega))
    obtain rfl := hF.out.f5 (hall 5 (by omega))
    obtain rfl := hF.out.f6 (hall 6 (by omega))
    obtain rfl := hF.out.f7 (hall 7 (by omega))
    obtain rfl := hF.out.f8 (hall 8 (by omega))
    obtain rfl := hF.out.f9 (hall 9 (by omega))
    obtain rfl := hF.out.f10 (hall 10 (by omega))
    obtain rfl := hF.out.f11 (hall 11 (by omega))
    have HAF0 : Hid (AF w w.heap.size (w.heap.size + 1) t n (.slice ao ps.length c) ps be bf bw br bm cf (fun _ => false) (fun _ => 0#64) (fun _ => 0#64) (fun _ => false) (fun _ => false) W) := by
      have r1 := hF.out.r1 (hall 1 (by omega))
      have r3 := hF.out.r3 (hall 3 (by omega))
      have r5 := hF.out.r5 (hall 5 (by omega))
      have r7 := hF.out.r7 (hall 7 (by omega))
      have r9 := hF.out.r9 (hall 9 (by omega))
      have rc := hF.out.c12 (hall 12 (by omega))
      have kp := hF.out.kp
      have n1 := hF.out.n13 (hall 1 (by omega)) (hall 3 (by omega))
      have n2 := hF.out.n15 (hall 1 (by omega)) (hall 5 (by omega))
      have n3 := hF.out.n35 (hall 3 (by omega)) (hall 5 (by omega))
      have n4 := hF.out.n79 (hall 7 (by omega)) (hall 9 (by omega))
      have hs := HB0.out.size
      exact ⟨HB0.out.trans (kp.mono hs), HGR.out.of_block (kp.block _ HGR.out.lt), HRR.out.of_block (kp.block _ HRR.out.lt), rc.2, r1.2, r7.2, r9.2, r5.2, r3.2, ⟨n2, n1, fun e => n3 e.symm, n4⟩, ⟨by omega, by omega, by omega, by omega, by omega⟩, HP.out⟩
    clear hF hall HB0 HGR HRR
    simp only [Act.put, List.setIfInBounds_toArray, List.set_cons_zero, List.set_cons_succ]
    obtain ⟨wA, HWA⟩ : ∃ wA, wA = W := ⟨_, rfl⟩
    subst HWA
    have k0 := HAF0.out.g0
    have k1 := HAF0.out.g1
    have k2 := HAF0.out.g2
    have k3 := HAF0.out.f0
    have he27 := enters_of Try.func26 (by kernel_rfl) rfl
    go_wp2_with fail
    refine (fix_any 26 #[.pointer (some ⟨cf, 0, none⟩)] he27 (fun s W => AF w w.heap.size (w.heap.size + 1) t n (.slice ao ps.length c) ps be bf bw br bm cf s (fun _ => 0#64) (fun _ => 0#64) (fun _ => false) (fun _ => false) W ∧ SnM ps false s) (fun s p => amk s false p.2) t n be (.slice ao ps.length c) ps HG.out w wA HP.out HAF0.out.bl HAF0.out.ge.1 (fun s W W' h hb => ⟨h.1.next hb, h.2⟩) (fun s W h => h.1.e) ?_ ?_ (fun _ => false) ⟨HAF0.out, snM_zero _ _⟩).mono ?_
    · intro s W q hq m hI e2 hs0 hH
      refine ⟨hI.1.putE (Fm.set (X := fun k => k = be) (b := be) (i := m) _ rfl) (hI.1.e.set m true), ?_⟩
      have := snM_put (List.getElem_mem hq) hI.2 hH
      rw [e2] at this; exact this
    · intro s W q hq u hI hbW hsy
      rw [arr1]
      exact clos27_any t n be cf s (.slice (some ⟨bf, 0, none⟩) n n) (.slice (some ⟨bw, 0, none⟩) n n) (.slice (some ⟨br, 0, none⟩) n n) (.slice (some ⟨bm, 0, none⟩) n n) _ u ps[q].2 (HG.out.ok q hq) W (hsy.below hbW) hI.1.e hI.1.f
    rintro _ w1 ⟨rfl, hF1, E, ⟨hAF1, hsE⟩, hcE⟩
    have HE : Hid (Mk ps false E) := ⟨fun p hp h => (hcE p hp).resolve_right (by rw [h]; decide), hsE⟩
    have hba := below_alloc w1 (Obj.cells #[.func (.func 27) #[] #[.pointer (some ⟨cf, 0, none⟩)]] 68)
    have hcm := row_one w1 (.func (.func 27) #[] #[.pointer (some ⟨cf, 0, none⟩)]) 68
    obtain ⟨w2, HW2⟩ : ∃ w2, Hid (w1.alloc (Obj.cells #[.func (.func 27) #[] #[.pointer (some ⟨cf, 0, none⟩)]] 68) = w2) := ⟨_, (rfl : _ = _)⟩
    rw [HW2.out] at hba hcm
    have HAF2 : Hid (AF w w.heap.size (w.heap.size + 1) t n (.slice ao ps.length c) ps be bf bw br bm cf E (fun _ => 0#64) (fun _ => 0#64) (fun _ => false) (fun _ => false) w2 ∧ w2.rowIs w1.heap.size 68 1 (fun _ => .func (.func 27) #[] #[.pointer (some ⟨cf, 0, none⟩)])) := ⟨hAF1.next hba, hcm⟩
    clear hF1 hAF1 hsE hcE hba hcm k0 k1 k2 k3 he27 HAF0
    obtain ⟨cm, HCM⟩ : ∃ cm, Hid (w1.heap.size = cm) := ⟨_, (rfl : w1.heap.size = w1.heap.size)⟩
    rw [HCM.out] at HAF2
    have k0 := HAF2.out.1.g0
    have k1 := HAF2.out.1.g1
    have k2 := HAF2.out.1.g2
    have k4 := HAF2.out.1.f4
    have k5 := HAF2.out.2.cell (i := 0) (by omega)
    have he28 := enters_of Try.func27 (by kernel_rfl) rfl
    rw [← HW2.out] at k0 k1 k2 k4 k5
    rw [← HCM.out] at k5
    go_wp2_with fail
    rw [HW2.out, HCM.out]
    clear k0 k1 k2 k4 k5 HW2
    refine (fix_any 27 #[.pointer (some ⟨cf, 0, none⟩)] he28 (fun s W => AF w w.heap.size (w.heap.size + 1) t n (.slice ao ps.length c) ps be bf bw br bm cf E (fun _ => 0#64) (fun _ => 0#64) (fun _ => false) s W ∧ SnM ps true s ∧ W.rowIs cm 68 1 (fun _ => .func (.func 27) #[] #[.pointer (some ⟨cf, 0, none⟩)])) (fun s p => amk s true p.2) t n bm (.slice ao ps.length c) ps HG.out w w2 HP.out HAF2.out.1.bl HAF2.out.1.ge.2.2.2.2 (fun s W W' h hb => ⟨h.1.next hb, h.2.1, h.2.2.of_block (hb.block _ h.2.2.lt)⟩) (fun s W h => h.1.m) ?_ ?_ (fun _ => false) ⟨HAF2.out.1, snM_zero _ _, HAF2.out.2⟩).mono ?_
    · intro s W q hq m hI e2 hs0 hH
      have hfm : Fm (fun k => k = bm) W (W.setCell ⟨bm, m, none⟩ (.bool true)) := Fm.set (X := fun k => k = bm) (b := bm) (i := m) _ rfl
      refine ⟨hI.1.putM hfm (hI.1.m.set m true), ?_, hI.2.2.of_block (hfm.block _ hI.2.2.lt (row_ne hI.2.2 hI.1.m (by decide)))⟩
      have := snM_put (List.getElem_mem hq) hI.2.1 hH
      rw [e2] at this; exact this
    · intro s W q hq u hI hbW hsy
      rw [arr1]
      exact clos28_any t n bm cf s (.slice (some ⟨be, 0, none⟩) n n) (.slice (some ⟨bf, 0, none⟩) n n) (.slice (some ⟨bw, 0, none⟩) n n) (.slice (some ⟨br, 0, none⟩) n n) _ u ps[q].2 (HG.out.ok q hq) W (hsy.below hbW) hI.1.m hI.1.f
    rintro _ w3 ⟨rfl, hF1, M, ⟨hAF1, hsM, hcm⟩, hcM⟩
    have HM : Hid (Mk ps true M) := ⟨fun p hp h => (hcM p hp).resolve_right (by rw [h]; decide), hsM⟩
    have hn1 := HG.out.n1
    have hn2 := HG.out.n2
    have hn3 : (0 : Int) < (n : Int) := by omega
    have k3 := hAF1.f3
    have y0 := hAF1.r.cell (i := 0) (by omega)
    have y1 := World.rowIs.frozen hAF1.r 0
    obtain ⟨w4, HW4⟩ : ∃ w4, Hid (w3.setCell ⟨br, 0, none⟩ (.bool true) = w4) := ⟨_, (rfl : _ = _)⟩
    have HAF4 : Hid (AF w w.heap.size (w.heap.size + 1) t n (.slice ao ps.length c) ps be bf bw br bm cf E (fun _ => 0#64) (fun _ => 0#64) (upd (fun _ => false) 0 true) M w4 ∧ w4.rowIs cm 68 1 (fun _ => .func (.func 27) #[] #[.pointer (some ⟨cf, 0, none⟩)])) := by
      have hfm : Fm (fun k => k = br) w3 (w3.setCell ⟨br, 0, none⟩ (.bool true)) := Fm.set (X := fun k => k = br) (b := br) (i := 0) _ rfl
      have hr := hAF1.r.set 0 true
      rw [HW4.out] at hfm hr
      exact ⟨hAF1.putR hfm hr, hcm.of_block (hfm.block _ hcm.lt (row_ne hcm hAF1.r (by decide)))⟩
    clear hF1 hAF1 hsM hcM hcm HAF2
    go_wp2_with fail
    rw [HW4.out]
    clear k3 y0 y1 HW4 hn3
    go_loopw [6] (fun v wr => ∃ r : Nat, r ≤ n ∧ v = .int .i64 (r : Int) ∧ Hid (∃ R, AF w w.heap.size (w.heap.size + 1) t n (.slice ao ps.length c) ps be bf bw br bm cf E (fun _ => 0#64) (fun _ => 0#64) R M wr ∧ wr.rowIs cm 68 1 (fun _ => .func (.func 27) #[] #[.pointer (some ⟨cf, 0, none⟩)]) ∧ RR ps n r R)) (fun v _ => n - (intOf v).toNat)
    case atStart => exact ⟨0, by omega, rfl, _, HAF4.out.1, HAF4.out.2, RR.start ps hn1⟩
    case round =>
      obtain ⟨r, hr, rfl, HX⟩ := hrel
      clear HAF4
      by_cases hlt : r < n
      · have b0 : decide ((r : Int) < (n : Int)) = true := by simp; omega
        obtain ⟨R0, hA0, hC0, hRR⟩ := HX.out
        have HRR : Hid (RR ps n r R0) := hRR
        have HY : Hid (∃ R, AF w w.heap.size (w.heap.size + 1) t n (.slice ao ps.length c) ps be bf bw br bm cf E (fun _ => 0#64) (fun _ => 0#64) R M wr ∧ wr.rowIs cm 68 1 (fun _ => .func (.func 27) #[] #[.pointer (some ⟨cf, 0, none⟩)]) ∧ RI ps R0 0 0 R) := ⟨R0, hA0, hC0, RI.start hRR.sn hRR.z⟩
        clear hA0 hC0 hRR HX
        obtain ⟨W1, rfl⟩ : ∃ W1, W1 = wr := ⟨_, rfl⟩
        go_wp2_with fail
        clear b0
        go_loopw [7] (fun v wr => ∃ i : Nat, i ≤ ps.length ∧ v = .int .i64 (i : Int) ∧ Hid (∃ R, AF w w.heap.size (w.heap.size + 1) t n (.slice ao ps.length c) ps be bf bw br bm cf E (fun _ => 0#64) (fun _ => 0#64) R M wr ∧ wr.rowIs cm 68 1 (fun _ => .func (.func 27) #[] #[.pointer (some ⟨cf, 0, none⟩)]) ∧ RI ps R0 i 0 R)) (fun v _ => ps.length - (intOf v).toNat)
        case atStart => exact ⟨0, by omega, rfl, HY⟩
        case round =>
          obtain ⟨i, hi, rfl, HX⟩ := hrel
          clear HY
          obtain ⟨R1, hA1, hC1, hRI⟩ := HX.out
          have k2 := hA1.g2
          by_cases hil : i < ps.length
          · have b0 : decide ((i : Int) < (ps.length : Int)) = true := by simp; omega
            have hi1 : (i : Int) < (ps.length : Int) := by omega
            obtain ⟨b2, o, rfl, hb, hcc⟩ := HCS.out.resolve_left (by intro e; subst e; simp at hil)
            obtain ⟨c0, u, c1, hsy⟩ := hcc i hil
            obtain ⟨hd, e1, e2, hdn⟩ := HG.out.hd i hil
            have hln := HG.out.lb i hil
            obtain ⟨uo, uc, rfl, hum, hucs⟩ := hsy
            rw [e1] at c0
            have HUC : Hid (ps[i].2 = [] ∨ _) := hucs
            have HDC : Hid (w.cell? ⟨b2, o + i * 2, none⟩ = some (.int .i64 (hd : Int)) ∧ w.cell? ⟨b2, o + i * 2 + 1, none⟩ = some (.slice uo ps[i].2.length uc) ∧ b2 < w.heap.size) := ⟨c0, c1, hb⟩
            have HOI : Hid (OkL t n ps[i].2) := HG.out.ok i hil
            clear hcc hucs hA1 hC1 hRI c0 c1 hb k2
            obtain ⟨R1, hA1, hC1, hRI⟩ := HX.out
            have k2 := hA1.g2
            clear hA1 hC1 hRI
            obtain ⟨W2, rfl⟩ : ∃ W2, W2 = wr := ⟨_, rfl⟩
            go_wp2_with fail
            clear b0 k2
            go_loopw [8] (fun v wr => ∃ k : Nat, k ≤ ps[i].2.length ∧ v = .int .i64 (k : Int) ∧ Hid (∃ R, AF w w.heap.size (w.heap.size + 1) t n (.slice (some ⟨b2, o, none⟩) ps.length c) ps be bf bw br bm cf E (fun _ => 0#64) (fun _ => 0#64) R M wr ∧ wr.rowIs cm 68 1 (fun _ => .func (.func 27) #[] #[.pointer (some ⟨cf, 0, none⟩)]) ∧ RI ps R0 i k R)) (fun v _ => ps[i].2.length - (intOf v).toNat)
            case atStart => exact ⟨0, by omega, rfl, HX⟩
            case round =>
              obtain ⟨k, hk, rfl, HZ⟩ := hrel
              clear HX
              obtain ⟨R, hA, hC, hRI⟩ := HZ.out
              have k2 := hA.g2
              have c0 := (hA.bl.cell (p := ⟨b2, o + i * 2, none⟩) HDC.out.2.2).trans HDC.out.1
              have c1 := (hA.bl.cell (p := ⟨b2, o + i * 2 + 1, none⟩) HDC.out.2.2).trans HDC.out.2.1
              by_cases hkl : k < ps[i].2.length
              · have b0 : decide ((k : Int) < (ps[i].2.length : Int)) = true := by simp; omega
                have hk1 : (k : Int) < (ps[i].2.length : Int) := by omega
                obtain ⟨b3, o3, rfl, hb3, hc3⟩ := HUC.out.resolve_left (by intro e; rw [e] at hkl; simp at hkl)
                obtain ⟨s0, s1⟩ := hc3 k hkl
                obtain ⟨kd, m, e3, e4, e5, hkd⟩ := HOI.out.at hkl
                rw [e3] at s0
                rw [e4] at s1
                replace s0 : wr.cell? ⟨b3, o3 + k * 2, none⟩ = _ := (hA.bl.cell (p := ⟨b3, o3 + k * 2, none⟩) hb3).trans s0
                replace s1 : wr.cell? ⟨b3, o3 + k * 2 + 1, none⟩ = _ := (hA.bl.cell (p := ⟨b3, o3 + k * 2 + 1, none⟩) hb3).trans s1
                have hba := below_alloc wr (Obj.cells #[.int .i64 kd, .int .i64 (m : Int)] 52)
                have hsb := row_two wr (.int .i64 kd) (.int .i64 (m : Int)) 52
                obtain ⟨wa, HWA⟩ : ∃ wa, Hid (wr.alloc (Obj.cells #[.int .i64 kd, .int .i64 (m : Int)] 52) = wa) := ⟨_, (rfl : _ = _)⟩
                rw [HWA.out] at hba hsb
                have HKP : Hid ((R hd = true → kd = 2 → R m = true) → RI ps R0 i (k + 1) R) := fun h1 => hRI.keep hil hkl (by rw [e2, e3, e5]; exact h1)
                have HPT : Hid (R hd = true → kd = 2 → RI ps R0 i (k + 1) (upd R m true)) := fun h1 h2 => by
                  have := hRI.put hil hkl (by rw [e2]; exact h1) (e3.trans h2)
                  rw [e5] at this; exact this
                have HA : Hid (AF w w.heap.size (w.heap.size + 1) t n (.slice (some ⟨b2, o, none⟩) ps.length c) ps be bf bw br bm cf E (fun _ => 0#64) (fun _ => 0#64) R M wa ∧ wa.rowIs cm 68 1 (fun _ => .func (.func 27) #[] #[.pointer (some ⟨cf, 0, none⟩)])) := ⟨hA.next hba, hC.of_block (hba.block _ hC.lt)⟩
                have m0 := hsb.cell (i := 0) (by omega)
                have m1 := hsb.cell (i := 1) (by omega)
                simp only [if_true, if_neg (by omega : ¬ (1 : Nat) = 0)] at m0 m1
                have m2 := HA.out.1.f3
                have m3 := HA.out.1.g2
                have m4 := (HA.out.1.bl.cell (p := ⟨b2, o + i * 2, none⟩) HDC.out.2.2).trans HDC.out.1
                have m5 := HA.out.1.r.cell hdn
                have hd0 : (0 : Int) ≤ (hd : Int) := by omega
                have hd1 : (hd : Int) < (n : Int) := by omega
                have bb1 : decide ((hd : Int) < 0) = false := by simp
                have bb2 : decide ((n : Int) ≤ (hd : Int)) = false := by simp; omega
                have bb3 : decide ((i : Int) < 0) = false := by simp
                have bb4 : decide ((ps.length : Int) ≤ (i : Int)) = false := by simp; omega
                have hi0 : (0 : Int) ≤ (i : Int) := by omega
                obtain ⟨sbk, HSBK⟩ : ∃ sbk, Hid (wr.heap.size = sbk) := ⟨_, (rfl : wr.heap.size = wr.heap.size)⟩
                rw [HSBK.out] at m0 m1
                have HM1 : Hid (wa.cell? ⟨sbk, 1, none⟩ = some (.int .i64 (m : Int)) ∧ wa.cell? ⟨sbk, 0, none⟩ = some (.int .i64 kd) ∧ sbk < wa.heap.size) := ⟨m1, m0, by rw [← HSBK.out, ← HWA.out]; simp⟩
                obtain ⟨rh, HRH⟩ : ∃ rh, Hid (R hd = rh) := ⟨_, (rfl : R hd = R hd)⟩
                rw [HRH.out] at m5 HKP HPT
                clear hc3 e3 e4 e5 hba hsb hA hC hRI HZ
                rcases hkd with ⟨rfl, hkd⟩ | ⟨rfl, hkd⟩
                · have HN : Hid (RI ps R0 i (k + 1) R) := HKP.out fun _ h => by omega
                  go_upto_region 17 with (fail)
                  rw [HWA.out, HSBK.out]
                  go_quiet (fail)
                  have HB2 : Hid (AF w w.heap.size (w.heap.size + 1) t n (.slice (some ⟨b2, o, none⟩) ps.length c) ps be bf bw br bm cf E (fun _ => 0#64) (fun _ => 0#64) R M (wa.drewN nq) ∧ (wa.drewN nq).rowIs cm 68 1 (fun _ => .func (.func 27) #[] #[.pointer (some ⟨cf, 0, none⟩)])) := ⟨HA.out.1.next ⟨rfl, rfl, rfl, Nat.le_refl _, fun _ _ => rfl⟩, HA.out.2⟩
                  generalize wa.drewN nq = wz at HB2 ⊢
                  clear HA
                  go_wp2_with fail
                  go_roundw
                  case rel => exact ⟨k + 1, by omega, by go_num, R, HB2.out.1, HB2.out.2, HN.out⟩
                  case measure => simp [intOf]; omega
                · cases rh with
                  | false =>
                    have HN : Hid (RI ps R0 i (k + 1) R) := HKP.out fun h => by cases h
                    go_upto_region 17 with (fail)
                    rw [HWA.out, HSBK.out]
                    go_quiet (fail)
                    have HB2 : Hid (AF w w.heap.size (w.heap.size + 1) t n (.slice (some ⟨b2, o, none⟩) ps.length c) ps be bf bw br bm cf E (fun _ => 0#64) (fun _ => 0#64) R M (wa.drewN nq) ∧ (wa.drewN nq).rowIs cm 68 1 (fun _ => .func (.func 27) #[] #[.pointer (some ⟨cf, 0, none⟩)])) := ⟨HA.out.1.next ⟨rfl, rfl, rfl, Nat.le_refl _, fun _ _ => rfl⟩, HA.out.2⟩
                    generalize wa.drewN nq = wz at HB2 ⊢
                    clear HA
                    go_wp2_with fail
                    go_roundw
                    case rel => exact ⟨k + 1, by omega, by go_num, R, HB2.out.1, HB2.out.2, HN.out⟩
                    case measure => simp [intOf]; omega
                  | true =>
                    have HN : Hid (RI ps R0 i (k + 1) (upd R m true)) := HPT.out rfl (by trivial)
                    go_upto_region 17 with (fail)
                    rw [HWA.out, HSBK.out]
                    go_quiet (fail)
                    have hdr : Below wa.heap.size wa (wa.drewN nq) := ⟨rfl, rfl, rfl, Nat.le_refl _, fun _ _ => rfl⟩
                    have HB2 : Hid (AF w w.heap.size (w.heap.size + 1) t n (.slice (some ⟨b2, o, none⟩) ps.length c) ps be bf bw br bm cf E (fun _ => 0#64) (fun _ => 0#64) R M (wa.drewN nq) ∧ (wa.drewN nq).rowIs cm 68 1 (fun _ => .func (.func 27) #[] #[.pointer (some ⟨cf, 0, none⟩)])) := ⟨HA.out.1.next hdr, HA.out.2.of_block (hdr.block _ HA.out.2.lt)⟩
                    have q1 := (hdr.cell (p := ⟨sbk, 1, none⟩) HM1.out.2.2).trans HM1.out.1
                    generalize wa.drewN nq = wz at HB2 q1 hdr ⊢
                    have q2 := HB2.out.1.f3
                    have q3 := HB2.out.1.r.cell hkd
                    have q4 := World.rowIs.frozen HB2.out.1.r m
                    have hm2 : (m : Int) < (n : Int) := by omega
                    clear HA m0 m1 m2 m3 m4 m5 hdr
                    have hfm : Fm (fun k => k = br) wz (wz.setCell ⟨br, m, none⟩ (.bool true)) := Fm.set (X := fun k => k = br) (b := br) (i := m) _ rfl
                    have HB3 : Hid (AF w w.heap.size (w.heap.size + 1) t n (.slice (some ⟨b2, o, none⟩) ps.length c) ps be bf bw br bm cf E (fun _ => 0#64) (fun _ => 0#64) (upd R m true) M (wz.setCell ⟨br, m, none⟩ (.bool true)) ∧ (wz.setCell ⟨br, m, none⟩ (.bool true)).rowIs cm 68 1 (fun _ => .func (.func 27) #[] #[.pointer (some ⟨cf, 0, none⟩)])) := ⟨HB2.out.1.putR hfm (HB2.out.1.r.set m true), HB2.out.2.of_block (hfm.block _ HB2.out.2.lt (row_ne HB2.out.2 HB2.out.1.r (by decide)))⟩
                    clear hfm
                    go_wp2_with fail
                    go_roundw
                    case rel => exact ⟨k + 1, by omega, by go_num, _, HB3.out.1, HB3.out.2, HN.out⟩
                    case measure => simp [intOf]; omega
              · have b0 : decide ((k : Int) < (ps[i].2.length : Int)) = false := by simp; omega
                have HN : Hid (∃ R, AF w w.heap.size (w.heap.size + 1) t n (.slice (some ⟨b2, o, none⟩) ps.length c) ps be bf bw br bm cf E (fun _ => 0#64) (fun _ => 0#64) R M wr ∧ wr.rowIs cm 68 1 (fun _ => .func (.func 27) #[] #[.pointer (some ⟨cf, 0, none⟩)]) ∧ RI ps R0 (i + 1) 0 R) := ⟨R, hA, hC, hRI.next fun _ => by omega⟩
                have hi1' : (i : Int) < (ps.length : Int) := by omega
                clear hA hC hRI HZ
                go_wp2_with fail
                go_roundw
                case rel => exact ⟨i + 1, by omega, by go_num, HN⟩
                case measure => simp [intOf]; omega
          · have b0 : decide ((i : Int) < (ps.length : Int)) = false := by simp; omega
            have HN : Hid (∃ R, AF w w.heap.size (w.heap.size + 1) t n (.slice ao ps.length c) ps be bf bw br bm cf E (fun _ => 0#64) (fun _ => 0#64) R M wr ∧ wr.rowIs cm 68 1 (fun _ => .func (.func 27) #[] #[.pointer (some ⟨cf, 0, none⟩)]) ∧ RR ps n (r + 1) R) := by
              obtain rfl : i = ps.length := by omega
              exact ⟨R1, hA1, hC1, HRR.out.next hn1 HSN.out hRI⟩
            clear hA1 hC1 hRI HX
            go_wp2_with fail
            go_roundw
            case rel => exact ⟨r + 1, by omega, by go_num, HN⟩
            case measure => simp [intOf]; omega
      · have b0 : decide ((r : Int) < (n : Int)) = false := by simp; omega
        obtain ⟨R, hA, hC, hRR⟩ := HX.out
        have ern : r = n := by omega
        rw [ern] at hRR
        have HR : Hid (Re ps R) := hRR.re
        clear ern
        have HAF5 : Hid (AF w w.heap.size (w.heap.size + 1) t n (.slice ao ps.length c) ps be bf bw br bm cf E (fun _ => 0#64) (fun _ => 0#64) R M wr ∧ wr.rowIs cm 68 1 (fun _ => .func (.func 27) #[] #[.pointer (some ⟨cf, 0, none⟩)])) := ⟨hA, hC⟩
        clear hA hC hRR HX
        obtain ⟨T, HT⟩ : ∃ T : Nat, Hid (t = (T : Int)) := ⟨t.toNat, by show _ = _; have := HG.out.t0; omega⟩
        have HTT : Hid (T ≤ 30) := by show _ ≤ _; have := HT.out; have := HG.out.t2; omega
        have hba := below_alloc wr (Obj.cells #[.int .i64 0] 3)
        have hct := row_one wr (.int .i64 0) 3
        obtain ⟨w5, HW5⟩ : ∃ w5, Hid (wr.alloc (Obj.cells #[.int .i64 0] 3) = w5) := ⟨_, (rfl : _ = _)⟩
        rw [HW5.out] at hba hct
        have HTG : Hid (TG w T t n (.slice ao ps.length c) ps be bf bw br bm cf cm E (fun _ => 0#64) R M (.pointer (some ⟨wr.heap.size, 0, none⟩)) w5 T) := ⟨_, 0, (fun _ => 0#64), rfl, by omega, rfl, HAF5.out.1.next hba, HAF5.out.2.of_block (hba.block _ HAF5.out.2.lt), hct, fq_zero ps M E⟩
        clear hba hct HAF5
        go_wp2_with fail
        rw [HW5.out]
        clear HW5 b0
        obtain ⟨ctt, HCTT⟩ : ∃ ctt, Hid (wr.heap.size = ctt) := ⟨_, (rfl : wr.heap.size = wr.heap.size)⟩
        rw [HCTT.out] at HTG ⊢
        clear HCTT
        go_loopw [10] (fun v wr => ∃ m, TG w T t n (.slice ao ps.length c) ps be bf bw br bm cf cm E (fun _ => 0#64) R M v wr m) (fun v wr => leastOf (TG w T t n (.slice ao ps.length c) ps be bf bw br bm cf cm E (fun _ => 0#64) R M v wr))
        case atStart => exact ⟨_, HTG.out⟩
        case round =>
          obtain ⟨ct, u, F, rfl, hu, HMu, hA, hC, hct, hFQ⟩ := leastOf_holds hrel
          clear HTG hrel
          have HMM : Hid (leastOf (TG w T t n (.slice ao ps.length c) ps be bf bw br bm cf cm E (fun _ => 0#64) R M (.pointer (some ⟨ct, 0, none⟩)) wr) = T - u) := HMu
          clear HMu
          have k0 := hA.g0
          have k1 := hct.cell (i := 0) (by omega)
          by_cases hlt : u < T
          · have b0 : decide ((u : Int) < t) = true := by have := HT.out; simp; omega
            have hmk := run_make_row' (P := Try.prog) 53 4 (.bool false) 1 Try.underlying53 info4 rfl .i64 .i64 n (by omega) (by omega)
            have hb1 := below_alloc wr (Obj.cells (madeCells #[Value.bool false] n) 4)
            have hb2 := below_alloc (wr.alloc (Obj.cells (madeCells #[Value.bool false] n) 4)) (Obj.cells #[(.slice (some ⟨wr.heap.size, 0, none⟩) n n)] 53)
            have r1 := (World.rowIs_made wr (.bool false) n 4).alloc (Obj.cells #[(.slice (some ⟨wr.heap.size, 0, none⟩) n n)] 53)
            have r2 := row_one (wr.alloc (Obj.cells (madeCells #[Value.bool false] n) 4)) (.slice (some ⟨wr.heap.size, 0, none⟩) n n) 53
            rw [show (wr.alloc (Obj.cells (madeCells #[Value.bool false] n) 4)).heap.size = wr.heap.size + 1 by simp] at r2
            obtain ⟨w6, HW6⟩ : ∃ w6, Hid ((wr.alloc (Obj.cells (madeCells #[Value.bool false] n) 4)).alloc (Obj.cells #[(.slice (some ⟨wr.heap.size, 0, none⟩) n n)] 53) = w6) := ⟨_, (rfl : _ = _)⟩
            rw [HW6.out] at hb2 r1 r2
            have hb3 : Below wr.heap.size wr w6 := hb1.trans (hb2.mono (by simp))
            obtain ⟨bb, HBB⟩ : ∃ bb, Hid (wr.heap.size = bb) := ⟨_, (rfl : wr.heap.size = wr.heap.size)⟩
            have HNB : Hid (be ≠ bb ∧ bf ≠ bb ∧ bw ≠ bb ∧ br ≠ bb ∧ bm ≠ bb ∧ cf ≠ bb ∧ w.heap.size ≠ bb ∧ w.heap.size + 1 ≠ bb ∧ w.heap.size ≤ bb) := by
              have := HBB.out; have := hA.e.lt; have := hA.fi.lt; have := hA.v.lt; have := hA.r.lt; have := hA.m.lt; have := hA.f.lt; have := hA.gr.lt; have := hA.rr.lt; have := hA.bl.size
              exact ⟨by omega, by omega, by omega, by omega, by omega, by omega, by omega, by omega, by omega⟩
            rw [HBB.out] at r1 r2
            have HA6 : Hid (AF w w.heap.size (w.heap.size + 1) t n (.slice ao ps.length c) ps be bf bw br bm cf E F (fun _ => 0#64) R M w6 ∧ w6.rowIs cm 68 1 (fun _ => .func (.func 27) #[] #[.pointer (some ⟨cf, 0, none⟩)]) ∧ w6.rowIs ct 3 1 (fun _ => .int .i64 (u : Int)) ∧ w6.rowIs (bb + 1) 53 1 (fun _ => (.slice (some ⟨bb, 0, none⟩) n n)) ∧ Rb w6 bb n (fun _ => false)) := ⟨hA.next hb3, hC.of_block (hb3.block _ hC.lt), hct.of_block (hb3.block _ hct.lt), r2, r1⟩
            have k2 := HA6.out.1.g0
            have k3 := HA6.out.1.g1
            have k4 := HA6.out.1.g2
            have k5 := HA6.out.2.2.2.1.cell (i := 0) (by omega)
            rw [← HW6.out] at k2 k3 k4 k5
            rw [← HBB.out] at k5
            have HFQ : Hid (FQ ps M E u 0 F) := hFQ
            have he29 := enters_of Try.func28 (by kernel_rfl) rfl
            clear hA hC hct hb1 hb2 hb3 r1 r2 hFQ
            obtain ⟨W1, rfl⟩ : ∃ W1, W1 = wr := ⟨_, rfl⟩
            go_wp2_with fail
            rw [HW6.out, HBB.out]
            clear k0 k1 k2 k3 k4 k5 b0 hmk HW6
            refine (fix_any 28 #[.pointer (some ⟨cm, 0, none⟩), .pointer (some ⟨ct, 0, none⟩), .pointer (some ⟨bb + 1, 0, none⟩), .pointer (some ⟨cf, 0, none⟩)] he29 (fun s W => AF w w.heap.size (w.heap.size + 1) t n (.slice ao ps.length c) ps be bf bw br bm cf E F (fun _ => 0#64) R M W ∧ W.rowIs cm 68 1 (fun _ => .func (.func 27) #[] #[.pointer (some ⟨cf, 0, none⟩)]) ∧ W.rowIs ct 3 1 (fun _ => .int .i64 (u : Int)) ∧ W.rowIs (bb + 1) 53 1 (fun _ => (.slice (some ⟨bb, 0, none⟩) n n)) ∧ Rb W bb n s ∧ SnB ps M E u s) (fun s p => amk M true p.2 && btl E s (u : Int) p.2) t n bb (.slice ao ps.length c) ps HG.out w w6 HP.out HA6.out.1.bl HNB.out.2.2.2.2.2.2.2.2 (fun s W W' h hb => ⟨h.1.next hb, h.2.1.of_block (hb.block _ h.2.1.lt), h.2.2.1.of_block (hb.block _ h.2.2.1.lt), h.2.2.2.1.of_block (hb.block _ h.2.2.2.1.lt), h.2.2.2.2.1.next hb, h.2.2.2.2.2⟩) (fun s W h => h.2.2.2.2.1) ?_ ?_ (fun _ => false) ⟨HA6.out.1, HA6.out.2.1, HA6.out.2.2.1, HA6.out.2.2.2.1, HA6.out.2.2.2.2, snB_zero _ _ _ _⟩).mono ?_
            · intro s W q hq m hI e2 hs0 hH
              have hfm : Fm (fun k => k = bb) W (W.setCell ⟨bb, m, none⟩ (.bool true)) := Fm.set (X := fun k => k = bb) (b := bb) (i := m) _ rfl
              have hn := HNB.out
              have hH1 : amk M true ps[q].2 = true := by cases h : amk M true ps[q].2 <;> simp [h] at hH ⊢
              have hH2 : btl E s (u : Int) ps[q].2 = true := by cases h : btl E s (u : Int) ps[q].2 <;> simp [h] at hH ⊢
              refine ⟨hI.1.other hfm hn.1 hn.2.1 hn.2.2.1 hn.2.2.2.1 hn.2.2.2.2.1 hn.2.2.2.2.2.1 hn.2.2.2.2.2.2.1 hn.2.2.2.2.2.2.2.1 hn.2.2.2.2.2.2.2.2, hI.2.1.of_block (hfm.block _ hI.2.1.lt (row_ne hI.2.1 hI.2.2.2.2.1 (by decide))), hI.2.2.1.of_block (hfm.block _ hI.2.2.1.lt (row_ne hI.2.2.1 hI.2.2.2.2.1 (by decide))), hI.2.2.2.1.of_block (hfm.block _ hI.2.2.2.1.lt (row_ne hI.2.2.2.1 hI.2.2.2.2.1 (by decide))), hI.2.2.2.2.1.set m true, ?_⟩
              have := snB_put (List.getElem_mem hq) hI.2.2.2.2.2 hH1 hH2
              rw [e2] at this; exact this
            · intro s W q hq u' hI hbW hsy
              rw [arr4]
              exact clos29_any t n be bm bb cm ct (bb + 1) cf E M s (.slice (some ⟨bf, 0, none⟩) n n) (.slice (some ⟨bw, 0, none⟩) n n) (.slice (some ⟨br, 0, none⟩) n n) (u : Int) _ u' ps[q].2 (HG.out.ok q hq) W (hsy.below hbW) hI.1.e hI.1.m hI.2.2.2.2.1 hI.1.f hI.2.1 hI.2.2.1 hI.2.2.2.1
            rintro _ w7 ⟨rfl, hF1, s, ⟨hA7, hC7, hct7, hcb7, hbb7, hsn7⟩, hcl7⟩
            have HLB : Hid (∀ i, s i = true ↔ LB ps M E u i) := by
              refine lb_of (fun p hp h1 h2 => (hcl7 p hp).resolve_right ?_) hsn7
              rw [h1, h2]; decide
            have HA7 : Hid (AF w w.heap.size (w.heap.size + 1) t n (.slice ao ps.length c) ps be bf bw br bm cf E F (fun _ => 0#64) R M w7 ∧ w7.rowIs cm 68 1 (fun _ => .func (.func 27) #[] #[.pointer (some ⟨cf, 0, none⟩)]) ∧ w7.rowIs ct 3 1 (fun _ => .int .i64 (u : Int)) ∧ w7.rowIs (bb + 1) 53 1 (fun _ => (.slice (some ⟨bb, 0, none⟩) n n)) ∧ Rb w7 bb n s) := ⟨hA7, hC7, hct7, hcb7, hbb7⟩
            clear hA7 hC7 hct7 hcb7 hbb7 hsn7 hcl7 hF1 he29 HA6
            go_wp2_with fail
            go_loopw [12] (fun v wr => ∃ j : Nat, j ≤ n ∧ v = .int .i64 (j : Int) ∧ Hid (∃ F, AF w w.heap.size (w.heap.size + 1) t n (.slice ao ps.length c) ps be bf bw br bm cf E F (fun _ => 0#64) R M wr ∧ wr.rowIs cm 68 1 (fun _ => .func (.func 27) #[] #[.pointer (some ⟨cf, 0, none⟩)]) ∧ wr.rowIs ct 3 1 (fun _ => .int .i64 (u : Int)) ∧ wr.rowIs (bb + 1) 53 1 (fun _ => (.slice (some ⟨bb, 0, none⟩) n n)) ∧ Rb wr bb n s ∧ FQ ps M E u j F)) (fun v _ => n - (intOf v).toNat)
            case atStart => exact ⟨0, by omega, rfl, F, HA7.out.1, HA7.out.2.1, HA7.out.2.2.1, HA7.out.2.2.2.1, HA7.out.2.2.2.2, HFQ.out⟩
            case round =>
              obtain ⟨j, hj, rfl, HX⟩ := hrel
              clear HA7 HFQ
              obtain ⟨F1, hA, hC, hct, hcb, hbb, hFQ⟩ := HX.out
              by_cases hjl : j < n
              · have b0 : decide ((j : Int) < (n : Int)) = true := by simp; omega
                have hj1 : (j : Int) < (n : Int) := by omega
                have k0 := hcb.cell (i := 0) (by omega)
                have k1 := hbb.cell hjl
                obtain ⟨sj, HSJ⟩ : ∃ sj, Hid (s j = sj) := ⟨_, (rfl : s j = s j)⟩
                rw [HSJ.out] at k1
                cases sj with
                | false =>
                  have HN : Hid (∃ F, AF w w.heap.size (w.heap.size + 1) t n (.slice ao ps.length c) ps be bf bw br bm cf E F (fun _ => 0#64) R M wr ∧ wr.rowIs cm 68 1 (fun _ => .func (.func 27) #[] #[.pointer (some ⟨cf, 0, none⟩)]) ∧ wr.rowIs ct 3 1 (fun _ => .int .i64 (u : Int)) ∧ wr.rowIs (bb + 1) 53 1 (fun _ => (.slice (some ⟨bb, 0, none⟩) n n)) ∧ Rb wr bb n s ∧ FQ ps M E u (j + 1) F) := ⟨F1, hA, hC, hct, hcb, hbb, fq_keep hFQ fun h => by have := (HLB.out j).2 h; rw [HSJ.out] at this; cases this⟩
                  clear hA hC hct hcb hbb hFQ HX
                  go_wp2_with fail
                  go_roundw
                  case rel => exact ⟨j + 1, by omega, by go_num, HN⟩
                  case measure => simp [intOf]; omega
                | true =>
                  have hu64 : u < 64 := by have := HTT.out; omega
                  have hne : Nonempty (Kp (Sm wr)) := ⟨⟨_, Sm.drew wr⟩⟩
                  have m0 : ∀ p : Kp (Sm wr), p.W.cell? ⟨cf, 1, none⟩ = some (.slice (some ⟨bf, 0, none⟩) n n) := fun p => (p.h.cell _).trans hA.f1
                  have m1 : ∀ p : Kp (Sm wr), p.W.cell? ⟨bf, j, none⟩ = some (.int .u64 ((F1 j).toNat : Int)) := fun p => (p.h.cell _).trans (hA.fi.cell hjl)
                  have m2 : ∀ p : Kp (Sm wr), p.W.cell? ⟨ct, 0, none⟩ = some (.int .i64 (u : Int)) := fun p => (p.h.cell _).trans (hct.cell (i := 0) (by omega))
                  have m3 : ∀ p : Kp (Sm wr), p.W.frozen? ⟨bf, j, none⟩ = false := fun p => (p.h.frozen _).trans (World.rowIs.frozen hA.fi j)
                  have hs := shl_one u hu64
                  obtain ⟨sv, HSV⟩ : ∃ sv, Hid (1#64 <<< u = sv) := ⟨_, (rfl : 1#64 <<< u = 1#64 <<< u)⟩
                  rw [HSV.out] at hs
                  have ho := or64 (F1 j) sv
                  obtain ⟨zz, HZZ⟩ : ∃ zz, Hid (F1 j ||| sv = zz) := ⟨_, (rfl : F1 j ||| sv = F1 j ||| sv)⟩
                  rw [HZZ.out] at ho
                  have HN : Hid (∀ p : Kp (Sm wr), ∃ F, AF w w.heap.size (w.heap.size + 1) t n (.slice ao ps.length c) ps be bf bw br bm cf E F (fun _ => 0#64) R M (p.W.setCell ⟨bf, j, none⟩ (.int .u64 (zz.toNat : Int))) ∧ (p.W.setCell ⟨bf, j, none⟩ (.int .u64 (zz.toNat : Int))).rowIs cm 68 1 (fun _ => .func (.func 27) #[] #[.pointer (some ⟨cf, 0, none⟩)]) ∧ (p.W.setCell ⟨bf, j, none⟩ (.int .u64 (zz.toNat : Int))).rowIs ct 3 1 (fun _ => .int .i64 (u : Int)) ∧ (p.W.setCell ⟨bf, j, none⟩ (.int .u64 (zz.toNat : Int))).rowIs (bb + 1) 53 1 (fun _ => (.slice (some ⟨bb, 0, none⟩) n n)) ∧ Rb (p.W.setCell ⟨bf, j, none⟩ (.int .u64 (zz.toNat : Int))) bb n s ∧ FQ ps M E u (j + 1) F) := fun p => by
                    have hb := p.h.below wr.heap.size
                    have hA' := hA.next hb
                    have hC' := hC.of_block (hb.block _ hC.lt)
                    have hct' := hct.of_block (hb.block _ hct.lt)
                    have hcb' := hcb.of_block (hb.block _ hcb.lt)
                    have hbb' := hbb.next hb
                    have hfm : Fm (fun k => k = bf) p.W (p.W.setCell ⟨bf, j, none⟩ (.int .u64 (zz.toNat : Int))) := Fm.set (X := fun k => k = bf) (b := bf) (i := j) _ rfl
                    refine ⟨upd F1 j zz, hA'.putF hfm (hA'.fi.set j zz), hC'.of_block (hfm.block _ hC'.lt (row_ne hC' hA'.fi (by decide))), hct'.of_block (hfm.block _ hct'.lt (row_ne hct' hA'.fi (by decide))), hcb'.of_block (hfm.block _ hcb'.lt (row_ne hcb' hA'.fi (by decide))), hbb'.of (hfm.block _ hbb'.lt (row_ne hbb' hA'.fi (by decide))), ?_⟩
                    rw [← HZZ.out, ← HSV.out]
                    exact fq_put hu64 hFQ ((HLB.out j).1 HSJ.out)
                  have hu0 : (0 : Int) ≤ (u : Int) := by omega
                  have hj0 : (0 : Int) ≤ (j : Int) := by omega
                  have bb1 : decide ((j : Int) < 0) = false := by simp
                  have bb2 : decide ((n : Int) ≤ (j : Int)) = false := by simp; omega
                  have bb3 : decide ((u : Int) < 0) = false := by simp
                  clear hA hC hct hcb hbb hFQ HX
                  go_upto_region 28 with (fail)
                  refine wp_region_chain (S := Sm wr) [_, _, _, _, _, _, _, _, _] [_] mixed (by kernel_rfl) (Sm.drew wr) ?_
                  simp only [List.cons_append, List.nil_append]
                  repeat (go_big_quiet_step (fail))
                  refine wpQuiet_nil ?_
                  intro p
                  have q1 := m1 p
                  have q3 := m3 p
                  have HN2 := HN.out p
                  have HN3 : Hid (∃ F, AF w w.heap.size (w.heap.size + 1) t n (.slice ao ps.length c) ps be bf bw br bm cf E F (fun _ => 0#64) R M (p.W.setCell ⟨bf, j, none⟩ (.int .u64 (zz.toNat : Int))) ∧ (p.W.setCell ⟨bf, j, none⟩ (.int .u64 (zz.toNat : Int))).rowIs cm 68 1 (fun _ => .func (.func 27) #[] #[.pointer (some ⟨cf, 0, none⟩)]) ∧ (p.W.setCell ⟨bf, j, none⟩ (.int .u64 (zz.toNat : Int))).rowIs ct 3 1 (fun _ => .int .i64 (u : Int)) ∧ (p.W.setCell ⟨bf, j, none⟩ (.int .u64 (zz.toNat : Int))).rowIs (bb + 1) 53 1 (fun _ => (.slice (some ⟨bb, 0, none⟩) n n)) ∧ Rb (p.W.setCell ⟨bf, j, none⟩ (.int .u64 (zz.toNat : Int))) bb n s ∧ FQ ps M E u (j + 1) F) := HN2
                  clear HN2 HN
                  go_wp2_with fail
                  go_roundw
                  case rel => exact ⟨j + 1, by omega, by go_num, HN3⟩
                  case measure => simp [intOf]; omega
              · have b0 : decide ((j : Int) < (n : Int)) = false := by simp; omega
                have k0 := hct.cell (i := 0) (by omega)
                have hba := below_alloc wr (Obj.cells #[.int .i64 ((u : Int) + 1)] 3)
                have hcn := row_one wr (.int .i64 ((u : Int) + 1)) 3
                have hjn : j = n := by omega
                have hu30 : (u : Int) < 31 := by have := HTT.out; omega
                rw [hjn] at hFQ
                have HN : Hid (TG w T t n (.slice ao ps.length c) ps be bf bw br bm cf cm E (fun _ => 0#64) R M (.pointer (some ⟨wr.heap.size, 0, none⟩)) (wr.alloc (Obj.cells #[.int .i64 ((u : Int) + 1)] 3)) (T - (u + 1))) := ⟨_, u + 1, F1, rfl, by omega, rfl, hA.next hba, hC.of_block (hba.block _ hC.lt), hcn, fq_next HHD.out hFQ⟩
                clear hA hC hct hcb hbb hFQ HX hba hcn hjn
                go_wp2_with fail
                go_roundw
                case rel => exact ⟨_, HN.out⟩
                case measure => exact Nat.lt_of_le_of_lt (leastOf_le HN.out) (by rw [HMM.out]; omega)
          · have b0 : decide ((u : Int) < t) = false := by have := HT.out; simp; omega
            have HF : Hid (Fi ps M E F) := by
              have e : u = T := by omega
              rw [e] at hFQ
              refine fi_of (n := n) HTT.out (fun p hp => ?_) hFQ
              obtain ⟨q, hq, rfl⟩ := List.getElem_of_mem hp
              have := HG.out.ok q hq
              rw [HT.out] at this; exact this
            have y0 := hA.f2
            have y1 := hA.v.cell (i := 0) (by omega)
            have y2 := World.rowIs.frozen hA.v 0
            have hn3 : (0 : Int) < (n : Int) := by omega
            obtain ⟨w8, HW8⟩ : ∃ w8, Hid (wr.setCell ⟨bw, 0, none⟩ (.int .u64 9223372036854775808) = w8) := ⟨_, (rfl : _ = _)⟩
            have HWG : Hid (WG w t n (.slice ao ps.length c) ps be bf bw br bm cf E F R M (.slice none 0 0) w8 (muW n (upd (fun _ => 0#64) 0 endW) + 1)) := by
              have hfm : Fm (fun k => k = bw) wr (wr.setCell ⟨bw, 0, none⟩ (.int .u64 9223372036854775808)) := Fm.set (X := fun k => k = bw) (b := bw) (i := 0) _ rfl
              have hr := hA.v.set 0 endW
              rw [show (.int .u64 ((endW : Wd).toNat : Int) : Value) = .int .u64 9223372036854775808 from rfl] at hr
              rw [HW8.out] at hfm hr
              exact ⟨_, hA.putV hfm hr, snW_start ps E F, le_refl _, Or.inl ⟨rfl, rfl⟩⟩
            clear hA hC hct hFQ
            go_wp2_with fail
            rw [HW8.out]
            clear y0 y1 y2 hn3 HW8 b0 k0 k1
            go_loopw [13] (fun v wr => ∃ m, WG w t n (.slice ao ps.length c) ps be bf bw br bm cf E F R M v wr m) (fun v wr => leastOf (WG w t n (.slice ao ps.length c) ps be bf bw br bm cf E F R M v wr))
            case atStart => exact ⟨_, HWG.out⟩
            case round =>
              obtain ⟨V, hA, hsn, hz, hv⟩ := leastOf_holds hrel
              clear HWG hrel
              have k2 := hA.f2
              rcases hv with ⟨rfl, hm⟩ | ⟨gc, cc, W0, rfl, hcc, hm, hWI⟩
              · obtain ⟨mm, HMN⟩ : ∃ mm, Hid (leastOf (WG w t n (.slice ao ps.length c) ps be bf bw br bm cf E F R M (.slice none 0 0) wr) = mm) := ⟨_, (rfl : leastOf (WG w t n (.slice ao ps.length c) ps be bf bw br bm cf E F R M (.slice none 0 0) wr) = _)⟩
                have HLT : Hid (muW n V < mm) := by show _ < _; rw [← HMN.out, hm]; omega
                have HX0 : Hid (AF w w.heap.size (w.heap.size + 1) t n (.slice ao ps.length c) ps be bf bw br bm cf E F V R M wr ∧ SnW ps E F V ∧ le endW (V 0)) := ⟨hA, hsn, hz⟩
                clear hA hsn hz hm
                obtain ⟨W1, rfl⟩ : ∃ W1, W1 = wr := ⟨_, rfl⟩
                go_wp2_with fail
                refine (equalnil_any n bw n hn1 _).mono ?_
                rintro _ w1 ⟨rfl, hb1⟩
                have HX1 : Hid (AF w w.heap.size (w.heap.size + 1) t n (.slice ao ps.length c) ps be bf bw br bm cf E F V R M w1 ∧ SnW ps E F V ∧ le endW (V 0)) := ⟨HX0.out.1.next hb1, HX0.out.2⟩
                clear hb1 HX0 k2
                obtain ⟨gc2, cc2, w2, hrun, hcp, hge, hgl, hb2⟩ := copy_row HX1.out.1.v hn1 hn2
                have HRUN : Hid ((Builtin.append_ #[41, 41] 41 #[.slice none 0 0, (.slice (some ⟨bw, 0, none⟩) n n)]).run Try.prog w1 = .ok (.slice (some ⟨gc2, 0, none⟩) n cc2) w2) := hrun
                have HX2 : Hid (AF w w.heap.size (w.heap.size + 1) t n (.slice ao ps.length c) ps be bf bw br bm cf E F V R M w2 ∧ (∀ i, i < n → w2.cell? ⟨gc2, i, none⟩ = some (.int .u64 ((V i).toNat : Int))) ∧ gc2 < w2.heap.size) := ⟨HX1.out.1.next hb2, hcp, hgl⟩
                have HGN : Hid (gc2 ≠ bw) := by have := HX1.out.1.v.lt; show _ ≠ _; omega
                have HSZV : Hid (SnW ps E F V ∧ le endW (V 0)) := HX1.out.2
                have k3 := HX1.out.1.f2
                clear hrun hcp hge hgl hb2 HX1
                go_wp2_with (at_builtin; refine wpList_append_run2 rfl _ _ 41 rfl _ _ rfl rfl HRUN.out ?_)
                clear k3 HRUN
                go_loopw [14] (fun v wr => ∃ i : Nat, i ≤ ps.length ∧ v = .int .i64 (i : Int) ∧ Hid (∃ V', AF w w.heap.size (w.heap.size + 1) t n (.slice ao ps.length c) ps be bf bw br bm cf E F V' R M wr ∧ (∀ i, i < n → wr.cell? ⟨gc2, i, none⟩ = some (.int .u64 ((V i).toNat : Int))) ∧ gc2 < wr.heap.size ∧ WI ps E F V i 0 V')) (fun v _ => ps.length - (intOf v).toNat)
                case atStart => exact ⟨0, by omega, rfl, V, HX2.out.1, HX2.out.2.1, HX2.out.2.2, WI.start HSZV.out.1 HSZV.out.2⟩
                case round =>
                  obtain ⟨i, hi, rfl, HX⟩ := hrel
                  clear HX2
                  obtain ⟨V1, hA, hcp, hgl, hWI⟩ := HX.out
                  have k2 := hA.g2
                  by_cases hil : i < ps.length
                  · have b0 : decide ((i : Int) < (ps.length : Int)) = true := by simp; omega
                    have hi1 : (i : Int) < (ps.length : Int) := by omega
                    obtain ⟨b2, o, rfl, hb, hcc⟩ := HCS.out.resolve_left (by intro e; subst e; simp at hil)
                    obtain ⟨c0, u, c1, hsy⟩ := hcc i hil
                    obtain ⟨hd, e1, e2, hdn⟩ := HG.out.hd i hil
                    have hln := HG.out.lb i hil
                    have HSQ : Hid (Syms w u ps[i].2) := hsy
                    have HOI : Hid (OkL t n ps[i].2) := HG.out.ok i hil
                    rw [e1] at c0
                    replace c0 : wr.cell? ⟨b2, o + i * 2, none⟩ = _ := (hA.bl.cell (p := ⟨b2, o + i * 2, none⟩) hb).trans c0
                    replace c1 : wr.cell? ⟨b2, o + i * 2 + 1, none⟩ = _ := (hA.bl.cell (p := ⟨b2, o + i * 2 + 1, none⟩) hb).trans c1
                    have HKP : Hid (∀ k (hk : k < ps[i].2.length) V', WI ps E F V i k V' → ps[i].2[k].1 ≠ 2 → WI ps E F V i (k + 1) V') := fun k hk V' h h2 => h.keep hil hk h2
                    have HPT : Hid (∀ k (hk : k < ps[i].2.length) V', WI ps E F V i k V' → ps[i].2[k].1 = 2 → WI ps E F V i (k + 1) (upd V' ps[i].2[k].2.toNat (V' ps[i].2[k].2.toNat ||| bg E F (ps[i].2.drop (k + 1)) (V' hd)))) := fun k hk V' h h2 => by have := h.put hil hk h2; rw [e2] at this; exact this
                    have HNX : Hid (∀ k V', WI ps E F V i k V' → ps[i].2.length ≤ k → WI ps E F V (i + 1) 0 V') := fun k V' h h2 => h.next fun _ => h2
                    obtain ⟨li, HLI⟩ : ∃ li, Hid (ps[i].2 = li) := ⟨_, (rfl : ps[i].2 = ps[i].2)⟩
                    rw [HLI.out] at HSQ HOI hln
                    simp only [HLI.out] at HKP HPT HNX
                    obtain ⟨uo, uc, rfl, hum, hucs⟩ := hsy
                    have HUC : Hid (ps[i].2 = [] ∨ _) := hucs
                    rw [HLI.out] at HUC c1 HSQ hum
                    clear hucs hcc e1 e2
                    have hba := below_alloc wr (Obj.cells #[.int .i64 (hd : Int), .slice uo li.length uc] 49)
                    have hpb := row_two wr (.int .i64 (hd : Int)) (.slice uo li.length uc) 49
                    obtain ⟨w3, HW3⟩ : ∃ w3, Hid (wr.alloc (Obj.cells #[.int .i64 (hd : Int), .slice uo li.length uc] 49) = w3) := ⟨_, (rfl : _ = _)⟩
                    rw [HW3.out] at hba hpb
                    obtain ⟨pb, HPBB⟩ : ∃ pb, Hid (wr.heap.size = pb) := ⟨_, (rfl : wr.heap.size = wr.heap.size)⟩
                    rw [HPBB.out] at hpb
                    have HY : Hid (∃ V', AF w w.heap.size (w.heap.size + 1) t n (.slice (some ⟨b2, o, none⟩) ps.length c) ps be bf bw br bm cf E F V' R M w3 ∧ (∀ i, i < n → w3.cell? ⟨gc2, i, none⟩ = some (.int .u64 ((V i).toNat : Int))) ∧ gc2 < w3.heap.size ∧ w3.rowIs pb 49 2 (fun i => if i = 0 then .int .i64 (hd : Int) else .slice uo li.length uc) ∧ WI ps E F V i 0 V') := ⟨V1, hA.next hba, fun j hj => (hba.cell (p := ⟨gc2, j, none⟩) hgl).trans (hcp j hj), Nat.lt_of_lt_of_le hgl hba.size, hpb, hWI⟩
                    clear hA hcp hgl hWI HX hba hpb
                    obtain ⟨W1, rfl⟩ : ∃ W1, W1 = wr := ⟨_, rfl⟩
                    go_wp2_with fail
                    rw [HW3.out, HPBB.out]
                    clear b0 k2 c0 c1 HW3 HPBB
                    go_loopw [16] (fun v wr => ∃ k : Nat, k ≤ li.length ∧ v = .int .i64 (k : Int) ∧ Hid (∃ V', AF w w.heap.size (w.heap.size + 1) t n (.slice (some ⟨b2, o, none⟩) ps.length c) ps be bf bw br bm cf E F V' R M wr ∧ (∀ i, i < n → wr.cell? ⟨gc2, i, none⟩ = some (.int .u64 ((V i).toNat : Int))) ∧ gc2 < wr.heap.size ∧ wr.rowIs pb 49 2 (fun i => if i = 0 then .int .i64 (hd : Int) else .slice uo li.length uc) ∧ WI ps E F V i k V')) (fun v _ => li.length - (intOf v).toNat)
                    case atStart => exact ⟨0, by omega, rfl, HY⟩
                    case round =>
                      obtain ⟨k, hk, rfl, HZ⟩ := hrel
                      clear HY
                      obtain ⟨V2, hA, hcp, hgl, hpb, hWI⟩ := HZ.out
                      have p1 := hpb.cell (i := 1) (by omega)
                      simp only [if_neg (by omega : ¬ (1 : Nat) = 0)] at p1
                      by_cases hkl : k < li.length
                      · have b0 : decide ((k : Int) < (li.length : Int)) = true := by simp; omega
                        have hk1 : (k : Int) < (li.length : Int) := by omega
                        obtain ⟨b3, o3, rfl, hb3, hc3⟩ := HUC.out.resolve_left (by intro e; rw [e] at hkl; simp at hkl)
                        obtain ⟨s0, s1⟩ := hc3 k hkl
                        obtain ⟨kd, m, e3, e4, e5, hkd⟩ := HOI.out.at hkl
                        rw [e3] at s0
                        rw [e4] at s1
                        replace s0 : wr.cell? ⟨b3, o3 + k * 2, none⟩ = _ := (hA.bl.cell (p := ⟨b3, o3 + k * 2, none⟩) hb3).trans s0
                        have HS1 : Hid (wr.cell? ⟨b3, o3 + k * 2 + 1, none⟩ = some (.int .i64 (m : Int)) ∧ b3 < wr.heap.size) := ⟨(hA.bl.cell (p := ⟨b3, o3 + k * 2 + 1, none⟩) hb3).trans s1, Nat.lt_of_lt_of_le hb3 hA.bl.size⟩
                        have HKK : Hid (kd ≠ 2 → WI ps E F V i (k + 1) V2) := fun h => HKP.out k hkl V2 hWI (by rw [e3]; exact h)
                        have HPP : Hid (kd = 2 → WI ps E F V i (k + 1) (upd V2 m (V2 m ||| bg E F (li.drop (k + 1)) (V2 hd)))) := fun h => by have := HPT.out k hkl V2 hWI (by rw [e3]; exact h); rw [e5] at this; exact this
                        have HA : Hid (AF w w.heap.size (w.heap.size + 1) t n (.slice (some ⟨b2, o, none⟩) ps.length c) ps be bf bw br bm cf E F V2 R M wr ∧ (∀ i, i < n → wr.cell? ⟨gc2, i, none⟩ = some (.int .u64 ((V i).toNat : Int))) ∧ gc2 < wr.heap.size ∧ wr.rowIs pb 49 2 (fun i => if i = 0 then .int .i64 (hd : Int) else .slice (some ⟨b3, o3, none⟩) li.length uc)) := ⟨hA, hcp, hgl, hpb⟩
                        clear hc3 e3 e4 e5 s1 hA hcp hgl hpb hWI HZ HUC
                        rcases hkd with ⟨rfl, hkd⟩ | ⟨rfl, hkd⟩
                        · have HN : Hid (WI ps E F V i (k + 1) V2) := HKK.out (by omega)
                          go_wp2_with fail
                          go_roundw
                          case rel => exact ⟨k + 1, by omega, by go_num, V2, HA.out.1, HA.out.2.1, HA.out.2.2.1, HA.out.2.2.2, HN.out⟩
                          case measure => simp [intOf]; omega
                        · have hm2 : (m : Int) < (n : Int) := by omega
                          have hm0 : (0 : Int) ≤ (m : Int) := by omega
                          have hd2 : (hd : Int) < (n : Int) := by omega
                          have hd0 : (0 : Int) ≤ (hd : Int) := by omega
                          have hk0 : (0 : Int) ≤ (k : Int) := by omega
                          have hne : Nonempty (Kp (Sb wr)) := ⟨⟨_, Sb.drew wr⟩⟩
                          have m0 : ∀ p : Kp (Sb wr), p.W.cell? ⟨cf, 0, none⟩ = some (.slice (some ⟨be, 0, none⟩) n n) := fun p => (HA.out.1.next p.h).f0
                          have m1 : ∀ p : Kp (Sb wr), p.W.cell? ⟨cf, 1, none⟩ = some (.slice (some ⟨bf, 0, none⟩) n n) := fun p => (HA.out.1.next p.h).f1
                          have m2 : ∀ p : Kp (Sb wr), p.W.cell? ⟨cf, 2, none⟩ = some (.slice (some ⟨bw, 0, none⟩) n n) := fun p => (HA.out.1.next p.h).f2
                          have m3 : ∀ p : Kp (Sb wr), p.W.cell? ⟨cf, 3, none⟩ = some (.slice (some ⟨br, 0, none⟩) n n) := fun p => (HA.out.1.next p.h).f3
                          have m4 : ∀ p : Kp (Sb wr), p.W.cell? ⟨cf, 4, none⟩ = some (.slice (some ⟨bm, 0, none⟩) n n) := fun p => (HA.out.1.next p.h).f4
                          have m5 : ∀ p : Kp (Sb wr), p.W.cell? ⟨pb, 0, none⟩ = some (.int .i64 (hd : Int)) := fun p => (HA.out.2.2.2.of_block (Below.block p.h _ HA.out.2.2.2.lt)).cell (i := 0) (by omega)
                          have m6 : ∀ p : Kp (Sb wr), p.W.cell? ⟨pb, 1, none⟩ = some (.slice (some ⟨b3, o3, none⟩) li.length uc) := fun p => (HA.out.2.2.2.of_block (Below.block p.h _ HA.out.2.2.2.lt)).cell (i := 1) (by omega)
                          have m7 : ∀ p : Kp (Sb wr), p.W.cell? ⟨b3, o3 + k * 2 + 1, none⟩ = some (.int .i64 (m : Int)) := fun p => (Below.cell p.h (p := ⟨b3, o3 + k * 2 + 1, none⟩) HS1.out.2).trans HS1.out.1
                          have m8 : ∀ p : Kp (Sb wr), p.W.cell? ⟨bw, m, none⟩ = some (.int .u64 ((V2 m).toNat : Int)) := fun p => (HA.out.1.next p.h).v.cell hkd
                          have m9 : ∀ p : Kp (Sb wr), p.W.cell? ⟨bw, hd, none⟩ = some (.int .u64 ((V2 hd).toNat : Int)) := fun p => (HA.out.1.next p.h).v.cell hdn
                          obtain ⟨dv, HDV⟩ : ∃ dv, Hid (Value.slice (if uc = k + 1 then some ⟨b3, o3, none⟩ else some ⟨b3, o3 + (k + 1) * 2, none⟩) (li.length - (k + 1)) (uc - (k + 1)) = dv) := ⟨_, (rfl : _ = _)⟩
                          have HDS : Hid (Syms w dv (li.drop (k + 1))) := by show Syms _ _ _; rw [← HDV.out]; exact syms_drop HSQ.out (k + 1)
                          obtain ⟨x, HXX⟩ : ∃ x, Hid (bg E F (li.drop (k + 1)) (V2 hd) = x) := ⟨_, (rfl : bg E F (li.drop (k + 1)) (V2 hd) = bg E F (li.drop (k + 1)) (V2 hd))⟩
                          rw [HXX.out] at HPP
                          have ho := or64 (V2 m) x
                          obtain ⟨zz, HZZ⟩ : ∃ zz, Hid (V2 m ||| x = zz) := ⟨_, (rfl : V2 m ||| x = V2 m ||| x)⟩
                          rw [HZZ.out] at ho HPP
                          have HC : Hid (∀ p : Kp (Sb wr), Calls Try.prog 19 #[.agg #[(.slice (some ⟨be, 0, none⟩) n n), (.slice (some ⟨bf, 0, none⟩) n n), (.slice (some ⟨bw, 0, none⟩) n n), (.slice (some ⟨br, 0, none⟩) n n), (.slice (some ⟨bm, 0, none⟩) n n)], dv, .int .u64 ((V2 hd).toNat : Int)] p.W fun e w'' => e = .returned (.int .u64 (x.toNat : Int)) ∧ ∃ q : Kp (Sb wr), w'' = q.W) := fun p => by
                            have hA' := HA.out.1.next p.h
                            have := refBegin_any t HG.out.t2 n be bf E F (.slice (some ⟨bw, 0, none⟩) n n) (.slice (some ⟨br, 0, none⟩) n n) (.slice (some ⟨bm, 0, none⟩) n n) (V2 hd) (li.drop (k + 1)) dv p.W (HDS.out.below hA'.bl) hA'.e hA'.fi (HOI.out.drop _)
                            rw [HXX.out] at this
                            exact Kp.calls p Sb.next this
                          have HN : Hid (∀ p : Kp (Sb wr), (p.W.frozen? ⟨bw, m, none⟩ = false) ∧ ∃ V', AF w w.heap.size (w.heap.size + 1) t n (.slice (some ⟨b2, o, none⟩) ps.length c) ps be bf bw br bm cf E F V' R M (p.W.setCell ⟨bw, m, none⟩ (.int .u64 (zz.toNat : Int))) ∧ (∀ i, i < n → (p.W.setCell ⟨bw, m, none⟩ (.int .u64 (zz.toNat : Int))).cell? ⟨gc2, i, none⟩ = some (.int .u64 ((V i).toNat : Int))) ∧ gc2 < (p.W.setCell ⟨bw, m, none⟩ (.int .u64 (zz.toNat : Int))).heap.size ∧ (p.W.setCell ⟨bw, m, none⟩ (.int .u64 (zz.toNat : Int))).rowIs pb 49 2 (fun i => if i = 0 then .int .i64 (hd : Int) else .slice (some ⟨b3, o3, none⟩) li.length uc) ∧ WI ps E F V i (k + 1) V') := fun p => by
                            have hA' := HA.out.1.next p.h
                            have hfm : Fm (fun k => k = bw) p.W (p.W.setCell ⟨bw, m, none⟩ (.int .u64 (zz.toNat : Int))) := Fm.set (X := fun k => k = bw) (b := bw) (i := m) _ rfl
                            have hgl : gc2 < p.W.heap.size := Nat.lt_of_lt_of_le HA.out.2.2.1 (Below.size p.h)
                            have hpb' := HA.out.2.2.2.of_block (Below.block p.h _ HA.out.2.2.2.lt)
                            exact ⟨World.rowIs.frozen hA'.v m, upd V2 m zz, hA'.putV hfm (hA'.v.set m zz), fun j hj => (hfm.cell (p := ⟨gc2, j, none⟩) hgl HGN.out).trans ((Below.cell p.h (p := ⟨gc2, j, none⟩) HA.out.2.2.1).trans (HA.out.2.1 j hj)), Nat.lt_of_lt_of_le hgl hfm.size, hpb'.of_block (hfm.block _ hpb'.lt (row_ne hpb' hA'.v (by decide))), HPP.out (by trivial)⟩
                          go_upto_region 43 with (fail)
                          refine wp_region_chain (S := Sb wr) [_, _, _, _, _, _, _, _, _, _, _, _, _, _, _, _, _, _, _, _, _, _, _, _, _] [_] mixed (by kernel_rfl) (Sb.drew wr) ?_
                          simp only [List.cons_append, List.nil_append]
                          repeat (go_big_quiet_step (fail))
                          rw [HDV.out]
                          go_big_quiet_step (first | (go_at_call 19; with_reducible exact HC.out _))
                          repeat (go_big_quiet_step (fail))
                          refine wpQuiet_nil ?_
                          intro p
                          have q1 := m8 p
                          have q3 := (HN.out p).1
                          have HN3 : Hid (∃ V', AF w w.heap.size (w.heap.size + 1) t n (.slice (some ⟨b2, o, none⟩) ps.length c) ps be bf bw br bm cf E F V' R M (p.W.setCell ⟨bw, m, none⟩ (.int .u64 (zz.toNat : Int))) ∧ (∀ i, i < n → (p.W.setCell ⟨bw, m, none⟩ (.int .u64 (zz.toNat : Int))).cell? ⟨gc2, i, none⟩ = some (.int .u64 ((V i).toNat : Int))) ∧ gc2 < (p.W.setCell ⟨bw, m, none⟩ (.int .u64 (zz.toNat : Int))).heap.size ∧ (p.W.setCell ⟨bw, m, none⟩ (.int .u64 (zz.toNat : Int))).rowIs pb 49 2 (fun i => if i = 0 then .int .i64 (hd : Int) else .slice (some ⟨b3, o3, none⟩) li.length uc) ∧ WI ps E F V i (k + 1) V') := (HN.out p).2
                          clear HN HC HPP HKK
                          go_wp2_with fail
                          go_roundw
                          case rel => exact ⟨k + 1, by omega, by go_num, HN3⟩
                          case measure => simp [intOf]; omega
                      · have b0 : decide ((k : Int) < (li.length : Int)) = false := by simp; omega
                        have HN : Hid (∃ V', AF w w.heap.size (w.heap.size + 1) t n (.slice (some ⟨b2, o, none⟩) ps.length c) ps be bf bw br bm cf E F V' R M wr ∧ (∀ i, i < n → wr.cell? ⟨gc2, i, none⟩ = some (.int .u64 ((V i).toNat : Int))) ∧ gc2 < wr.heap.size ∧ WI ps E F V (i + 1) 0 V') := ⟨V2, hA, hcp, hgl, HNX.out k V2 hWI (by omega)⟩
                        clear hA hcp hgl hpb hWI HZ
                        go_wp2_with fail
                        go_roundw
                        case rel => exact ⟨i + 1, by omega, by go_num, HN⟩
                        case measure => simp [intOf]; omega
                  · have b0 : decide ((i : Int) < (ps.length : Int)) = false := by simp; omega
                    have eil : i = ps.length := by omega
                    rw [eil] at hWI
                    have HN : Hid (WG w t n (.slice ao ps.length c) ps be bf bw br bm cf E F R M (.slice (some ⟨gc2, 0, none⟩) n cc2) wr (muW n V)) := ⟨V1, hA, hWI.sn, hWI.z, Or.inr ⟨gc2, cc2, V, rfl, hcp, rfl, hWI⟩⟩
                    clear hA hcp hgl hWI HX eil
                    go_wp2_with fail
                    go_roundw
                    case rel => exact ⟨_, HN.out⟩
                    case measure => exact Nat.lt_of_le_of_lt (leastOf_le HN.out) (Nat.lt_of_lt_of_eq HLT.out HMN.out.symm)
              · obtain ⟨mm, HMN⟩ : ∃ mm, Hid (leastOf (WG w t n (.slice ao ps.length c) ps be bf bw br bm cf E F R M (.slice (some ⟨gc, 0, none⟩) n cc) wr) = mm) := ⟨_, (rfl : leastOf (WG w t n (.slice ao ps.length c) ps be bf bw br bm cf E F R M (.slice (some ⟨gc, 0, none⟩) n cc) wr) = _)⟩
                have HL0 : Hid ((¬ ∀ i, i < n → W0 i = V i) → muW n V < mm) := fun h => by
                  rw [← HMN.out, hm]
                  obtain ⟨i, hi⟩ := Classical.not_forall.1 h
                  obtain ⟨hi1, hi2⟩ := Classical.not_imp.1 hi
                  exact muW_less hWI.up hi1 hi2
                have HFO : Hid ((∀ i, i < n → W0 i = V i) → Fo ps E F V) := fun h => hWI.fo HHD.out h
                have HX0 : Hid (AF w w.heap.size (w.heap.size + 1) t n (.slice ao ps.length c) ps be bf bw br bm cf E F V R M wr ∧ SnW ps E F V ∧ le endW (V 0)) := ⟨hA, hsn, hz⟩
                have hcall := equalu64_any n gc bw cc n (by omega) W0 V wr hcc (fun i hi => hA.v.cell hi)
                clear hA hsn hz hm hcc hWI
                obtain ⟨W1, rfl⟩ : ∃ W1, W1 = wr := ⟨_, rfl⟩
                go_wp2_with fail
                refine hcall.mono ?_
                rintro _ w1 ⟨r, rfl, hr, hb1⟩
                have HX1 : Hid (AF w w.heap.size (w.heap.size + 1) t n (.slice ao ps.length c) ps be bf bw br bm cf E F V R M w1 ∧ SnW ps E F V ∧ le endW (V 0)) := ⟨HX0.out.1.next hb1, HX0.out.2⟩
                clear hb1 HX0 k2 hcall
                cases r with
                | false =>
                  have HLT : Hid (muW n V < mm) := HL0.out fun h => by have := hr.2 h; cases this
                  clear hr HL0 HFO
                  obtain ⟨gc2, cc2, w2, hrun, hcp, hge, hgl, hb2⟩ := copy_row HX1.out.1.v hn1 hn2
                  have HRUN : Hid ((Builtin.append_ #[41, 41] 41 #[.slice none 0 0, (.slice (some ⟨bw, 0, none⟩) n n)]).run Try.prog w1 = .ok (.slice (some ⟨gc2, 0, none⟩) n cc2) w2) := hrun
                  have HX2 : Hid (AF w w.heap.size (w.heap.size + 1) t n (.slice ao ps.length c) ps be bf bw br bm cf E F V R M w2 ∧ (∀ i, i < n → w2.cell? ⟨gc2, i, none⟩ = some (.int .u64 ((V i).toNat : Int))) ∧ gc2 < w2.heap.size) := ⟨HX1.out.1.next hb2, hcp, hgl⟩
                  have HGN : Hid (gc2 ≠ bw) := by have := HX1.out.1.v.lt; show _ ≠ _; omega
                  have HSZV : Hid (SnW ps E F V ∧ le endW (V 0)) := HX1.out.2
                  have k3 := HX1.out.1.f2
                  clear hrun hcp hge hgl hb2 HX1
                  go_wp2_with (at_builtin; refine wpList_append_run2 rfl _ _ 41 rfl _ _ rfl rfl HRUN.out ?_)
                  clear k3 HRUN
                  go_loopw [14] (fun v wr => ∃ i : Nat, i ≤ ps.length ∧ v = .int .i64 (i : Int) ∧ Hid (∃ V', AF w w.heap.size (w.heap.size + 1) t n (.slice ao ps.length c) ps be bf bw br bm cf E F V' R M wr ∧ (∀ i, i < n → wr.cell? ⟨gc2, i, none⟩ = some (.int .u64 ((V i).toNat : Int))) ∧ gc2 < wr.heap.size ∧ WI ps E F V i 0 V')) (fun v _ => ps.length - (intOf v).toNat)
                  case atStart => exact ⟨0, by omega, rfl, V, HX2.out.1, HX2.out.2.1, HX2.out.2.2, WI.start HSZV.out.1 HSZV.out.2⟩
                  case round =>
                    obtain ⟨i, hi, rfl, HX⟩ := hrel
                    clear HX2
                    obtain ⟨V1, hA, hcp, hgl, hWI⟩ := HX.out
                    have k2 := hA.g2
                    by_cases hil : i < ps.length
                    · have b0 : decide ((i : Int) < (ps.length : Int)) = true := by simp; omega
                      have hi1 : (i : Int) < (ps.length : Int) := by omega
                      obtain ⟨b2, o, rfl, hb, hcc⟩ := HCS.out.resolve_left (by intro e; subst e; simp at hil)
                      obtain ⟨c0, u, c1, hsy⟩ := hcc i hil
                      obtain ⟨hd, e1, e2, hdn⟩ := HG.out.hd i hil
                      have hln := HG.out.lb i hil
                      have HSQ : Hid (Syms w u ps[i].2) := hsy
                      have HOI : Hid (OkL t n ps[i].2) := HG.out.ok i hil
                      rw [e1] at c0
                      replace c0 : wr.cell? ⟨b2, o + i * 2, none⟩ = _ := (hA.bl.cell (p := ⟨b2, o + i * 2, none⟩) hb).trans c0
                      replace c1 : wr.cell? ⟨b2, o + i * 2 + 1, none⟩ = _ := (hA.bl.cell (p := ⟨b2, o + i * 2 + 1, none⟩) hb).trans c1
                      have HKP : Hid (∀ k (hk : k < ps[i].2.length) V', WI ps E F V i k V' → ps[i].2[k].1 ≠ 2 → WI ps E F V i (k + 1) V') := fun k hk V' h h2 => h.keep hil hk h2
                      have HPT : Hid (∀ k (hk : k < ps[i].2.length) V', WI ps E F V i k V' → ps[i].2[k].1 = 2 → WI ps E F V i (k + 1) (upd V' ps[i].2[k].2.toNat (V' ps[i].2[k].2.toNat ||| bg E F (ps[i].2.drop (k + 1)) (V' hd)))) := fun k hk V' h h2 => by have := h.put hil hk h2; rw [e2] at this; exact this
                      have HNX : Hid (∀ k V', WI ps E F V i k V' → ps[i].2.length ≤ k → WI ps E F V (i + 1) 0 V') := fun k V' h h2 => h.next fun _ => h2
                      obtain ⟨li, HLI⟩ : ∃ li, Hid (ps[i].2 = li) := ⟨_, (rfl : ps[i].2 = ps[i].2)⟩
                      rw [HLI.out] at HSQ HOI hln
                      simp only [HLI.out] at HKP HPT HNX
                      obtain ⟨uo, uc, rfl, hum, hucs⟩ := hsy
                      have HUC : Hid (ps[i].2 = [] ∨ _) := hucs
                      rw [HLI.out] at HUC c1 HSQ hum
                      clear hucs hcc e1 e2
                      have hba := below_alloc wr (Obj.cells #[.int .i64 (hd : Int), .slice uo li.length uc] 49)
                      have hpb := row_two wr (.int .i64 (hd : Int)) (.slice uo li.length uc) 49
                      obtain ⟨w3, HW3⟩ : ∃ w3, Hid (wr.alloc (Obj.cells #[.int .i64 (hd : Int), .slice uo li.length uc] 49) = w3) := ⟨_, (rfl : _ = _)⟩
                      rw [HW3.out] at hba hpb
                      obtain ⟨pb, HPBB⟩ : ∃ pb, Hid (wr.heap.size = pb) := ⟨_, (rfl : wr.heap.size = wr.heap.size)⟩
                      rw [HPBB.out] at hpb
                      have HY : Hid (∃ V', AF w w.heap.size (w.heap.size + 1) t n (.slice (some ⟨b2, o, none⟩) ps.length c) ps be bf bw br bm cf E F V' R M w3 ∧ (∀ i, i < n → w3.cell? ⟨gc2, i, none⟩ = some (.int .u64 ((V i).toNat : Int))) ∧ gc2 < w3.heap.size ∧ w3.rowIs pb 49 2 (fun i => if i = 0 then .int .i64 (hd : Int) else .slice uo li.length uc) ∧ WI ps E F V i 0 V') := ⟨V1, hA.next hba, fun j hj => (hba.cell (p := ⟨gc2, j, none⟩) hgl).trans (hcp j hj), Nat.lt_of_lt_of_le hgl hba.size, hpb, hWI⟩
                      clear hA hcp hgl hWI HX hba hpb
                      obtain ⟨W1, rfl⟩ : ∃ W1, W1 = wr := ⟨_, rfl⟩
                      go_wp2_with fail
                      rw [HW3.out, HPBB.out]
                      clear b0 k2 c0 c1 HW3 HPBB
                      go_loopw [16] (fun v wr => ∃ k : Nat, k ≤ li.length ∧ v = .int .i64 (k : Int) ∧ Hid (∃ V', AF w w.heap.size (w.heap.size + 1) t n (.slice (some ⟨b2, o, none⟩) ps.length c) ps be bf bw br bm cf E F V' R M wr ∧ (∀ i, i < n → wr.cell? ⟨gc2, i, none⟩ = some (.int .u64 ((V i).toNat : Int))) ∧ gc2 < wr.heap.size ∧ wr.rowIs pb 49 2 (fun i => if i = 0 then .int .i64 (hd : Int) else .slice uo li.length uc) ∧ WI ps E F V i k V')) (fun v _ => li.length - (intOf v).toNat)
                      case atStart => exact ⟨0, by omega, rfl, HY⟩
                      case round =>
                        obtain ⟨k, hk, rfl, HZ⟩ := hrel
                        clear HY
                        obtain ⟨V2, hA, hcp, hgl, hpb, hWI⟩ := HZ.out
                        have p1 := hpb.cell (i := 1) (by omega)
                        simp only [if_neg (by omega : ¬ (1 : Nat) = 0)] at p1
                        by_cases hkl : k < li.length
                        · have b0 : decide ((k : Int) < (li.length : Int)) = true := by simp; omega
                          have hk1 : (k : Int) < (li.length : Int) := by omega
                          obtain ⟨b3, o3, rfl, hb3, hc3⟩ := HUC.out.resolve_left (by intro e; rw [e] at hkl; simp at hkl)
                          obtain ⟨s0, s1⟩ := hc3 k hkl
                          obtain ⟨kd, m, e3, e4, e5, hkd⟩ := HOI.out.at hkl
                          rw [e3] at s0
                          rw [e4] at s1
                          replace s0 : wr.cell? ⟨b3, o3 + k * 2, none⟩ = _ := (hA.bl.cell (p := ⟨b3, o3 + k * 2, none⟩) hb3).trans s0
                          have HS1 : Hid (wr.cell? ⟨b3, o3 + k * 2 + 1, none⟩ = some (.int .i64 (m : Int)) ∧ b3 < wr.heap.size) := ⟨(hA.bl.cell (p := ⟨b3, o3 + k * 2 + 1, none⟩) hb3).trans s1, Nat.lt_of_lt_of_le hb3 hA.bl.size⟩
                          have HKK : Hid (kd ≠ 2 → WI ps E F V i (k + 1) V2) := fun h => HKP.out k hkl V2 hWI (by rw [e3]; exact h)
                          have HPP : Hid (kd = 2 → WI ps E F V i (k + 1) (upd V2 m (V2 m ||| bg E F (li.drop (k + 1)) (V2 hd)))) := fun h => by have := HPT.out k hkl V2 hWI (by rw [e3]; exact h); rw [e5] at this; exact this
                          have HA : Hid (AF w w.heap.size (w.heap.size + 1) t n (.slice (some ⟨b2, o, none⟩) ps.length c) ps be bf bw br bm cf E F V2 R M wr ∧ (∀ i, i < n → wr.cell? ⟨gc2, i, none⟩ = some (.int .u64 ((V i).toNat : Int))) ∧ gc2 < wr.heap.size ∧ wr.rowIs pb 49 2 (fun i => if i = 0 then .int .i64 (hd : Int) else .slice (some ⟨b3, o3, none⟩) li.length uc)) := ⟨hA, hcp, hgl, hpb⟩
                          clear hc3 e3 e4 e5 s1 hA hcp hgl hpb hWI HZ HUC
                          rcases hkd with ⟨rfl, hkd⟩ | ⟨rfl, hkd⟩
                          · have HN : Hid (WI ps E F V i (k + 1) V2) := HKK.out (by omega)
                            go_wp2_with fail
                            go_roundw
                            case rel => exact ⟨k + 1, by omega, by go_num, V2, HA.out.1, HA.out.2.1, HA.out.2.2.1, HA.out.2.2.2, HN.out⟩
                            case measure => simp [intOf]; omega
                          · have hm2 : (m : Int) < (n : Int) := by omega
                            have hm0 : (0 : Int) ≤ (m : Int) := by omega
                            have hd2 : (hd : Int) < (n : Int) := by omega
                            have hd0 : (0 : Int) ≤ (hd : Int) := by omega
                            have hk0 : (0 : Int) ≤ (k : Int) := by omega
                            have hne : Nonempty (Kp (Sb wr)) := ⟨⟨_, Sb.drew wr⟩⟩
                            have m0 : ∀ p : Kp (Sb wr), p.W.cell? ⟨cf, 0, none⟩ = some (.slice (some ⟨be, 0, none⟩) n n) := fun p => (HA.out.1.next p.h).f0
                            have m1 : ∀ p : Kp (Sb wr), p.W.cell? ⟨cf, 1, none⟩ = some (.slice (some ⟨bf, 0, none⟩) n n) := fun p => (HA.out.1.next p.h).f1
                            have m2 : ∀ p : Kp (Sb wr), p.W.cell? ⟨cf, 2, none⟩ = some (.slice (some ⟨bw, 0, none⟩) n n) := fun p => (HA.out.1.next p.h).f2
                            have m3 : ∀ p : Kp (Sb wr), p.W.cell? ⟨cf, 3, none⟩ = some (.slice (some ⟨br, 0, none⟩) n n) := fun p => (HA.out.1.next p.h).f3
                            have m4 : ∀ p : Kp (Sb wr), p.W.cell? ⟨cf, 4, none⟩ = some (.slice (some ⟨bm, 0, none⟩) n n) := fun p => (HA.out.1.next p.h).f4
                            have m5 : ∀ p : Kp (Sb wr), p.W.cell? ⟨pb, 0, none⟩ = some (.int .i64 (hd : Int)) := fun p => (HA.out.2.2.2.of_block (Below.block p.h _ HA.out.2.2.2.lt)).cell (i := 0) (by omega)
                            have m6 : ∀ p : Kp (Sb wr), p.W.cell? ⟨pb, 1, none⟩ = some (.slice (some ⟨b3, o3, none⟩) li.length uc) := fun p => (HA.out.2.2.2.of_block (Below.block p.h _ HA.out.2.2.2.lt)).cell (i := 1) (by omega)
                            have m7 : ∀ p : Kp (Sb wr), p.W.cell? ⟨b3, o3 + k * 2 + 1, none⟩ = some (.int .i64 (m : Int)) := fun p => (Below.cell p.h (p := ⟨b3, o3 + k * 2 + 1, none⟩) HS1.out.2).trans HS1.out.1
                            have m8 : ∀ p : Kp (Sb wr), p.W.cell? ⟨bw, m, none⟩ = some (.int .u64 ((V2 m).toNat : Int)) := fun p => (HA.out.1.next p.h).v.cell hkd
                            have m9 : ∀ p : Kp (Sb wr), p.W.cell? ⟨bw, hd, none⟩ = some (.int .u64 ((V2 hd).toNat : Int)) := fun p => (HA.out.1.next p.h).v.cell hdn
                            obtain ⟨dv, HDV⟩ : ∃ dv, Hid (Value.slice (if uc = k + 1 then some ⟨b3, o3, none⟩ else some ⟨b3, o3 + (k + 1) * 2, none⟩) (li.length - (k + 1)) (uc - (k + 1)) = dv) := ⟨_, (rfl : _ = _)⟩
                            have HDS : Hid (Syms w dv (li.drop (k + 1))) := by show Syms _ _ _; rw [← HDV.out]; exact syms_drop HSQ.out (k + 1)
                            obtain ⟨x, HXX⟩ : ∃ x, Hid (bg E F (li.drop (k + 1)) (V2 hd) = x) := ⟨_, (rfl : bg E F (li.drop (k + 1)) (V2 hd) = bg E F (li.drop (k + 1)) (V2 hd))⟩
                            rw [HXX.out] at HPP
                            have ho := or64 (V2 m) x
                            obtain ⟨zz, HZZ⟩ : ∃ zz, Hid (V2 m ||| x = zz) := ⟨_, (rfl : V2 m ||| x = V2 m ||| x)⟩
                            rw [HZZ.out] at ho HPP
                            have HC : Hid (∀ p : Kp (Sb wr), Calls Try.prog 19 #[.agg #[(.slice (some ⟨be, 0, none⟩) n n), (.slice (some ⟨bf, 0, none⟩) n n), (.slice (some ⟨bw, 0, none⟩) n n), (.slice (some ⟨br, 0, none⟩) n n), (.slice (some ⟨bm, 0, none⟩) n n)], dv, .int .u64 ((V2 hd).toNat : Int)] p.W fun e w'' => e = .returned (.int .u64 (x.toNat : Int)) ∧ ∃ q : Kp (Sb wr), w'' = q.W) := fun p => by
                              have hA' := HA.out.1.next p.h
                              have := refBegin_any t HG.out.t2 n be bf E F (.slice (some ⟨bw, 0, none⟩) n n) (.slice (some ⟨br, 0, none⟩) n n) (.slice (some ⟨bm, 0, none⟩) n n) (V2 hd) (li.drop (k + 1)) dv p.W (HDS.out.below hA'.bl) hA'.e hA'.fi (HOI.out.drop _)
                              rw [HXX.out] at this
                              exact Kp.calls p Sb.next this
                            have HN : Hid (∀ p : Kp (Sb wr), (p.W.frozen? ⟨bw, m, none⟩ = false) ∧ ∃ V', AF w w.heap.size (w.heap.size + 1) t n (.slice (some ⟨b2, o, none⟩) ps.length c) ps be bf bw br bm cf E F V' R M (p.W.setCell ⟨bw, m, none⟩ (.int .u64 (zz.toNat : Int))) ∧ (∀ i, i < n → (p.W.setCell ⟨bw, m, none⟩ (.int .u64 (zz.toNat : Int))).cell? ⟨gc2, i, none⟩ = some (.int .u64 ((V i).toNat : Int))) ∧ gc2 < (p.W.setCell ⟨bw, m, none⟩ (.int .u64 (zz.toNat : Int))).heap.size ∧ (p.W.setCell ⟨bw, m, none⟩ (.int .u64 (zz.toNat : Int))).rowIs pb 49 2 (fun i => if i = 0 then .int .i64 (hd : Int) else .slice (some ⟨b3, o3, none⟩) li.length uc) ∧ WI ps E F V i (k + 1) V') := fun p => by
                              have hA' := HA.out.1.next p.h
                              have hfm : Fm (fun k => k = bw) p.W (p.W.setCell ⟨bw, m, none⟩ (.int .u64 (zz.toNat : Int))) := Fm.set (X := fun k => k = bw) (b := bw) (i := m) _ rfl
                              have hgl : gc2 < p.W.heap.size := Nat.lt_of_lt_of_le HA.out.2.2.1 (Below.size p.h)
                              have hpb' := HA.out.2.2.2.of_block (Below.block p.h _ HA.out.2.2.2.lt)
                              exact ⟨World.rowIs.frozen hA'.v m, upd V2 m zz, hA'.putV hfm (hA'.v.set m zz), fun j hj => (hfm.cell (p := ⟨gc2, j, none⟩) hgl HGN.out).trans ((Below.cell p.h (p := ⟨gc2, j, none⟩) HA.out.2.2.1).trans (HA.out.2.1 j hj)), Nat.lt_of_lt_of_le hgl hfm.size, hpb'.of_block (hfm.block _ hpb'.lt (row_ne hpb' hA'.v (by decide))), HPP.out (by trivial)⟩
                            go_upto_region 43 with (fail)
                            refine wp_region_chain (S := Sb wr) [_, _, _, _, _, _, _, _, _, _, _, _, _, _, _, _, _, _, _, _, _, _, _, _, _] [_] mixed (by kernel_rfl) (Sb.drew wr) ?_
                            simp only [List.cons_append, List.nil_append]
                            repeat (go_big_quiet_step (fail))
                            rw [HDV.out]
                            go_big_quiet_step (first | (go_at_call 19; with_reducible exact HC.out _))
                            repeat (go_big_quiet_step (fail))
                            refine wpQuiet_nil ?_
                            intro p
                            have q1 := m8 p
                            have q3 := (HN.out p).1
                            have HN3 : Hid (∃ V', AF w w.heap.size (w.heap.size + 1) t n (.slice (some ⟨b2, o, none⟩) ps.length c) ps be bf bw br bm cf E F V' R M (p.W.setCell ⟨bw, m, none⟩ (.int .u64 (zz.toNat : Int))) ∧ (∀ i, i < n → (p.W.setCell ⟨bw, m, none⟩ (.int .u64 (zz.toNat : Int))).cell? ⟨gc2, i, none⟩ = some (.int .u64 ((V i).toNat : Int))) ∧ gc2 < (p.W.setCell ⟨bw, m, none⟩ (.int .u64 (zz.toNat : Int))).heap.size ∧ (p.W.setCell ⟨bw, m, none⟩ (.int .u64 (zz.toNat : Int))).rowIs pb 49 2 (fun i => if i = 0 then .int .i64 (hd : Int) else .slice (some ⟨b3, o3, none⟩) li.length uc) ∧ WI ps E F V i (k + 1) V') := (HN.out p).2
                            clear HN HC HPP HKK
                            go_wp2_with fail
                            go_roundw
                            case rel => exact ⟨k + 1, by omega, by go_num, HN3⟩
                            case measure => simp [intOf]; omega
                        · have b0 : decide ((k : Int) < (li.length : Int)) = false := by simp; omega
                          have HN : Hid (∃ V', AF w w.heap.size (w.heap.size + 1) t n (.slice (some ⟨b2, o, none⟩) ps.length c) ps be bf bw br bm cf E F V' R M wr ∧ (∀ i, i < n → wr.cell? ⟨gc2, i, none⟩ = some (.int .u64 ((V i).toNat : Int))) ∧ gc2 < wr.heap.size ∧ WI ps E F V (i + 1) 0 V') := ⟨V2, hA, hcp, hgl, HNX.out k V2 hWI (by omega)⟩
                          clear hA hcp hgl hpb hWI HZ
                          go_wp2_with fail
                          go_roundw
                          case rel => exact ⟨i + 1, by omega, by go_num, HN⟩
                          case measure => simp [intOf]; omega
                    · have b0 : decide ((i : Int) < (ps.length : Int)) = false := by simp; omega
                      have eil : i = ps.length := by omega
                      rw [eil] at hWI
                      have HN : Hid (WG w t n (.slice ao ps.length c) ps be bf bw br bm cf E F R M (.slice (some ⟨gc2, 0, none⟩) n cc2) wr (muW n V)) := ⟨V1, hA, hWI.sn, hWI.z, Or.inr ⟨gc2, cc2, V, rfl, hcp, rfl, hWI⟩⟩
                      clear hA hcp hgl hWI HX eil
                      go_wp2_with fail
                      go_roundw
                      case rel => exact ⟨_, HN.out⟩
                      case measure => exact Nat.lt_of_le_of_lt (leastOf_le HN.out) (Nat.lt_of_lt_of_eq HLT.out HMN.out.symm)
                | true =>
                  have HFF : Hid (Fo ps E F V) := HFO.out (hr.1 rfl)
                  clear hr HL0 HFO HMN
                  have p0 := HX1.out.1.f0
                  have a0 := HX1.out.1.rr.cell (i := 0) (by omega)
                  have z0 := HX1.out.1.rr.frozen 0
                  have p1 := HX1.out.1.f1
                  have a1 := HX1.out.1.rr.cell (i := 1) (by omega)
                  have z1 := HX1.out.1.rr.frozen 1
                  have p2 := HX1.out.1.f2
                  have a2 := HX1.out.1.rr.cell (i := 2) (by omega)
                  have z2 := HX1.out.1.rr.frozen 2
                  have p3 := HX1.out.1.f3
                  have a3 := HX1.out.1.rr.cell (i := 3) (by omega)
                  have z3 := HX1.out.1.rr.frozen 3
                  have p4 := HX1.out.1.f4
                  have a4 := HX1.out.1.rr.cell (i := 4) (by omega)
                  have z4 := HX1.out.1.rr.frozen 4
                  go_wp2_with fail
                  clear p0 p1 p2 p3 p4 a0 a1 a2 a3 a4 z0 z1 z2 z3 z4
                  obtain ⟨w8, HW8⟩ : ∃ w8, Hid ((((((w1.setCell ⟨w.heap.size + 1, 0, none⟩ (.slice (some ⟨be, 0, none⟩) n n)).setCell ⟨w.heap.size + 1, 1, none⟩ (.slice (some ⟨bf, 0, none⟩) n n)).setCell ⟨w.heap.size + 1, 2, none⟩ (.slice (some ⟨bw, 0, none⟩) n n)).setCell ⟨w.heap.size + 1, 3, none⟩ (.slice (some ⟨br, 0, none⟩) n n)).setCell ⟨w.heap.size + 1, 4, none⟩ (.slice (some ⟨bm, 0, none⟩) n n)) = w8) := ⟨_, (rfl : _ = _)⟩
                  rw [HW8.out]
                  have hx := HX1.out.1
                  have HSET := row_five hx.rr (.slice (some ⟨be, 0, none⟩) n n) (.slice (some ⟨bf, 0, none⟩) n n) (.slice (some ⟨bw, 0, none⟩) n n) (.slice (some ⟨br, 0, none⟩) n n) (.slice (some ⟨bm, 0, none⟩) n n)
                  have HOTH := five_other w1 (w.heap.size + 1) (.slice (some ⟨be, 0, none⟩) n n) (.slice (some ⟨bf, 0, none⟩) n n) (.slice (some ⟨bw, 0, none⟩) n n) (.slice (some ⟨br, 0, none⟩) n n) (.slice (some ⟨bm, 0, none⟩) n n)
                  have HBL : Below w.heap.size w w8 := by
                    rw [← HW8.out]
                    exact ((((hx.bl.setCell (by simp) _).setCell (by simp) _).setCell (by simp) _).setCell (by simp) _).setCell (by simp) _
                  rw [HW8.out] at HSET HOTH
                  have HFIN : Hid (Fw w n ps be bf bw br bm w8) := ⟨HBL, E, F, V, R, M, ⟨hx.e.of (HOTH _ (row_ne hx.e hx.rr (by decide))), hx.fi.of (HOTH _ (row_ne hx.fi hx.rr (by decide))), hx.v.of (HOTH _ (row_ne hx.v hx.rr (by decide))), hx.r.of (HOTH _ (row_ne hx.r hx.rr (by decide))), hx.m.of (HOTH _ (row_ne hx.m hx.rr (by decide)))⟩, HE.out, HM.out, HF.out, HR.out, HFF.out⟩
                  have v0 := HSET.cell (i := 0) (by omega)
                  have v1 := HSET.cell (i := 1) (by omega)
                  have v2 := HSET.cell (i := 2) (by omega)
                  have v3 := HSET.cell (i := 3) (by omega)
                  have v4 := HSET.cell (i := 4) (by omega)
                  simp only [fv] at v0 v1 v2 v3 v4
                  clear HSET HOTH HBL hx
                  exact bodyPost_ret (v := .agg #[(.slice (some ⟨be, 0, none⟩) n n), (.slice (some ⟨bf, 0, none⟩) n n), (.slice (some ⟨bw, 0, none⟩) n n), (.slice (some ⟨br, 0, none⟩) n n), (.slice (some ⟨bm, 0, none⟩) n n)]) (by simp [results, Try.results17, go_sem, v0, v1, v2, v3, v4]) rfl ⟨_, _, _, _, _, rfl, HFIN.out⟩
end Go.Proofs.Ytdclhkjhbippdaa
