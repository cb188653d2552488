/-
  The contract of facts.beginnings.
-/
import Derived.Test.YtpbnnmfjahckmaaGrB
namespace Go.Proofs.Ytpbnnmfjahckmaa
open Go.RowKit
open Cg

theorem row_ne {w : World} {a b n m : Nat} {t s : TypeId} {f g : Nat → Value} (h : w.rowIs a t n f) (k : w.rowIs b s m g) (hts : t ≠ s) : a ≠ b := by
  intro e
  subst e
  obtain ⟨c, h1, _⟩ := h
  obtain ⟨d, k1, _⟩ := k
  rw [h1] at k1
  injection k1 with k2
  injection k2 with _ k3
  exact hts k3
def fv (a b c d e : Value) (i : Nat) : Value := match i with | 0 => a | 1 => b | 2 => c | 3 => d | _ => e
theorem row_five {w : World} {g : Nat} {f : Nat → Value} (h : w.rowIs g 52 5 f) (a b c d e : Value) : (((((w.setCell ⟨g, 0, none⟩ a).setCell ⟨g, 1, none⟩ b).setCell ⟨g, 2, none⟩ c).setCell ⟨g, 3, none⟩ d).setCell ⟨g, 4, none⟩ e).rowIs g 52 5 (fv a b c d e) := by
  refine (((((h.set 0 a).set 1 b).set 2 c).set 3 d).set 4 e).congr fun i hi => ?_
  have : i = 0 ∨ i = 1 ∨ i = 2 ∨ i = 3 ∨ i = 4 := by omega
  rcases this with rfl | rfl | rfl | rfl | rfl <;> rfl
theorem five_other (w : World) (g : Nat) (a b c d e : Value) (k : Nat) (hk : k ≠ g) : (((((w.setCell ⟨g, 0, none⟩ a).setCell ⟨g, 1, none⟩ b).setCell ⟨g, 2, none⟩ c).setCell ⟨g, 3, none⟩ d).setCell ⟨g, 4, none⟩ e).heap[k]? = w.heap[k]? := by
  rw [Go.Deep.blk_setCell_other _ _ _ _ hk, Go.Deep.blk_setCell_other _ _ _ _ hk, Go.Deep.blk_setCell_other _ _ _ _ hk, Go.Deep.blk_setCell_other _ _ _ _ hk, Go.Deep.blk_setCell_other _ _ _ _ hk]
theorem five_size (w : World) (g : Nat) (a b c d e : Value) : (((((w.setCell ⟨g, 0, none⟩ a).setCell ⟨g, 1, none⟩ b).setCell ⟨g, 2, none⟩ c).setCell ⟨g, 3, none⟩ d).setCell ⟨g, 4, none⟩ e).heap.size = w.heap.size := by simp [World.setCell]
theorem row_new5 (w : World) : (w.alloc (.cells #[.slice none 0 0, .slice none 0 0, .slice none 0 0, .slice none 0 0, .slice none 0 0] 52)).rowIs w.heap.size 52 5 (fun _ => .slice none 0 0) :=
  World.rowIs_alloc w _ 52 _ fun i hi => by
    have : i = 0 ∨ i = 1 ∨ i = 2 ∨ i = 3 ∨ i = 4 := by simp at hi; omega
    rcases this with rfl | rfl | rfl | rfl | rfl <;> rfl
/-- What is held while beginnings goes on. -/
structure Ib (ps : List Pd) (n : Nat) (M E : Nat → Bool) (be bf bm cf : Nat) (F : Nat → Wd) (W : World) : Prop where
  c : W.rowIs cf 52 5 (fv (.slice (some ⟨be, 0, none⟩) n n) (.slice (some ⟨bf, 0, none⟩) n n) (.slice none 0 0) (.slice none 0 0) (.slice (some ⟨bm, 0, none⟩) n n))
  e : Rb W be n E
  f : Rw W bf n F
  m : Rb W bm n M
  sn : SnF ps M E F
theorem Ib.next {ps : List Pd} {n : Nat} {M E : Nat → Bool} {be bf bm cf : Nat} {F : Nat → Wd} {W W' : World} (h : Ib ps n M E be bf bm cf F W) (hb : Below W.heap.size W W') : Ib ps n M E be bf bm cf F W' :=
  ⟨h.c.of_block (hb.block _ h.c.lt), h.e.next hb, h.f.next hb, h.m.next hb, h.sn⟩
theorem Ib.put {ps : List Pd} {n : Nat} {M E : Nat → Bool} {be bf bm cf : Nat} {F F' : Nat → Wd} {W W' : World} (h : Ib ps n M E be bf bm cf F W) (hf : Fm (fun k => k = bf) W W') (hr : Rw W' bf n F') (hn : SnF ps M E F') : Ib ps n M E be bf bm cf F' W' :=
  ⟨h.c.of_block (hf.block _ h.c.lt (row_ne h.c h.f (by decide))), h.e.of (hf.block _ h.e.lt (row_ne h.e h.f (by decide))), hr, h.m.of (hf.block _ h.m.lt (row_ne h.m h.f (by decide))), hn⟩
/-- What beginnings leaves. -/
def Bgs (w : World) (n : Nat) (ps : List Pd) (be bf bm : Nat) (w' : World) : Prop :=
  w.heap.size ≤ be ∧ w.heap.size ≤ bf ∧ w.heap.size ≤ bm ∧ Below w.heap.size w w' ∧ ∃ E F M, Rb w' be n E ∧ Rw w' bf n F ∧ Rb w' bm n M ∧ Mk ps false E ∧ Mk ps true M ∧ Fi ps M E F
structure RBe (w0 : World) (g : Nat) (t : Int) (n : Nat) (ao : Option Addr) (np c : Nat) (ps : List Pd) (bm : Nat) (be : Nat) (bf : Nat) (cf : Nat) (d : Nat → Bool) (x3 x4 x5 x6 x7 x8 x9 x10 x11 : Value) (W : World) : Prop where
  f0 : d 0 = true → x4 = (.agg #[.int .i64 t, .int .i64 (n : Int), .slice ao np c])
  f1 : d 1 = true → x5 = (.slice (some ⟨bm, 0, none⟩) n n)
  f2 : d 2 = true → x6 = (.agg #[.int .i64 t, .int .i64 (n : Int), .slice ao np c])
  f3 : d 3 = true → x7 = (.slice (some ⟨be, 0, none⟩) n n)
  f4 : d 4 = true → x8 = (.pointer (some ⟨g, 1, none⟩))
  f5 : d 5 = true → x9 = (.int .i64 (n : Int))
  f6 : d 6 = true → x10 = (.slice (some ⟨bf, 0, none⟩) n n)
  f7 : d 7 = true → x11 = (.agg #[(.slice (some ⟨be, 0, none⟩) n n), (.slice (some ⟨bf, 0, none⟩) n n), (.slice none 0 0), (.slice none 0 0), (.slice (some ⟨bm, 0, none⟩) n n)])
  f8 : d 8 = true → x3 = (.pointer (some ⟨cf, 0, none⟩))
  f9 : d 9 = true → True
  kp : Below w0.heap.size w0 W
  o7a : d 7 = true → d 1 = true
  o7b : d 7 = true → d 3 = true
  o7c : d 7 = true → d 6 = true
  o9 : d 9 = true → d 8 = true
  o97 : d 9 = true → d 7 = true
  m : d 1 = true → w0.heap.size ≤ bm ∧ ∃ s, Rb W bm n s ∧ Mk ps true s
  e : d 3 = true → w0.heap.size ≤ be ∧ ∃ s, Rb W be n s ∧ Mk ps false s
  rf : d 6 = true → w0.heap.size ≤ bf ∧ Rw W bf n (fun _ => 0#64)
  c : d 8 = true → d 9 = false → w0.heap.size ≤ cf ∧ W.rowIs cf 52 5 (fun _ => .slice none 0 0)
  c9 : d 9 = true → w0.heap.size ≤ cf ∧ W.rowIs cf 52 5 (fv (.slice (some ⟨be, 0, none⟩) n n) (.slice (some ⟨bf, 0, none⟩) n n) (.slice none 0 0) (.slice none 0 0) (.slice (some ⟨bm, 0, none⟩) n n))
set_option maxHeartbeats 6400000 in
set_option maxRecDepth 20000 in
theorem beginnings_any (t : Int) (n : Nat) (pv : Value) (ps : List Pd) (w : World) (hp : Pds w pv ps) (hg : Rg t n ps) :
    Calls Try.prog 40 #[.agg #[.int .i64 t, .int .i64 (n : Int), pv]] w fun e w' => ∃ be bf bm, e = .returned (.agg #[(.slice (some ⟨be, 0, none⟩) n n), (.slice (some ⟨bf, 0, none⟩) n n), (.slice none 0 0), (.slice none 0 0), (.slice (some ⟨bm, 0, none⟩) n n)]) ∧ Bgs w n ps be bf bm w' := by
  have HP : Hid (Pds w pv ps) := hp
  have HG : Hid (Rg t n ps) := hg
  obtain ⟨ao, c, rfl, hm, -⟩ := hp
  obtain ⟨w0, HW0⟩ : ∃ w0, Hid (((w.alloc (Obj.cells #[.int .i64 t, .int .i64 (n : Int), .slice ao ps.length c] 24)).alloc (Obj.cells #[(.slice none 0 0), (.slice none 0 0), (.slice none 0 0), (.slice none 0 0), (.slice none 0 0)] 52)) = w0) := ⟨_, (rfl : _ = _)⟩
  have hb0 := below_alloc2 w (Obj.cells #[.int .i64 t, .int .i64 (n : Int), .slice ao ps.length c] 24) (Obj.cells #[(.slice none 0 0), (.slice none 0 0), (.slice none 0 0), (.slice none 0 0), (.slice none 0 0)] 52)
  have g0 := cell_new w #[.int .i64 t, .int .i64 (n : Int), .slice ao ps.length c] 24
  have g1 := fun i => ((below_alloc (w.alloc (Obj.cells #[.int .i64 t, .int .i64 (n : Int), .slice ao ps.length c] 24)) (Obj.cells #[(.slice none 0 0), (.slice none 0 0), (.slice none 0 0), (.slice none 0 0), (.slice none 0 0)] 52)).cell (p := ⟨w.heap.size, i, none⟩) (by simp)).trans (g0 i)
  have hrr := row_new5 (w.alloc (Obj.cells #[.int .i64 t, .int .i64 (n : Int), .slice ao ps.length c] 24))
  have es : (w.alloc (Obj.cells #[.int .i64 t, .int .i64 (n : Int), .slice ao ps.length c] 24)).heap.size = w.heap.size + 1 := by simp
  rw [es, HW0.out] at hrr
  rw [HW0.out] at hb0 g1
  have HB0 : Hid (Below w.heap.size w w0) := hb0
  have HRR : Hid (w0.rowIs (w.heap.size + 1) 52 5 (fun _ => .slice none 0 0)) := hrr
  have HC : Hid (w0.cell? ⟨w.heap.size, 0, none⟩ = some (.int .i64 t) ∧ w0.cell? ⟨w.heap.size, 1, none⟩ = some (.int .i64 (n : Int)) ∧ w0.cell? ⟨w.heap.size, 2, none⟩ = some (.slice ao ps.length c)) := ⟨g1 0, g1 1, g1 2⟩
  have HSW : Hid (w0.heap.size = w.heap.size + 2) := by show _ = _; rw [← HW0.out]; simp
  have HGL : Hid (w.heap.size < w0.heap.size) := by show _ < _; rw [HSW.out]; omega
  have HPD : Hid (Pds w0 (.slice ao ps.length c) ps) := HP.out.below hb0
  clear hb0 g0 g1 hrr es hg
  go_enter Try.func40, Try.ntmps40
  go_wp2_with fail
  rw [HW0.out]
  refine wp_region_free mixed (fun a0 d a W => ∃ (bm : Nat) (be : Nat) (bf : Nat) (cf : Nat) (x3 x4 x5 x6 x7 x8 x9 x10 x11 : Value), a = (((((((((a0.put (some 3) x3).put (some 4) x4).put (some 5) x5).put (some 6) x6).put (some 7) x7).put (some 8) x8).put (some 9) x9).put (some 10) x10).put (some 11) x11) ∧ Hid (RBe w0 w.heap.size t n ao ps.length c ps bm be bf cf d x3 x4 x5 x6 x7 x8 x9 x10 x11 W)) (by kernel_rfl) ⟨0, 0, 0, 0, undef, undef, undef, undef, undef, undef, undef, undef, undef, by simp only [Act.put, List.setIfInBounds_toArray, List.set_cons_zero, List.set_cons_succ], ?_⟩ ?_ ?_
  · exact ⟨fun h => no_way h, fun h => no_way h, fun h => no_way h, fun h => no_way h, fun h => no_way h, fun h => no_way h, fun h => no_way h, fun h => no_way h, fun h => no_way h, fun _ => trivial, Below.drew (Below.refl _ _), fun h => no_way h, fun h => no_way h, fun h => no_way h, fun h => no_way h, fun h => no_way h, fun h => no_way h, fun h => no_way h, fun h => no_way h, fun h _ => no_way h, fun h => no_way h⟩
  · simp only [StepAll, and_true]
    refine ⟨?_, ?_, ?_, ?_, ?_, ?_, ?_, ?_, ?_, ?_⟩
    · intro d a W hI hd hdep
      obtain ⟨bm, be, bf, cf, x3, x4, x5, x6, x7, x8, x9, x10, x11, rfl, hF⟩ := hI
      have c0 := (hF.out.kp.cell (p := ⟨w.heap.size, 0, none⟩) HGL.out).trans HC.out.1
      have c1 := (hF.out.kp.cell (p := ⟨w.heap.size, 1, none⟩) HGL.out).trans HC.out.2.1
      have c2 := (hF.out.kp.cell (p := ⟨w.heap.size, 2, none⟩) HGL.out).trans HC.out.2.2
      clear hdep hd
      intro K hK
      simp only [Act.put, List.setIfInBounds_toArray, List.set_cons_zero, List.set_cons_succ]
      go_simp
      refine hK.out _ _ ⟨bm, be, bf, cf, x3, (.agg #[.int .i64 t, .int .i64 (n : Int), .slice ao ps.length c]), x5, x6, x7, x8, x9, x10, x11, by simp only [Act.put, List.setIfInBounds_toArray, List.set_cons_zero, List.set_cons_succ], ?_⟩
      exact ⟨fun _ => rfl, fun h => hF.out.f1 (by simpa using h), fun h => hF.out.f2 (by simpa using h), fun h => hF.out.f3 (by simpa using h), fun h => hF.out.f4 (by simpa using h), fun h => hF.out.f5 (by simpa using h), fun h => hF.out.f6 (by simpa using h), fun h => hF.out.f7 (by simpa using h), fun h => hF.out.f8 (by simpa using h), fun h => hF.out.f9 (by simpa using h), hF.out.kp, fun h => by have := hF.out.o7a (by simpa using h); simp [this], fun h => by have := hF.out.o7b (by simpa using h); simp [this], fun h => by have := hF.out.o7c (by simpa using h); simp [this], fun h => by have := hF.out.o9 (by simpa using h); simp [this], fun h => by have := hF.out.o97 (by simpa using h); simp [this], fun h => hF.out.m (by simpa using h), fun h => hF.out.e (by simpa using h), fun h => hF.out.rf (by simpa using h), fun h h2 => hF.out.c (by simpa using h) (by simpa using h2), fun h => hF.out.c9 (by simpa using h)⟩
    · intro d a W hI hd hdep
      obtain ⟨bm, be, bf, cf, x3, x4, x5, x6, x7, x8, x9, x10, x11, rfl, hF⟩ := hI
      have hd0 : d 0 = true := dep_of hdep 0 (by kernel_rfl)
      obtain rfl := hF.out.f0 hd0
      have HKP : Hid (Below w0.heap.size w0 W) := hF.out.kp
      have hcl := made_any t n true (.slice ao ps.length c) ps W (HPD.out.below hF.out.kp) HG.out
      have HN7 : Hid (d 7 = false) := no_later hF.out.o7a hd
      clear hdep hd hd0
      intro K hK
      simp only [Act.put, List.setIfInBounds_toArray, List.set_cons_zero, List.set_cons_succ]
      go_simp
      refine hcl.mono ?_
      rintro _ W1 ⟨bm1, rfl, hge, hb1, s1, hr1, hk1⟩
      have HNEW : Hid (w0.heap.size ≤ bm1 ∧ ∃ s, Rb W1 bm1 n s ∧ Mk ps true s) := ⟨Nat.le_trans HKP.out.size hge, s1, hr1, hk1⟩
      have HB1 : Hid (Below W.heap.size W W1) := hb1
      clear hge hr1 hk1 hb1 hcl
      go_simp
      refine hK.out _ _ ⟨bm1, be, bf, cf, x3, (.agg #[.int .i64 t, .int .i64 (n : Int), .slice ao ps.length c]), (.slice (some ⟨bm1, 0, none⟩) n n), x6, x7, x8, x9, x10, x11, by simp only [Act.put, List.setIfInBounds_toArray, List.set_cons_zero, List.set_cons_succ], ?_⟩
      exact ⟨fun h => hF.out.f0 (by simpa using h), fun _ => rfl, fun h => hF.out.f2 (by simpa using h), fun h => hF.out.f3 (by simpa using h), fun h => hF.out.f4 (by simpa using h), fun h => hF.out.f5 (by simpa using h), fun h => hF.out.f6 (by simpa using h), fun h => by have := HN7.out; simp [this] at h, fun h => hF.out.f8 (by simpa using h), fun h => hF.out.f9 (by simpa using h), HKP.out.trans (HB1.out.mono HKP.out.size), fun _ => by simp, fun h => by have := hF.out.o7b (by simpa using h); simp [this], fun h => by have := hF.out.o7c (by simpa using h); simp [this], fun h => by have := hF.out.o9 (by simpa using h); simp [this], fun h => by have := hF.out.o97 (by simpa using h); simp [this], fun _ => HNEW.out, fun h => have q := hF.out.e (by simpa using h); ⟨q.1, q.2.elim fun s hs => ⟨s, hs.1.next HB1.out, hs.2⟩⟩, fun h => have q := hF.out.rf (by simpa using h); ⟨q.1, q.2.next HB1.out⟩, fun h h2 => have q := hF.out.c (by simpa using h) (by simpa using h2); ⟨q.1, q.2.of_block (HB1.out.block _ q.2.lt)⟩, fun h => by have := HN7.out; have := hF.out.o97 (by simpa using h); simp [HN7.out] at this⟩
    · intro d a W hI hd hdep
      obtain ⟨bm, be, bf, cf, x3, x4, x5, x6, x7, x8, x9, x10, x11, rfl, hF⟩ := hI
      have c0 := (hF.out.kp.cell (p := ⟨w.heap.size, 0, none⟩) HGL.out).trans HC.out.1
      have c1 := (hF.out.kp.cell (p := ⟨w.heap.size, 1, none⟩) HGL.out).trans HC.out.2.1
      have c2 := (hF.out.kp.cell (p := ⟨w.heap.size, 2, none⟩) HGL.out).trans HC.out.2.2
      clear hdep hd
      intro K hK
      simp only [Act.put, List.setIfInBounds_toArray, List.set_cons_zero, List.set_cons_succ]
      go_simp
      refine hK.out _ _ ⟨bm, be, bf, cf, x3, x4, x5, (.agg #[.int .i64 t, .int .i64 (n : Int), .slice ao ps.length c]), x7, x8, x9, x10, x11, by simp only [Act.put, List.setIfInBounds_toArray, List.set_cons_zero, List.set_cons_succ], ?_⟩
      exact ⟨fun h => hF.out.f0 (by simpa using h), fun h => hF.out.f1 (by simpa using h), fun _ => rfl, fun h => hF.out.f3 (by simpa using h), fun h => hF.out.f4 (by simpa using h), fun h => hF.out.f5 (by simpa using h), fun h => hF.out.f6 (by simpa using h), fun h => hF.out.f7 (by simpa using h), fun h => hF.out.f8 (by simpa using h), fun h => hF.out.f9 (by simpa using h), hF.out.kp, fun h => by have := hF.out.o7a (by simpa using h); simp [this], fun h => by have := hF.out.o7b (by simpa using h); simp [this], fun h => by have := hF.out.o7c (by simpa using h); simp [this], fun h => by have := hF.out.o9 (by simpa using h); simp [this], fun h => by have := hF.out.o97 (by simpa using h); simp [this], fun h => hF.out.m (by simpa using h), fun h => hF.out.e (by simpa using h), fun h => hF.out.rf (by simpa using h), fun h h2 => hF.out.c (by simpa using h) (by simpa using h2), fun h => hF.out.c9 (by simpa using h)⟩
    · intro d a W hI hd hdep
      obtain ⟨bm, be, bf, cf, x3, x4, x5, x6, x7, x8, x9, x10, x11, rfl, hF⟩ := hI
      have hd2 : d 2 = true := dep_of hdep 2 (by kernel_rfl)
      obtain rfl := hF.out.f2 hd2
      have HKP : Hid (Below w0.heap.size w0 W) := hF.out.kp
      have hcl := made_any t n false (.slice ao ps.length c) ps W (HPD.out.below hF.out.kp) HG.out
      have HN7 : Hid (d 7 = false) := no_later hF.out.o7b hd
      clear hdep hd hd2
      intro K hK
      simp only [Act.put, List.setIfInBounds_toArray, List.set_cons_zero, List.set_cons_succ]
      go_simp
      refine hcl.mono ?_
      rintro _ W1 ⟨be1, rfl, hge, hb1, s1, hr1, hk1⟩
      have HNEW : Hid (w0.heap.size ≤ be1 ∧ ∃ s, Rb W1 be1 n s ∧ Mk ps false s) := ⟨Nat.le_trans HKP.out.size hge, s1, hr1, hk1⟩
      have HB1 : Hid (Below W.heap.size W W1) := hb1
      clear hge hr1 hk1 hb1 hcl
      go_simp
      refine hK.out _ _ ⟨bm, be1, bf, cf, x3, x4, x5, (.agg #[.int .i64 t, .int .i64 (n : Int), .slice ao ps.length c]), (.slice (some ⟨be1, 0, none⟩) n n), x8, x9, x10, x11, by simp only [Act.put, List.setIfInBounds_toArray, List.set_cons_zero, List.set_cons_succ], ?_⟩
      exact ⟨fun h => hF.out.f0 (by simpa using h), fun h => hF.out.f1 (by simpa using h), fun h => hF.out.f2 (by simpa using h), fun _ => rfl, fun h => hF.out.f4 (by simpa using h), fun h => hF.out.f5 (by simpa using h), fun h => hF.out.f6 (by simpa using h), fun h => by have := HN7.out; simp [this] at h, fun h => hF.out.f8 (by simpa using h), fun h => hF.out.f9 (by simpa using h), HKP.out.trans (HB1.out.mono HKP.out.size), fun h => by have := hF.out.o7a (by simpa using h); simp [this], fun _ => by simp, fun h => by have := hF.out.o7c (by simpa using h); simp [this], fun h => by have := hF.out.o9 (by simpa using h); simp [this], fun h => by have := hF.out.o97 (by simpa using h); simp [this], fun h => have q := hF.out.m (by simpa using h); ⟨q.1, q.2.elim fun s hs => ⟨s, hs.1.next HB1.out, hs.2⟩⟩, fun _ => HNEW.out, fun h => have q := hF.out.rf (by simpa using h); ⟨q.1, q.2.next HB1.out⟩, fun h h2 => have q := hF.out.c (by simpa using h) (by simpa using h2); ⟨q.1, q.2.of_block (HB1.out.block _ q.2.lt)⟩, fun h => by have := hF.out.o97 (by simpa using h); simp [HN7.out] at this⟩
    · intro d a W hI hd hdep
      obtain ⟨bm, be, bf, cf, x3, x4, x5, x6, x7, x8, x9, x10, x11, rfl, hF⟩ := hI
      clear hdep hd
      intro K hK
      simp only [Act.put, List.setIfInBounds_toArray, List.set_cons_zero, List.set_cons_succ]
      go_simp
      refine hK.out _ _ ⟨bm, be, bf, cf, x3, x4, x5, x6, x7, (.pointer (some ⟨w.heap.size, 1, none⟩)), x9, x10, x11, by simp only [Act.put, List.setIfInBounds_toArray, List.set_cons_zero, List.set_cons_succ], ?_⟩
      exact ⟨fun h => hF.out.f0 (by simpa using h), fun h => hF.out.f1 (by simpa using h), fun h => hF.out.f2 (by simpa using h), fun h => hF.out.f3 (by simpa using h), fun _ => rfl, fun h => hF.out.f5 (by simpa using h), fun h => hF.out.f6 (by simpa using h), fun h => hF.out.f7 (by simpa using h), fun h => hF.out.f8 (by simpa using h), fun h => hF.out.f9 (by simpa using h), hF.out.kp, fun h => by have := hF.out.o7a (by simpa using h); simp [this], fun h => by have := hF.out.o7b (by simpa using h); simp [this], fun h => by have := hF.out.o7c (by simpa using h); simp [this], fun h => by have := hF.out.o9 (by simpa using h); simp [this], fun h => by have := hF.out.o97 (by simpa using h); simp [this], fun h => hF.out.m (by simpa using h), fun h => hF.out.e (by simpa using h), fun h => hF.out.rf (by simpa using h), fun h h2 => hF.out.c (by simpa using h) (by simpa using h2), fun h => hF.out.c9 (by simpa using h)⟩
    · intro d a W hI hd hdep
      obtain ⟨bm, be, bf, cf, x3, x4, x5, x6, x7, x8, x9, x10, x11, rfl, hF⟩ := hI
      have hd4 : d 4 = true := dep_of hdep 4 (by kernel_rfl)
      obtain rfl := hF.out.f4 hd4
      have c1 := (hF.out.kp.cell (p := ⟨w.heap.size, 1, none⟩) HGL.out).trans HC.out.2.1
      clear hdep hd hd4
      intro K hK
      simp only [Act.put, List.setIfInBounds_toArray, List.set_cons_zero, List.set_cons_succ]
      go_simp
      refine hK.out _ _ ⟨bm, be, bf, cf, x3, x4, x5, x6, x7, (.pointer (some ⟨w.heap.size, 1, none⟩)), (.int .i64 (n : Int)), x10, x11, by simp only [Act.put, List.setIfInBounds_toArray, List.set_cons_zero, List.set_cons_succ], ?_⟩
      exact ⟨fun h => hF.out.f0 (by simpa using h), fun h => hF.out.f1 (by simpa using h), fun h => hF.out.f2 (by simpa using h), fun h => hF.out.f3 (by simpa using h), fun h => hF.out.f4 (by simpa using h), fun _ => rfl, fun h => hF.out.f6 (by simpa using h), fun h => hF.out.f7 (by simpa using h), fun h => hF.out.f8 (by simpa using h), fun h => hF.out.f9 (by simpa using h), hF.out.kp, fun h => by have := hF.out.o7a (by simpa using h); simp [this], fun h => by have := hF.out.o7b (by simpa using h); simp [this], fun h => by have := hF.out.o7c (by simpa using h); simp [this], fun h => by have := hF.out.o9 (by simpa using h); simp [this], fun h => by have := hF.out.o97 (by simpa using h); simp [this], fun h => hF.out.m (by simpa using h), fun h => hF.out.e (by simpa using h), fun h => hF.out.rf (by simpa using h), fun h h2 => hF.out.c (by simpa using h) (by simpa using h2), fun h => hF.out.c9 (by simpa using h)⟩
    · intro d a W hI hd hdep
      obtain ⟨bm, be, bf, cf, x3, x4, x5, x6, x7, x8, x9, x10, x11, rfl, hF⟩ := hI
      have hd5 : d 5 = true := dep_of hdep 5 (by kernel_rfl)
      obtain rfl := hF.out.f5 hd5
      have hmk := run_make_row' (P := Try.prog) 50 130 (.int .u64 0) 8 Try.underlying50 info130 rfl .i64 .i64 n (by have := HG.out.n2; omega) (by have := HG.out.n2; omega)
      have HKP : Hid (Below w0.heap.size w0 W) := hF.out.kp
      have HN7 : Hid (d 7 = false) := no_later hF.out.o7c hd
      clear hdep hd hd5
      intro K hK
      simp only [Act.put, List.setIfInBounds_toArray, List.set_cons_zero, List.set_cons_succ]
      go_simp
      refine hK.out _ _ ⟨bm, be, W.heap.size, cf, x3, x4, x5, x6, x7, x8, (.int .i64 (n : Int)), (.slice (some ⟨W.heap.size, 0, none⟩) n n), x11, by simp only [Act.put, List.setIfInBounds_toArray, List.set_cons_zero, List.set_cons_succ], ?_⟩
      have hb1 := below_alloc W (Obj.cells (madeCells #[Value.int .u64 0] n) 130)
      exact ⟨fun h => hF.out.f0 (by simpa using h), fun h => hF.out.f1 (by simpa using h), fun h => hF.out.f2 (by simpa using h), fun h => hF.out.f3 (by simpa using h), fun h => hF.out.f4 (by simpa using h), fun h => hF.out.f5 (by simpa using h), fun _ => rfl, fun h => by have := HN7.out; simp [this] at h, fun h => hF.out.f8 (by simpa using h), fun h => hF.out.f9 (by simpa using h), HKP.out.trans (hb1.mono HKP.out.size), fun h => by have := hF.out.o7a (by simpa using h); simp [this], fun h => by have := hF.out.o7b (by simpa using h); simp [this], fun _ => by simp, fun h => by have := hF.out.o9 (by simpa using h); simp [this], fun h => by have := hF.out.o97 (by simpa using h); simp [this], fun h => have q := hF.out.m (by simpa using h); ⟨q.1, q.2.elim fun s hs => ⟨s, hs.1.next hb1, hs.2⟩⟩, fun h => have q := hF.out.e (by simpa using h); ⟨q.1, q.2.elim fun s hs => ⟨s, hs.1.next hb1, hs.2⟩⟩, fun _ => ⟨HKP.out.size, World.rowIs_made W _ n 130⟩, fun h h2 => have q := hF.out.c (by simpa using h) (by simpa using h2); ⟨q.1, q.2.of_block (hb1.block _ q.2.lt)⟩, fun h => by have := hF.out.o97 (by simpa using h); simp [HN7.out] at this⟩
    · intro d a W hI hd hdep
      obtain ⟨bm, be, bf, cf, x3, x4, x5, x6, x7, x8, x9, x10, x11, rfl, hF⟩ := hI
      have hd1 : d 1 = true := dep_of hdep 1 (by kernel_rfl)
      have hd3 : d 3 = true := dep_of hdep 3 (by kernel_rfl)
      have hd6 : d 6 = true := dep_of hdep 6 (by kernel_rfl)
      obtain rfl := hF.out.f1 hd1
      obtain rfl := hF.out.f3 hd3
      obtain rfl := hF.out.f6 hd6
      have e1 := hd1
      have e3 := hd3
      have e6 := hd6
      clear hdep hd hd1 hd3 hd6
      intro K hK
      simp only [Act.put, List.setIfInBounds_toArray, List.set_cons_zero, List.set_cons_succ]
      go_simp
      refine hK.out _ _ ⟨bm, be, bf, cf, x3, x4, (.slice (some ⟨bm, 0, none⟩) n n), x6, (.slice (some ⟨be, 0, none⟩) n n), x8, x9, (.slice (some ⟨bf, 0, none⟩) n n), (.agg #[(.slice (some ⟨be, 0, none⟩) n n), (.slice (some ⟨bf, 0, none⟩) n n), (.slice none 0 0), (.slice none 0 0), (.slice (some ⟨bm, 0, none⟩) n n)]), by simp only [Act.put, List.setIfInBounds_toArray, List.set_cons_zero, List.set_cons_succ], ?_⟩
      exact ⟨fun h => hF.out.f0 (by simpa using h), fun h => hF.out.f1 (by simpa using h), fun h => hF.out.f2 (by simpa using h), fun h => hF.out.f3 (by simpa using h), fun h => hF.out.f4 (by simpa using h), fun h => hF.out.f5 (by simpa using h), fun h => hF.out.f6 (by simpa using h), fun _ => rfl, fun h => hF.out.f8 (by simpa using h), fun h => hF.out.f9 (by simpa using h), hF.out.kp, fun _ => by simp [e1], fun _ => by simp [e3], fun _ => by simp [e6], fun h => by have := hF.out.o9 (by simpa using h); simp [this], fun _ => by simp, fun h => hF.out.m (by simpa using h), fun h => hF.out.e (by simpa using h), fun h => hF.out.rf (by simpa using h), fun h h2 => hF.out.c (by simpa using h) (by simpa using h2), fun h => hF.out.c9 (by simpa using h)⟩
    · intro d a W hI hd hdep
      obtain ⟨bm, be, bf, cf, x3, x4, x5, x6, x7, x8, x9, x10, x11, rfl, hF⟩ := hI
      have HKP : Hid (Below w0.heap.size w0 W) := hF.out.kp
      have HN9 : Hid (d 9 = false) := no_later hF.out.o9 hd
      clear hdep hd
      intro K hK
      simp only [Act.put, List.setIfInBounds_toArray, List.set_cons_zero, List.set_cons_succ]
      go_simp
      refine hK.out _ _ ⟨bm, be, bf, W.heap.size, (.pointer (some ⟨W.heap.size, 0, none⟩)), x4, x5, x6, x7, x8, x9, x10, x11, by simp only [Act.put, List.setIfInBounds_toArray, List.set_cons_zero, List.set_cons_succ], ?_⟩
      have hb1 := below_alloc W (Obj.cells #[(.slice none 0 0), (.slice none 0 0), (.slice none 0 0), (.slice none 0 0), (.slice none 0 0)] 52)
      exact ⟨fun h => hF.out.f0 (by simpa using h), fun h => hF.out.f1 (by simpa using h), fun h => hF.out.f2 (by simpa using h), fun h => hF.out.f3 (by simpa using h), fun h => hF.out.f4 (by simpa using h), fun h => hF.out.f5 (by simpa using h), fun h => hF.out.f6 (by simpa using h), fun h => hF.out.f7 (by simpa using h), fun _ => rfl, fun h => hF.out.f9 (by simpa using h), HKP.out.trans (hb1.mono HKP.out.size), fun h => by have := hF.out.o7a (by simpa using h); simp [this], fun h => by have := hF.out.o7b (by simpa using h); simp [this], fun h => by have := hF.out.o7c (by simpa using h); simp [this], fun _ => by simp, fun h => by have := hF.out.o97 (by simpa using h); simp [this], fun h => have q := hF.out.m (by simpa using h); ⟨q.1, q.2.elim fun s hs => ⟨s, hs.1.next hb1, hs.2⟩⟩, fun h => have q := hF.out.e (by simpa using h); ⟨q.1, q.2.elim fun s hs => ⟨s, hs.1.next hb1, hs.2⟩⟩, fun h => have q := hF.out.rf (by simpa using h); ⟨q.1, q.2.next hb1⟩, fun _ _ => ⟨HKP.out.size, row_new5 W⟩, fun h => by simp [HN9.out] at h⟩
    · intro d a W hI hd hdep
      obtain ⟨bm, be, bf, cf, x3, x4, x5, x6, x7, x8, x9, x10, x11, rfl, hF⟩ := hI
      have hd7 : d 7 = true := dep_of hdep 7 (by kernel_rfl)
      have hd8 : d 8 = true := dep_of hdep 8 (by kernel_rfl)
      obtain rfl := hF.out.f7 hd7
      obtain rfl := hF.out.f8 hd8
      have e8 := hd8
      have e7 := hd7
      have HKP : Hid (Below w0.heap.size w0 W) := hF.out.kp
      have HCF : Hid (w0.heap.size ≤ cf ∧ W.rowIs cf 52 5 (fun _ => .slice none 0 0)) := hF.out.c hd8 hd
      have HROW : Hid (W.rowIs cf 52 5 (fun _ => .slice none 0 0)) := HCF.out.2
      have a0 := HCF.out.2.cell (i := 0) (by omega)
      have z0 := HCF.out.2.frozen 0
      have a1 := HCF.out.2.cell (i := 1) (by omega)
      have z1 := HCF.out.2.frozen 1
      have a2 := HCF.out.2.cell (i := 2) (by omega)
      have z2 := HCF.out.2.frozen 2
      have a3 := HCF.out.2.cell (i := 3) (by omega)
      have z3 := HCF.out.2.frozen 3
      have a4 := HCF.out.2.cell (i := 4) (by omega)
      have z4 := HCF.out.2.frozen 4
      clear hdep hd hd7 hd8
      intro K hK
      simp only [Act.put, List.setIfInBounds_toArray, List.set_cons_zero, List.set_cons_succ]
      go_simp
      refine hK.out _ _ ⟨bm, be, bf, cf, (.pointer (some ⟨cf, 0, none⟩)), x4, x5, x6, x7, x8, x9, x10, (.agg #[(.slice (some ⟨be, 0, none⟩) n n), (.slice (some ⟨bf, 0, none⟩) n n), (.slice none 0 0), (.slice none 0 0), (.slice (some ⟨bm, 0, none⟩) n n)]), by simp only [Act.put, List.setIfInBounds_toArray, List.set_cons_zero, List.set_cons_succ], ?_⟩
      have HSET := row_five HCF.out.2 (.slice (some ⟨be, 0, none⟩) n n) (.slice (some ⟨bf, 0, none⟩) n n) (.slice none 0 0) (.slice none 0 0) (.slice (some ⟨bm, 0, none⟩) n n)
      have HOTH := five_other W cf (.slice (some ⟨be, 0, none⟩) n n) (.slice (some ⟨bf, 0, none⟩) n n) (.slice none 0 0) (.slice none 0 0) (.slice (some ⟨bm, 0, none⟩) n n)
      have HSZ := five_size W cf (.slice (some ⟨be, 0, none⟩) n n) (.slice (some ⟨bf, 0, none⟩) n n) (.slice none 0 0) (.slice none 0 0) (.slice (some ⟨bm, 0, none⟩) n n)
      exact ⟨fun h => hF.out.f0 (by simpa using h), fun h => hF.out.f1 (by simpa using h), fun h => hF.out.f2 (by simpa using h), fun h => hF.out.f3 (by simpa using h), fun h => hF.out.f4 (by simpa using h), fun h => hF.out.f5 (by simpa using h), fun h => hF.out.f6 (by simpa using h), fun h => hF.out.f7 (by simpa using h), fun h => hF.out.f8 (by simpa using h), fun _ => trivial, (((((HKP.out.setCell HCF.out.1 _).setCell HCF.out.1 _).setCell HCF.out.1 _).setCell HCF.out.1 _).setCell HCF.out.1 _), fun h => by have := hF.out.o7a (by simpa using h); simp [this], fun h => by have := hF.out.o7b (by simpa using h); simp [this], fun h => by have := hF.out.o7c (by simpa using h); simp [this], fun _ => by simp [e8], fun _ => by simp [e7], fun h => have q := hF.out.m (by simpa using h); ⟨q.1, q.2.elim fun s hs => ⟨s, hs.1.of (HOTH _ (row_ne hs.1 HROW.out (by decide))), hs.2⟩⟩, fun h => have q := hF.out.e (by simpa using h); ⟨q.1, q.2.elim fun s hs => ⟨s, hs.1.of (HOTH _ (row_ne hs.1 HROW.out (by decide))), hs.2⟩⟩, fun h => have q := hF.out.rf (by simpa using h); ⟨q.1, q.2.of (HOTH _ (row_ne q.2 HROW.out (by decide)))⟩, fun _ h => by simp at h, fun _ => ⟨HCF.out.1, HSET⟩⟩
  · intro d a W hI hall
    obtain ⟨bm, be, bf, cf, x3, x4, x5, x6, x7, x8, x9, x10, x11, rfl, hF⟩ := hI
    simp only [List.length_cons, List.length_nil] at hall
    obtain rfl := hF.out.f0 (hall 0 (by omega))
    obtain rfl := hF.out.f1 (hall 1 (by omega))
    obtain rfl := hF.out.f2 (hall 2 (by omega))
    obtain rfl := hF.out.f3 (hall 3 (by omega))
    obtain rfl := hF.out.f4 (hall 4 (by omega))
    obtain rfl := hF.out.f5 (hall 5 (by omega))
    obtain rfl := hF.out.f6 (hall 6 (by omega))
    obtain rfl := hF.out.f7 (hall 7 (by omega))
    obtain rfl := hF.out.f8 (hall 8 (by omega))
    have HX : Hid (w0.heap.size ≤ bm ∧ w0.heap.size ≤ be ∧ w0.heap.size ≤ bf ∧ w0.heap.size ≤ cf) := ⟨(hF.out.m (hall 1 (by omega))).1, (hF.out.e (hall 3 (by omega))).1, (hF.out.rf (hall 6 (by omega))).1, (hF.out.c9 (hall 9 (by omega))).1⟩
    obtain ⟨M, hM1, hM2⟩ := (hF.out.m (hall 1 (by omega))).2
    obtain ⟨E, hE1, hE2⟩ := (hF.out.e (hall 3 (by omega))).2
    have hF1 := (hF.out.rf (hall 6 (by omega))).2
    have hC1 := (hF.out.c9 (hall 9 (by omega))).2
    have HKP : Hid (Below w0.heap.size w0 W) := hF.out.kp
    have HI : Hid (Ib ps n M E be bf bm cf (fun _ => 0#64) W ∧ Mk ps true M ∧ Mk ps false E) := ⟨⟨hC1, hE1, hF1, hM1, snF_zero _ _ _⟩, hM2, hE2⟩
    clear hF hall hM1 hM2 hE1 hE2 hF1 hC1
    simp only [Act.put, List.setIfInBounds_toArray, List.set_cons_zero, List.set_cons_succ]
    have c0 := (HKP.out.cell (p := ⟨w.heap.size, 0, none⟩) HGL.out).trans HC.out.1
    have c1 := (HKP.out.cell (p := ⟨w.heap.size, 1, none⟩) HGL.out).trans HC.out.2.1
    have c2 := (HKP.out.cell (p := ⟨w.heap.size, 2, none⟩) HGL.out).trans HC.out.2.2
    have he := enters_of Try.func62 (by kernel_rfl) rfl
    go_wp2_with fail
    refine (settle_any 62 #[.pointer (some ⟨cf, 0, none⟩)] he (Ib ps n M E be bf bm cf) (fun k => k = bf) (muW n) (fun p F => amk M true p.2 = true → le (bg E F p.2 0#64) (F p.1.toNat)) t n _ ps w _ HP.out ?_ ?_ (fun _ _ _ h hb => h.next hb) ?_ (fun _ => 0#64) HI.out.1).mono ?_
    · exact HB0.out.trans (HKP.out.mono HB0.out.size)
    · intro k hk; subst hk; exact ⟨Nat.le_trans HB0.out.size HX.out.2.2.1, HI.out.1.f.lt⟩
    · intro F V q hq u hI hbV hsy0
      have hsy := hsy0.below hbV
      obtain ⟨m, e1, e2, hm⟩ := HG.out.hd q hq
      rw [arr1, e1]
      refine (clos34_any t HG.out.t2 n be bf bm cf E M F m hm u ps[q].2 (HG.out.ok q hq) V hsy hI.e hI.f hI.m (hI.c.cell (i := 0) (by omega)) (hI.c.cell (i := 1) (by omega)) (hI.c.cell (i := 2) (by omega)) (hI.c.cell (i := 3) (by omega)) (hI.c.cell (i := 4) (by omega)) hI.c.lt).mono ?_
      rintro _ W' ⟨rfl, hP⟩
      refine ⟨_, rfl, ?_⟩
      cases h1 : amk M true ps[q].2 with
      | false =>
        rw [h1] at hP
        simp only [Bool.false_eq_true, if_false] at hP
        exact ⟨F, hI.next hP, Fm.of hP, fun e => (by cases e), fun _ => ⟨rfl, fun h => (by cases h)⟩⟩
      | true =>
        rw [h1] at hP
        simp only [if_true] at hP
        obtain ⟨hP1, hP2⟩ := hP
        have hsn := snF_put (List.getElem_mem hq) hI.sn h1
        rw [e2] at hsn
        by_cases h2 : F m ||| bg E F ps[q].2 0#64 = F m
        · rw [h2, upd_same] at hP2
          have hb : (true && (F m ||| bg E F ps[q].2 0#64 != F m)) = false := by rw [h2]; simp
          refine ⟨F, hI.put hP1 hP2 hI.sn, hP1, fun e => ?_, fun _ => ⟨rfl, fun _ => ?_⟩⟩
          · rw [hb] at e; cases e
          · simpa using le_of_same h2
        · have hb : (true && (F m ||| bg E F ps[q].2 0#64 != F m)) = true := by simpa using h2
          refine ⟨upd F m (F m ||| bg E F ps[q].2 0#64), hI.put hP1 hP2 hsn, hP1, fun _ => muW_put hm h2, fun e => ?_⟩
          rw [hb] at e; cases e
    · rintro _ w1 ⟨rfl, hFm, F, hI, hC⟩
      have HB1 : Hid (Below w.heap.size w w1 ∧ Below w0.heap.size w0 w1) := by
        have h1 : Below w0.heap.size w0 w1 := HKP.out.trans (hFm.below HKP.out.size fun k hk => by have := HX.out.2.2.1; omega)
        exact ⟨HB0.out.trans (h1.mono HB0.out.size), h1⟩
      have v0 := hI.c.cell (i := 0) (by omega)
      have v1 := hI.c.cell (i := 1) (by omega)
      have v2 := hI.c.cell (i := 2) (by omega)
      have v3 := hI.c.cell (i := 3) (by omega)
      have v4 := hI.c.cell (i := 4) (by omega)
      simp only [fv] at v0 v1 v2 v3 v4
      have hrr := HRR.out.of_block (HB1.out.2.block _ HRR.out.lt)
      have a0 := hrr.cell (i := 0) (by omega)
      have z0 := hrr.frozen 0
      have a1 := hrr.cell (i := 1) (by omega)
      have z1 := hrr.frozen 1
      have a2 := hrr.cell (i := 2) (by omega)
      have z2 := hrr.frozen 2
      have a3 := hrr.cell (i := 3) (by omega)
      have z3 := hrr.frozen 3
      have a4 := hrr.cell (i := 4) (by omega)
      have z4 := hrr.frozen 4
      have HRW : Hid (w1.rowIs (w.heap.size + 1) 52 5 (fun _ => .slice none 0 0)) := hrr
      have HII : Hid (Ib ps n M E be bf bm cf F w1 ∧ Fi ps M E F) := ⟨hI, fun p hp => hC p hp, hI.sn⟩
      clear hI hC hFm hrr c0 c1 c2
      go_wp2_with fail
      obtain ⟨w2, HW2⟩ : ∃ w2, Hid ((((((w1.setCell ⟨w.heap.size + 1, 0, none⟩ (.slice (some ⟨be, 0, none⟩) n n)).setCell ⟨w.heap.size + 1, 1, none⟩ (.slice (some ⟨bf, 0, none⟩) n n)).setCell ⟨w.heap.size + 1, 2, none⟩ (.slice none 0 0)).setCell ⟨w.heap.size + 1, 3, none⟩ (.slice none 0 0)).setCell ⟨w.heap.size + 1, 4, none⟩ (.slice (some ⟨bm, 0, none⟩) n n)) = w2) := ⟨_, (rfl : _ = _)⟩
      rw [HW2.out]
      have HSET := row_five HRW.out (.slice (some ⟨be, 0, none⟩) n n) (.slice (some ⟨bf, 0, none⟩) n n) (.slice none 0 0) (.slice none 0 0) (.slice (some ⟨bm, 0, none⟩) n n)
      have HOTH := five_other w1 (w.heap.size + 1) (.slice (some ⟨be, 0, none⟩) n n) (.slice (some ⟨bf, 0, none⟩) n n) (.slice none 0 0) (.slice none 0 0) (.slice (some ⟨bm, 0, none⟩) n n)
      have HBL : Below w.heap.size w w2 := by
        rw [← HW2.out]
        exact ((((HB1.out.1.setCell (by simp) _).setCell (by simp) _).setCell (by simp) _).setCell (by simp) _).setCell (by simp) _
      rw [HW2.out] at HSET HOTH
      have HFIN : Hid (Bgs w n ps be bf bm w2) := by
        have hx := HX.out
        have hs := HSW.out
        exact ⟨by omega, by omega, by omega, HBL, E, F, M, HII.out.1.e.of (HOTH _ (row_ne HII.out.1.e HRW.out (by decide))), HII.out.1.f.of (HOTH _ (row_ne HII.out.1.f HRW.out (by decide))), HII.out.1.m.of (HOTH _ (row_ne HII.out.1.m HRW.out (by decide))), HI.out.2.2, HI.out.2.1, HII.out.2⟩
      have v0 := HSET.cell (i := 0) (by omega)
      have v1 := HSET.cell (i := 1) (by omega)
      have v2 := HSET.cell (i := 2) (by omega)
      have v3 := HSET.cell (i := 3) (by omega)
      have v4 := HSET.cell (i := 4) (by omega)
      simp only [fv] at v0 v1 v2 v3 v4
      clear HSET HOTH HBL
      exact bodyPost_ret (v := .agg #[(.slice (some ⟨be, 0, none⟩) n n), (.slice (some ⟨bf, 0, none⟩) n n), (.slice none 0 0), (.slice none 0 0), (.slice (some ⟨bm, 0, none⟩) n n)]) (by simp [results, Try.results40, go_sem, v0, v1, v2, v3, v4]) rfl ⟨_, _, _, rfl, HFIN.out⟩
end Go.Proofs.Ytpbnnmfjahckmaa
