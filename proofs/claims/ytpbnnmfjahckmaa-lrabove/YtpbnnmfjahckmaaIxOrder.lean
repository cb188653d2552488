/-
  The contracts of cmp.Or, items.order and of slices.SortFunc at items.
-/
import Derived.Test.YtpbnnmfjahckmaaShelf
import Derived.Test.YtpbnnmfjahckmaaIxAdd
import Derived.Deep.Draws
import Derived.Sort.Grow
namespace Go.Proofs.Ytpbnnmfjahckmaa
open Go.RowKit
open Cg
open Go.Sort (grow putRow mapBlock putCells onCells PermIn SortedIn flatK get_flatK size_flatK HoldsK putRowK)

/-- The first that is not 0. -/
def orL : List Int → Int
  | [] => 0
  | a :: l => if a = 0 then orL l else a
theorem orL_at {l : List Int} {k : Nat} (hk : k < l.length) (h : ∀ z ∈ l.take k, z = 0) (hn : l[k] ≠ 0) : orL l = l[k] := by
  induction l generalizing k with
  | nil => simp at hk
  | cons a l ih =>
    cases k with
    | zero =>
      have hn' : a ≠ 0 := hn
      unfold orL
      rw [if_neg hn']; rfl
    | succ k =>
      have h0 : a = 0 := h a (by simp)
      unfold orL
      rw [if_pos h0]
      exact ih (by simpa using hk) (fun z hz => h z (by simp [hz])) hn
theorem orL_zero {l : List Int} (h : ∀ z ∈ l, z = 0) : orL l = 0 := by
  induction l with
  | nil => rfl
  | cons a l ih => unfold orL; rw [if_pos (h a (by simp))]; exact ih fun z hz => h z (by simp [hz])
set_option maxHeartbeats 800000 in
set_option maxRecDepth 20000 in
theorem or_any (w : World) (v : Value) (l : List Int) (h : Ints w v l) : Calls Try.prog 100 #[v] w fun e w' => e = .returned (.int .i64 (orL l)) ∧ w' = w := by
  obtain ⟨ao, cp, rfl, hm, hcs⟩ := h
  obtain ⟨r, HR⟩ : ∃ r, Hid (orL l = r) := ⟨_, (rfl : orL l = _)⟩
  rw [HR.out]
  go_enter Try.func100, Try.ntmps100
  go_wp2_with fail
  go_loopw [8] (fun i wr => ∃ k : Nat, k ≤ l.length ∧ i = .int .i64 (k : Int) ∧ Hid (∀ z ∈ l.take k, z = 0) ∧ Hid (wr = w)) (fun i _ => l.length - (intOf i).toNat)
  case atStart => exact ⟨0, by omega, rfl, (fun z hz => by simp at hz : ∀ z ∈ l.take 0, z = 0), (rfl : _ = _)⟩
  case round =>
    obtain ⟨k, hk, rfl, HA, HW⟩ := hrel
    obtain rfl := HW.out
    by_cases hlt : k < l.length
    · obtain ⟨b, o, rfl, hb, hc⟩ := hcs.resolve_left (by intro e; subst e; simp at hlt)
      have c0 := hc k hlt
      have HO : Hid (l[k] ≠ 0 → orL l = l[k]) := orL_at hlt HA.out
      have HN : Hid (l[k] = 0 → ∀ z ∈ l.take (k + 1), z = 0) := fun e z hz => by
        rw [List.take_succ_eq_append_getElem hlt] at hz
        rcases List.mem_append.1 hz with h1 | h1
        · exact HA.out z h1
        · simp at h1; rw [h1]; exact e
      generalize l[k] = x at c0 HO HN
      have hk1 : (k : Int) < (l.length : Int) := by omega
      clear hcs hc
      by_cases hx : x = 0
      · have b0 : (x != 0) = false := by simp [hx]
        have HN2 : Hid (∀ z ∈ l.take (k + 1), z = 0) := HN.out hx
        clear hx HO HN
        go_wp2_with fail
        go_roundw
        case rel => exact ⟨k + 1, by omega, by go_num, HN2, by first | exact HW | exact (trivial : True)⟩
        case measure => simp [intOf]; omega
      · have b0 : (x != 0) = true := by simp [hx]
        obtain rfl : r = x := by rw [← HR.out]; exact HO.out hx
        clear hx HO HN
        go_wp2_with fail
        go_ret
        exact ⟨by simp, rfl⟩
    · obtain rfl : r = 0 := by rw [← HR.out]; exact orL_zero (fun z hz => HA.out z (by rw [List.take_of_length_le (by omega)]; exact hz))
      clear hcs
      go_wp2_with fail
      go_ret
      exact ⟨by simp, rfl⟩
theorem compare_any (x y : Int) (w : World) : Calls Try.prog 101 #[.int .i64 x, .int .i64 y] w fun e w' => e = .returned (.int .i64 (Lib.compareInt x y)) ∧ w' = w :=
  AnyG.cmp_Compare_int Try.cmpInt x y w
/-- Some draws, some new blocks. -/
def Gr (w W : World) : Prop := ∃ q os, W = grow (w.drewN q) os
theorem Gr.alloc {w W : World} (h : Gr w W) (o : Obj) : Gr w (W.alloc o) := by
  obtain ⟨q, os, rfl⟩ := h
  exact ⟨q, os ++ #[o], by rw [Sort.alloc_eq_grow, Sort.grow_grow]⟩
theorem Gr.drew {w W : World} (h : Gr w W) : Gr w W.drew := by
  obtain ⟨q, os, rfl⟩ := h
  exact ⟨q + 1, os, rfl⟩
theorem Gr.trans {a b c : World} (h : Gr a b) (k : Gr b c) : Gr a c := by
  obtain ⟨q, os, rfl⟩ := h
  obtain ⟨r, os', rfl⟩ := k
  refine ⟨q + r, os ++ os', ?_⟩
  have e : ∀ r, (grow (a.drewN q) os).drewN r = grow (a.drewN (q + r)) os := fun r => by
    induction r with
    | zero => rfl
    | succ r ih => show ((grow (a.drewN q) os).drewN r).drew = _; rw [ih]; rfl
  rw [e, Sort.grow_grow]
theorem Gr.refl (w : World) : Gr w w := ⟨0, #[], by simp; rfl⟩
theorem ints3 (W : World) (a b c : Int) : Ints (W.alloc (Obj.cells #[.int .i64 a, .int .i64 b, .int .i64 c] 3)) (.slice (some ⟨W.heap.size, 0, none⟩) 3 3) [a, b, c] :=
  ⟨_, _, rfl, by simp, Or.inr ⟨_, _, rfl, by simp, fun i hi => by
    have : i = 0 ∨ i = 1 ∨ i = 2 := by simp at hi; omega
    rcases this with rfl | rfl | rfl <;> simp⟩⟩
/-- The order of items, as the program tells it. -/
def cmpI (x y : It) : Int := orL [Lib.compareInt (x.1 : Int) (y.1 : Int), Lib.compareInt (x.2.1 : Int) (y.2.1 : Int), Lib.compareInt (x.2.2 : Int) (y.2.2 : Int)]
structure RO (w1 : World) (p : Nat) (x y : It) (k0 k1 k2 kk : Int) (g : Nat) (d : Nat → Bool) (x4 x5 x6 x7 x8 x9 x10 x11 x12 x13 x14 x15 x16 x17 x18 x19 x20 x21 : Value) (W : World) : Prop where
  f0 : d 0 = true → x5 = (.pointer (some ⟨p, 0, none⟩))
  f1 : d 1 = true → x6 = (.int .i64 (x.1 : Int))
  f2 : d 2 = true → x7 = (.pointer (some ⟨p + 1, 0, none⟩))
  f3 : d 3 = true → x8 = (.int .i64 (y.1 : Int))
  f4 : d 4 = true → x9 = (.int .i64 k0)
  f5 : d 5 = true → x10 = (.pointer (some ⟨p, 1, none⟩))
  f6 : d 6 = true → x11 = (.int .i64 (x.2.1 : Int))
  f7 : d 7 = true → x12 = (.pointer (some ⟨p + 1, 1, none⟩))
  f8 : d 8 = true → x13 = (.int .i64 (y.2.1 : Int))
  f9 : d 9 = true → x14 = (.int .i64 k1)
  f10 : d 10 = true → x15 = (.pointer (some ⟨p, 2, none⟩))
  f11 : d 11 = true → x16 = (.int .i64 (x.2.2 : Int))
  f12 : d 12 = true → x17 = (.pointer (some ⟨p + 1, 2, none⟩))
  f13 : d 13 = true → x18 = (.int .i64 (y.2.2 : Int))
  f14 : d 14 = true → x19 = (.int .i64 k2)
  f15 : d 15 = true → x20 = (.slice (some ⟨g, 0, none⟩) 3 3)
  f16 : d 16 = true → x21 = (.int .i64 kk)
  f17 : d 17 = true → x4 = (.int .i64 kk)
  o16_15 : d 16 = true → d 15 = true
  ia : I3b p x W
  ib : I3b (p + 1) y W
  gr : Gr w1 W
  gg : d 15 = true → Ints W (.slice (some ⟨g, 0, none⟩) 3 3) [k0, k1, k2]
set_option maxHeartbeats 16000000 in
set_option maxRecDepth 20000 in
theorem order_any (x y : It) (w : World) : Calls Try.prog 95 #[.agg #[.int .i64 (x.1 : Int), .int .i64 (x.2.1 : Int), .int .i64 (x.2.2 : Int)], .agg #[.int .i64 (y.1 : Int), .int .i64 (y.2.1 : Int), .int .i64 (y.2.2 : Int)]] w fun e w' => e = .returned (.int .i64 (cmpI x y)) ∧ ∃ q os, w' = grow (w.drewN q) os := by
  obtain ⟨kk, HKK⟩ : ∃ z, Hid (cmpI x y = z) := ⟨_, (rfl : cmpI x y = _)⟩
  rw [HKK.out]
  unfold cmpI at HKK
  obtain ⟨k0, HK0⟩ : ∃ z, Hid (Lib.compareInt (x.1 : Int) (y.1 : Int) = z) := ⟨_, (rfl : _ = _)⟩
  obtain ⟨k1, HK1⟩ : ∃ z, Hid (Lib.compareInt (x.2.1 : Int) (y.2.1 : Int) = z) := ⟨_, (rfl : _ = _)⟩
  obtain ⟨k2, HK2⟩ : ∃ z, Hid (Lib.compareInt (x.2.2 : Int) (y.2.2 : Int) = z) := ⟨_, (rfl : _ = _)⟩
  have HC0 : Hid (∀ W, Calls Try.prog 101 #[.int .i64 (x.1 : Int), .int .i64 (y.1 : Int)] W fun e w' => e = .returned (.int .i64 k0) ∧ w' = W) := fun W => by have := compare_any (x.1 : Int) (y.1 : Int) W; rw [HK0.out] at this; exact this
  have HC1 : Hid (∀ W, Calls Try.prog 101 #[.int .i64 (x.2.1 : Int), .int .i64 (y.2.1 : Int)] W fun e w' => e = .returned (.int .i64 k1) ∧ w' = W) := fun W => by have := compare_any (x.2.1 : Int) (y.2.1 : Int) W; rw [HK1.out] at this; exact this
  have HC2 : Hid (∀ W, Calls Try.prog 101 #[.int .i64 (x.2.2 : Int), .int .i64 (y.2.2 : Int)] W fun e w' => e = .returned (.int .i64 k2) ∧ w' = W) := fun W => by have := compare_any (x.2.2 : Int) (y.2.2 : Int) W; rw [HK2.out] at this; exact this
  rw [HK0.out, HK1.out, HK2.out] at HKK
  have HOR : Hid (∀ W g, Ints W (.slice (some ⟨g, 0, none⟩) 3 3) [k0, k1, k2] → Calls Try.prog 100 #[.slice (some ⟨g, 0, none⟩) 3 3] W fun e w' => e = .returned (.int .i64 kk) ∧ w' = W) := fun W g h => by have := or_any W _ _ h; rw [HKK.out] at this; exact this
  have hs1 : (w.alloc (Obj.cells #[.int .i64 (x.1 : Int), .int .i64 (x.2.1 : Int), .int .i64 (x.2.2 : Int)] 145)).heap.size = w.heap.size + 1 := by simp
  have HIA : Hid (I3b w.heap.size x ((w.alloc (Obj.cells #[.int .i64 (x.1 : Int), .int .i64 (x.2.1 : Int), .int .i64 (x.2.2 : Int)] 145)).alloc (Obj.cells #[.int .i64 (y.1 : Int), .int .i64 (y.2.1 : Int), .int .i64 (y.2.2 : Int)] 145))) := (I3b.box w x).next (below_alloc _ _)
  have HIB := I3b.box (w.alloc (Obj.cells #[.int .i64 (x.1 : Int), .int .i64 (x.2.1 : Int), .int .i64 (x.2.2 : Int)] 145)) y
  rw [hs1] at HIB
  have HIB2 : Hid (I3b (w.heap.size + 1) y ((w.alloc (Obj.cells #[.int .i64 (x.1 : Int), .int .i64 (x.2.1 : Int), .int .i64 (x.2.2 : Int)] 145)).alloc (Obj.cells #[.int .i64 (y.1 : Int), .int .i64 (y.2.1 : Int), .int .i64 (y.2.2 : Int)] 145))) := HIB
  have HGR : Hid (Gr w ((w.alloc (Obj.cells #[.int .i64 (x.1 : Int), .int .i64 (x.2.1 : Int), .int .i64 (x.2.2 : Int)] 145)).alloc (Obj.cells #[.int .i64 (y.1 : Int), .int .i64 (y.2.1 : Int), .int .i64 (y.2.2 : Int)] 145))) := ((Gr.refl w).alloc _).alloc _
  clear HIB hs1 HK0 HK1 HK2 HKK
  go_enter Try.func95, Try.ntmps95
  go_wp2_with fail
  generalize ((w.alloc (Obj.cells #[.int .i64 (x.1 : Int), .int .i64 (x.2.1 : Int), .int .i64 (x.2.2 : Int)] 145)).alloc (Obj.cells #[.int .i64 (y.1 : Int), .int .i64 (y.2.1 : Int), .int .i64 (y.2.2 : Int)] 145)) = w1 at HIA HIB2 HGR ⊢
  obtain ⟨p, HP⟩ : ∃ z, Hid (w.heap.size = z) := ⟨_, (rfl : w.heap.size = _)⟩
  rw [HP.out] at HIA HIB2 ⊢
  refine wp_region_free mixed (fun a0 d a W => ∃ (g : Nat) (x4 x5 x6 x7 x8 x9 x10 x11 x12 x13 x14 x15 x16 x17 x18 x19 x20 x21 : Value), a = ((((((((((((((((((a0.put (some 4) x4).put (some 5) x5).put (some 6) x6).put (some 7) x7).put (some 8) x8).put (some 9) x9).put (some 10) x10).put (some 11) x11).put (some 12) x12).put (some 13) x13).put (some 14) x14).put (some 15) x15).put (some 16) x16).put (some 17) x17).put (some 18) x18).put (some 19) x19).put (some 20) x20).put (some 21) x21) ∧ Hid (RO w1 p x y k0 k1 k2 kk g d x4 x5 x6 x7 x8 x9 x10 x11 x12 x13 x14 x15 x16 x17 x18 x19 x20 x21 W)) (by kernel_rfl) ⟨0, (.int .i64 0), undef, undef, undef, undef, undef, undef, undef, undef, undef, undef, undef, undef, undef, undef, undef, undef, undef, by simp only [Act.put, List.setIfInBounds_toArray, List.set_cons_zero, List.set_cons_succ], ?_⟩ ?_ ?_
  · exact ⟨fun h => no_way h, fun h => no_way h, fun h => no_way h, fun h => no_way h, fun h => no_way h, fun h => no_way h, fun h => no_way h, fun h => no_way h, fun h => no_way h, fun h => no_way h, fun h => no_way h, fun h => no_way h, fun h => no_way h, fun h => no_way h, fun h => no_way h, fun h => no_way h, fun h => no_way h, fun h => no_way h, fun h => no_way h, HIA.out.next (Below.refl _ _).drew, HIB2.out.next (Below.refl _ _).drew, (Gr.refl w1).drew, fun h => no_way h⟩
  · simp only [StepAll, and_true]
    refine ⟨?_, ?_, ?_, ?_, ?_, ?_, ?_, ?_, ?_, ?_, ?_, ?_, ?_, ?_, ?_, ?_, ?_, ?_⟩
    · intro d a W hI hd hdep
      obtain ⟨g, x4, x5, x6, x7, x8, x9, x10, x11, x12, x13, x14, x15, x16, x17, x18, x19, x20, x21, rfl, hF⟩ := hI
      clear hdep hd
      intro K hK
      simp only [Act.put, List.setIfInBounds_toArray, List.set_cons_zero, List.set_cons_succ]
      go_simp
      refine hK.out _ _ ⟨g, x4, (.pointer (some ⟨p, 0, none⟩)), x6, x7, x8, x9, x10, x11, x12, x13, x14, x15, x16, x17, x18, x19, x20, x21, by simp only [Act.put, List.setIfInBounds_toArray, List.set_cons_zero, List.set_cons_succ], ?_⟩
      exact ⟨fun _ => rfl, fun h => hF.out.f1 (by simpa using h), fun h => hF.out.f2 (by simpa using h), fun h => hF.out.f3 (by simpa using h), fun h => hF.out.f4 (by simpa using h), fun h => hF.out.f5 (by simpa using h), fun h => hF.out.f6 (by simpa using h), fun h => hF.out.f7 (by simpa using h), fun h => hF.out.f8 (by simpa using h), fun h => hF.out.f9 (by simpa using h), fun h => hF.out.f10 (by simpa using h), fun h => hF.out.f11 (by simpa using h), fun h => hF.out.f12 (by simpa using h), fun h => hF.out.f13 (by simpa using h), fun h => hF.out.f14 (by simpa using h), fun h => hF.out.f15 (by simpa using h), fun h => hF.out.f16 (by simpa using h), fun h => hF.out.f17 (by simpa using h), fun h => by have := hF.out.o16_15 (by simpa using h); simpa using this, hF.out.ia, hF.out.ib, hF.out.gr, fun h => hF.out.gg (by simpa using h)⟩
    · intro d a W hI hd hdep
      obtain ⟨g, x4, x5, x6, x7, x8, x9, x10, x11, x12, x13, x14, x15, x16, x17, x18, x19, x20, x21, rfl, hF⟩ := hI
      have hd0 : d 0 = true := dep_of hdep 0 (by kernel_rfl)
      obtain rfl := hF.out.f0 hd0
      have cc := hF.out.ia.c0
      clear hdep hd hd0
      intro K hK
      simp only [Act.put, List.setIfInBounds_toArray, List.set_cons_zero, List.set_cons_succ]
      go_simp
      refine hK.out _ _ ⟨g, x4, (.pointer (some ⟨p, 0, none⟩)), (.int .i64 (x.1 : Int)), x7, x8, x9, x10, x11, x12, x13, x14, x15, x16, x17, x18, x19, x20, x21, by simp only [Act.put, List.setIfInBounds_toArray, List.set_cons_zero, List.set_cons_succ], ?_⟩
      exact ⟨fun h => hF.out.f0 (by simpa using h), fun _ => rfl, fun h => hF.out.f2 (by simpa using h), fun h => hF.out.f3 (by simpa using h), fun h => hF.out.f4 (by simpa using h), fun h => hF.out.f5 (by simpa using h), fun h => hF.out.f6 (by simpa using h), fun h => hF.out.f7 (by simpa using h), fun h => hF.out.f8 (by simpa using h), fun h => hF.out.f9 (by simpa using h), fun h => hF.out.f10 (by simpa using h), fun h => hF.out.f11 (by simpa using h), fun h => hF.out.f12 (by simpa using h), fun h => hF.out.f13 (by simpa using h), fun h => hF.out.f14 (by simpa using h), fun h => hF.out.f15 (by simpa using h), fun h => hF.out.f16 (by simpa using h), fun h => hF.out.f17 (by simpa using h), fun h => by have := hF.out.o16_15 (by simpa using h); simpa using this, hF.out.ia, hF.out.ib, hF.out.gr, fun h => hF.out.gg (by simpa using h)⟩
    · intro d a W hI hd hdep
      obtain ⟨g, x4, x5, x6, x7, x8, x9, x10, x11, x12, x13, x14, x15, x16, x17, x18, x19, x20, x21, rfl, hF⟩ := hI
      clear hdep hd
      intro K hK
      simp only [Act.put, List.setIfInBounds_toArray, List.set_cons_zero, List.set_cons_succ]
      go_simp
      refine hK.out _ _ ⟨g, x4, x5, x6, (.pointer (some ⟨p + 1, 0, none⟩)), x8, x9, x10, x11, x12, x13, x14, x15, x16, x17, x18, x19, x20, x21, by simp only [Act.put, List.setIfInBounds_toArray, List.set_cons_zero, List.set_cons_succ], ?_⟩
      exact ⟨fun h => hF.out.f0 (by simpa using h), fun h => hF.out.f1 (by simpa using h), fun _ => rfl, fun h => hF.out.f3 (by simpa using h), fun h => hF.out.f4 (by simpa using h), fun h => hF.out.f5 (by simpa using h), fun h => hF.out.f6 (by simpa using h), fun h => hF.out.f7 (by simpa using h), fun h => hF.out.f8 (by simpa using h), fun h => hF.out.f9 (by simpa using h), fun h => hF.out.f10 (by simpa using h), fun h => hF.out.f11 (by simpa using h), fun h => hF.out.f12 (by simpa using h), fun h => hF.out.f13 (by simpa using h), fun h => hF.out.f14 (by simpa using h), fun h => hF.out.f15 (by simpa using h), fun h => hF.out.f16 (by simpa using h), fun h => hF.out.f17 (by simpa using h), fun h => by have := hF.out.o16_15 (by simpa using h); simpa using this, hF.out.ia, hF.out.ib, hF.out.gr, fun h => hF.out.gg (by simpa using h)⟩
    · intro d a W hI hd hdep
      obtain ⟨g, x4, x5, x6, x7, x8, x9, x10, x11, x12, x13, x14, x15, x16, x17, x18, x19, x20, x21, rfl, hF⟩ := hI
      have hd2 : d 2 = true := dep_of hdep 2 (by kernel_rfl)
      obtain rfl := hF.out.f2 hd2
      have cc := hF.out.ib.c0
      clear hdep hd hd2
      intro K hK
      simp only [Act.put, List.setIfInBounds_toArray, List.set_cons_zero, List.set_cons_succ]
      go_simp
      refine hK.out _ _ ⟨g, x4, x5, x6, (.pointer (some ⟨p + 1, 0, none⟩)), (.int .i64 (y.1 : Int)), x9, x10, x11, x12, x13, x14, x15, x16, x17, x18, x19, x20, x21, by simp only [Act.put, List.setIfInBounds_toArray, List.set_cons_zero, List.set_cons_succ], ?_⟩
      exact ⟨fun h => hF.out.f0 (by simpa using h), fun h => hF.out.f1 (by simpa using h), fun h => hF.out.f2 (by simpa using h), fun _ => rfl, fun h => hF.out.f4 (by simpa using h), fun h => hF.out.f5 (by simpa using h), fun h => hF.out.f6 (by simpa using h), fun h => hF.out.f7 (by simpa using h), fun h => hF.out.f8 (by simpa using h), fun h => hF.out.f9 (by simpa using h), fun h => hF.out.f10 (by simpa using h), fun h => hF.out.f11 (by simpa using h), fun h => hF.out.f12 (by simpa using h), fun h => hF.out.f13 (by simpa using h), fun h => hF.out.f14 (by simpa using h), fun h => hF.out.f15 (by simpa using h), fun h => hF.out.f16 (by simpa using h), fun h => hF.out.f17 (by simpa using h), fun h => by have := hF.out.o16_15 (by simpa using h); simpa using this, hF.out.ia, hF.out.ib, hF.out.gr, fun h => hF.out.gg (by simpa using h)⟩
    · intro d a W hI hd hdep
      obtain ⟨g, x4, x5, x6, x7, x8, x9, x10, x11, x12, x13, x14, x15, x16, x17, x18, x19, x20, x21, rfl, hF⟩ := hI
      have hd1 : d 1 = true := dep_of hdep 1 (by kernel_rfl)
      have hd3 : d 3 = true := dep_of hdep 3 (by kernel_rfl)
      obtain rfl := hF.out.f1 hd1
      obtain rfl := hF.out.f3 hd3
      clear hdep hd hd1 hd3
      intro K hK
      simp only [Act.put, List.setIfInBounds_toArray, List.set_cons_zero, List.set_cons_succ]
      go_simp
      refine (HC0.out W).mono ?_
      rintro _ W2 ⟨rfl, rfl⟩
      refine hK.out _ _ ⟨g, x4, x5, (.int .i64 (x.1 : Int)), x7, (.int .i64 (y.1 : Int)), (.int .i64 k0), x10, x11, x12, x13, x14, x15, x16, x17, x18, x19, x20, x21, by simp only [Act.put, List.setIfInBounds_toArray, List.set_cons_zero, List.set_cons_succ], ?_⟩
      exact ⟨fun h => hF.out.f0 (by simpa using h), fun h => hF.out.f1 (by simpa using h), fun h => hF.out.f2 (by simpa using h), fun h => hF.out.f3 (by simpa using h), fun _ => rfl, fun h => hF.out.f5 (by simpa using h), fun h => hF.out.f6 (by simpa using h), fun h => hF.out.f7 (by simpa using h), fun h => hF.out.f8 (by simpa using h), fun h => hF.out.f9 (by simpa using h), fun h => hF.out.f10 (by simpa using h), fun h => hF.out.f11 (by simpa using h), fun h => hF.out.f12 (by simpa using h), fun h => hF.out.f13 (by simpa using h), fun h => hF.out.f14 (by simpa using h), fun h => hF.out.f15 (by simpa using h), fun h => hF.out.f16 (by simpa using h), fun h => hF.out.f17 (by simpa using h), fun h => by have := hF.out.o16_15 (by simpa using h); simpa using this, hF.out.ia, hF.out.ib, hF.out.gr, fun h => hF.out.gg (by simpa using h)⟩
    · intro d a W hI hd hdep
      obtain ⟨g, x4, x5, x6, x7, x8, x9, x10, x11, x12, x13, x14, x15, x16, x17, x18, x19, x20, x21, rfl, hF⟩ := hI
      clear hdep hd
      intro K hK
      simp only [Act.put, List.setIfInBounds_toArray, List.set_cons_zero, List.set_cons_succ]
      go_simp
      refine hK.out _ _ ⟨g, x4, x5, x6, x7, x8, x9, (.pointer (some ⟨p, 1, none⟩)), x11, x12, x13, x14, x15, x16, x17, x18, x19, x20, x21, by simp only [Act.put, List.setIfInBounds_toArray, List.set_cons_zero, List.set_cons_succ], ?_⟩
      exact ⟨fun h => hF.out.f0 (by simpa using h), fun h => hF.out.f1 (by simpa using h), fun h => hF.out.f2 (by simpa using h), fun h => hF.out.f3 (by simpa using h), fun h => hF.out.f4 (by simpa using h), fun _ => rfl, fun h => hF.out.f6 (by simpa using h), fun h => hF.out.f7 (by simpa using h), fun h => hF.out.f8 (by simpa using h), fun h => hF.out.f9 (by simpa using h), fun h => hF.out.f10 (by simpa using h), fun h => hF.out.f11 (by simpa using h), fun h => hF.out.f12 (by simpa using h), fun h => hF.out.f13 (by simpa using h), fun h => hF.out.f14 (by simpa using h), fun h => hF.out.f15 (by simpa using h), fun h => hF.out.f16 (by simpa using h), fun h => hF.out.f17 (by simpa using h), fun h => by have := hF.out.o16_15 (by simpa using h); simpa using this, hF.out.ia, hF.out.ib, hF.out.gr, fun h => hF.out.gg (by simpa using h)⟩
    · intro d a W hI hd hdep
      obtain ⟨g, x4, x5, x6, x7, x8, x9, x10, x11, x12, x13, x14, x15, x16, x17, x18, x19, x20, x21, rfl, hF⟩ := hI
      have hd5 : d 5 = true := dep_of hdep 5 (by kernel_rfl)
      obtain rfl := hF.out.f5 hd5
      have cc := hF.out.ia.c1
      clear hdep hd hd5
      intro K hK
      simp only [Act.put, List.setIfInBounds_toArray, List.set_cons_zero, List.set_cons_succ]
      go_simp
      refine hK.out _ _ ⟨g, x4, x5, x6, x7, x8, x9, (.pointer (some ⟨p, 1, none⟩)), (.int .i64 (x.2.1 : Int)), x12, x13, x14, x15, x16, x17, x18, x19, x20, x21, by simp only [Act.put, List.setIfInBounds_toArray, List.set_cons_zero, List.set_cons_succ], ?_⟩
      exact ⟨fun h => hF.out.f0 (by simpa using h), fun h => hF.out.f1 (by simpa using h), fun h => hF.out.f2 (by simpa using h), fun h => hF.out.f3 (by simpa using h), fun h => hF.out.f4 (by simpa using h), fun h => hF.out.f5 (by simpa using h), fun _ => rfl, fun h => hF.out.f7 (by simpa using h), fun h => hF.out.f8 (by simpa using h), fun h => hF.out.f9 (by simpa using h), fun h => hF.out.f10 (by simpa using h), fun h => hF.out.f11 (by simpa using h), fun h => hF.out.f12 (by simpa using h), fun h => hF.out.f13 (by simpa using h), fun h => hF.out.f14 (by simpa using h), fun h => hF.out.f15 (by simpa using h), fun h => hF.out.f16 (by simpa using h), fun h => hF.out.f17 (by simpa using h), fun h => by have := hF.out.o16_15 (by simpa using h); simpa using this, hF.out.ia, hF.out.ib, hF.out.gr, fun h => hF.out.gg (by simpa using h)⟩
    · intro d a W hI hd hdep
      obtain ⟨g, x4, x5, x6, x7, x8, x9, x10, x11, x12, x13, x14, x15, x16, x17, x18, x19, x20, x21, rfl, hF⟩ := hI
      clear hdep hd
      intro K hK
      simp only [Act.put, List.setIfInBounds_toArray, List.set_cons_zero, List.set_cons_succ]
      go_simp
      refine hK.out _ _ ⟨g, x4, x5, x6, x7, x8, x9, x10, x11, (.pointer (some ⟨p + 1, 1, none⟩)), x13, x14, x15, x16, x17, x18, x19, x20, x21, by simp only [Act.put, List.setIfInBounds_toArray, List.set_cons_zero, List.set_cons_succ], ?_⟩
      exact ⟨fun h => hF.out.f0 (by simpa using h), fun h => hF.out.f1 (by simpa using h), fun h => hF.out.f2 (by simpa using h), fun h => hF.out.f3 (by simpa using h), fun h => hF.out.f4 (by simpa using h), fun h => hF.out.f5 (by simpa using h), fun h => hF.out.f6 (by simpa using h), fun _ => rfl, fun h => hF.out.f8 (by simpa using h), fun h => hF.out.f9 (by simpa using h), fun h => hF.out.f10 (by simpa using h), fun h => hF.out.f11 (by simpa using h), fun h => hF.out.f12 (by simpa using h), fun h => hF.out.f13 (by simpa using h), fun h => hF.out.f14 (by simpa using h), fun h => hF.out.f15 (by simpa using h), fun h => hF.out.f16 (by simpa using h), fun h => hF.out.f17 (by simpa using h), fun h => by have := hF.out.o16_15 (by simpa using h); simpa using this, hF.out.ia, hF.out.ib, hF.out.gr, fun h => hF.out.gg (by simpa using h)⟩
    · intro d a W hI hd hdep
      obtain ⟨g, x4, x5, x6, x7, x8, x9, x10, x11, x12, x13, x14, x15, x16, x17, x18, x19, x20, x21, rfl, hF⟩ := hI
      have hd7 : d 7 = true := dep_of hdep 7 (by kernel_rfl)
      obtain rfl := hF.out.f7 hd7
      have cc := hF.out.ib.c1
      clear hdep hd hd7
      intro K hK
      simp only [Act.put, List.setIfInBounds_toArray, List.set_cons_zero, List.set_cons_succ]
      go_simp
      refine hK.out _ _ ⟨g, x4, x5, x6, x7, x8, x9, x10, x11, (.pointer (some ⟨p + 1, 1, none⟩)), (.int .i64 (y.2.1 : Int)), x14, x15, x16, x17, x18, x19, x20, x21, by simp only [Act.put, List.setIfInBounds_toArray, List.set_cons_zero, List.set_cons_succ], ?_⟩
      exact ⟨fun h => hF.out.f0 (by simpa using h), fun h => hF.out.f1 (by simpa using h), fun h => hF.out.f2 (by simpa using h), fun h => hF.out.f3 (by simpa using h), fun h => hF.out.f4 (by simpa using h), fun h => hF.out.f5 (by simpa using h), fun h => hF.out.f6 (by simpa using h), fun h => hF.out.f7 (by simpa using h), fun _ => rfl, fun h => hF.out.f9 (by simpa using h), fun h => hF.out.f10 (by simpa using h), fun h => hF.out.f11 (by simpa using h), fun h => hF.out.f12 (by simpa using h), fun h => hF.out.f13 (by simpa using h), fun h => hF.out.f14 (by simpa using h), fun h => hF.out.f15 (by simpa using h), fun h => hF.out.f16 (by simpa using h), fun h => hF.out.f17 (by simpa using h), fun h => by have := hF.out.o16_15 (by simpa using h); simpa using this, hF.out.ia, hF.out.ib, hF.out.gr, fun h => hF.out.gg (by simpa using h)⟩
    · intro d a W hI hd hdep
      obtain ⟨g, x4, x5, x6, x7, x8, x9, x10, x11, x12, x13, x14, x15, x16, x17, x18, x19, x20, x21, rfl, hF⟩ := hI
      have hd6 : d 6 = true := dep_of hdep 6 (by kernel_rfl)
      have hd8 : d 8 = true := dep_of hdep 8 (by kernel_rfl)
      obtain rfl := hF.out.f6 hd6
      obtain rfl := hF.out.f8 hd8
      clear hdep hd hd6 hd8
      intro K hK
      simp only [Act.put, List.setIfInBounds_toArray, List.set_cons_zero, List.set_cons_succ]
      go_simp
      refine (HC1.out W).mono ?_
      rintro _ W2 ⟨rfl, rfl⟩
      refine hK.out _ _ ⟨g, x4, x5, x6, x7, x8, x9, x10, (.int .i64 (x.2.1 : Int)), x12, (.int .i64 (y.2.1 : Int)), (.int .i64 k1), x15, x16, x17, x18, x19, x20, x21, by simp only [Act.put, List.setIfInBounds_toArray, List.set_cons_zero, List.set_cons_succ], ?_⟩
      exact ⟨fun h => hF.out.f0 (by simpa using h), fun h => hF.out.f1 (by simpa using h), fun h => hF.out.f2 (by simpa using h), fun h => hF.out.f3 (by simpa using h), fun h => hF.out.f4 (by simpa using h), fun h => hF.out.f5 (by simpa using h), fun h => hF.out.f6 (by simpa using h), fun h => hF.out.f7 (by simpa using h), fun h => hF.out.f8 (by simpa using h), fun _ => rfl, fun h => hF.out.f10 (by simpa using h), fun h => hF.out.f11 (by simpa using h), fun h => hF.out.f12 (by simpa using h), fun h => hF.out.f13 (by simpa using h), fun h => hF.out.f14 (by simpa using h), fun h => hF.out.f15 (by simpa using h), fun h => hF.out.f16 (by simpa using h), fun h => hF.out.f17 (by simpa using h), fun h => by have := hF.out.o16_15 (by simpa using h); simpa using this, hF.out.ia, hF.out.ib, hF.out.gr, fun h => hF.out.gg (by simpa using h)⟩
    · intro d a W hI hd hdep
      obtain ⟨g, x4, x5, x6, x7, x8, x9, x10, x11, x12, x13, x14, x15, x16, x17, x18, x19, x20, x21, rfl, hF⟩ := hI
      clear hdep hd
      intro K hK
      simp only [Act.put, List.setIfInBounds_toArray, List.set_cons_zero, List.set_cons_succ]
      go_simp
      refine hK.out _ _ ⟨g, x4, x5, x6, x7, x8, x9, x10, x11, x12, x13, x14, (.pointer (some ⟨p, 2, none⟩)), x16, x17, x18, x19, x20, x21, by simp only [Act.put, List.setIfInBounds_toArray, List.set_cons_zero, List.set_cons_succ], ?_⟩
      exact ⟨fun h => hF.out.f0 (by simpa using h), fun h => hF.out.f1 (by simpa using h), fun h => hF.out.f2 (by simpa using h), fun h => hF.out.f3 (by simpa using h), fun h => hF.out.f4 (by simpa using h), fun h => hF.out.f5 (by simpa using h), fun h => hF.out.f6 (by simpa using h), fun h => hF.out.f7 (by simpa using h), fun h => hF.out.f8 (by simpa using h), fun h => hF.out.f9 (by simpa using h), fun _ => rfl, fun h => hF.out.f11 (by simpa using h), fun h => hF.out.f12 (by simpa using h), fun h => hF.out.f13 (by simpa using h), fun h => hF.out.f14 (by simpa using h), fun h => hF.out.f15 (by simpa using h), fun h => hF.out.f16 (by simpa using h), fun h => hF.out.f17 (by simpa using h), fun h => by have := hF.out.o16_15 (by simpa using h); simpa using this, hF.out.ia, hF.out.ib, hF.out.gr, fun h => hF.out.gg (by simpa using h)⟩
    · intro d a W hI hd hdep
      obtain ⟨g, x4, x5, x6, x7, x8, x9, x10, x11, x12, x13, x14, x15, x16, x17, x18, x19, x20, x21, rfl, hF⟩ := hI
      have hd10 : d 10 = true := dep_of hdep 10 (by kernel_rfl)
      obtain rfl := hF.out.f10 hd10
      have cc := hF.out.ia.c2
      clear hdep hd hd10
      intro K hK
      simp only [Act.put, List.setIfInBounds_toArray, List.set_cons_zero, List.set_cons_succ]
      go_simp
      refine hK.out _ _ ⟨g, x4, x5, x6, x7, x8, x9, x10, x11, x12, x13, x14, (.pointer (some ⟨p, 2, none⟩)), (.int .i64 (x.2.2 : Int)), x17, x18, x19, x20, x21, by simp only [Act.put, List.setIfInBounds_toArray, List.set_cons_zero, List.set_cons_succ], ?_⟩
      exact ⟨fun h => hF.out.f0 (by simpa using h), fun h => hF.out.f1 (by simpa using h), fun h => hF.out.f2 (by simpa using h), fun h => hF.out.f3 (by simpa using h), fun h => hF.out.f4 (by simpa using h), fun h => hF.out.f5 (by simpa using h), fun h => hF.out.f6 (by simpa using h), fun h => hF.out.f7 (by simpa using h), fun h => hF.out.f8 (by simpa using h), fun h => hF.out.f9 (by simpa using h), fun h => hF.out.f10 (by simpa using h), fun _ => rfl, fun h => hF.out.f12 (by simpa using h), fun h => hF.out.f13 (by simpa using h), fun h => hF.out.f14 (by simpa using h), fun h => hF.out.f15 (by simpa using h), fun h => hF.out.f16 (by simpa using h), fun h => hF.out.f17 (by simpa using h), fun h => by have := hF.out.o16_15 (by simpa using h); simpa using this, hF.out.ia, hF.out.ib, hF.out.gr, fun h => hF.out.gg (by simpa using h)⟩
    · intro d a W hI hd hdep
      obtain ⟨g, x4, x5, x6, x7, x8, x9, x10, x11, x12, x13, x14, x15, x16, x17, x18, x19, x20, x21, rfl, hF⟩ := hI
      clear hdep hd
      intro K hK
      simp only [Act.put, List.setIfInBounds_toArray, List.set_cons_zero, List.set_cons_succ]
      go_simp
      refine hK.out _ _ ⟨g, x4, x5, x6, x7, x8, x9, x10, x11, x12, x13, x14, x15, x16, (.pointer (some ⟨p + 1, 2, none⟩)), x18, x19, x20, x21, by simp only [Act.put, List.setIfInBounds_toArray, List.set_cons_zero, List.set_cons_succ], ?_⟩
      exact ⟨fun h => hF.out.f0 (by simpa using h), fun h => hF.out.f1 (by simpa using h), fun h => hF.out.f2 (by simpa using h), fun h => hF.out.f3 (by simpa using h), fun h => hF.out.f4 (by simpa using h), fun h => hF.out.f5 (by simpa using h), fun h => hF.out.f6 (by simpa using h), fun h => hF.out.f7 (by simpa using h), fun h => hF.out.f8 (by simpa using h), fun h => hF.out.f9 (by simpa using h), fun h => hF.out.f10 (by simpa using h), fun h => hF.out.f11 (by simpa using h), fun _ => rfl, fun h => hF.out.f13 (by simpa using h), fun h => hF.out.f14 (by simpa using h), fun h => hF.out.f15 (by simpa using h), fun h => hF.out.f16 (by simpa using h), fun h => hF.out.f17 (by simpa using h), fun h => by have := hF.out.o16_15 (by simpa using h); simpa using this, hF.out.ia, hF.out.ib, hF.out.gr, fun h => hF.out.gg (by simpa using h)⟩
    · intro d a W hI hd hdep
      obtain ⟨g, x4, x5, x6, x7, x8, x9, x10, x11, x12, x13, x14, x15, x16, x17, x18, x19, x20, x21, rfl, hF⟩ := hI
      have hd12 : d 12 = true := dep_of hdep 12 (by kernel_rfl)
      obtain rfl := hF.out.f12 hd12
      have cc := hF.out.ib.c2
      clear hdep hd hd12
      intro K hK
      simp only [Act.put, List.setIfInBounds_toArray, List.set_cons_zero, List.set_cons_succ]
      go_simp
      refine hK.out _ _ ⟨g, x4, x5, x6, x7, x8, x9, x10, x11, x12, x13, x14, x15, x16, (.pointer (some ⟨p + 1, 2, none⟩)), (.int .i64 (y.2.2 : Int)), x19, x20, x21, by simp only [Act.put, List.setIfInBounds_toArray, List.set_cons_zero, List.set_cons_succ], ?_⟩
      exact ⟨fun h => hF.out.f0 (by simpa using h), fun h => hF.out.f1 (by simpa using h), fun h => hF.out.f2 (by simpa using h), fun h => hF.out.f3 (by simpa using h), fun h => hF.out.f4 (by simpa using h), fun h => hF.out.f5 (by simpa using h), fun h => hF.out.f6 (by simpa using h), fun h => hF.out.f7 (by simpa using h), fun h => hF.out.f8 (by simpa using h), fun h => hF.out.f9 (by simpa using h), fun h => hF.out.f10 (by simpa using h), fun h => hF.out.f11 (by simpa using h), fun h => hF.out.f12 (by simpa using h), fun _ => rfl, fun h => hF.out.f14 (by simpa using h), fun h => hF.out.f15 (by simpa using h), fun h => hF.out.f16 (by simpa using h), fun h => hF.out.f17 (by simpa using h), fun h => by have := hF.out.o16_15 (by simpa using h); simpa using this, hF.out.ia, hF.out.ib, hF.out.gr, fun h => hF.out.gg (by simpa using h)⟩
    · intro d a W hI hd hdep
      obtain ⟨g, x4, x5, x6, x7, x8, x9, x10, x11, x12, x13, x14, x15, x16, x17, x18, x19, x20, x21, rfl, hF⟩ := hI
      have hd11 : d 11 = true := dep_of hdep 11 (by kernel_rfl)
      have hd13 : d 13 = true := dep_of hdep 13 (by kernel_rfl)
      obtain rfl := hF.out.f11 hd11
      obtain rfl := hF.out.f13 hd13
      clear hdep hd hd11 hd13
      intro K hK
      simp only [Act.put, List.setIfInBounds_toArray, List.set_cons_zero, List.set_cons_succ]
      go_simp
      refine (HC2.out W).mono ?_
      rintro _ W2 ⟨rfl, rfl⟩
      refine hK.out _ _ ⟨g, x4, x5, x6, x7, x8, x9, x10, x11, x12, x13, x14, x15, (.int .i64 (x.2.2 : Int)), x17, (.int .i64 (y.2.2 : Int)), (.int .i64 k2), x20, x21, by simp only [Act.put, List.setIfInBounds_toArray, List.set_cons_zero, List.set_cons_succ], ?_⟩
      exact ⟨fun h => hF.out.f0 (by simpa using h), fun h => hF.out.f1 (by simpa using h), fun h => hF.out.f2 (by simpa using h), fun h => hF.out.f3 (by simpa using h), fun h => hF.out.f4 (by simpa using h), fun h => hF.out.f5 (by simpa using h), fun h => hF.out.f6 (by simpa using h), fun h => hF.out.f7 (by simpa using h), fun h => hF.out.f8 (by simpa using h), fun h => hF.out.f9 (by simpa using h), fun h => hF.out.f10 (by simpa using h), fun h => hF.out.f11 (by simpa using h), fun h => hF.out.f12 (by simpa using h), fun h => hF.out.f13 (by simpa using h), fun _ => rfl, fun h => hF.out.f15 (by simpa using h), fun h => hF.out.f16 (by simpa using h), fun h => hF.out.f17 (by simpa using h), fun h => by have := hF.out.o16_15 (by simpa using h); simpa using this, hF.out.ia, hF.out.ib, hF.out.gr, fun h => hF.out.gg (by simpa using h)⟩
    · intro d a W hI hd hdep
      obtain ⟨g, x4, x5, x6, x7, x8, x9, x10, x11, x12, x13, x14, x15, x16, x17, x18, x19, x20, x21, rfl, hF⟩ := hI
      have hd4 : d 4 = true := dep_of hdep 4 (by kernel_rfl)
      have hd9 : d 9 = true := dep_of hdep 9 (by kernel_rfl)
      have hd14 : d 14 = true := dep_of hdep 14 (by kernel_rfl)
      obtain rfl := hF.out.f4 hd4
      obtain rfl := hF.out.f9 hd9
      obtain rfl := hF.out.f14 hd14
      have HN16 : Hid (d 16 = false) := no_later hF.out.o16_15 hd
      clear hdep hd hd4 hd9 hd14
      intro K hK
      simp only [Act.put, List.setIfInBounds_toArray, List.set_cons_zero, List.set_cons_succ]
      go_simp
      refine hK.out _ _ ⟨W.heap.size, x4, x5, x6, x7, x8, (.int .i64 k0), x10, x11, x12, x13, (.int .i64 k1), x15, x16, x17, x18, (.int .i64 k2), (.slice (some ⟨W.heap.size, 0, none⟩) 3 3), x21, by simp only [Act.put, List.setIfInBounds_toArray, List.set_cons_zero, List.set_cons_succ], ?_⟩
      have B1 := below_alloc W (Obj.cells #[.int .i64 k0, .int .i64 k1, .int .i64 k2] 3)
      exact ⟨fun h => hF.out.f0 (by simpa using h), fun h => hF.out.f1 (by simpa using h), fun h => hF.out.f2 (by simpa using h), fun h => hF.out.f3 (by simpa using h), fun h => hF.out.f4 (by simpa using h), fun h => hF.out.f5 (by simpa using h), fun h => hF.out.f6 (by simpa using h), fun h => hF.out.f7 (by simpa using h), fun h => hF.out.f8 (by simpa using h), fun h => hF.out.f9 (by simpa using h), fun h => hF.out.f10 (by simpa using h), fun h => hF.out.f11 (by simpa using h), fun h => hF.out.f12 (by simpa using h), fun h => hF.out.f13 (by simpa using h), fun h => hF.out.f14 (by simpa using h), fun _ => rfl, fun h => hF.out.f16 (by simpa using h), fun h => hF.out.f17 (by simpa using h), fun _ => by simp, hF.out.ia.next B1, hF.out.ib.next B1, hF.out.gr.alloc _, fun _ => ints3 W k0 k1 k2⟩
    · intro d a W hI hd hdep
      obtain ⟨g, x4, x5, x6, x7, x8, x9, x10, x11, x12, x13, x14, x15, x16, x17, x18, x19, x20, x21, rfl, hF⟩ := hI
      have hd15 : d 15 = true := dep_of hdep 15 (by kernel_rfl)
      obtain rfl := hF.out.f15 hd15
      have e16_15 := hd15
      have hgg := HOR.out W g (hF.out.gg hd15)
      clear hdep hd hd15
      intro K hK
      simp only [Act.put, List.setIfInBounds_toArray, List.set_cons_zero, List.set_cons_succ]
      go_simp
      refine hgg.mono ?_
      rintro _ W2 ⟨rfl, rfl⟩
      refine hK.out _ _ ⟨g, x4, x5, x6, x7, x8, x9, x10, x11, x12, x13, x14, x15, x16, x17, x18, x19, (.slice (some ⟨g, 0, none⟩) 3 3), (.int .i64 kk), by simp only [Act.put, List.setIfInBounds_toArray, List.set_cons_zero, List.set_cons_succ], ?_⟩
      exact ⟨fun h => hF.out.f0 (by simpa using h), fun h => hF.out.f1 (by simpa using h), fun h => hF.out.f2 (by simpa using h), fun h => hF.out.f3 (by simpa using h), fun h => hF.out.f4 (by simpa using h), fun h => hF.out.f5 (by simpa using h), fun h => hF.out.f6 (by simpa using h), fun h => hF.out.f7 (by simpa using h), fun h => hF.out.f8 (by simpa using h), fun h => hF.out.f9 (by simpa using h), fun h => hF.out.f10 (by simpa using h), fun h => hF.out.f11 (by simpa using h), fun h => hF.out.f12 (by simpa using h), fun h => hF.out.f13 (by simpa using h), fun h => hF.out.f14 (by simpa using h), fun h => hF.out.f15 (by simpa using h), fun _ => rfl, fun h => hF.out.f17 (by simpa using h), fun _ => by simpa using e16_15, hF.out.ia, hF.out.ib, hF.out.gr, fun h => hF.out.gg (by simpa using h)⟩
    · intro d a W hI hd hdep
      obtain ⟨g, x4, x5, x6, x7, x8, x9, x10, x11, x12, x13, x14, x15, x16, x17, x18, x19, x20, x21, rfl, hF⟩ := hI
      have hd16 : d 16 = true := dep_of hdep 16 (by kernel_rfl)
      obtain rfl := hF.out.f16 hd16
      clear hdep hd hd16
      intro K hK
      simp only [Act.put, List.setIfInBounds_toArray, List.set_cons_zero, List.set_cons_succ]
      go_simp
      refine hK.out _ _ ⟨g, (.int .i64 kk), x5, x6, x7, x8, x9, x10, x11, x12, x13, x14, x15, x16, x17, x18, x19, x20, (.int .i64 kk), by simp only [Act.put, List.setIfInBounds_toArray, List.set_cons_zero, List.set_cons_succ], ?_⟩
      exact ⟨fun h => hF.out.f0 (by simpa using h), fun h => hF.out.f1 (by simpa using h), fun h => hF.out.f2 (by simpa using h), fun h => hF.out.f3 (by simpa using h), fun h => hF.out.f4 (by simpa using h), fun h => hF.out.f5 (by simpa using h), fun h => hF.out.f6 (by simpa using h), fun h => hF.out.f7 (by simpa using h), fun h => hF.out.f8 (by simpa using h), fun h => hF.out.f9 (by simpa using h), fun h => hF.out.f10 (by simpa using h), fun h => hF.out.f11 (by simpa using h), fun h => hF.out.f12 (by simpa using h), fun h => hF.out.f13 (by simpa using h), fun h => hF.out.f14 (by simpa using h), fun h => hF.out.f15 (by simpa using h), fun h => hF.out.f16 (by simpa using h), fun _ => rfl, fun h => by have := hF.out.o16_15 (by simpa using h); simpa using this, hF.out.ia, hF.out.ib, hF.out.gr, fun h => hF.out.gg (by simpa using h)⟩
  · intro d a W hI hall
    obtain ⟨g, x4, x5, x6, x7, x8, x9, x10, x11, x12, x13, x14, x15, x16, x17, x18, x19, x20, x21, rfl, hF⟩ := hI
    simp only [List.length_cons, List.length_nil] at hall
    obtain rfl := hF.out.f0 (hall 0 (by omega))
    obtain rfl := hF.out.f1 (hall 1 (by omega))
    obtain rfl := hF.out.f2 (hall 2 (by omega))
    obtain rfl := hF.out.f3 (hall 3 (by omega))
    obtain rfl := hF.out.f4 (hall 4 (by omega))
    obtain rfl := hF.out.f5 (hall 5 (by omega))
    obtain rfl := hF.out.f6 (hall 6 (by omega))
    obtain rfl := hF.out.f7 (hall 7 (by omega))
    obtain rfl := hF.out.f8 (hall 8 (by omega))
    obtain rfl := hF.out.f9 (hall 9 (by omega))
    obtain rfl := hF.out.f10 (hall 10 (by omega))
    obtain rfl := hF.out.f11 (hall 11 (by omega))
    obtain rfl := hF.out.f12 (hall 12 (by omega))
    obtain rfl := hF.out.f13 (hall 13 (by omega))
    obtain rfl := hF.out.f14 (hall 14 (by omega))
    obtain rfl := hF.out.f15 (hall 15 (by omega))
    obtain rfl := hF.out.f16 (hall 16 (by omega))
    obtain rfl := hF.out.f17 (hall 17 (by omega))
    have HG2 : Hid (Gr w W) := by
      obtain ⟨q1, os1, e1⟩ := HGR.out
      obtain ⟨q2, os2, e2⟩ := hF.out.gr
      exact Gr.trans ⟨q1, os1, e1⟩ ⟨q2, os2, e2⟩
    clear hF HGR
    simp only [Act.put, List.setIfInBounds_toArray, List.set_cons_zero, List.set_cons_succ]
    go_wp2_with fail
    go_ret
    exact ⟨by simp, HG2.out⟩

def ce3 (x : It) : List Value := [.int .i64 (x.1 : Int), .int .i64 (x.2.1 : Int), .int .i64 (x.2.2 : Int)]
theorem ics_flat (l : List It) : flatK ce3 3 l.toArray = (ics l).toArray := by
  apply Array.ext
  · simp [ics_length]
  · intro t h1 h2
    have ht : t < l.length * 3 := by simpa using h1
    have e := get_flatK ce3 3 l.toArray t (by simpa using ht)
    rw [getElem!_pos _ t h1] at e
    rw [e]
    have hi : t / 3 < l.length := by omega
    have hj : t % 3 = 0 ∨ t % 3 = 1 ∨ t % 3 = 2 := by omega
    obtain ⟨a0, a1, a2⟩ := ics_at l (t / 3) hi
    have hl : l.toArray[t / 3]! = l[t / 3] := by rw [getElem!_pos _ _ (by simpa using hi)]; simp
    have h3 : ∀ v, (ics l)[t]? = some v → (ics l).toArray[t]'h2 = v := fun v hv => by
      have := List.getElem?_eq_some_iff.1 hv
      obtain ⟨h5, h6⟩ := this
      simpa using h6
    rw [hl]
    rcases hj with hj | hj | hj
    · rw [hj, h3 _ (by rw [← a0]; congr 1; omega)]; rfl
    · rw [hj, h3 _ (by rw [← a1]; congr 1; omega)]; rfl
    · rw [hj, h3 _ (by rw [← a2]; congr 1; omega)]; rfl
theorem own_free {w : World} {base g n cap e size : Nat} {xs : List Value} (h : w.ownsRow base e size (.slice (some ⟨g, 0, none⟩) n cap) n xs) : ∀ o, w.frozen? ⟨g, o, none⟩ = false := by
  obtain ⟨_, ⟨h1, _⟩ | ⟨g', cap', cur, hv, _, hh, _⟩⟩ := h
  · cases h1
  · simp only [Value.slice.injEq, Option.some.injEq, Addr.mk.injEq] at hv
    obtain ⟨⟨rfl, _⟩, _⟩ := hv
    intro o; simp [World.frozen?, hh]
theorem holds_its {w : World} {base g n cap : Nat} {l : List It} (h : w.ownsRow base 145 3 (.slice (some ⟨g, 0, none⟩) n cap) n (ics l)) : HoldsK ce3 3 w g 0 l.toArray := by
  have hf := own_free h
  obtain ⟨hl, ⟨h1, _⟩ | ⟨g', cap', cur, hv, _, hh, _, _, hs, ht⟩⟩ := h
  · cases h1
  · simp only [Value.slice.injEq, Option.some.injEq, Addr.mk.injEq] at hv
    obtain ⟨⟨rfl, _⟩, _, rfl⟩ := hv
    unfold HoldsK
    rw [ics_flat]
    intro j hj
    have hj' : j < (ics l).length := by simpa using hj
    refine ⟨?_, hf _⟩
    have h1 : (cur.toList.take (n * 3))[j]? = (ics l)[j]? := by rw [ht]
    rw [List.getElem?_take_of_lt (by omega)] at h1
    simp only [World.cell?, hh, Nat.zero_add]
    simp only [Option.isSome_none, Bool.false_eq_true, if_false]
    rw [← Array.getElem?_toList, h1]
    simp [hj']
theorem own_sorted {w : World} {base g n cap m : Nat} {l l' : List It} {os : Array Obj} (h : w.ownsRow base 145 3 (.slice (some ⟨g, 0, none⟩) n cap) n (ics l)) (hl : l'.length = l.length) :
    (sortWorldK ce3 3 w g 0 m l'.toArray os).ownsRow base 145 3 (.slice (some ⟨g, 0, none⟩) n cap) n (ics l') := by
  obtain ⟨hlen, ⟨h1, _⟩ | ⟨g', cap', cur, hv, hg, hh, hn, hc, hs, ht⟩⟩ := h
  · cases h1
  · simp only [Value.slice.injEq, Option.some.injEq, Addr.mk.injEq] at hv
    obtain ⟨⟨rfl, _⟩, _, rfl⟩ := hv
    rw [ics_length] at hlen
    have hlt : g < w.heap.size := (Array.getElem?_eq_some_iff.1 hh).1
    have e1 : (sortWorldK ce3 3 w g 0 m l'.toArray os).heap[g]? = some (.cells (putCells id 0 (ics l').toArray cur) 145 (0, 0)) := by
      unfold sortWorldK putRowK
      rw [ics_flat, Sort.heap_grow_old _ _ (by simpa [putRow, mapBlock, Sort.ahead] using hlt)]
      simp [putRow, mapBlock, Sort.ahead, Array.getElem?_modify, hh, onCells]
    refine ⟨by rw [ics_length, hl, hlen], Or.inr ⟨g, cap, _, rfl, hg, e1, hn, hc, by simp [putCells, hs], ?_⟩⟩
    apply List.ext_getElem?
    intro j
    have hcl : (ics l').length = n * 3 := by rw [ics_length, hl, hlen]
    have hns : n * 3 ≤ cur.size := by rw [hs]; exact Nat.mul_le_mul_right 3 hn
    by_cases hj : j < n * 3
    · rw [List.getElem?_take_of_lt hj, Array.getElem?_toList]
      simp [putCells, hcl, hj, show j < cur.size by omega]
    · rw [List.getElem?_take_eq_none (by omega), List.getElem?_eq_none (by omega)]
theorem grown_sorted {w : World} {g m : Nat} {l' : List It} {os : Array Obj} : w.grownBy (sortWorldK ce3 3 w g 0 m l'.toArray os) (some g) := by
  unfold sortWorldK putRowK
  refine ⟨rfl, rfl, rfl, by simp [putRow, mapBlock, Sort.ahead], fun k hk hne => ?_⟩
  rw [Sort.heap_grow_old _ _ (by simpa [putRow, mapBlock, Sort.ahead] using hk)]
  have : g ≠ k := fun e => hne (by rw [e])
  simp [putRow, mapBlock, Sort.ahead, Array.getElem?_modify, this]
theorem cmpI_lt (x y : It) : ltOf cmpI x y = true ↔ ltI x y := by
  unfold ltOf cmpI orL orL orL orL Lib.compareInt ltI
  simp only [decide_eq_true_eq]
  constructor
  · intro h
    repeat' split at h
    all_goals omega
  · intro h
    repeat' split
    all_goals omega
theorem swoI : Sort.SWO (ltOf cmpI) where
  irrefl x := by
    cases e : ltOf cmpI x x with
    | false => rfl
    | true => exact absurd ((cmpI_lt x x).1 e) (ltI_irrefl x)
  trans x y z h1 h2 := (cmpI_lt x z).2 (ltI_trans ((cmpI_lt x y).1 h1) ((cmpI_lt y z).1 h2))
  ntrans x y z h1 h2 := by
    cases e : ltOf cmpI x z with
    | false => rfl
    | true =>
      have h3 := (cmpI_lt x z).1 e
      have n1 : ¬ ltI x y := fun h => by rw [(cmpI_lt x y).2 h] at h1; cases h1
      have n2 : ¬ ltI y z := fun h => by rw [(cmpI_lt y z).2 h] at h2; cases h2
      exfalso
      rcases ltI_tri x y with h | h | h
      · exact n1 h
      · subst h; exact n2 h3
      · exact n2 (ltI_trans h h3)
theorem cmpLays90 (blk off size : Nat) (w : World) : CmpLays Try.prog 95 #[] ce3 3 cmpI blk off size w :=
  fun _ _ _ _ x y => order_any x y _
theorem enters90 : ∀ args w, (callFunc 95 args).run Try.prog w = .ok (.enter 95 args) w := enters_of Try.func95 (by kernel_rfl) rfl
/-- slices.SortFunc at a row of the call's own. -/
theorem sort_any (base g n cap : Nat) (l : List It) (w : World) (hn : n ≤ 20000) (hnd : l.Nodup) (hown : w.ownsRow base 145 3 (.slice (some ⟨g, 0, none⟩) n cap) n (ics l)) :
    Calls Try.prog 94 #[.slice (some ⟨g, 0, none⟩) n cap, .func (.func 95) #[] #[]] w fun e w' => e = .returned (.tuple #[]) ∧ ∃ l' : List It, l.Perm l' ∧ Rise l' ∧ w'.ownsRow base 145 3 (.slice (some ⟨g, 0, none⟩) n cap) n (ics l') ∧ w.grownBy w' (some g) := by
  have hlen : l.length = n := by have := hown.1; rw [ics_length] at this; omega
  have hcon := AnyQ.slices_SortFunc Try.sortIt 3 Try.isAgg145 Try.sizeOf145 ce3 (fun _ => rfl) (fun x v hv => by simp [ce3] at hv; rcases hv with rfl | rfl | rfl <;> rfl) cmpI swoI 95 #[] g 0 cap l.toArray w enters90 (cmpLays90 g 0 _ w) (holds_its hown) ((hown.lt g rfl).2) (by simp; omega)
  change Calls Try.prog 94 _ _ _ at hcon
  have e : l.toArray.size = n := by simpa using hlen
  rw [e] at hcon
  refine hcon.mono ?_
  rintro e' w' ⟨rfl, d', m, os, hp, hs, rfl⟩
  obtain ⟨p1, p2, p3⟩ := hp
  have hd : d'.size = n := by rw [p1]; exact e
  have hd2 : d' = d'.toList.toArray := by simp
  have hperm : l.Perm d'.toList := by
    have h1 : d'.extract 0 n = d' := by rw [← hd]; simp
    have h2 : l.toArray.extract 0 n = l.toArray := by rw [← e]; simp
    rw [h1, h2] at p3
    exact p3.symm
  refine ⟨rfl, d'.toList, hperm, ?_, ?_, ?_⟩
  · have hnd2 : d'.toList.Nodup := hperm.nodup_iff.1 hnd
    unfold Rise
    rw [List.pairwise_iff_getElem]
    intro i j hi hj hij
    have h3 := hs i j (Nat.zero_le _) hij (by rw [← hd]; simpa using hj)
    have e1 : d'[i]! = d'.toList[i] := by rw [getElem!_pos _ _ (by simpa using hi)]; simp
    have e2 : d'[j]! = d'.toList[j] := by rw [getElem!_pos _ _ (by simpa using hj)]; simp
    rw [e1, e2] at h3
    have h4 : ¬ ltI d'.toList[j] d'.toList[i] := fun h => by rw [(cmpI_lt _ _).2 h] at h3; cases h3
    have h5 : d'.toList[i] ≠ d'.toList[j] := (List.pairwise_iff_getElem.1 hnd2) i j hi hj hij
    rcases ltI_tri d'.toList[i] d'.toList[j] with h | h | h
    · exact h
    · exact absurd h h5
    · exact absurd h h4
  · conv => arg 1; rw [hd2]
    exact own_sorted hown (by simp [hd, hlen])
  · conv => arg 2; rw [hd2]
    exact grown_sorted
end Go.Proofs.Ytpbnnmfjahckmaa
