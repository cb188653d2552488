/-
  pushref.spans at one or the other.
-/
import Derived.Test.YtdnagboonjcehaaSpanC
import Derived.Test.YtdnagboonjcehaaFree
namespace Go.Proofs.Ytdnagboonjcehaa
open Go.RowKit
open Cls Rex
def P0 (A B : Nat → Nat → Bool) (m i : Nat) (F : Nat → Nat → Bool) : Prop := ∀ u v, u < m → v < m → (F u v = true ↔ u < i ∧ u ≤ v ∧ (A u v = true ∨ B u v = true))
def P1 (A B : Nat → Nat → Bool) (m i j : Nat) (F : Nat → Nat → Bool) : Prop := ∀ u v, u < m → v < m → (F u v = true ↔ (u < i ∧ u ≤ v ∧ (A u v = true ∨ B u v = true)) ∨ (u = i ∧ i ≤ v ∧ v < j ∧ (A u v = true ∨ B u v = true)))
theorem p_in {A B : Nat → Nat → Bool} {m i : Nat} {F : Nat → Nat → Bool} (h : P0 A B m i F) : P1 A B m i i F := fun u v hu hv => by
  rw [h u v hu hv]
  constructor
  · exact Or.inl
  · rintro (h | ⟨_, h1, h2, _⟩)
    · exact h
    · omega
theorem p_step {A B : Nat → Nat → Bool} {m i j : Nat} {F : Nat → Nat → Bool} (h : P1 A B m i j F) (hij : i ≤ j) : P1 A B m i (j + 1) (upd F i j (A i j || B i j)) := fun u v hu hv => by
  unfold upd
  by_cases e : u = i ∧ v = j
  · obtain ⟨rfl, rfl⟩ := e
    rw [if_pos ⟨rfl, rfl⟩, Bool.or_eq_true]
    constructor
    · intro h1; exact Or.inr ⟨rfl, hij, by omega, h1⟩
    · rintro (⟨h1, _⟩ | ⟨_, _, _, h1⟩)
      · omega
      · exact h1
  · rw [if_neg e, h u v hu hv]
    constructor
    · rintro (h1 | ⟨h0, h2, h3, h4⟩)
      · exact Or.inl h1
      · exact Or.inr ⟨h0, h2, by omega, h4⟩
    · rintro (h1 | ⟨h0, h2, h3, h4⟩)
      · exact Or.inl h1
      · exact Or.inr ⟨h0, h2, by have : v ≠ j := fun hv' => e ⟨h0, hv'⟩; omega, h4⟩
theorem p_out {A B : Nat → Nat → Bool} {m i j : Nat} {F : Nat → Nat → Bool} (h : P1 A B m i j F) (hj : m ≤ j) : P0 A B m (i + 1) F := fun u v hu hv => by
  rw [h u v hu hv]
  constructor
  · rintro (⟨h1, h2⟩ | ⟨rfl, h1, h2, h3⟩)
    · exact ⟨by omega, h2⟩
    · exact ⟨by omega, h1, h3⟩
  · rintro ⟨h1, h2, h3⟩
    by_cases e : u = i
    · subst e; exact Or.inr ⟨rfl, h2, by omega, h3⟩
    · exact Or.inl ⟨by omega, h2, h3⟩
theorem sgb_put {w : World} {O : Obj} {g m : Nat} {F : Nat → Nat → Bool} {W W' : World} {ga gb : Nat} {A Bf : Nat → Nat → Bool} (h : Sg w O g m F W ∧ Tb W ga m A ∧ Tb W gb m Bf ∧ g + m < ga ∧ g + m < gb) (hs : Below W.heap.size W W') (i j : Nat) (b : Bool) (hi : i < m) : Sg w O g m (upd F i j b) (W'.setCell ⟨g + 1 + i, j, none⟩ (.bool b)) ∧ Tb (W'.setCell ⟨g + 1 + i, j, none⟩ (.bool b)) ga m A ∧ Tb (W'.setCell ⟨g + 1 + i, j, none⟩ (.bool b)) gb m Bf ∧ g + m < ga ∧ g + m < gb :=
  ⟨h.1.put hs i j b, (h.2.1.next hs).other _ (Or.inl (by have := h.2.2.2.1; show g + 1 + i < ga; omega)) _, (h.2.2.1.next hs).other _ (Or.inl (by have := h.2.2.2.2; show g + 1 + i < gb; omega)) _, h.2.2.2⟩
structure AT (w W1 : World) (m : Nat) (s : ByteArray) (b o cap : Nat) (x y : E) (k0 : Int) (c0 : Cl) (ao0 : Option Addr) (n0 p0 : Nat) (k1 : Int) (c1 : Cl) (ao1 : Option Addr) (n1 p1 : Nat) (ga : Nat) (gb : Nat) (A : Nat → Nat → Bool) (Bf : Nat → Nat → Bool) (d : Nat → Bool) (x8 x9 x74 x75 x76 x77 x78 x79 x80 x81 x82 x83 x84 x85 : Value) (W : World) : Prop where
  f0 : d 0 = true → x74 = (.pointer (some ⟨w.heap.size, 5, none⟩))
  f1 : d 1 = true → x75 = (.slice (some ⟨b, o, none⟩) 2 cap)
  f2 : d 2 = true → x76 = (.pointer (some ⟨b, o, none⟩))
  f3 : d 3 = true → x77 = (.agg #[.int .i64 k0, .int .u64 (c0.1.toNat : Int), .int .u64 (c0.2.1.toNat : Int), .int .u64 (c0.2.2.1.toNat : Int), .int .u64 (c0.2.2.2.toNat : Int), .slice ao0 n0 p0])
  f4 : d 4 = true → x78 = (.string s)
  f5 : d 5 = true → x79 = (.slice (some ⟨ga, 0, none⟩) (s.size + 1) (s.size + 1))
  f6 : d 6 = true → x80 = (.pointer (some ⟨w.heap.size, 5, none⟩))
  f7 : d 7 = true → x81 = (.slice (some ⟨b, o, none⟩) 2 cap)
  f8 : d 8 = true → x82 = (.pointer (some ⟨b, o + 6, none⟩))
  f9 : d 9 = true → x83 = (.agg #[.int .i64 k1, .int .u64 (c1.1.toNat : Int), .int .u64 (c1.2.1.toNat : Int), .int .u64 (c1.2.2.1.toNat : Int), .int .u64 (c1.2.2.2.toNat : Int), .slice ao1 n1 p1])
  f10 : d 10 = true → x84 = (.string s)
  f11 : d 11 = true → x85 = (.slice (some ⟨gb, 0, none⟩) (s.size + 1) (s.size + 1))
  f12 : d 12 = true → x8 = (.slice (some ⟨ga, 0, none⟩) (s.size + 1) (s.size + 1))
  f13 : d 13 = true → x9 = (.slice (some ⟨gb, 0, none⟩) (s.size + 1) (s.size + 1))
  below : Sb W1 W
  ra : d 5 = true → Tb W ga m A ∧ W1.heap.size ≤ ga ∧ ∀ u v, u < m → v < m → (A u v = true ↔ Sp x s.data.toList u v)
  rb : d 11 = true → Tb W gb m Bf ∧ W1.heap.size ≤ gb ∧ ∀ u v, u < m → v < m → (Bf u v = true ↔ Sp y s.data.toList u v)
  g12 : d 12 = true → d 5 = true
  g13 : d 13 = true → d 11 = true
set_option maxHeartbeats 4000000 in
set_option maxRecDepth 20000 in
theorem spans_alt (a c : T) (x y : E) (IA : SC a x) (IC : SC c y) : SC (.mk 5 empty [a, c]) (.alt x y) := by
  intro v B s w hs hx hBw
  obtain ⟨k_, c_, ao, cap, kids_, vals, rfl, ht, -, -, hc, hr⟩ := hx.shape
  injection ht with e1 e2 e3
  subst e1 e2 e3
  obtain ⟨b, o, rfl, hbB, hcl⟩ : ∃ b o, ao = some ⟨b, o, none⟩ ∧ b < B ∧ ∀ i, i < 2 → ∀ j, j < 6 → w.cell? ⟨b, o + i * 6 + j, none⟩ = (vals i).cells[j]? := by
    rcases hc with h | ⟨b, o, h1, h2, h3⟩
    · cases h
    · exact ⟨b, o, h1, h2, h3⟩
  have hr0 : Rx w B (vals 0) a := hr 0 (by simp)
  have hr1 : Rx w B (vals 1) c := hr 1 (by simp)
  obtain ⟨k0, c0, ao0, n0, p0, hv0, q00, q01, q02, q03, q04, q05⟩ := kid_cells hr0 (hcl 0 (by omega))
  obtain ⟨k1, c1, ao1, n1, p1, hv1, q10, q11, q12, q13, q14, q15⟩ := kid_cells hr1 (hcl 1 (by omega))
  simp only [Nat.zero_mul, Nat.add_zero] at q00 q01 q02 q03 q04 q05
  simp only [Nat.one_mul] at q10 q11 q12 q13 q14 q15
  rw [hv0] at hr0
  rw [hv1] at hr1
  have HQ0 : Hid (w.cell? ⟨b, o, none⟩ = some (.int .i64 k0) ∧ w.cell? ⟨b, o + 1, none⟩ = some (.int .u64 (c0.1.toNat : Int)) ∧ w.cell? ⟨b, o + 2, none⟩ = some (.int .u64 (c0.2.1.toNat : Int)) ∧ w.cell? ⟨b, o + 3, none⟩ = some (.int .u64 (c0.2.2.1.toNat : Int)) ∧ w.cell? ⟨b, o + 4, none⟩ = some (.int .u64 (c0.2.2.2.toNat : Int)) ∧ w.cell? ⟨b, o + 5, none⟩ = some (.slice ao0 n0 p0)) := ⟨q00, q01, q02, q03, q04, q05⟩
  have HX0 : Hid (Rx w B (.agg #[.int .i64 k0, .int .u64 (c0.1.toNat : Int), .int .u64 (c0.2.1.toNat : Int), .int .u64 (c0.2.2.1.toNat : Int), .int .u64 (c0.2.2.2.toNat : Int), .slice ao0 n0 p0]) a) := hr0
  have HQ1 : Hid (w.cell? ⟨b, o + 6, none⟩ = some (.int .i64 k1) ∧ w.cell? ⟨b, o + 6 + 1, none⟩ = some (.int .u64 (c1.1.toNat : Int)) ∧ w.cell? ⟨b, o + 6 + 2, none⟩ = some (.int .u64 (c1.2.1.toNat : Int)) ∧ w.cell? ⟨b, o + 6 + 3, none⟩ = some (.int .u64 (c1.2.2.1.toNat : Int)) ∧ w.cell? ⟨b, o + 6 + 4, none⟩ = some (.int .u64 (c1.2.2.2.toNat : Int)) ∧ w.cell? ⟨b, o + 6 + 5, none⟩ = some (.slice ao1 n1 p1)) := ⟨q10, q11, q12, q13, q14, q15⟩
  have HX1 : Hid (Rx w B (.agg #[.int .i64 k1, .int .u64 (c1.1.toNat : Int), .int .u64 (c1.2.1.toNat : Int), .int .u64 (c1.2.2.1.toNat : Int), .int .u64 (c1.2.2.2.toNat : Int), .slice ao1 n1 p1]) c) := hr1
  have HI0 : Hid (SC a x) := IA
  have HI1 : Hid (SC c y) := IC
  clear hx hc hr IA IC hr0 hr1 hv0 hv1 hcl q00 q01 q02 q03 q04 q05 q10 q11 q12 q13 q14 q15
  simp only [List.length_cons, List.length_nil, Nat.zero_add, Nat.reduceAdd]
  obtain ⟨w0, HW0⟩ : ∃ w0, Hid (w.alloc (.cells #[.int .i64 5, .int .u64 (empty.1.toNat : Int), .int .u64 (empty.2.1.toNat : Int), .int .u64 (empty.2.2.1.toNat : Int), .int .u64 (empty.2.2.2.toNat : Int), .slice (some ⟨b, o, none⟩) 2 cap] 27) = w0) := ⟨_, (rfl : w.alloc (.cells #[.int .i64 5, .int .u64 (empty.1.toNat : Int), .int .u64 (empty.2.1.toNat : Int), .int .u64 (empty.2.2.1.toNat : Int), .int .u64 (empty.2.2.2.toNat : Int), .slice (some ⟨b, o, none⟩) 2 cap] 27) = w.alloc (.cells #[.int .i64 5, .int .u64 (empty.1.toNat : Int), .int .u64 (empty.2.1.toNat : Int), .int .u64 (empty.2.2.1.toNat : Int), .int .u64 (empty.2.2.2.toNat : Int), .slice (some ⟨b, o, none⟩) 2 cap] 27))⟩
  have hb0 : Below w.heap.size w w0 := by rw [← HW0.out]; exact box_keep w _
  have hz0 : w0.heap[w.heap.size]? = some (.cells #[.int .i64 5, .int .u64 (empty.1.toNat : Int), .int .u64 (empty.2.1.toNat : Int), .int .u64 (empty.2.2.1.toNat : Int), .int .u64 (empty.2.2.2.toNat : Int), .slice (some ⟨b, o, none⟩) 2 cap] 27) := by rw [← HW0.out]; exact block_new w _
  obtain ⟨g, HG⟩ : ∃ g, Hid (w0.heap.size = g) := ⟨_, (rfl : w0.heap.size = w0.heap.size)⟩
  have hbl := blank_any s.size (by omega) w0
  rw [HG.out] at hbl
  have hgl : w.heap.size + 1 ≤ g := by rw [← HG.out, ← HW0.out]; simp
  go_enter Try.func22, Try.ntmps22
  go_wp2_with fail
  rw [HW0.out]
  refine hbl.mono ?_
  rintro _ W1 ⟨rfl, hT, hBl, hsz⟩
  have hB1 : Below w0.heap.size w0 W1 := by rw [HG.out]; exact hBl
  have H0 : Hid (Sg w (.cells #[.int .i64 5, .int .u64 (empty.1.toNat : Int), .int .u64 (empty.2.1.toNat : Int), .int .u64 (empty.2.2.1.toNat : Int), .int .u64 (empty.2.2.2.toNat : Int), .slice (some ⟨b, o, none⟩) 2 cap] 27) g (s.size + 1) (fun _ _ => false) W1) := ⟨hb0.trans (hB1.mono hb0.size), blk_next hB1 hz0, hT, hgl⟩
  clear hT hBl hsz hbl hB1 hb0 hz0
  have y0 := cell_of_row W1 w.heap.size 0 _ 27 (0, 0) H0.out.box
  simp only [List.getElem?_toArray, List.getElem?_cons_zero] at y0
  have HY5 : Hid (W1.cell? ⟨w.heap.size, 5, none⟩ = some (.slice (some ⟨b, o, none⟩) 2 cap)) := by
    show _ = _
    have := cell_of_row W1 w.heap.size 5 _ 27 (0, 0) H0.out.box
    simpa using this
  have HLW : Hid (w.heap.size < W1.heap.size) := blk_lt H0.out.box
  go_wp2_with fail
  clear y0
  refine wp_region_free mixed (fun a0 d a W => ∃ (ga : Nat) (gb : Nat) (A : Nat → Nat → Bool) (Bf : Nat → Nat → Bool) (x8 x9 x74 x75 x76 x77 x78 x79 x80 x81 x82 x83 x84 x85 : Value), a = ((((((((((((((a0.put (some 8) x8).put (some 9) x9).put (some 74) x74).put (some 75) x75).put (some 76) x76).put (some 77) x77).put (some 78) x78).put (some 79) x79).put (some 80) x80).put (some 81) x81).put (some 82) x82).put (some 83) x83).put (some 84) x84).put (some 85) x85) ∧ Hid (AT w W1 (s.size + 1) s b o cap x y k0 c0 ao0 n0 p0 k1 c1 ao1 n1 p1 ga gb A Bf d x8 x9 x74 x75 x76 x77 x78 x79 x80 x81 x82 x83 x84 x85 W)) (by kernel_rfl) ⟨0, 0, (fun _ _ => false), (fun _ _ => false), undef, undef, undef, undef, undef, undef, undef, undef, undef, undef, undef, undef, undef, undef, by simp only [Act.put, List.setIfInBounds_toArray, List.set_cons_zero, List.set_cons_succ], ?_⟩ ?_ ?_
  · exact ⟨fun h => no_way h, fun h => no_way h, fun h => no_way h, fun h => no_way h, fun h => no_way h, fun h => no_way h, fun h => no_way h, fun h => no_way h, fun h => no_way h, fun h => no_way h, fun h => no_way h, fun h => no_way h, fun h => no_way h, fun h => no_way h, Below.drew (Below.refl _ W1), fun h => no_way h, fun h => no_way h, fun h => no_way h, fun h => no_way h⟩
  · simp only [StepAll, and_true]
    refine ⟨?_, ?_, ?_, ?_, ?_, ?_, ?_, ?_, ?_, ?_, ?_, ?_, ?_, ?_⟩
    · intro d a W hI hd hdep
      obtain ⟨ga, gb, A, Bf, x8, x9, x74, x75, x76, x77, x78, x79, x80, x81, x82, x83, x84, x85, rfl, hF⟩ := hI
      clear hdep hd
      intro K hK
      simp only [Act.put, List.setIfInBounds_toArray, List.set_cons_zero, List.set_cons_succ]
      go_simp
      refine hK.out _ _ ⟨ga, gb, A, Bf, x8, x9, (.pointer (some ⟨w.heap.size, 5, none⟩)), x75, x76, x77, x78, x79, x80, x81, x82, x83, x84, x85, by simp only [Act.put, List.setIfInBounds_toArray, List.set_cons_zero, List.set_cons_succ], ?_⟩
      exact ⟨fun _ => rfl, fun h => hF.out.f1 (by simpa using h), fun h => hF.out.f2 (by simpa using h), fun h => hF.out.f3 (by simpa using h), fun h => hF.out.f4 (by simpa using h), fun h => hF.out.f5 (by simpa using h), fun h => hF.out.f6 (by simpa using h), fun h => hF.out.f7 (by simpa using h), fun h => hF.out.f8 (by simpa using h), fun h => hF.out.f9 (by simpa using h), fun h => hF.out.f10 (by simpa using h), fun h => hF.out.f11 (by simpa using h), fun h => hF.out.f12 (by simpa using h), fun h => hF.out.f13 (by simpa using h), hF.out.below, fun h => hF.out.ra (by simpa using h), fun h => hF.out.rb (by simpa using h), fun h => by simpa using hF.out.g12 (by simpa using h), fun h => by simpa using hF.out.g13 (by simpa using h)⟩
    · intro d a W hI hd hdep
      obtain ⟨ga, gb, A, Bf, x8, x9, x74, x75, x76, x77, x78, x79, x80, x81, x82, x83, x84, x85, rfl, hF⟩ := hI
      have hd0 : d 0 = true := dep_of hdep 0 (by kernel_rfl)
      obtain rfl := hF.out.f0 hd0
      have s5 : W.cell? ⟨w.heap.size, 5, none⟩ = some (.slice (some ⟨b, o, none⟩) 2 cap) := (Below.cell hF.out.below (p := ⟨w.heap.size, 5, none⟩) HLW.out).trans HY5.out
      clear hdep hd hd0
      intro K hK
      simp only [Act.put, List.setIfInBounds_toArray, List.set_cons_zero, List.set_cons_succ]
      go_simp
      refine hK.out _ _ ⟨ga, gb, A, Bf, x8, x9, (.pointer (some ⟨w.heap.size, 5, none⟩)), (.slice (some ⟨b, o, none⟩) 2 cap), x76, x77, x78, x79, x80, x81, x82, x83, x84, x85, by simp only [Act.put, List.setIfInBounds_toArray, List.set_cons_zero, List.set_cons_succ], ?_⟩
      exact ⟨fun h => hF.out.f0 (by simpa using h), fun _ => rfl, fun h => hF.out.f2 (by simpa using h), fun h => hF.out.f3 (by simpa using h), fun h => hF.out.f4 (by simpa using h), fun h => hF.out.f5 (by simpa using h), fun h => hF.out.f6 (by simpa using h), fun h => hF.out.f7 (by simpa using h), fun h => hF.out.f8 (by simpa using h), fun h => hF.out.f9 (by simpa using h), fun h => hF.out.f10 (by simpa using h), fun h => hF.out.f11 (by simpa using h), fun h => hF.out.f12 (by simpa using h), fun h => hF.out.f13 (by simpa using h), hF.out.below, fun h => hF.out.ra (by simpa using h), fun h => hF.out.rb (by simpa using h), fun h => by simpa using hF.out.g12 (by simpa using h), fun h => by simpa using hF.out.g13 (by simpa using h)⟩
    · intro d a W hI hd hdep
      obtain ⟨ga, gb, A, Bf, x8, x9, x74, x75, x76, x77, x78, x79, x80, x81, x82, x83, x84, x85, rfl, hF⟩ := hI
      have hd1 : d 1 = true := dep_of hdep 1 (by kernel_rfl)
      obtain rfl := hF.out.f1 hd1
      clear hdep hd hd1
      intro K hK
      simp only [Act.put, List.setIfInBounds_toArray, List.set_cons_zero, List.set_cons_succ]
      go_simp
      refine hK.out _ _ ⟨ga, gb, A, Bf, x8, x9, x74, (.slice (some ⟨b, o, none⟩) 2 cap), (.pointer (some ⟨b, o, none⟩)), x77, x78, x79, x80, x81, x82, x83, x84, x85, by simp only [Act.put, List.setIfInBounds_toArray, List.set_cons_zero, List.set_cons_succ], ?_⟩
      exact ⟨fun h => hF.out.f0 (by simpa using h), fun h => hF.out.f1 (by simpa using h), fun _ => rfl, fun h => hF.out.f3 (by simpa using h), fun h => hF.out.f4 (by simpa using h), fun h => hF.out.f5 (by simpa using h), fun h => hF.out.f6 (by simpa using h), fun h => hF.out.f7 (by simpa using h), fun h => hF.out.f8 (by simpa using h), fun h => hF.out.f9 (by simpa using h), fun h => hF.out.f10 (by simpa using h), fun h => hF.out.f11 (by simpa using h), fun h => hF.out.f12 (by simpa using h), fun h => hF.out.f13 (by simpa using h), hF.out.below, fun h => hF.out.ra (by simpa using h), fun h => hF.out.rb (by simpa using h), fun h => by simpa using hF.out.g12 (by simpa using h), fun h => by simpa using hF.out.g13 (by simpa using h)⟩
    · intro d a W hI hd hdep
      obtain ⟨ga, gb, A, Bf, x8, x9, x74, x75, x76, x77, x78, x79, x80, x81, x82, x83, x84, x85, rfl, hF⟩ := hI
      have hd2 : d 2 = true := dep_of hdep 2 (by kernel_rfl)
      obtain rfl := hF.out.f2 hd2
      have hBW : Below B w W := (H0.out.below.trans (Below.mono hF.out.below H0.out.below.size)).mono hBw
      have s0 := (hBW.cell (p := ⟨b, o, none⟩) hbB).trans HQ0.out.1
      have s1 := (hBW.cell (p := ⟨b, o + 1, none⟩) hbB).trans HQ0.out.2.1
      have s2 := (hBW.cell (p := ⟨b, o + 2, none⟩) hbB).trans HQ0.out.2.2.1
      have s3 := (hBW.cell (p := ⟨b, o + 3, none⟩) hbB).trans HQ0.out.2.2.2.1
      have s4 := (hBW.cell (p := ⟨b, o + 4, none⟩) hbB).trans HQ0.out.2.2.2.2.1
      have s5 := (hBW.cell (p := ⟨b, o + 5, none⟩) hbB).trans HQ0.out.2.2.2.2.2
      clear hBW
      clear hdep hd hd2
      intro K hK
      simp only [Act.put, List.setIfInBounds_toArray, List.set_cons_zero, List.set_cons_succ]
      go_simp
      refine hK.out _ _ ⟨ga, gb, A, Bf, x8, x9, x74, x75, (.pointer (some ⟨b, o, none⟩)), (.agg #[.int .i64 k0, .int .u64 (c0.1.toNat : Int), .int .u64 (c0.2.1.toNat : Int), .int .u64 (c0.2.2.1.toNat : Int), .int .u64 (c0.2.2.2.toNat : Int), .slice ao0 n0 p0]), x78, x79, x80, x81, x82, x83, x84, x85, by simp only [Act.put, List.setIfInBounds_toArray, List.set_cons_zero, List.set_cons_succ], ?_⟩
      exact ⟨fun h => hF.out.f0 (by simpa using h), fun h => hF.out.f1 (by simpa using h), fun h => hF.out.f2 (by simpa using h), fun _ => rfl, fun h => hF.out.f4 (by simpa using h), fun h => hF.out.f5 (by simpa using h), fun h => hF.out.f6 (by simpa using h), fun h => hF.out.f7 (by simpa using h), fun h => hF.out.f8 (by simpa using h), fun h => hF.out.f9 (by simpa using h), fun h => hF.out.f10 (by simpa using h), fun h => hF.out.f11 (by simpa using h), fun h => hF.out.f12 (by simpa using h), fun h => hF.out.f13 (by simpa using h), hF.out.below, fun h => hF.out.ra (by simpa using h), fun h => hF.out.rb (by simpa using h), fun h => by simpa using hF.out.g12 (by simpa using h), fun h => by simpa using hF.out.g13 (by simpa using h)⟩
    · intro d a W hI hd hdep
      obtain ⟨ga, gb, A, Bf, x8, x9, x74, x75, x76, x77, x78, x79, x80, x81, x82, x83, x84, x85, rfl, hF⟩ := hI
      clear hdep hd
      intro K hK
      simp only [Act.put, List.setIfInBounds_toArray, List.set_cons_zero, List.set_cons_succ]
      go_simp
      refine hK.out _ _ ⟨ga, gb, A, Bf, x8, x9, x74, x75, x76, x77, (.string s), x79, x80, x81, x82, x83, x84, x85, by simp only [Act.put, List.setIfInBounds_toArray, List.set_cons_zero, List.set_cons_succ], ?_⟩
      exact ⟨fun h => hF.out.f0 (by simpa using h), fun h => hF.out.f1 (by simpa using h), fun h => hF.out.f2 (by simpa using h), fun h => hF.out.f3 (by simpa using h), fun _ => rfl, fun h => hF.out.f5 (by simpa using h), fun h => hF.out.f6 (by simpa using h), fun h => hF.out.f7 (by simpa using h), fun h => hF.out.f8 (by simpa using h), fun h => hF.out.f9 (by simpa using h), fun h => hF.out.f10 (by simpa using h), fun h => hF.out.f11 (by simpa using h), fun h => hF.out.f12 (by simpa using h), fun h => hF.out.f13 (by simpa using h), hF.out.below, fun h => hF.out.ra (by simpa using h), fun h => hF.out.rb (by simpa using h), fun h => by simpa using hF.out.g12 (by simpa using h), fun h => by simpa using hF.out.g13 (by simpa using h)⟩
    · intro d a W hI hd hdep
      obtain ⟨ga, gb, A, Bf, x8, x9, x74, x75, x76, x77, x78, x79, x80, x81, x82, x83, x84, x85, rfl, hF⟩ := hI
      have hd3 : d 3 = true := dep_of hdep 3 (by kernel_rfl)
      have hd4 : d 4 = true := dep_of hdep 4 (by kernel_rfl)
      obtain rfl := hF.out.f3 hd3
      obtain rfl := hF.out.f4 hd4
      have h12 : d 12 = false := by
        cases hx : d 12 with
        | false => rfl
        | true => exact absurd (hF.out.g12 hx) (by rw [hd]; simp)
      have HD : Hid (d 12 = false) := h12
      clear h12
      have hcl := HI0.out _ B s W hs ((HX0.out.next ((H0.out.below.trans (Below.mono hF.out.below H0.out.below.size)).mono hBw))) (Nat.le_trans hBw (Nat.le_trans H0.out.below.size (Below.size hF.out.below)))
      clear hdep hd hd3 hd4
      intro K hK
      simp only [Act.put, List.setIfInBounds_toArray, List.set_cons_zero, List.set_cons_succ]
      go_simp
      refine hcl.mono ?_
      rintro _ W2 ⟨ga1, rfl, hga, ⟨A1, hT, hA⟩, hb1⟩
      go_simp
      refine hK.out _ _ ⟨ga1, gb, A1, Bf, x8, x9, x74, x75, x76, (.agg #[.int .i64 k0, .int .u64 (c0.1.toNat : Int), .int .u64 (c0.2.1.toNat : Int), .int .u64 (c0.2.2.1.toNat : Int), .int .u64 (c0.2.2.2.toNat : Int), .slice ao0 n0 p0]), (.string s), (.slice (some ⟨ga1, 0, none⟩) (s.size + 1) (s.size + 1)), x80, x81, x82, x83, x84, x85, by simp only [Act.put, List.setIfInBounds_toArray, List.set_cons_zero, List.set_cons_succ], ?_⟩
      exact ⟨fun h => hF.out.f0 (by simpa using h), fun h => hF.out.f1 (by simpa using h), fun h => hF.out.f2 (by simpa using h), fun h => hF.out.f3 (by simpa using h), fun h => hF.out.f4 (by simpa using h), fun _ => rfl, fun h => hF.out.f6 (by simpa using h), fun h => hF.out.f7 (by simpa using h), fun h => hF.out.f8 (by simpa using h), fun h => hF.out.f9 (by simpa using h), fun h => hF.out.f10 (by simpa using h), fun h => hF.out.f11 (by simpa using h), fun h => no_way (HD.out.symm.trans (by simpa using h)), fun h => hF.out.f13 (by simpa using h), Sb.next _ _ hF.out.below hb1, fun _ => ⟨hT, Nat.le_trans (Below.size hF.out.below) hga, hA⟩, fun h => ⟨(hF.out.rb (by simpa using h)).1.next hb1, (hF.out.rb (by simpa using h)).2⟩, fun _ => by simp, fun h => by simpa using hF.out.g13 (by simpa using h)⟩
    · intro d a W hI hd hdep
      obtain ⟨ga, gb, A, Bf, x8, x9, x74, x75, x76, x77, x78, x79, x80, x81, x82, x83, x84, x85, rfl, hF⟩ := hI
      clear hdep hd
      intro K hK
      simp only [Act.put, List.setIfInBounds_toArray, List.set_cons_zero, List.set_cons_succ]
      go_simp
      refine hK.out _ _ ⟨ga, gb, A, Bf, x8, x9, x74, x75, x76, x77, x78, x79, (.pointer (some ⟨w.heap.size, 5, none⟩)), x81, x82, x83, x84, x85, by simp only [Act.put, List.setIfInBounds_toArray, List.set_cons_zero, List.set_cons_succ], ?_⟩
      exact ⟨fun h => hF.out.f0 (by simpa using h), fun h => hF.out.f1 (by simpa using h), fun h => hF.out.f2 (by simpa using h), fun h => hF.out.f3 (by simpa using h), fun h => hF.out.f4 (by simpa using h), fun h => hF.out.f5 (by simpa using h), fun _ => rfl, fun h => hF.out.f7 (by simpa using h), fun h => hF.out.f8 (by simpa using h), fun h => hF.out.f9 (by simpa using h), fun h => hF.out.f10 (by simpa using h), fun h => hF.out.f11 (by simpa using h), fun h => hF.out.f12 (by simpa using h), fun h => hF.out.f13 (by simpa using h), hF.out.below, fun h => hF.out.ra (by simpa using h), fun h => hF.out.rb (by simpa using h), fun h => by simpa using hF.out.g12 (by simpa using h), fun h => by simpa using hF.out.g13 (by simpa using h)⟩
    · intro d a W hI hd hdep
      obtain ⟨ga, gb, A, Bf, x8, x9, x74, x75, x76, x77, x78, x79, x80, x81, x82, x83, x84, x85, rfl, hF⟩ := hI
      have hd6 : d 6 = true := dep_of hdep 6 (by kernel_rfl)
      obtain rfl := hF.out.f6 hd6
      have s5 : W.cell? ⟨w.heap.size, 5, none⟩ = some (.slice (some ⟨b, o, none⟩) 2 cap) := (Below.cell hF.out.below (p := ⟨w.heap.size, 5, none⟩) HLW.out).trans HY5.out
      clear hdep hd hd6
      intro K hK
      simp only [Act.put, List.setIfInBounds_toArray, List.set_cons_zero, List.set_cons_succ]
      go_simp
      refine hK.out _ _ ⟨ga, gb, A, Bf, x8, x9, x74, x75, x76, x77, x78, x79, (.pointer (some ⟨w.heap.size, 5, none⟩)), (.slice (some ⟨b, o, none⟩) 2 cap), x82, x83, x84, x85, by simp only [Act.put, List.setIfInBounds_toArray, List.set_cons_zero, List.set_cons_succ], ?_⟩
      exact ⟨fun h => hF.out.f0 (by simpa using h), fun h => hF.out.f1 (by simpa using h), fun h => hF.out.f2 (by simpa using h), fun h => hF.out.f3 (by simpa using h), fun h => hF.out.f4 (by simpa using h), fun h => hF.out.f5 (by simpa using h), fun h => hF.out.f6 (by simpa using h), fun _ => rfl, fun h => hF.out.f8 (by simpa using h), fun h => hF.out.f9 (by simpa using h), fun h => hF.out.f10 (by simpa using h), fun h => hF.out.f11 (by simpa using h), fun h => hF.out.f12 (by simpa using h), fun h => hF.out.f13 (by simpa using h), hF.out.below, fun h => hF.out.ra (by simpa using h), fun h => hF.out.rb (by simpa using h), fun h => by simpa using hF.out.g12 (by simpa using h), fun h => by simpa using hF.out.g13 (by simpa using h)⟩
    · intro d a W hI hd hdep
      obtain ⟨ga, gb, A, Bf, x8, x9, x74, x75, x76, x77, x78, x79, x80, x81, x82, x83, x84, x85, rfl, hF⟩ := hI
      have hd7 : d 7 = true := dep_of hdep 7 (by kernel_rfl)
      obtain rfl := hF.out.f7 hd7
      clear hdep hd hd7
      intro K hK
      simp only [Act.put, List.setIfInBounds_toArray, List.set_cons_zero, List.set_cons_succ]
      go_simp
      refine hK.out _ _ ⟨ga, gb, A, Bf, x8, x9, x74, x75, x76, x77, x78, x79, x80, (.slice (some ⟨b, o, none⟩) 2 cap), (.pointer (some ⟨b, o + 6, none⟩)), x83, x84, x85, by simp only [Act.put, List.setIfInBounds_toArray, List.set_cons_zero, List.set_cons_succ], ?_⟩
      exact ⟨fun h => hF.out.f0 (by simpa using h), fun h => hF.out.f1 (by simpa using h), fun h => hF.out.f2 (by simpa using h), fun h => hF.out.f3 (by simpa using h), fun h => hF.out.f4 (by simpa using h), fun h => hF.out.f5 (by simpa using h), fun h => hF.out.f6 (by simpa using h), fun h => hF.out.f7 (by simpa using h), fun _ => rfl, fun h => hF.out.f9 (by simpa using h), fun h => hF.out.f10 (by simpa using h), fun h => hF.out.f11 (by simpa using h), fun h => hF.out.f12 (by simpa using h), fun h => hF.out.f13 (by simpa using h), hF.out.below, fun h => hF.out.ra (by simpa using h), fun h => hF.out.rb (by simpa using h), fun h => by simpa using hF.out.g12 (by simpa using h), fun h => by simpa using hF.out.g13 (by simpa using h)⟩
    · intro d a W hI hd hdep
      obtain ⟨ga, gb, A, Bf, x8, x9, x74, x75, x76, x77, x78, x79, x80, x81, x82, x83, x84, x85, rfl, hF⟩ := hI
      have hd8 : d 8 = true := dep_of hdep 8 (by kernel_rfl)
      obtain rfl := hF.out.f8 hd8
      have hBW : Below B w W := (H0.out.below.trans (Below.mono hF.out.below H0.out.below.size)).mono hBw
      have s0 := (hBW.cell (p := ⟨b, o + 6, none⟩) hbB).trans HQ1.out.1
      have s1 := (hBW.cell (p := ⟨b, o + 6 + 1, none⟩) hbB).trans HQ1.out.2.1
      have s2 := (hBW.cell (p := ⟨b, o + 6 + 2, none⟩) hbB).trans HQ1.out.2.2.1
      have s3 := (hBW.cell (p := ⟨b, o + 6 + 3, none⟩) hbB).trans HQ1.out.2.2.2.1
      have s4 := (hBW.cell (p := ⟨b, o + 6 + 4, none⟩) hbB).trans HQ1.out.2.2.2.2.1
      have s5 := (hBW.cell (p := ⟨b, o + 6 + 5, none⟩) hbB).trans HQ1.out.2.2.2.2.2
      clear hBW
      clear hdep hd hd8
      intro K hK
      simp only [Act.put, List.setIfInBounds_toArray, List.set_cons_zero, List.set_cons_succ]
      go_simp
      refine hK.out _ _ ⟨ga, gb, A, Bf, x8, x9, x74, x75, x76, x77, x78, x79, x80, x81, (.pointer (some ⟨b, o + 6, none⟩)), (.agg #[.int .i64 k1, .int .u64 (c1.1.toNat : Int), .int .u64 (c1.2.1.toNat : Int), .int .u64 (c1.2.2.1.toNat : Int), .int .u64 (c1.2.2.2.toNat : Int), .slice ao1 n1 p1]), x84, x85, by simp only [Act.put, List.setIfInBounds_toArray, List.set_cons_zero, List.set_cons_succ], ?_⟩
      exact ⟨fun h => hF.out.f0 (by simpa using h), fun h => hF.out.f1 (by simpa using h), fun h => hF.out.f2 (by simpa using h), fun h => hF.out.f3 (by simpa using h), fun h => hF.out.f4 (by simpa using h), fun h => hF.out.f5 (by simpa using h), fun h => hF.out.f6 (by simpa using h), fun h => hF.out.f7 (by simpa using h), fun h => hF.out.f8 (by simpa using h), fun _ => rfl, fun h => hF.out.f10 (by simpa using h), fun h => hF.out.f11 (by simpa using h), fun h => hF.out.f12 (by simpa using h), fun h => hF.out.f13 (by simpa using h), hF.out.below, fun h => hF.out.ra (by simpa using h), fun h => hF.out.rb (by simpa using h), fun h => by simpa using hF.out.g12 (by simpa using h), fun h => by simpa using hF.out.g13 (by simpa using h)⟩
    · intro d a W hI hd hdep
      obtain ⟨ga, gb, A, Bf, x8, x9, x74, x75, x76, x77, x78, x79, x80, x81, x82, x83, x84, x85, rfl, hF⟩ := hI
      clear hdep hd
      intro K hK
      simp only [Act.put, List.setIfInBounds_toArray, List.set_cons_zero, List.set_cons_succ]
      go_simp
      refine hK.out _ _ ⟨ga, gb, A, Bf, x8, x9, x74, x75, x76, x77, x78, x79, x80, x81, x82, x83, (.string s), x85, by simp only [Act.put, List.setIfInBounds_toArray, List.set_cons_zero, List.set_cons_succ], ?_⟩
      exact ⟨fun h => hF.out.f0 (by simpa using h), fun h => hF.out.f1 (by simpa using h), fun h => hF.out.f2 (by simpa using h), fun h => hF.out.f3 (by simpa using h), fun h => hF.out.f4 (by simpa using h), fun h => hF.out.f5 (by simpa using h), fun h => hF.out.f6 (by simpa using h), fun h => hF.out.f7 (by simpa using h), fun h => hF.out.f8 (by simpa using h), fun h => hF.out.f9 (by simpa using h), fun _ => rfl, fun h => hF.out.f11 (by simpa using h), fun h => hF.out.f12 (by simpa using h), fun h => hF.out.f13 (by simpa using h), hF.out.below, fun h => hF.out.ra (by simpa using h), fun h => hF.out.rb (by simpa using h), fun h => by simpa using hF.out.g12 (by simpa using h), fun h => by simpa using hF.out.g13 (by simpa using h)⟩
    · intro d a W hI hd hdep
      obtain ⟨ga, gb, A, Bf, x8, x9, x74, x75, x76, x77, x78, x79, x80, x81, x82, x83, x84, x85, rfl, hF⟩ := hI
      have hd9 : d 9 = true := dep_of hdep 9 (by kernel_rfl)
      have hd10 : d 10 = true := dep_of hdep 10 (by kernel_rfl)
      obtain rfl := hF.out.f9 hd9
      obtain rfl := hF.out.f10 hd10
      have h13 : d 13 = false := by
        cases hx : d 13 with
        | false => rfl
        | true => exact absurd (hF.out.g13 hx) (by rw [hd]; simp)
      have HD : Hid (d 13 = false) := h13
      clear h13
      have hcl := HI1.out _ B s W hs ((HX1.out.next ((H0.out.below.trans (Below.mono hF.out.below H0.out.below.size)).mono hBw))) (Nat.le_trans hBw (Nat.le_trans H0.out.below.size (Below.size hF.out.below)))
      clear hdep hd hd9 hd10
      intro K hK
      simp only [Act.put, List.setIfInBounds_toArray, List.set_cons_zero, List.set_cons_succ]
      go_simp
      refine hcl.mono ?_
      rintro _ W2 ⟨gb1, rfl, hga, ⟨Bf1, hT, hA⟩, hb1⟩
      go_simp
      refine hK.out _ _ ⟨ga, gb1, A, Bf1, x8, x9, x74, x75, x76, x77, x78, x79, x80, x81, x82, (.agg #[.int .i64 k1, .int .u64 (c1.1.toNat : Int), .int .u64 (c1.2.1.toNat : Int), .int .u64 (c1.2.2.1.toNat : Int), .int .u64 (c1.2.2.2.toNat : Int), .slice ao1 n1 p1]), (.string s), (.slice (some ⟨gb1, 0, none⟩) (s.size + 1) (s.size + 1)), by simp only [Act.put, List.setIfInBounds_toArray, List.set_cons_zero, List.set_cons_succ], ?_⟩
      exact ⟨fun h => hF.out.f0 (by simpa using h), fun h => hF.out.f1 (by simpa using h), fun h => hF.out.f2 (by simpa using h), fun h => hF.out.f3 (by simpa using h), fun h => hF.out.f4 (by simpa using h), fun h => hF.out.f5 (by simpa using h), fun h => hF.out.f6 (by simpa using h), fun h => hF.out.f7 (by simpa using h), fun h => hF.out.f8 (by simpa using h), fun h => hF.out.f9 (by simpa using h), fun h => hF.out.f10 (by simpa using h), fun _ => rfl, fun h => hF.out.f12 (by simpa using h), fun h => no_way (HD.out.symm.trans (by simpa using h)), Sb.next _ _ hF.out.below hb1, fun h => ⟨(hF.out.ra (by simpa using h)).1.next hb1, (hF.out.ra (by simpa using h)).2⟩, fun _ => ⟨hT, Nat.le_trans (Below.size hF.out.below) hga, hA⟩, fun h => by simpa using hF.out.g12 (by simpa using h), fun _ => by simp⟩
    · intro d a W hI hd hdep
      obtain ⟨ga, gb, A, Bf, x8, x9, x74, x75, x76, x77, x78, x79, x80, x81, x82, x83, x84, x85, rfl, hF⟩ := hI
      have hd5 : d 5 = true := dep_of hdep 5 (by kernel_rfl)
      obtain rfl := hF.out.f5 hd5
      have HD : Hid (d 5 = true) := hd5
      clear hdep hd hd5
      intro K hK
      simp only [Act.put, List.setIfInBounds_toArray, List.set_cons_zero, List.set_cons_succ]
      go_simp
      refine hK.out _ _ ⟨ga, gb, A, Bf, (.slice (some ⟨ga, 0, none⟩) (s.size + 1) (s.size + 1)), x9, x74, x75, x76, x77, x78, (.slice (some ⟨ga, 0, none⟩) (s.size + 1) (s.size + 1)), x80, x81, x82, x83, x84, x85, by simp only [Act.put, List.setIfInBounds_toArray, List.set_cons_zero, List.set_cons_succ], ?_⟩
      exact ⟨fun h => hF.out.f0 (by simpa using h), fun h => hF.out.f1 (by simpa using h), fun h => hF.out.f2 (by simpa using h), fun h => hF.out.f3 (by simpa using h), fun h => hF.out.f4 (by simpa using h), fun h => hF.out.f5 (by simpa using h), fun h => hF.out.f6 (by simpa using h), fun h => hF.out.f7 (by simpa using h), fun h => hF.out.f8 (by simpa using h), fun h => hF.out.f9 (by simpa using h), fun h => hF.out.f10 (by simpa using h), fun h => hF.out.f11 (by simpa using h), fun _ => rfl, fun h => hF.out.f13 (by simpa using h), hF.out.below, fun h => hF.out.ra (by simpa using h), fun h => hF.out.rb (by simpa using h), fun _ => by simpa using HD.out, fun h => by simpa using hF.out.g13 (by simpa using h)⟩
    · intro d a W hI hd hdep
      obtain ⟨ga, gb, A, Bf, x8, x9, x74, x75, x76, x77, x78, x79, x80, x81, x82, x83, x84, x85, rfl, hF⟩ := hI
      have hd11 : d 11 = true := dep_of hdep 11 (by kernel_rfl)
      obtain rfl := hF.out.f11 hd11
      have HD : Hid (d 11 = true) := hd11
      clear hdep hd hd11
      intro K hK
      simp only [Act.put, List.setIfInBounds_toArray, List.set_cons_zero, List.set_cons_succ]
      go_simp
      refine hK.out _ _ ⟨ga, gb, A, Bf, x8, (.slice (some ⟨gb, 0, none⟩) (s.size + 1) (s.size + 1)), x74, x75, x76, x77, x78, x79, x80, x81, x82, x83, x84, (.slice (some ⟨gb, 0, none⟩) (s.size + 1) (s.size + 1)), by simp only [Act.put, List.setIfInBounds_toArray, List.set_cons_zero, List.set_cons_succ], ?_⟩
      exact ⟨fun h => hF.out.f0 (by simpa using h), fun h => hF.out.f1 (by simpa using h), fun h => hF.out.f2 (by simpa using h), fun h => hF.out.f3 (by simpa using h), fun h => hF.out.f4 (by simpa using h), fun h => hF.out.f5 (by simpa using h), fun h => hF.out.f6 (by simpa using h), fun h => hF.out.f7 (by simpa using h), fun h => hF.out.f8 (by simpa using h), fun h => hF.out.f9 (by simpa using h), fun h => hF.out.f10 (by simpa using h), fun h => hF.out.f11 (by simpa using h), fun h => hF.out.f12 (by simpa using h), fun _ => rfl, hF.out.below, fun h => hF.out.ra (by simpa using h), fun h => hF.out.rb (by simpa using h), fun h => by simpa using hF.out.g12 (by simpa using h), fun _ => by simpa using HD.out⟩
  · intro d a W hI hall
    obtain ⟨ga, gb, A, Bf, x8, x9, x74, x75, x76, x77, x78, x79, x80, x81, x82, x83, x84, x85, rfl, hF⟩ := hI
    simp only [List.length_cons, List.length_nil] at hall
    obtain rfl := hF.out.f0 (hall 0 (by omega))
    obtain rfl := hF.out.f1 (hall 1 (by omega))
    obtain rfl := hF.out.f2 (hall 2 (by omega))
    obtain rfl := hF.out.f3 (hall 3 (by omega))
    obtain rfl := hF.out.f4 (hall 4 (by omega))
    obtain rfl := hF.out.f5 (hall 5 (by omega))
    obtain rfl := hF.out.f6 (hall 6 (by omega))
    obtain rfl := hF.out.f7 (hall 7 (by omega))
    obtain rfl := hF.out.f8 (hall 8 (by omega))
    obtain rfl := hF.out.f9 (hall 9 (by omega))
    obtain rfl := hF.out.f10 (hall 10 (by omega))
    obtain rfl := hF.out.f11 (hall 11 (by omega))
    obtain rfl := hF.out.f12 (hall 12 (by omega))
    obtain rfl := hF.out.f13 (hall 13 (by omega))
    have HS2 : Hid ((Sg w (.cells #[.int .i64 5, .int .u64 (empty.1.toNat : Int), .int .u64 (empty.2.1.toNat : Int), .int .u64 (empty.2.2.1.toNat : Int), .int .u64 (empty.2.2.2.toNat : Int), .slice (some ⟨b, o, none⟩) 2 cap] 27) g (s.size + 1) (fun _ _ => false) W ∧ Tb W ga (s.size + 1) A ∧ Tb W gb (s.size + 1) Bf ∧ g + (s.size + 1) < ga ∧ g + (s.size + 1) < gb) ∧ (∀ u v, u < (s.size + 1) → v < (s.size + 1) → (A u v = true ↔ Sp x s.data.toList u v)) ∧ ∀ u v, u < (s.size + 1) → v < (s.size + 1) → (Bf u v = true ↔ Sp y s.data.toList u v)) := by
      obtain ⟨u1, u2, u3⟩ := hF.out.ra (hall 5 (by omega))
      obtain ⟨v1, v2, v3⟩ := hF.out.rb (hall 11 (by omega))
      have hlt := (H0.out.o.rows s.size (by omega)).lt
      exact ⟨⟨⟨H0.out.below.trans (Below.mono hF.out.below H0.out.below.size), blk_next hF.out.below H0.out.box, H0.out.o.next hF.out.below, H0.out.lo⟩, u1, v1, by omega, by omega⟩, u3, v3⟩
    clear hF hall
    simp only [Act.put, List.setIfInBounds_toArray, List.set_cons_zero, List.set_cons_succ]
    go_wp2_with fail
    go_loopw [10] (fun z wr => ∃ (i : Nat) (F : Nat → Nat → Bool), i ≤ (s.size + 1) ∧ z = .int .i64 (i : Int) ∧ Hid ((Sg w (.cells #[.int .i64 5, .int .u64 (empty.1.toNat : Int), .int .u64 (empty.2.1.toNat : Int), .int .u64 (empty.2.2.1.toNat : Int), .int .u64 (empty.2.2.2.toNat : Int), .slice (some ⟨b, o, none⟩) 2 cap] 27) g (s.size + 1) F wr ∧ Tb wr ga (s.size + 1) A ∧ Tb wr gb (s.size + 1) Bf ∧ g + (s.size + 1) < ga ∧ g + (s.size + 1) < gb) ∧ P0 A Bf (s.size + 1) i F)) (fun z _ => (s.size + 1) - (intOf z).toNat)
    case atStart => exact ⟨0, _, by omega, rfl, ⟨HS2.out.1, fun u v _ _ => by simp⟩⟩
    case round =>
        obtain ⟨i, F0, hi, rfl, HI⟩ := hrel
        by_cases hlt : i ≤ s.size
        · have hlt' : (i : Int) ≤ (s.size : Int) := by omega
          go_wp2_with fail
          go_loopw [11] (fun z wr => ∃ (j : Nat) (F : Nat → Nat → Bool), i ≤ j ∧ j ≤ (s.size + 1) ∧ z = .int .i64 (j : Int) ∧ Hid ((Sg w (.cells #[.int .i64 5, .int .u64 (empty.1.toNat : Int), .int .u64 (empty.2.1.toNat : Int), .int .u64 (empty.2.2.1.toNat : Int), .int .u64 (empty.2.2.2.toNat : Int), .slice (some ⟨b, o, none⟩) 2 cap] 27) g (s.size + 1) F wr ∧ Tb wr ga (s.size + 1) A ∧ Tb wr gb (s.size + 1) Bf ∧ g + (s.size + 1) < ga ∧ g + (s.size + 1) < gb) ∧ P1 A Bf (s.size + 1) i j F)) (fun z _ => (s.size + 1) - (intOf z).toNat)
          case atStart => exact ⟨i, F0, by omega, by omega, rfl, ⟨HI.out.1, p_in HI.out.2⟩⟩
          case round =>
            obtain ⟨j, F, hij, hj, rfl, HI1⟩ := hrel
            by_cases hjl : j ≤ s.size
            · have hjl' : (j : Int) ≤ (s.size : Int) := by omega
              obtain ⟨fv, HFV⟩ : ∃ fv, Hid (A i j = fv) := ⟨_, (rfl : A i j = A i j)⟩
              obtain ⟨bv, HBV⟩ : ∃ bv, Hid (Bf i j = bv) := ⟨_, (rfl : Bf i j = Bf i j)⟩
              have d1 : ∀ p : Kp (Sm wr), p.W.cell? ⟨g, i, none⟩ = some (.slice (some ⟨g + 1 + i, 0, none⟩) (s.size + 1) (s.size + 1)) := fun p => (p.h.cell _).trans (HI1.out.1.1.o.top.cell (i := i) (by omega))
              have d2 : ∀ p : Kp (Sm wr), p.W.cell? ⟨ga, i, none⟩ = some (.slice (some ⟨ga + 1 + i, 0, none⟩) (s.size + 1) (s.size + 1)) := fun p => (p.h.cell _).trans (HI1.out.1.2.1.top.cell (i := i) (by omega))
              have d3 : ∀ p : Kp (Sm wr), p.W.cell? ⟨ga + 1 + i, j, none⟩ = some (.bool fv) := fun p => (p.h.cell _).trans (by rw [← HFV.out]; exact (HI1.out.1.2.1.rows i (by omega)).cell (i := j) (by omega))
              have d4 : ∀ p : Kp (Sm wr), p.W.cell? ⟨gb, i, none⟩ = some (.slice (some ⟨gb + 1 + i, 0, none⟩) (s.size + 1) (s.size + 1)) := fun p => (p.h.cell _).trans (HI1.out.1.2.2.1.top.cell (i := i) (by omega))
              have d5 : ∀ p : Kp (Sm wr), p.W.cell? ⟨gb + 1 + i, j, none⟩ = some (.bool bv) := fun p => (p.h.cell _).trans (by rw [← HBV.out]; exact (HI1.out.1.2.2.1.rows i (by omega)).cell (i := j) (by omega))
              go_wp2_with fail
              have hne : Nonempty (Kp (Sm wr)) := ⟨⟨_, Sm.drew wr⟩⟩
              refine wp_region_tail [_, _, _, _, _, _, _, _, _, _, _, _, _, _, _, _, _, _, _, _, _, _] _ rfl mixed (by kernel_rfl) (Sm.drew wr) ?_
              simp only [List.cons_append, List.nil_append]
              cases fv
              case false =>
                repeat (go_big_quiet_step (fail))
                refine wpQuiet_nil ?_
                intro p
                have HP : Hid (Sm wr p.W) := p.h
                have f1 := (p.h.frozen ⟨g + 1 + i, j, none⟩).trans ((HI1.out.1.1.o.rows i (by omega)).frozen j)
                have d7 := (p.h.cell ⟨g + 1 + i, j, none⟩).trans ((HI1.out.1.1.o.rows i (by omega)).cell (i := j) (by omega))
                generalize p.W = W6 at HP f1 d7 ⊢
                clear p d1 d2 d3 d4 d5 hne
                go_simp
                go_wp2_with fail
                go_roundw
                case rel => exact ⟨j + 1, _, by omega, by omega, by go_num, ⟨sgb_put HI1.out.1 (HP.out.below _) i j bv (by omega), by have := p_step HI1.out.2 hij; rw [HFV.out, HBV.out] at this; exact this⟩⟩
                case measure => simp [intOf]; omega
              case true =>
                repeat (go_big_quiet_step (fail))
                refine wpQuiet_nil ?_
                intro p
                have HP : Hid (Sm wr p.W) := p.h
                have f1 := (p.h.frozen ⟨g + 1 + i, j, none⟩).trans ((HI1.out.1.1.o.rows i (by omega)).frozen j)
                have d7 := (p.h.cell ⟨g + 1 + i, j, none⟩).trans ((HI1.out.1.1.o.rows i (by omega)).cell (i := j) (by omega))
                generalize p.W = W6 at HP f1 d7 ⊢
                clear p d1 d2 d3 d4 d5 hne
                go_simp
                go_wp2_with fail
                go_roundw
                case rel => exact ⟨j + 1, _, by omega, by omega, by go_num, ⟨sgb_put HI1.out.1 (HP.out.below _) i j true (by omega), by have := p_step HI1.out.2 hij; rw [HFV.out, HBV.out] at this; exact this⟩⟩
                case measure => simp [intOf]; omega
            · have hjl' : ¬ (j : Int) ≤ (s.size : Int) := by omega
              go_wp2_with fail
              go_roundw
              case rel => exact ⟨i + 1, F, by omega, by go_num, ⟨HI1.out.1, p_out HI1.out.2 (by omega)⟩⟩
              case measure => simp [intOf]; omega
        · have hlt' : ¬ (i : Int) ≤ (s.size : Int) := by omega
          go_wp2_with fail
          go_ret
          refine ⟨g, rfl, by omega, ⟨F0, HI.out.1.1.o, fun u v hu hv => ?_⟩, HI.out.1.1.below⟩
          rw [HI.out.2 u v hu hv, sp_alt, HS2.out.2.1 u v hu hv, HS2.out.2.2 u v hu hv]
          constructor
          · exact fun h => h.2.2
          · intro h; exact ⟨by omega, by rcases h with h | h; exact h.1; exact h.1, h⟩
end Go.Proofs.Ytdnagboonjcehaa
