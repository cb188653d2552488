/-
  The contract of rex.written: how a right tree is written.
-/
import Derived.Test.YthloedfiomfnbaaWritten
namespace Go.Proofs.Ythloedfiomfnbaa
open Go.RowKit
open Cls Rex Txt

structure Ralt (w : World) (B b o cap g : Nat) (p00 p01 p02 p03 p04 p05 p10 p11 p12 p13 p14 p15 : Value) (s u : T) (LA LB : List UInt8) (n2 : Nat) (d : Nat → Bool) (x2 x38 x39 x40 x41 x42 x43 x44 x45 x46 x47 x48 x49 x50 : Value) (W : World) : Prop where
  f0 : d 0 = true → x38 = (.pointer (some ⟨g, 5, none⟩))
  f1 : d 1 = true → x39 = (.slice (some ⟨b, o, none⟩) 2 cap)
  f2 : d 2 = true → x40 = (.pointer (some ⟨b, o, none⟩))
  f3 : d 3 = true → x41 = (.agg #[p00, p01, p02, p03, p04, p05])
  f4 : d 4 = true → x42 = (.string (S LA))
  f5 : d 5 = true → x43 = (.string (S LA ++ ⟨#[124]⟩))
  f6 : d 6 = true → x44 = (.pointer (some ⟨g, 5, none⟩))
  f7 : d 7 = true → x45 = (.slice (some ⟨b, o, none⟩) 2 cap)
  f8 : d 8 = true → x46 = (.pointer (some ⟨b, o + 6, none⟩))
  f9 : d 9 = true → x47 = (.agg #[p10, p11, p12, p13, p14, p15])
  f10 : d 10 = true → x48 = (.slice (some ⟨n2, 0, none⟩) 1 1)
  f11 : d 11 = true → x49 = (.string (S LB))
  f12 : d 12 = true → x50 = (.string (S LA ++ ⟨#[124]⟩ ++ S LB))
  f13 : d 13 = true → x2 = (.string (S LA ++ ⟨#[124]⟩ ++ S LB))
  below : Sb w W
  bw : B ≤ W.heap.size
  gl : g < w.heap.size
  bl : b < w.heap.size
  y5 : W.cell? ⟨g, 5, none⟩ = some (.slice (some ⟨b, o, none⟩) 2 cap)
  k00 : W.cell? ⟨b, o, none⟩ = some (p00)
  k01 : W.cell? ⟨b, o + 1, none⟩ = some (p01)
  k02 : W.cell? ⟨b, o + 2, none⟩ = some (p02)
  k03 : W.cell? ⟨b, o + 3, none⟩ = some (p03)
  k04 : W.cell? ⟨b, o + 4, none⟩ = some (p04)
  k05 : W.cell? ⟨b, o + 5, none⟩ = some (p05)
  k10 : W.cell? ⟨b, o + 6, none⟩ = some (p10)
  k11 : W.cell? ⟨b, o + 6 + 1, none⟩ = some (p11)
  k12 : W.cell? ⟨b, o + 6 + 2, none⟩ = some (p12)
  k13 : W.cell? ⟨b, o + 6 + 3, none⟩ = some (p13)
  k14 : W.cell? ⟨b, o + 6 + 4, none⟩ = some (p14)
  k15 : W.cell? ⟨b, o + 6 + 5, none⟩ = some (p15)
  rx0 : Rx W B (.agg #[p00, p01, p02, p03, p04, p05]) s
  rx1 : Rx W B (.agg #[p10, p11, p12, p13, p14, p15]) u
  i2 : d 10 = true → Ints W (.slice (some ⟨n2, 0, none⟩) 1 1) [5]

set_option maxHeartbeats 2000000 in
set_option maxRecDepth 20000 in
theorem written_alt (x y : E) (hwx : WC x) (hwy : WC y) (hn : (E.alt x y).nodes ≤ 100) : WC (.alt x y) := by
  intro t v B w hi hx hB
  cases hi with
  | @alt s u a b his hiu =>
  have hn1 : x.nodes ≤ 100 := by simp only [E.nodes] at hn; omega
  have hn2 : y.nodes ≤ 100 := by simp only [E.nodes] at hn; omega
  have hla : (text x).length ≤ 232002 := by have := text_length x; omega
  have hlb : (inBr [5] (kindOf y) (text y)).length ≤ 232002 := by have := text_length y; have := inBr_length [5] (kindOf y) (text y); omega
  obtain ⟨k, c, ao, cap, kids, vals, rfl, ht, -, -, hc, hr⟩ := hx.shape
  simp only [T.mk.injEq] at ht
  obtain ⟨rfl, -, rfl⟩ := ht
  obtain ⟨b, o, rfl, hb, hcl⟩ := hc.resolve_left (by simp)
  obtain ⟨p00, p01, p02, p03, p04, p05, hx0, q00, q01, q02, q03, q04, q05⟩ := rx_kid hcl hr 0 (by simp)
  simp only [Nat.zero_mul, Nat.add_zero, List.getElem_cons_zero] at hx0 q00 q01 q02 q03 q04 q05
  obtain ⟨p10, p11, p12, p13, p14, p15, hx1, q10, q11, q12, q13, q14, q15⟩ := rx_kid hcl hr 1 (by simp)
  simp only [Nat.one_mul, List.getElem_cons_succ, List.getElem_cons_zero] at hx1 q10 q11 q12 q13 q14 q15
  simp only [List.length_cons, List.length_nil, Nat.zero_add, Nat.reduceAdd]
  show Calls _ _ _ _ fun e w' => e = .returned (.string (S (text x ++ [124] ++ inBr [5] (kindOf y) (text y)))) ∧ Below w.heap.size w w'
  have HKA : Hid (∀ W, Rx W B (.agg #[p00, p01, p02, p03, p04, p05]) s → B ≤ W.heap.size → Calls Try.prog 24 #[(.agg #[p00, p01, p02, p03, p04, p05])] W fun e w' => e = .returned (.string (S (text x))) ∧ Below W.heap.size W w') := fun W h1 h2 => hwx s _ B W his h1 h2
  have HKB : Hid (∀ W kv, Rx W B (.agg #[p10, p11, p12, p13, p14, p15]) u → B ≤ W.heap.size → Ints W kv [5] → Calls Try.prog 33 #[(.agg #[p10, p11, p12, p13, p14, p15]), kv] W fun e w' => e = .returned (.string (S (inBr [5] (kindOf y) (text y)))) ∧ Below W.heap.size W w') := fun W kv h1 h2 h3 => kid_any hwy hn2 u _ kv [5] B W hiu h1 h2 h3
  obtain ⟨LA, HLA⟩ : ∃ L, Hid (text x = L) := ⟨_, (rfl : text x = text x)⟩
  obtain ⟨LB, HLB⟩ : ∃ L, Hid (inBr [5] (kindOf y) (text y) = L) := ⟨_, (rfl : inBr [5] (kindOf y) (text y) = inBr [5] (kindOf y) (text y))⟩
  rw [HLA.out] at HKA hla ⊢
  rw [HLB.out] at HKB hlb ⊢
  have hsa : (S LA).size ≤ 232002 := by rw [S_size]; exact hla
  have hsb : (S LB).size ≤ 232002 := by rw [S_size]; exact hlb
  have hB' := hB
  obtain ⟨W0, HW0⟩ : ∃ W0, Hid (W0 = (w.alloc (Obj.cells #[.int .i64 5, .int .u64 (c.1.toNat : Int), .int .u64 (c.2.1.toNat : Int), .int .u64 (c.2.2.1.toNat : Int), .int .u64 (c.2.2.2.toNat : Int), .slice (some ⟨b, o, none⟩) 2 cap] 27))) := ⟨_, (rfl : (w.alloc (Obj.cells #[.int .i64 5, .int .u64 (c.1.toNat : Int), .int .u64 (c.2.1.toNat : Int), .int .u64 (c.2.2.1.toNat : Int), .int .u64 (c.2.2.2.toNat : Int), .slice (some ⟨b, o, none⟩) 2 cap] 27)) = (w.alloc (Obj.cells #[.int .i64 5, .int .u64 (c.1.toNat : Int), .int .u64 (c.2.1.toNat : Int), .int .u64 (c.2.2.1.toNat : Int), .int .u64 (c.2.2.2.toNat : Int), .slice (some ⟨b, o, none⟩) 2 cap] 27)))⟩
  have B0 : Below w.heap.size w (w.alloc (Obj.cells #[.int .i64 5, .int .u64 (c.1.toNat : Int), .int .u64 (c.2.1.toNat : Int), .int .u64 (c.2.2.1.toNat : Int), .int .u64 (c.2.2.2.toNat : Int), .slice (some ⟨b, o, none⟩) 2 cap] 27)) := (Below.refl _ _).alloc (Nat.le_refl _) _
  have H0 : Hid (∀ d, d = (fun _ : Nat => false) → ∀ x2 x38 x39 x40 x41 x42 x43 x44 x45 x46 x47 x48 x49 x50, Ralt (w.alloc (Obj.cells #[.int .i64 5, .int .u64 (c.1.toNat : Int), .int .u64 (c.2.1.toNat : Int), .int .u64 (c.2.2.1.toNat : Int), .int .u64 (c.2.2.2.toNat : Int), .slice (some ⟨b, o, none⟩) 2 cap] 27)) B b o cap w.heap.size p00 p01 p02 p03 p04 p05 p10 p11 p12 p13 p14 p15 s u LA LB 0 d x2 x38 x39 x40 x41 x42 x43 x44 x45 x46 x47 x48 x49 x50 (w.alloc (Obj.cells #[.int .i64 5, .int .u64 (c.1.toNat : Int), .int .u64 (c.2.1.toNat : Int), .int .u64 (c.2.2.1.toNat : Int), .int .u64 (c.2.2.2.toNat : Int), .slice (some ⟨b, o, none⟩) 2 cap] 27)).drew) := by
    intro d hd x2 x38 x39 x40 x41 x42 x43 x44 x45 x46 x47 x48 x49 x50
    subst hd
    exact ⟨fun h => no_way h, fun h => no_way h, fun h => no_way h, fun h => no_way h, fun h => no_way h, fun h => no_way h, fun h => no_way h, fun h => no_way h, fun h => no_way h, fun h => no_way h, fun h => no_way h, fun h => no_way h, fun h => no_way h, fun h => no_way h, Sb.drew _, by simp; omega, by simp, by simp; omega, by simp, (B0.cell (p := ⟨b, o, none⟩) (Nat.lt_of_lt_of_le hb hB)).trans q00, (B0.cell (p := ⟨b, o + 1, none⟩) (Nat.lt_of_lt_of_le hb hB)).trans q01, (B0.cell (p := ⟨b, o + 2, none⟩) (Nat.lt_of_lt_of_le hb hB)).trans q02, (B0.cell (p := ⟨b, o + 3, none⟩) (Nat.lt_of_lt_of_le hb hB)).trans q03, (B0.cell (p := ⟨b, o + 4, none⟩) (Nat.lt_of_lt_of_le hb hB)).trans q04, (B0.cell (p := ⟨b, o + 5, none⟩) (Nat.lt_of_lt_of_le hb hB)).trans q05, (B0.cell (p := ⟨b, o + 6, none⟩) (Nat.lt_of_lt_of_le hb hB)).trans q10, (B0.cell (p := ⟨b, o + 6 + 1, none⟩) (Nat.lt_of_lt_of_le hb hB)).trans q11, (B0.cell (p := ⟨b, o + 6 + 2, none⟩) (Nat.lt_of_lt_of_le hb hB)).trans q12, (B0.cell (p := ⟨b, o + 6 + 3, none⟩) (Nat.lt_of_lt_of_le hb hB)).trans q13, (B0.cell (p := ⟨b, o + 6 + 4, none⟩) (Nat.lt_of_lt_of_le hb hB)).trans q14, (B0.cell (p := ⟨b, o + 6 + 5, none⟩) (Nat.lt_of_lt_of_le hb hB)).trans q15, hx0.next (Below.mono (B0.drew) hB), hx1.next (Below.mono (B0.drew) hB), fun h => no_way h⟩
  have HBW : Hid (Below w.heap.size w (w.alloc (Obj.cells #[.int .i64 5, .int .u64 (c.1.toNat : Int), .int .u64 (c.2.1.toNat : Int), .int .u64 (c.2.2.1.toNat : Int), .int .u64 (c.2.2.2.toNat : Int), .slice (some ⟨b, o, none⟩) 2 cap] 27))) := B0
  clear hx hcl hr hc hx0 hx1 B0 hwx hwy q00 q01 q02 q03 q04 q05 q10 q11 q12 q13 q14 q15
  go_enter Try.func24, Try.ntmps24
  go_wp2_with fail
  refine wp_region_free mixed (fun a0 d a W => ∃ (n2 : Nat) (x2 x38 x39 x40 x41 x42 x43 x44 x45 x46 x47 x48 x49 x50 : Value), a = ((((((((((((((a0.put (some 2) x2).put (some 38) x38).put (some 39) x39).put (some 40) x40).put (some 41) x41).put (some 42) x42).put (some 43) x43).put (some 44) x44).put (some 45) x45).put (some 46) x46).put (some 47) x47).put (some 48) x48).put (some 49) x49).put (some 50) x50) ∧ Hid (Ralt (w.alloc (Obj.cells #[.int .i64 5, .int .u64 (c.1.toNat : Int), .int .u64 (c.2.1.toNat : Int), .int .u64 (c.2.2.1.toNat : Int), .int .u64 (c.2.2.2.toNat : Int), .slice (some ⟨b, o, none⟩) 2 cap] 27)) B b o cap w.heap.size p00 p01 p02 p03 p04 p05 p10 p11 p12 p13 p14 p15 s u LA LB n2 d x2 x38 x39 x40 x41 x42 x43 x44 x45 x46 x47 x48 x49 x50 W)) (by kernel_rfl) ⟨0, (.string ⟨#[]⟩), undef, undef, undef, undef, undef, undef, undef, undef, undef, undef, undef, undef, undef, by simp only [Act.put, List.setIfInBounds_toArray, List.set_cons_zero, List.set_cons_succ], ?_⟩ ?_ ?_
  · exact H0.out _ rfl _ _ _ _ _ _ _ _ _ _ _ _ _ _
  · simp only [StepAll, and_true]
    refine ⟨?_, ?_, ?_, ?_, ?_, ?_, ?_, ?_, ?_, ?_, ?_, ?_, ?_, ?_⟩
    · intro d a W hI hd hdep
      obtain ⟨n2, x2, x38, x39, x40, x41, x42, x43, x44, x45, x46, x47, x48, x49, x50, rfl, hF⟩ := hI
      clear hdep hd
      intro K hK
      simp only [Act.put, List.setIfInBounds_toArray, List.set_cons_zero, List.set_cons_succ]
      go_simp
      refine hK.out _ _ ⟨n2, x2, (.pointer (some ⟨w.heap.size, 5, none⟩)), x39, x40, x41, x42, x43, x44, x45, x46, x47, x48, x49, x50, by simp only [Act.put, List.setIfInBounds_toArray, List.set_cons_zero, List.set_cons_succ], ?_⟩
      exact ⟨fun _ => rfl, fun h => hF.out.f1 (by simpa using h), fun h => hF.out.f2 (by simpa using h), fun h => hF.out.f3 (by simpa using h), fun h => hF.out.f4 (by simpa using h), fun h => hF.out.f5 (by simpa using h), fun h => hF.out.f6 (by simpa using h), fun h => hF.out.f7 (by simpa using h), fun h => hF.out.f8 (by simpa using h), fun h => hF.out.f9 (by simpa using h), fun h => hF.out.f10 (by simpa using h), fun h => hF.out.f11 (by simpa using h), fun h => hF.out.f12 (by simpa using h), fun h => hF.out.f13 (by simpa using h), hF.out.below, hF.out.bw, hF.out.gl, hF.out.bl, hF.out.y5, hF.out.k00, hF.out.k01, hF.out.k02, hF.out.k03, hF.out.k04, hF.out.k05, hF.out.k10, hF.out.k11, hF.out.k12, hF.out.k13, hF.out.k14, hF.out.k15, hF.out.rx0, hF.out.rx1, fun h => hF.out.i2 (by simpa using h)⟩
    · intro d a W hI hd hdep
      obtain ⟨n2, x2, x38, x39, x40, x41, x42, x43, x44, x45, x46, x47, x48, x49, x50, rfl, hF⟩ := hI
      have hd0 : d 0 = true := dep_of hdep 0 (by kernel_rfl)
      obtain rfl := hF.out.f0 hd0
      have y5 := hF.out.y5
      clear hdep hd hd0
      intro K hK
      simp only [Act.put, List.setIfInBounds_toArray, List.set_cons_zero, List.set_cons_succ]
      go_simp
      refine hK.out _ _ ⟨n2, x2, (.pointer (some ⟨w.heap.size, 5, none⟩)), (.slice (some ⟨b, o, none⟩) 2 cap), x40, x41, x42, x43, x44, x45, x46, x47, x48, x49, x50, by simp only [Act.put, List.setIfInBounds_toArray, List.set_cons_zero, List.set_cons_succ], ?_⟩
      exact ⟨fun h => hF.out.f0 (by simpa using h), fun _ => rfl, fun h => hF.out.f2 (by simpa using h), fun h => hF.out.f3 (by simpa using h), fun h => hF.out.f4 (by simpa using h), fun h => hF.out.f5 (by simpa using h), fun h => hF.out.f6 (by simpa using h), fun h => hF.out.f7 (by simpa using h), fun h => hF.out.f8 (by simpa using h), fun h => hF.out.f9 (by simpa using h), fun h => hF.out.f10 (by simpa using h), fun h => hF.out.f11 (by simpa using h), fun h => hF.out.f12 (by simpa using h), fun h => hF.out.f13 (by simpa using h), hF.out.below, hF.out.bw, hF.out.gl, hF.out.bl, hF.out.y5, hF.out.k00, hF.out.k01, hF.out.k02, hF.out.k03, hF.out.k04, hF.out.k05, hF.out.k10, hF.out.k11, hF.out.k12, hF.out.k13, hF.out.k14, hF.out.k15, hF.out.rx0, hF.out.rx1, fun h => hF.out.i2 (by simpa using h)⟩
    · intro d a W hI hd hdep
      obtain ⟨n2, x2, x38, x39, x40, x41, x42, x43, x44, x45, x46, x47, x48, x49, x50, rfl, hF⟩ := hI
      have hd1 : d 1 = true := dep_of hdep 1 (by kernel_rfl)
      obtain rfl := hF.out.f1 hd1
      clear hdep hd hd1
      intro K hK
      simp only [Act.put, List.setIfInBounds_toArray, List.set_cons_zero, List.set_cons_succ]
      go_simp
      refine hK.out _ _ ⟨n2, x2, x38, (.slice (some ⟨b, o, none⟩) 2 cap), (.pointer (some ⟨b, o, none⟩)), x41, x42, x43, x44, x45, x46, x47, x48, x49, x50, by simp only [Act.put, List.setIfInBounds_toArray, List.set_cons_zero, List.set_cons_succ], ?_⟩
      exact ⟨fun h => hF.out.f0 (by simpa using h), fun h => hF.out.f1 (by simpa using h), fun _ => rfl, fun h => hF.out.f3 (by simpa using h), fun h => hF.out.f4 (by simpa using h), fun h => hF.out.f5 (by simpa using h), fun h => hF.out.f6 (by simpa using h), fun h => hF.out.f7 (by simpa using h), fun h => hF.out.f8 (by simpa using h), fun h => hF.out.f9 (by simpa using h), fun h => hF.out.f10 (by simpa using h), fun h => hF.out.f11 (by simpa using h), fun h => hF.out.f12 (by simpa using h), fun h => hF.out.f13 (by simpa using h), hF.out.below, hF.out.bw, hF.out.gl, hF.out.bl, hF.out.y5, hF.out.k00, hF.out.k01, hF.out.k02, hF.out.k03, hF.out.k04, hF.out.k05, hF.out.k10, hF.out.k11, hF.out.k12, hF.out.k13, hF.out.k14, hF.out.k15, hF.out.rx0, hF.out.rx1, fun h => hF.out.i2 (by simpa using h)⟩
    · intro d a W hI hd hdep
      obtain ⟨n2, x2, x38, x39, x40, x41, x42, x43, x44, x45, x46, x47, x48, x49, x50, rfl, hF⟩ := hI
      have hd2 : d 2 = true := dep_of hdep 2 (by kernel_rfl)
      obtain rfl := hF.out.f2 hd2
      have z0 := hF.out.k00
      have z1 := hF.out.k01
      have z2 := hF.out.k02
      have z3 := hF.out.k03
      have z4 := hF.out.k04
      have z5 := hF.out.k05
      clear hdep hd hd2
      intro K hK
      simp only [Act.put, List.setIfInBounds_toArray, List.set_cons_zero, List.set_cons_succ]
      go_simp
      refine hK.out _ _ ⟨n2, x2, x38, x39, (.pointer (some ⟨b, o, none⟩)), (.agg #[p00, p01, p02, p03, p04, p05]), x42, x43, x44, x45, x46, x47, x48, x49, x50, by simp only [Act.put, List.setIfInBounds_toArray, List.set_cons_zero, List.set_cons_succ], ?_⟩
      exact ⟨fun h => hF.out.f0 (by simpa using h), fun h => hF.out.f1 (by simpa using h), fun h => hF.out.f2 (by simpa using h), fun _ => rfl, fun h => hF.out.f4 (by simpa using h), fun h => hF.out.f5 (by simpa using h), fun h => hF.out.f6 (by simpa using h), fun h => hF.out.f7 (by simpa using h), fun h => hF.out.f8 (by simpa using h), fun h => hF.out.f9 (by simpa using h), fun h => hF.out.f10 (by simpa using h), fun h => hF.out.f11 (by simpa using h), fun h => hF.out.f12 (by simpa using h), fun h => hF.out.f13 (by simpa using h), hF.out.below, hF.out.bw, hF.out.gl, hF.out.bl, hF.out.y5, hF.out.k00, hF.out.k01, hF.out.k02, hF.out.k03, hF.out.k04, hF.out.k05, hF.out.k10, hF.out.k11, hF.out.k12, hF.out.k13, hF.out.k14, hF.out.k15, hF.out.rx0, hF.out.rx1, fun h => hF.out.i2 (by simpa using h)⟩
    · intro d a W hI hd hdep
      obtain ⟨n2, x2, x38, x39, x40, x41, x42, x43, x44, x45, x46, x47, x48, x49, x50, rfl, hF⟩ := hI
      have hd3 : d 3 = true := dep_of hdep 3 (by kernel_rfl)
      obtain rfl := hF.out.f3 hd3
      clear hdep hd hd3
      intro K hK
      simp only [Act.put, List.setIfInBounds_toArray, List.set_cons_zero, List.set_cons_succ]
      go_simp
      refine (HKA.out W hF.out.rx0 hF.out.bw).mono ?_
      rintro _ W2 ⟨rfl, hB⟩
      go_simp
      refine hK.out _ _ ⟨n2, x2, x38, x39, x40, (.agg #[p00, p01, p02, p03, p04, p05]), (.string (S LA)), x43, x44, x45, x46, x47, x48, x49, x50, by simp only [Act.put, List.setIfInBounds_toArray, List.set_cons_zero, List.set_cons_succ], ?_⟩
      exact ⟨fun h => hF.out.f0 (by simpa using h), fun h => hF.out.f1 (by simpa using h), fun h => hF.out.f2 (by simpa using h), fun h => hF.out.f3 (by simpa using h), fun _ => rfl, fun h => hF.out.f5 (by simpa using h), fun h => hF.out.f6 (by simpa using h), fun h => hF.out.f7 (by simpa using h), fun h => hF.out.f8 (by simpa using h), fun h => hF.out.f9 (by simpa using h), fun h => hF.out.f10 (by simpa using h), fun h => hF.out.f11 (by simpa using h), fun h => hF.out.f12 (by simpa using h), fun h => hF.out.f13 (by simpa using h), Sb.next _ _ hF.out.below hB, Nat.le_trans hF.out.bw hB.size, hF.out.gl, hF.out.bl, (hB.cell (p := ⟨w.heap.size, 5, none⟩) (Nat.lt_of_lt_of_le hF.out.gl hF.out.below.size)).trans hF.out.y5, (hB.cell (p := ⟨b, o, none⟩) (Nat.lt_of_lt_of_le hF.out.bl hF.out.below.size)).trans hF.out.k00, (hB.cell (p := ⟨b, o + 1, none⟩) (Nat.lt_of_lt_of_le hF.out.bl hF.out.below.size)).trans hF.out.k01, (hB.cell (p := ⟨b, o + 2, none⟩) (Nat.lt_of_lt_of_le hF.out.bl hF.out.below.size)).trans hF.out.k02, (hB.cell (p := ⟨b, o + 3, none⟩) (Nat.lt_of_lt_of_le hF.out.bl hF.out.below.size)).trans hF.out.k03, (hB.cell (p := ⟨b, o + 4, none⟩) (Nat.lt_of_lt_of_le hF.out.bl hF.out.below.size)).trans hF.out.k04, (hB.cell (p := ⟨b, o + 5, none⟩) (Nat.lt_of_lt_of_le hF.out.bl hF.out.below.size)).trans hF.out.k05, (hB.cell (p := ⟨b, o + 6, none⟩) (Nat.lt_of_lt_of_le hF.out.bl hF.out.below.size)).trans hF.out.k10, (hB.cell (p := ⟨b, o + 6 + 1, none⟩) (Nat.lt_of_lt_of_le hF.out.bl hF.out.below.size)).trans hF.out.k11, (hB.cell (p := ⟨b, o + 6 + 2, none⟩) (Nat.lt_of_lt_of_le hF.out.bl hF.out.below.size)).trans hF.out.k12, (hB.cell (p := ⟨b, o + 6 + 3, none⟩) (Nat.lt_of_lt_of_le hF.out.bl hF.out.below.size)).trans hF.out.k13, (hB.cell (p := ⟨b, o + 6 + 4, none⟩) (Nat.lt_of_lt_of_le hF.out.bl hF.out.below.size)).trans hF.out.k14, (hB.cell (p := ⟨b, o + 6 + 5, none⟩) (Nat.lt_of_lt_of_le hF.out.bl hF.out.below.size)).trans hF.out.k15, hF.out.rx0.next (hB.mono hF.out.bw), hF.out.rx1.next (hB.mono hF.out.bw), fun h => (hF.out.i2 (by simpa using h)).below hB⟩
    · intro d a W hI hd hdep
      obtain ⟨n2, x2, x38, x39, x40, x41, x42, x43, x44, x45, x46, x47, x48, x49, x50, rfl, hF⟩ := hI
      have hd4 : d 4 = true := dep_of hdep 4 (by kernel_rfl)
      obtain rfl := hF.out.f4 hd4
      clear hdep hd hd4
      intro K hK
      simp only [Act.put, List.setIfInBounds_toArray, List.set_cons_zero, List.set_cons_succ]
      go_simp
      rw [if_neg (by first | omega | (simp; omega))]
      go_simp
      refine hK.out _ _ ⟨n2, x2, x38, x39, x40, x41, (.string (S LA)), (.string (S LA ++ ⟨#[124]⟩)), x44, x45, x46, x47, x48, x49, x50, by simp only [Act.put, List.setIfInBounds_toArray, List.set_cons_zero, List.set_cons_succ], ?_⟩
      exact ⟨fun h => hF.out.f0 (by simpa using h), fun h => hF.out.f1 (by simpa using h), fun h => hF.out.f2 (by simpa using h), fun h => hF.out.f3 (by simpa using h), fun h => hF.out.f4 (by simpa using h), fun _ => rfl, fun h => hF.out.f6 (by simpa using h), fun h => hF.out.f7 (by simpa using h), fun h => hF.out.f8 (by simpa using h), fun h => hF.out.f9 (by simpa using h), fun h => hF.out.f10 (by simpa using h), fun h => hF.out.f11 (by simpa using h), fun h => hF.out.f12 (by simpa using h), fun h => hF.out.f13 (by simpa using h), hF.out.below, hF.out.bw, hF.out.gl, hF.out.bl, hF.out.y5, hF.out.k00, hF.out.k01, hF.out.k02, hF.out.k03, hF.out.k04, hF.out.k05, hF.out.k10, hF.out.k11, hF.out.k12, hF.out.k13, hF.out.k14, hF.out.k15, hF.out.rx0, hF.out.rx1, fun h => hF.out.i2 (by simpa using h)⟩
    · intro d a W hI hd hdep
      obtain ⟨n2, x2, x38, x39, x40, x41, x42, x43, x44, x45, x46, x47, x48, x49, x50, rfl, hF⟩ := hI
      clear hdep hd
      intro K hK
      simp only [Act.put, List.setIfInBounds_toArray, List.set_cons_zero, List.set_cons_succ]
      go_simp
      refine hK.out _ _ ⟨n2, x2, x38, x39, x40, x41, x42, x43, (.pointer (some ⟨w.heap.size, 5, none⟩)), x45, x46, x47, x48, x49, x50, by simp only [Act.put, List.setIfInBounds_toArray, List.set_cons_zero, List.set_cons_succ], ?_⟩
      exact ⟨fun h => hF.out.f0 (by simpa using h), fun h => hF.out.f1 (by simpa using h), fun h => hF.out.f2 (by simpa using h), fun h => hF.out.f3 (by simpa using h), fun h => hF.out.f4 (by simpa using h), fun h => hF.out.f5 (by simpa using h), fun _ => rfl, fun h => hF.out.f7 (by simpa using h), fun h => hF.out.f8 (by simpa using h), fun h => hF.out.f9 (by simpa using h), fun h => hF.out.f10 (by simpa using h), fun h => hF.out.f11 (by simpa using h), fun h => hF.out.f12 (by simpa using h), fun h => hF.out.f13 (by simpa using h), hF.out.below, hF.out.bw, hF.out.gl, hF.out.bl, hF.out.y5, hF.out.k00, hF.out.k01, hF.out.k02, hF.out.k03, hF.out.k04, hF.out.k05, hF.out.k10, hF.out.k11, hF.out.k12, hF.out.k13, hF.out.k14, hF.out.k15, hF.out.rx0, hF.out.rx1, fun h => hF.out.i2 (by simpa using h)⟩
    · intro d a W hI hd hdep
      obtain ⟨n2, x2, x38, x39, x40, x41, x42, x43, x44, x45, x46, x47, x48, x49, x50, rfl, hF⟩ := hI
      have hd6 : d 6 = true := dep_of hdep 6 (by kernel_rfl)
      obtain rfl := hF.out.f6 hd6
      have y5 := hF.out.y5
      clear hdep hd hd6
      intro K hK
      simp only [Act.put, List.setIfInBounds_toArray, List.set_cons_zero, List.set_cons_succ]
      go_simp
      refine hK.out _ _ ⟨n2, x2, x38, x39, x40, x41, x42, x43, (.pointer (some ⟨w.heap.size, 5, none⟩)), (.slice (some ⟨b, o, none⟩) 2 cap), x46, x47, x48, x49, x50, by simp only [Act.put, List.setIfInBounds_toArray, List.set_cons_zero, List.set_cons_succ], ?_⟩
      exact ⟨fun h => hF.out.f0 (by simpa using h), fun h => hF.out.f1 (by simpa using h), fun h => hF.out.f2 (by simpa using h), fun h => hF.out.f3 (by simpa using h), fun h => hF.out.f4 (by simpa using h), fun h => hF.out.f5 (by simpa using h), fun h => hF.out.f6 (by simpa using h), fun _ => rfl, fun h => hF.out.f8 (by simpa using h), fun h => hF.out.f9 (by simpa using h), fun h => hF.out.f10 (by simpa using h), fun h => hF.out.f11 (by simpa using h), fun h => hF.out.f12 (by simpa using h), fun h => hF.out.f13 (by simpa using h), hF.out.below, hF.out.bw, hF.out.gl, hF.out.bl, hF.out.y5, hF.out.k00, hF.out.k01, hF.out.k02, hF.out.k03, hF.out.k04, hF.out.k05, hF.out.k10, hF.out.k11, hF.out.k12, hF.out.k13, hF.out.k14, hF.out.k15, hF.out.rx0, hF.out.rx1, fun h => hF.out.i2 (by simpa using h)⟩
    · intro d a W hI hd hdep
      obtain ⟨n2, x2, x38, x39, x40, x41, x42, x43, x44, x45, x46, x47, x48, x49, x50, rfl, hF⟩ := hI
      have hd7 : d 7 = true := dep_of hdep 7 (by kernel_rfl)
      obtain rfl := hF.out.f7 hd7
      clear hdep hd hd7
      intro K hK
      simp only [Act.put, List.setIfInBounds_toArray, List.set_cons_zero, List.set_cons_succ]
      go_simp
      refine hK.out _ _ ⟨n2, x2, x38, x39, x40, x41, x42, x43, x44, (.slice (some ⟨b, o, none⟩) 2 cap), (.pointer (some ⟨b, o + 6, none⟩)), x47, x48, x49, x50, by simp only [Act.put, List.setIfInBounds_toArray, List.set_cons_zero, List.set_cons_succ], ?_⟩
      exact ⟨fun h => hF.out.f0 (by simpa using h), fun h => hF.out.f1 (by simpa using h), fun h => hF.out.f2 (by simpa using h), fun h => hF.out.f3 (by simpa using h), fun h => hF.out.f4 (by simpa using h), fun h => hF.out.f5 (by simpa using h), fun h => hF.out.f6 (by simpa using h), fun h => hF.out.f7 (by simpa using h), fun _ => rfl, fun h => hF.out.f9 (by simpa using h), fun h => hF.out.f10 (by simpa using h), fun h => hF.out.f11 (by simpa using h), fun h => hF.out.f12 (by simpa using h), fun h => hF.out.f13 (by simpa using h), hF.out.below, hF.out.bw, hF.out.gl, hF.out.bl, hF.out.y5, hF.out.k00, hF.out.k01, hF.out.k02, hF.out.k03, hF.out.k04, hF.out.k05, hF.out.k10, hF.out.k11, hF.out.k12, hF.out.k13, hF.out.k14, hF.out.k15, hF.out.rx0, hF.out.rx1, fun h => hF.out.i2 (by simpa using h)⟩
    · intro d a W hI hd hdep
      obtain ⟨n2, x2, x38, x39, x40, x41, x42, x43, x44, x45, x46, x47, x48, x49, x50, rfl, hF⟩ := hI
      have hd8 : d 8 = true := dep_of hdep 8 (by kernel_rfl)
      obtain rfl := hF.out.f8 hd8
      have z0 := hF.out.k10
      have z1 := hF.out.k11
      have z2 := hF.out.k12
      have z3 := hF.out.k13
      have z4 := hF.out.k14
      have z5 := hF.out.k15
      clear hdep hd hd8
      intro K hK
      simp only [Act.put, List.setIfInBounds_toArray, List.set_cons_zero, List.set_cons_succ]
      go_simp
      refine hK.out _ _ ⟨n2, x2, x38, x39, x40, x41, x42, x43, x44, x45, (.pointer (some ⟨b, o + 6, none⟩)), (.agg #[p10, p11, p12, p13, p14, p15]), x48, x49, x50, by simp only [Act.put, List.setIfInBounds_toArray, List.set_cons_zero, List.set_cons_succ], ?_⟩
      exact ⟨fun h => hF.out.f0 (by simpa using h), fun h => hF.out.f1 (by simpa using h), fun h => hF.out.f2 (by simpa using h), fun h => hF.out.f3 (by simpa using h), fun h => hF.out.f4 (by simpa using h), fun h => hF.out.f5 (by simpa using h), fun h => hF.out.f6 (by simpa using h), fun h => hF.out.f7 (by simpa using h), fun h => hF.out.f8 (by simpa using h), fun _ => rfl, fun h => hF.out.f10 (by simpa using h), fun h => hF.out.f11 (by simpa using h), fun h => hF.out.f12 (by simpa using h), fun h => hF.out.f13 (by simpa using h), hF.out.below, hF.out.bw, hF.out.gl, hF.out.bl, hF.out.y5, hF.out.k00, hF.out.k01, hF.out.k02, hF.out.k03, hF.out.k04, hF.out.k05, hF.out.k10, hF.out.k11, hF.out.k12, hF.out.k13, hF.out.k14, hF.out.k15, hF.out.rx0, hF.out.rx1, fun h => hF.out.i2 (by simpa using h)⟩
    · intro d a W hI hd hdep
      obtain ⟨n2, x2, x38, x39, x40, x41, x42, x43, x44, x45, x46, x47, x48, x49, x50, rfl, hF⟩ := hI
      clear hdep hd
      intro K hK
      simp only [Act.put, List.setIfInBounds_toArray, List.set_cons_zero, List.set_cons_succ]
      go_simp
      refine hK.out _ _ ⟨W.heap.size, x2, x38, x39, x40, x41, x42, x43, x44, x45, x46, x47, (.slice (some ⟨W.heap.size, 0, none⟩) 1 1), x49, x50, by simp only [Act.put, List.setIfInBounds_toArray, List.set_cons_zero, List.set_cons_succ], ?_⟩
      exact ⟨fun h => hF.out.f0 (by simpa using h), fun h => hF.out.f1 (by simpa using h), fun h => hF.out.f2 (by simpa using h), fun h => hF.out.f3 (by simpa using h), fun h => hF.out.f4 (by simpa using h), fun h => hF.out.f5 (by simpa using h), fun h => hF.out.f6 (by simpa using h), fun h => hF.out.f7 (by simpa using h), fun h => hF.out.f8 (by simpa using h), fun h => hF.out.f9 (by simpa using h), fun _ => rfl, fun h => hF.out.f11 (by simpa using h), fun h => hF.out.f12 (by simpa using h), fun h => hF.out.f13 (by simpa using h), Below.alloc hF.out.below hF.out.below.size _, by have := hF.out.bw; simp; omega, hF.out.gl, hF.out.bl, (World.cell?_alloc_lt _ _ _ (Nat.lt_of_lt_of_le hF.out.gl hF.out.below.size)).trans hF.out.y5, (World.cell?_alloc_lt _ _ _ (Nat.lt_of_lt_of_le hF.out.bl hF.out.below.size)).trans hF.out.k00, (World.cell?_alloc_lt _ _ _ (Nat.lt_of_lt_of_le hF.out.bl hF.out.below.size)).trans hF.out.k01, (World.cell?_alloc_lt _ _ _ (Nat.lt_of_lt_of_le hF.out.bl hF.out.below.size)).trans hF.out.k02, (World.cell?_alloc_lt _ _ _ (Nat.lt_of_lt_of_le hF.out.bl hF.out.below.size)).trans hF.out.k03, (World.cell?_alloc_lt _ _ _ (Nat.lt_of_lt_of_le hF.out.bl hF.out.below.size)).trans hF.out.k04, (World.cell?_alloc_lt _ _ _ (Nat.lt_of_lt_of_le hF.out.bl hF.out.below.size)).trans hF.out.k05, (World.cell?_alloc_lt _ _ _ (Nat.lt_of_lt_of_le hF.out.bl hF.out.below.size)).trans hF.out.k10, (World.cell?_alloc_lt _ _ _ (Nat.lt_of_lt_of_le hF.out.bl hF.out.below.size)).trans hF.out.k11, (World.cell?_alloc_lt _ _ _ (Nat.lt_of_lt_of_le hF.out.bl hF.out.below.size)).trans hF.out.k12, (World.cell?_alloc_lt _ _ _ (Nat.lt_of_lt_of_le hF.out.bl hF.out.below.size)).trans hF.out.k13, (World.cell?_alloc_lt _ _ _ (Nat.lt_of_lt_of_le hF.out.bl hF.out.below.size)).trans hF.out.k14, (World.cell?_alloc_lt _ _ _ (Nat.lt_of_lt_of_le hF.out.bl hF.out.below.size)).trans hF.out.k15, hF.out.rx0.next ((Below.refl _ _).alloc hF.out.bw _), hF.out.rx1.next ((Below.refl _ _).alloc hF.out.bw _), fun _ => ints_block (l := [5]) (block_new W _) (by simp)⟩
    · intro d a W hI hd hdep
      obtain ⟨n2, x2, x38, x39, x40, x41, x42, x43, x44, x45, x46, x47, x48, x49, x50, rfl, hF⟩ := hI
      have hd9 : d 9 = true := dep_of hdep 9 (by kernel_rfl)
      have hd10 : d 10 = true := dep_of hdep 10 (by kernel_rfl)
      obtain rfl := hF.out.f9 hd9
      obtain rfl := hF.out.f10 hd10
      have hin := hF.out.i2 hd10
      clear hdep hd hd9 hd10
      intro K hK
      simp only [Act.put, List.setIfInBounds_toArray, List.set_cons_zero, List.set_cons_succ]
      go_simp
      refine (HKB.out W _ hF.out.rx1 hF.out.bw hin).mono ?_
      rintro _ W2 ⟨rfl, hB⟩
      go_simp
      refine hK.out _ _ ⟨n2, x2, x38, x39, x40, x41, x42, x43, x44, x45, x46, (.agg #[p10, p11, p12, p13, p14, p15]), (.slice (some ⟨n2, 0, none⟩) 1 1), (.string (S LB)), x50, by simp only [Act.put, List.setIfInBounds_toArray, List.set_cons_zero, List.set_cons_succ], ?_⟩
      exact ⟨fun h => hF.out.f0 (by simpa using h), fun h => hF.out.f1 (by simpa using h), fun h => hF.out.f2 (by simpa using h), fun h => hF.out.f3 (by simpa using h), fun h => hF.out.f4 (by simpa using h), fun h => hF.out.f5 (by simpa using h), fun h => hF.out.f6 (by simpa using h), fun h => hF.out.f7 (by simpa using h), fun h => hF.out.f8 (by simpa using h), fun h => hF.out.f9 (by simpa using h), fun h => hF.out.f10 (by simpa using h), fun _ => rfl, fun h => hF.out.f12 (by simpa using h), fun h => hF.out.f13 (by simpa using h), Sb.next _ _ hF.out.below hB, Nat.le_trans hF.out.bw hB.size, hF.out.gl, hF.out.bl, (hB.cell (p := ⟨w.heap.size, 5, none⟩) (Nat.lt_of_lt_of_le hF.out.gl hF.out.below.size)).trans hF.out.y5, (hB.cell (p := ⟨b, o, none⟩) (Nat.lt_of_lt_of_le hF.out.bl hF.out.below.size)).trans hF.out.k00, (hB.cell (p := ⟨b, o + 1, none⟩) (Nat.lt_of_lt_of_le hF.out.bl hF.out.below.size)).trans hF.out.k01, (hB.cell (p := ⟨b, o + 2, none⟩) (Nat.lt_of_lt_of_le hF.out.bl hF.out.below.size)).trans hF.out.k02, (hB.cell (p := ⟨b, o + 3, none⟩) (Nat.lt_of_lt_of_le hF.out.bl hF.out.below.size)).trans hF.out.k03, (hB.cell (p := ⟨b, o + 4, none⟩) (Nat.lt_of_lt_of_le hF.out.bl hF.out.below.size)).trans hF.out.k04, (hB.cell (p := ⟨b, o + 5, none⟩) (Nat.lt_of_lt_of_le hF.out.bl hF.out.below.size)).trans hF.out.k05, (hB.cell (p := ⟨b, o + 6, none⟩) (Nat.lt_of_lt_of_le hF.out.bl hF.out.below.size)).trans hF.out.k10, (hB.cell (p := ⟨b, o + 6 + 1, none⟩) (Nat.lt_of_lt_of_le hF.out.bl hF.out.below.size)).trans hF.out.k11, (hB.cell (p := ⟨b, o + 6 + 2, none⟩) (Nat.lt_of_lt_of_le hF.out.bl hF.out.below.size)).trans hF.out.k12, (hB.cell (p := ⟨b, o + 6 + 3, none⟩) (Nat.lt_of_lt_of_le hF.out.bl hF.out.below.size)).trans hF.out.k13, (hB.cell (p := ⟨b, o + 6 + 4, none⟩) (Nat.lt_of_lt_of_le hF.out.bl hF.out.below.size)).trans hF.out.k14, (hB.cell (p := ⟨b, o + 6 + 5, none⟩) (Nat.lt_of_lt_of_le hF.out.bl hF.out.below.size)).trans hF.out.k15, hF.out.rx0.next (hB.mono hF.out.bw), hF.out.rx1.next (hB.mono hF.out.bw), fun h => (hF.out.i2 (by simpa using h)).below hB⟩
    · intro d a W hI hd hdep
      obtain ⟨n2, x2, x38, x39, x40, x41, x42, x43, x44, x45, x46, x47, x48, x49, x50, rfl, hF⟩ := hI
      have hd5 : d 5 = true := dep_of hdep 5 (by kernel_rfl)
      have hd11 : d 11 = true := dep_of hdep 11 (by kernel_rfl)
      obtain rfl := hF.out.f5 hd5
      obtain rfl := hF.out.f11 hd11
      clear hdep hd hd5 hd11
      intro K hK
      simp only [Act.put, List.setIfInBounds_toArray, List.set_cons_zero, List.set_cons_succ]
      go_simp
      rw [if_neg (by first | omega | (simp; omega))]
      go_simp
      refine hK.out _ _ ⟨n2, x2, x38, x39, x40, x41, x42, (.string (S LA ++ ⟨#[124]⟩)), x44, x45, x46, x47, x48, (.string (S LB)), (.string (S LA ++ ⟨#[124]⟩ ++ S LB)), by simp only [Act.put, List.setIfInBounds_toArray, List.set_cons_zero, List.set_cons_succ], ?_⟩
      exact ⟨fun h => hF.out.f0 (by simpa using h), fun h => hF.out.f1 (by simpa using h), fun h => hF.out.f2 (by simpa using h), fun h => hF.out.f3 (by simpa using h), fun h => hF.out.f4 (by simpa using h), fun h => hF.out.f5 (by simpa using h), fun h => hF.out.f6 (by simpa using h), fun h => hF.out.f7 (by simpa using h), fun h => hF.out.f8 (by simpa using h), fun h => hF.out.f9 (by simpa using h), fun h => hF.out.f10 (by simpa using h), fun h => hF.out.f11 (by simpa using h), fun _ => rfl, fun h => hF.out.f13 (by simpa using h), hF.out.below, hF.out.bw, hF.out.gl, hF.out.bl, hF.out.y5, hF.out.k00, hF.out.k01, hF.out.k02, hF.out.k03, hF.out.k04, hF.out.k05, hF.out.k10, hF.out.k11, hF.out.k12, hF.out.k13, hF.out.k14, hF.out.k15, hF.out.rx0, hF.out.rx1, fun h => hF.out.i2 (by simpa using h)⟩
    · intro d a W hI hd hdep
      obtain ⟨n2, x2, x38, x39, x40, x41, x42, x43, x44, x45, x46, x47, x48, x49, x50, rfl, hF⟩ := hI
      have hd12 : d 12 = true := dep_of hdep 12 (by kernel_rfl)
      obtain rfl := hF.out.f12 hd12
      clear hdep hd hd12
      intro K hK
      simp only [Act.put, List.setIfInBounds_toArray, List.set_cons_zero, List.set_cons_succ]
      go_simp
      refine hK.out _ _ ⟨n2, (.string (S LA ++ ⟨#[124]⟩ ++ S LB)), x38, x39, x40, x41, x42, x43, x44, x45, x46, x47, x48, x49, (.string (S LA ++ ⟨#[124]⟩ ++ S LB)), by simp only [Act.put, List.setIfInBounds_toArray, List.set_cons_zero, List.set_cons_succ], ?_⟩
      exact ⟨fun h => hF.out.f0 (by simpa using h), fun h => hF.out.f1 (by simpa using h), fun h => hF.out.f2 (by simpa using h), fun h => hF.out.f3 (by simpa using h), fun h => hF.out.f4 (by simpa using h), fun h => hF.out.f5 (by simpa using h), fun h => hF.out.f6 (by simpa using h), fun h => hF.out.f7 (by simpa using h), fun h => hF.out.f8 (by simpa using h), fun h => hF.out.f9 (by simpa using h), fun h => hF.out.f10 (by simpa using h), fun h => hF.out.f11 (by simpa using h), fun h => hF.out.f12 (by simpa using h), fun _ => rfl, hF.out.below, hF.out.bw, hF.out.gl, hF.out.bl, hF.out.y5, hF.out.k00, hF.out.k01, hF.out.k02, hF.out.k03, hF.out.k04, hF.out.k05, hF.out.k10, hF.out.k11, hF.out.k12, hF.out.k13, hF.out.k14, hF.out.k15, hF.out.rx0, hF.out.rx1, fun h => hF.out.i2 (by simpa using h)⟩
  · intro d a W hI hall
    obtain ⟨n2, x2, x38, x39, x40, x41, x42, x43, x44, x45, x46, x47, x48, x49, x50, rfl, hF⟩ := hI
    simp only [List.length_cons, List.length_nil] at hall
    obtain rfl := hF.out.f0 (hall 0 (by omega))
    obtain rfl := hF.out.f1 (hall 1 (by omega))
    obtain rfl := hF.out.f2 (hall 2 (by omega))
    obtain rfl := hF.out.f3 (hall 3 (by omega))
    obtain rfl := hF.out.f4 (hall 4 (by omega))
    obtain rfl := hF.out.f5 (hall 5 (by omega))
    obtain rfl := hF.out.f6 (hall 6 (by omega))
    obtain rfl := hF.out.f7 (hall 7 (by omega))
    obtain rfl := hF.out.f8 (hall 8 (by omega))
    obtain rfl := hF.out.f9 (hall 9 (by omega))
    obtain rfl := hF.out.f10 (hall 10 (by omega))
    obtain rfl := hF.out.f11 (hall 11 (by omega))
    obtain rfl := hF.out.f12 (hall 12 (by omega))
    obtain rfl := hF.out.f13 (hall 13 (by omega))
    have HR : Hid (Below w.heap.size w W) := HBW.out.trans (Below.mono hF.out.below HBW.out.size)
    clear hF hall
    simp only [Act.put, List.setIfInBounds_toArray, List.set_cons_zero, List.set_cons_succ]
    go_wp2_with fail
    go_ret
    exact ⟨ret_str (by simp), HR.out⟩
end Go.Proofs.Ythloedfiomfnbaa
