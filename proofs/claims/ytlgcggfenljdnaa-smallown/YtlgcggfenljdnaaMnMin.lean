/-
  The contract of small.Minimal.
-/
import Derived.Test.YtlgcggfenljdnaaMnOf
import Derived.Test.YtlgcggfenljdnaaChecks
namespace Go.Proofs.Ytlgcggfenljdnaa
open Go.RowKit
open Dfa

theorem Rw.same {w w' : World} {rv : Value} {n : Nat} {R : Nat → Nat → Int} (h : Rw w rv n R) (hs : ∀ q, rv.ownBlock = some q → w'.heap[q]? = w.heap[q]?) (hz : w.heap.size ≤ w'.heap.size) : Rw w' rv n R := by
  obtain ⟨ao, cap, rfl, hm, hw, h | ⟨b, o, rfl, h2, h3⟩⟩ := h
  · exact ⟨ao, cap, rfl, hm, hw, Or.inl h⟩
  · exact ⟨_, cap, rfl, hm, hw, Or.inr ⟨b, o, rfl, by omega, fun i hi j hj => (cell_same (hs b rfl) _).trans (h3 i hi j hj)⟩⟩
theorem Ts.same {w w' : World} {tv : Value} {n : Nat} {T : Nat → Int} (h : Ts w tv n T) (hs : ∀ q, tv.ownBlock = some q → w'.heap[q]? = w.heap[q]?) (hz : w.heap.size ≤ w'.heap.size) : Ts w' tv n T := by
  obtain ⟨ao, cap, rfl, hm, hw, h | ⟨b, o, rfl, h2, h3⟩⟩ := h
  · exact ⟨ao, cap, rfl, hm, hw, Or.inl h⟩
  · exact ⟨_, cap, rfl, hm, hw, Or.inr ⟨b, o, rfl, by omega, fun i hi => (cell_same (hs b rfl) _).trans (h3 i hi)⟩⟩
theorem Mo.less {n : Nat} {R : Nat → Nat → Int} {T : Nat → Int} {B B' : Nat} {w : World} {rv tv : Value} (h : Mo n R T B w rv tv) (hb : B' ≤ B) : Mo n R T B' w rv tv := by
  obtain ⟨N, F, U, K, met, h1, h2, h3, h4, h5⟩ := h
  exact ⟨N, F, U, K, met, h1, h2, h3, fun g hg => Nat.le_trans hb (h4 g hg), fun g hg => Nat.le_trans hb (h5 g hg)⟩
theorem Mo.same {n : Nat} {R : Nat → Nat → Int} {T : Nat → Int} {B : Nat} {w w' : World} {rv tv : Value} (h : Mo n R T B w rv tv) (hs : ∀ q, B ≤ q → w'.heap[q]? = w.heap[q]?) (hz : w.heap.size ≤ w'.heap.size) : Mo n R T B w' rv tv := by
  obtain ⟨N, F, U, K, met, h1, h2, h3, h4, h5⟩ := h
  exact ⟨N, F, U, K, met, h1, h2.same (fun q hq => hs q (h4 q hq)) hz, h3.same (fun q hq => hs q (h5 q hq)) hz, h4, h5⟩
theorem Mo.form1 {n : Nat} {R : Nat → Nat → Int} {T : Nat → Int} {B : Nat} {w : World} {rv tv : Value} (h : Mo n R T B w rv tv) : ∃ a m c, rv = .slice a m c := by
  obtain ⟨N, F, U, K, met, h1, ⟨a, c, e, -⟩, -⟩ := h
  exact ⟨_, _, _, e⟩
theorem Mo.form2 {n : Nat} {R : Nat → Nat → Int} {T : Nat → Int} {B : Nat} {w : World} {rv tv : Value} (h : Mo n R T B w rv tv) : ∃ a m c, tv = .slice a m c := by
  obtain ⟨N, F, U, K, met, h1, -, ⟨a, c, e, -⟩, -⟩ := h
  exact ⟨_, _, _, e⟩
structure RM4 (w : World) (n : Nat) (R : Nat → Nat → Int) (T : Nat → Int) (ra : Option Addr) (rc : Nat) (ta : Option Addr) (tc : Nat) (kg : Nat) (kc : Nat) (ra2 : Option Addr) (rn2 : Nat) (rc2 : Nat) (ta2 : Option Addr) (tn2 : Nat) (tc2 : Nat) (d : Nat → Bool) (x3 x11 x12 x13 x14 : Value) (W : World) : Prop where
  f0 : d 0 = true → x11 = (.agg #[(.slice ra n rc), (.slice ta n tc)])
  f1 : d 1 = true → x12 = (.agg #[(.slice ra n rc), (.slice ta n tc)])
  f2 : d 2 = true → x13 = (.slice (some ⟨kg, 0, none⟩) n kc)
  f3 : d 3 = true → x14 = (.agg #[(.slice ra2 rn2 rc2), (.slice ta2 tn2 tc2)])
  f4 : d 4 = true → True
  f5 : d 5 = true → x3 = (.int .i64 0)
  p2 : d 3 = true → d 2 = true
  q4 : d 4 = true → d 3 = true
  kp : Below w.heap.size w W ∧ W.cell? ⟨w.heap.size, 0, none⟩ = some (.slice ra n rc) ∧ W.cell? ⟨w.heap.size, 1, none⟩ = some (.slice ta n tc) ∧ w.heap.size + 2 ≤ W.heap.size
  rs : d 4 = false → W.rowIs (w.heap.size + 1) 25 2 (fun _ => .slice none 0 0)
  ks : d 2 = true → d 3 = false → ∃ K, Ks W (.slice (some ⟨kg, 0, none⟩) n kc) n K ∧ Kinds n R T K
  mo : d 3 = true → d 4 = false → Mo n R T (w.heap.size + 2) W (.slice ra2 rn2 rc2) (.slice ta2 tn2 tc2)
  fin : d 4 = true → Mo n R T (w.heap.size + 2) W (.slice ra2 rn2 rc2) (.slice ta2 tn2 tc2) ∧ W.rowIs (w.heap.size + 1) 25 2 (fun i => if i = 0 then (.slice ra2 rn2 rc2) else (.slice ta2 tn2 tc2))

set_option maxHeartbeats 4000000 in
set_option maxRecDepth 20000 in
theorem min_ok (rv tv : Value) (n : Nat) (R : Nat → Nat → Int) (T : Nat → Int) (w : World) (hr : Rw w rv n R) (ht : Ts w tv n T) (hok : chk n n R T = 0) :
    Calls Try.prog 9 #[.agg #[rv, tv]] w fun e w' => ∃ rv' tv', e = .returned (.tuple #[.agg #[rv', tv'], .int .i64 0]) ∧ Mo n R T w.heap.size w' rv' tv' ∧ Below w.heap.size w w' := by
  obtain ⟨n0, n1, -, n2, n3⟩ := chk_zero hok
  have HRW : Hid (Rw w rv n R) := hr
  have HTS : Hid (Ts w tv n T) := ht
  have HN0 : Hid (0 < n ∧ n ≤ 200) := ⟨n0, n1⟩
  have HOK : Hid (rowsOk n R = true ∧ tagsOk n T = true) := ⟨n2, n3⟩
  have HCH : Hid (chk n n R T = 0) := hok
  obtain ⟨ra, rc, rfl, -⟩ := hr
  obtain ⟨ta, tc, rfl, -⟩ := ht
  have B0 : Below w.heap.size w ((w.alloc (Obj.cells #[(.slice ra n rc), (.slice ta n tc)] 25)).alloc (Obj.cells #[.slice none 0 0, .slice none 0 0] 25)) := ((Below.refl _ _).alloc (Nat.le_refl _) _).alloc (by simp) _
  have HRS : Hid (((w.alloc (Obj.cells #[(.slice ra n rc), (.slice ta n tc)] 25)).alloc (Obj.cells #[.slice none 0 0, .slice none 0 0] 25)).rowIs (w.heap.size + 1) 25 2 (fun _ => .slice none 0 0)) := by
    have := row_two (w.alloc (Obj.cells #[(.slice ra n rc), (.slice ta n tc)] 25)) (.slice none 0 0) (.slice none 0 0)
    rw [show (w.alloc (Obj.cells #[(.slice ra n rc), (.slice ta n tc)] 25)).heap.size = w.heap.size + 1 by simp] at this
    exact this.congr fun i _ => by simp
  clear n0 n1 n2 n3 hok
  go_enter Try.func9, Try.ntmps9
  go_wp2_with fail
  have hc := check_any (.slice ra n rc) (.slice ta n tc) n n R T _ (HRW.out.below B0 (Nat.le_refl _)) (HTS.out.below B0 (Nat.le_refl _))
  rw [HCH.out] at hc
  refine hc.mono ?_
  rintro _ w1 ⟨rfl, hb⟩
  have HK1 : Hid (Below w.heap.size w w1 ∧ w1.cell? ⟨w.heap.size, 0, none⟩ = some (.slice ra n rc) ∧ w1.cell? ⟨w.heap.size, 1, none⟩ = some (.slice ta n tc) ∧ w.heap.size + 2 ≤ w1.heap.size ∧ w1.rowIs (w.heap.size + 1) 25 2 (fun _ => .slice none 0 0)) := ⟨B0.trans (hb.mono (by simp; omega)), (hb.cell (by simp; omega)).trans (by simp), (hb.cell (by simp; omega)).trans (by simp), by have := hb.size; simp at this; omega, HRS.out.of_block (hb.block _ HRS.out.lt)⟩
  clear hb hc HRS B0
  go_wp2_with fail
  refine wp_region_free mixed (fun a0 d a W => ∃ (kg : Nat) (kc : Nat) (ra2 : Option Addr) (rn2 : Nat) (rc2 : Nat) (ta2 : Option Addr) (tn2 : Nat) (tc2 : Nat) (x3 x11 x12 x13 x14 : Value), a = (((((a0.put (some 3) x3).put (some 11) x11).put (some 12) x12).put (some 13) x13).put (some 14) x14) ∧ Hid (RM4 w n R T ra rc ta tc kg kc ra2 rn2 rc2 ta2 tn2 tc2 d x3 x11 x12 x13 x14 W)) (by kernel_rfl) ⟨0, 0, none, 0, 0, none, 0, 0, (.int .i64 0), undef, undef, undef, undef, by simp only [Act.put, List.setIfInBounds_toArray, List.set_cons_zero, List.set_cons_succ], ?_⟩ ?_ ?_
  · exact ⟨fun h => no_way h, fun h => no_way h, fun h => no_way h, fun h => no_way h, fun _ => trivial, fun h => no_way h, fun h => no_way h, fun h => no_way h, ⟨HK1.out.1.drew, HK1.out.2.1, HK1.out.2.2.1, HK1.out.2.2.2.1⟩, fun _ => HK1.out.2.2.2.2, fun h => no_way h, fun h => no_way h, fun h => no_way h⟩
  · simp only [StepAll, and_true]
    refine ⟨?_, ?_, ?_, ?_, ?_, ?_⟩
    · intro d a W hI hd hdep
      obtain ⟨kg, kc, ra2, rn2, rc2, ta2, tn2, tc2, x3, x11, x12, x13, x14, rfl, hF⟩ := hI
      have ya := hF.out.kp.2.1
      have yb := hF.out.kp.2.2.1
      clear hdep hd
      intro K hK
      simp only [Act.put, List.setIfInBounds_toArray, List.set_cons_zero, List.set_cons_succ]
      go_simp
      refine hK.out _ _ ⟨kg, kc, ra2, rn2, rc2, ta2, tn2, tc2, x3, (.agg #[(.slice ra n rc), (.slice ta n tc)]), x12, x13, x14, by simp only [Act.put, List.setIfInBounds_toArray, List.set_cons_zero, List.set_cons_succ], ?_⟩
      exact ⟨fun _ => rfl, fun h => hF.out.f1 (by simpa using h), fun h => hF.out.f2 (by simpa using h), fun h => hF.out.f3 (by simpa using h), fun h => hF.out.f4 (by simpa using h), fun h => hF.out.f5 (by simpa using h), fun h => by have := hF.out.p2 (by simpa using h); simpa using this, fun h => by have := hF.out.q4 (by simpa using h); simpa using this, hF.out.kp, fun h => hF.out.rs (by simpa using h), fun h h2 => hF.out.ks (by simpa using h) (by simpa using h2), fun h h2 => hF.out.mo (by simpa using h) (by simpa using h2), fun h => hF.out.fin (by simpa using h)⟩
    · intro d a W hI hd hdep
      obtain ⟨kg, kc, ra2, rn2, rc2, ta2, tn2, tc2, x3, x11, x12, x13, x14, rfl, hF⟩ := hI
      have ya := hF.out.kp.2.1
      have yb := hF.out.kp.2.2.1
      clear hdep hd
      intro K hK
      simp only [Act.put, List.setIfInBounds_toArray, List.set_cons_zero, List.set_cons_succ]
      go_simp
      refine hK.out _ _ ⟨kg, kc, ra2, rn2, rc2, ta2, tn2, tc2, x3, x11, (.agg #[(.slice ra n rc), (.slice ta n tc)]), x13, x14, by simp only [Act.put, List.setIfInBounds_toArray, List.set_cons_zero, List.set_cons_succ], ?_⟩
      exact ⟨fun h => hF.out.f0 (by simpa using h), fun _ => rfl, fun h => hF.out.f2 (by simpa using h), fun h => hF.out.f3 (by simpa using h), fun h => hF.out.f4 (by simpa using h), fun h => hF.out.f5 (by simpa using h), fun h => by have := hF.out.p2 (by simpa using h); simpa using this, fun h => by have := hF.out.q4 (by simpa using h); simpa using this, hF.out.kp, fun h => hF.out.rs (by simpa using h), fun h h2 => hF.out.ks (by simpa using h) (by simpa using h2), fun h h2 => hF.out.mo (by simpa using h) (by simpa using h2), fun h => hF.out.fin (by simpa using h)⟩
    · intro d a W hI hd hdep
      obtain ⟨kg, kc, ra2, rn2, rc2, ta2, tn2, tc2, x3, x11, x12, x13, x14, rfl, hF⟩ := hI
      have hd1 : d 1 = true := dep_of hdep 1 (by kernel_rfl)
      obtain rfl := hF.out.f1 hd1
      have HN3 : Hid (d 3 = false) := no_later hF.out.p2 hd
      have HN4 : Hid (d 4 = false) := no_later hF.out.q4 HN3.out
      have hcl := kindsOf_any (.slice ra n rc) (.slice ta n tc) n R T W (HRW.out.below hF.out.kp.1 (Nat.le_refl _)) (HTS.out.below hF.out.kp.1 (Nat.le_refl _)) HN0.out.1 HN0.out.2 HOK.out.1 HOK.out.2
      clear hdep hd hd1
      intro K hK
      simp only [Act.put, List.setIfInBounds_toArray, List.set_cons_zero, List.set_cons_succ]
      go_simp
      refine hcl.mono ?_
      rintro _ W1 ⟨v1, rfl, ⟨K1, hks, hkd⟩, hb1⟩
      have HKK : Hid (∃ K, Ks W1 v1 n K ∧ Kinds n R T K) := ⟨K1, hks, hkd⟩
      obtain ⟨kg1, kc1, rfl, -⟩ := hks
      clear hkd
      go_simp
      refine hK.out _ _ ⟨kg1, kc1, ra2, rn2, rc2, ta2, tn2, tc2, x3, x11, (.agg #[(.slice ra n rc), (.slice ta n tc)]), (.slice (some ⟨kg1, 0, none⟩) n kc1), x14, by simp only [Act.put, List.setIfInBounds_toArray, List.set_cons_zero, List.set_cons_succ], ?_⟩
      exact ⟨fun h => hF.out.f0 (by simpa using h), fun h => hF.out.f1 (by simpa using h), fun _ => rfl, fun h => hF.out.f3 (by simpa using h), fun h => hF.out.f4 (by simpa using h), fun h => hF.out.f5 (by simpa using h), fun _ => by simp, fun h => by have := hF.out.q4 (by simpa using h); simpa using this, ⟨hF.out.kp.1.trans (hb1.mono hF.out.kp.1.size), (hb1.cell (p := ⟨w.heap.size, 0, none⟩) (by have := hF.out.kp.2.2.2; simp; omega)).trans hF.out.kp.2.1, (hb1.cell (p := ⟨w.heap.size, 1, none⟩) (by have := hF.out.kp.2.2.2; simp; omega)).trans hF.out.kp.2.2.1, Nat.le_trans hF.out.kp.2.2.2 hb1.size⟩, fun h => (hF.out.rs HN4.out).of_block (hb1.block _ (by have := hF.out.kp.2.2.2; omega)), fun _ _ => HKK.out, fun h => by have := HN3.out; simp [this] at h, fun h => by have := HN4.out; simp [this] at h⟩
    · intro d a W hI hd hdep
      obtain ⟨kg, kc, ra2, rn2, rc2, ta2, tn2, tc2, x3, x11, x12, x13, x14, rfl, hF⟩ := hI
      have hd0 : d 0 = true := dep_of hdep 0 (by kernel_rfl)
      have hd2 : d 2 = true := dep_of hdep 2 (by kernel_rfl)
      obtain rfl := hF.out.f0 hd0
      obtain rfl := hF.out.f2 hd2
      have e3_2 := hd2
      have HN4 : Hid (d 4 = false) := no_later hF.out.q4 hd
      obtain ⟨K1, hks, hkd⟩ := hF.out.ks hd2 hd
      have hcl := oneOf_any (.slice ra n rc) (.slice ta n tc) (.slice (some ⟨kg, 0, none⟩) n kc) n R T K1 W (HRW.out.below hF.out.kp.1 (Nat.le_refl _)) (HTS.out.below hF.out.kp.1 (Nat.le_refl _)) hks HN0.out.1 HN0.out.2 HOK.out.1 hkd
      clear hks hkd
      clear hdep hd hd0 hd2
      intro K hK
      simp only [Act.put, List.setIfInBounds_toArray, List.set_cons_zero, List.set_cons_succ]
      go_simp
      refine hcl.mono ?_
      rintro _ W1 ⟨v1, v2, rfl, hmo, hb1⟩
      have HMO : Hid (Mo n R T (w.heap.size + 2) W1 v1 v2) := hmo.less (by have := hF.out.kp.2.2.2; omega)
      obtain ⟨ra3, rn3, rc3, rfl⟩ := hmo.form1
      obtain ⟨ta3, tn3, tc3, rfl⟩ := hmo.form2
      clear hmo
      go_simp
      refine hK.out _ _ ⟨kg, kc, ra3, rn3, rc3, ta3, tn3, tc3, x3, (.agg #[(.slice ra n rc), (.slice ta n tc)]), x12, (.slice (some ⟨kg, 0, none⟩) n kc), (.agg #[(.slice ra3 rn3 rc3), (.slice ta3 tn3 tc3)]), by simp only [Act.put, List.setIfInBounds_toArray, List.set_cons_zero, List.set_cons_succ], ?_⟩
      exact ⟨fun h => hF.out.f0 (by simpa using h), fun h => hF.out.f1 (by simpa using h), fun h => hF.out.f2 (by simpa using h), fun _ => rfl, fun h => hF.out.f4 (by simpa using h), fun h => hF.out.f5 (by simpa using h), fun _ => by simpa using e3_2, fun _ => by simp, ⟨hF.out.kp.1.trans (hb1.mono hF.out.kp.1.size), (hb1.cell (p := ⟨w.heap.size, 0, none⟩) (by have := hF.out.kp.2.2.2; simp; omega)).trans hF.out.kp.2.1, (hb1.cell (p := ⟨w.heap.size, 1, none⟩) (by have := hF.out.kp.2.2.2; simp; omega)).trans hF.out.kp.2.2.1, Nat.le_trans hF.out.kp.2.2.2 hb1.size⟩, fun h => (hF.out.rs HN4.out).of_block (hb1.block _ (by have := hF.out.kp.2.2.2; omega)), fun _ h => by simp at h, fun _ _ => HMO.out, fun h => by have := HN4.out; simp [this] at h⟩
    · intro d a W hI hd hdep
      obtain ⟨kg, kc, ra2, rn2, rc2, ta2, tn2, tc2, x3, x11, x12, x13, x14, rfl, hF⟩ := hI
      have hd3 : d 3 = true := dep_of hdep 3 (by kernel_rfl)
      obtain rfl := hF.out.f3 hd3
      have g3 := hd3
      have hrs := hF.out.rs hd
      have ya := hrs.cell (i := 0) (by omega)
      have yb := hrs.cell (i := 1) (by omega)
      have yc := hrs.frozen 0
      have yd := hrs.frozen 1
      have HMO : Hid (Mo n R T (w.heap.size + 2) W (.slice ra2 rn2 rc2) (.slice ta2 tn2 tc2)) := hF.out.mo hd3 hd
      have HRS : Hid (W.rowIs (w.heap.size + 1) 25 2 (fun _ => .slice none 0 0)) := hrs
      clear hrs
      clear hdep hd hd3
      intro K hK
      simp only [Act.put, List.setIfInBounds_toArray, List.set_cons_zero, List.set_cons_succ]
      go_simp
      refine hK.out _ _ ⟨kg, kc, ra2, rn2, rc2, ta2, tn2, tc2, x3, x11, x12, x13, (.agg #[(.slice ra2 rn2 rc2), (.slice ta2 tn2 tc2)]), by simp only [Act.put, List.setIfInBounds_toArray, List.set_cons_zero, List.set_cons_succ], ?_⟩
      have hsame := same_two W (w.heap.size + 1) (.slice ra2 rn2 rc2) (.slice ta2 tn2 tc2)
      exact ⟨fun h => hF.out.f0 (by simpa using h), fun h => hF.out.f1 (by simpa using h), fun h => hF.out.f2 (by simpa using h), fun h => hF.out.f3 (by simpa using h), fun _ => trivial, fun h => hF.out.f5 (by simpa using h), fun h => by have := hF.out.p2 (by simpa using h); simpa using this, fun _ => by simpa using g3, ⟨(hF.out.kp.1.setCell (by simp) _).setCell (by simp) _, (cell_same (hsame.2.2.2.2 _ (by omega)) 0).trans hF.out.kp.2.1, (cell_same (hsame.2.2.2.2 _ (by omega)) 1).trans hF.out.kp.2.2.1, by rw [hsame.1]; exact hF.out.kp.2.2.2⟩, fun h => by simp at h, fun _ h => by have := g3; simp [this] at h, fun _ h => by simp at h, fun _ => ⟨HMO.out.same (fun q hq => hsame.2.2.2.2 q (by omega)) (by rw [hsame.1]; exact Nat.le_refl _), row_two_set HRS.out _ _⟩⟩
    · intro d a W hI hd hdep
      obtain ⟨kg, kc, ra2, rn2, rc2, ta2, tn2, tc2, x3, x11, x12, x13, x14, rfl, hF⟩ := hI
      clear hdep hd
      intro K hK
      simp only [Act.put, List.setIfInBounds_toArray, List.set_cons_zero, List.set_cons_succ]
      go_simp
      refine hK.out _ _ ⟨kg, kc, ra2, rn2, rc2, ta2, tn2, tc2, (.int .i64 0), x11, x12, x13, x14, by simp only [Act.put, List.setIfInBounds_toArray, List.set_cons_zero, List.set_cons_succ], ?_⟩
      exact ⟨fun h => hF.out.f0 (by simpa using h), fun h => hF.out.f1 (by simpa using h), fun h => hF.out.f2 (by simpa using h), fun h => hF.out.f3 (by simpa using h), fun h => hF.out.f4 (by simpa using h), fun _ => rfl, fun h => by have := hF.out.p2 (by simpa using h); simpa using this, fun h => by have := hF.out.q4 (by simpa using h); simpa using this, hF.out.kp, fun h => hF.out.rs (by simpa using h), fun h h2 => hF.out.ks (by simpa using h) (by simpa using h2), fun h h2 => hF.out.mo (by simpa using h) (by simpa using h2), fun h => hF.out.fin (by simpa using h)⟩
  · intro d a W hI hall
    obtain ⟨kg, kc, ra2, rn2, rc2, ta2, tn2, tc2, x3, x11, x12, x13, x14, rfl, hF⟩ := hI
    simp only [List.length_cons, List.length_nil] at hall
    obtain rfl := hF.out.f0 (hall 0 (by omega))
    obtain rfl := hF.out.f1 (hall 1 (by omega))
    obtain rfl := hF.out.f2 (hall 2 (by omega))
    obtain rfl := hF.out.f3 (hall 3 (by omega))
    obtain rfl := hF.out.f5 (hall 5 (by omega))
    have HR : Hid (Mo n R T (w.heap.size + 2) W (.slice ra2 rn2 rc2) (.slice ta2 tn2 tc2) ∧ W.rowIs (w.heap.size + 1) 25 2 (fun i => if i = 0 then (.slice ra2 rn2 rc2) else (.slice ta2 tn2 tc2)) ∧ Below w.heap.size w W) := ⟨(hF.out.fin (hall 4 (by omega))).1, (hF.out.fin (hall 4 (by omega))).2, hF.out.kp.1⟩
    clear hF hall
    simp only [Act.put, List.setIfInBounds_toArray, List.set_cons_zero, List.set_cons_succ]
    have hc0 := HR.out.2.1.cell (i := 0) (by omega)
    have hc1 := HR.out.2.1.cell (i := 1) (by omega)
    simp only [if_true] at hc0
    rw [if_neg (by omega)] at hc1
    go_wp2_with fail
    exact bodyPost_ret (v := .tuple #[.agg #[(.slice ra2 rn2 rc2), (.slice ta2 tn2 tc2)], .int .i64 0]) (by simp [results, Try.results9, go_sem, hc0, hc1]) rfl ⟨_, _, rfl, HR.out.1.less (by omega), HR.out.2.2⟩

set_option maxHeartbeats 4000000 in
set_option maxRecDepth 20000 in
theorem min_bad (rv tv : Value) (n m : Nat) (R : Nat → Nat → Int) (T : Nat → Int) (w : World) (hr : Rw w rv n R) (ht : Ts w tv m T) (hok : ¬ chk n m R T = 0) :
    Calls Try.prog 9 #[.agg #[rv, tv]] w fun e w' => e = .returned (.tuple #[.agg #[.slice none 0 0, .slice none 0 0], .int .i64 (chk n m R T)]) ∧ Below w.heap.size w w' := by
  have HRW : Hid (Rw w rv n R) := hr
  have HTS : Hid (Ts w tv m T) := ht
  obtain ⟨ra, rc, rfl, -⟩ := hr
  obtain ⟨ta, tc, rfl, -⟩ := ht
  have B0 : Below w.heap.size w ((w.alloc (Obj.cells #[(.slice ra n rc), .slice ta m tc] 25)).alloc (Obj.cells #[.slice none 0 0, .slice none 0 0] 25)) := ((Below.refl _ _).alloc (Nat.le_refl _) _).alloc (by simp) _
  have HRS : Hid (((w.alloc (Obj.cells #[(.slice ra n rc), .slice ta m tc] 25)).alloc (Obj.cells #[.slice none 0 0, .slice none 0 0] 25)).rowIs (w.heap.size + 1) 25 2 (fun _ => .slice none 0 0)) := by
    have := row_two (w.alloc (Obj.cells #[(.slice ra n rc), .slice ta m tc] 25)) (.slice none 0 0) (.slice none 0 0)
    rw [show (w.alloc (Obj.cells #[(.slice ra n rc), .slice ta m tc] 25)).heap.size = w.heap.size + 1 by simp] at this
    exact this.congr fun i _ => by simp
  obtain ⟨c, HC⟩ : ∃ c, Hid (chk n m R T = c) := ⟨_, (rfl : _ = _)⟩
  rw [HC.out] at hok
  rw [HC.out]
  go_enter Try.func9, Try.ntmps9
  go_wp2_with fail
  have hc := check_any (.slice ra n rc) (.slice ta m tc) n m R T _ (HRW.out.below B0 (Nat.le_refl _)) (HTS.out.below B0 (Nat.le_refl _))
  rw [HC.out] at hc
  refine hc.mono ?_
  rintro _ w1 ⟨rfl, hb⟩
  have hb0 : (c == 0) = false := by simp [hok]
  have B1 : Below w.heap.size w w1 := B0.trans (hb.mono (by simp; omega))
  have hrs := HRS.out.of_block (hb.block _ HRS.out.lt)
  have y0 := hrs.cell (i := 0) (by omega)
  have y1 := hrs.cell (i := 1) (by omega)
  have y2 := hrs.frozen 0
  have y3 := hrs.frozen 1
  clear hb hc HRS B0
  go_wp2_with fail
  have hrow := row_two_set hrs (.slice none 0 0) (.slice none 0 0)
  have hc0 := hrow.cell (i := 0) (by omega)
  have hc1 := hrow.cell (i := 1) (by omega)
  simp only [if_true] at hc0
  rw [if_neg (by omega)] at hc1
  exact bodyPost_ret (v := .tuple #[.agg #[.slice none 0 0, .slice none 0 0], .int .i64 c]) (by simp [results, Try.results9, go_sem, hc0, hc1]) rfl ⟨rfl, (B1.setCell (by simp) _).setCell (by simp) _⟩
end Go.Proofs.Ytlgcggfenljdnaa
