/-
  SmallSame returns true whatever two automata are handed in, and changes nothing that it was handed; no condition.
-/
import Derived.Test.YtlgcggfenljdnaaRows
import Derived.WalkKit
import Derived.ProofKit
import Derived.OpenShut
import Derived.ShutString
import Derived.SizedLaws
import Derived.ChangeOld
import Derived.Below
import Derived.Carry
import Derived.WalkLawsBesides
import Derived.WalkSpells
import Derived.Test.YtlgcggfenljdnaaOpens
import Derived.Deep.Cut
import Derived.Great.BuildSlice
import Derived.Test.YtlgcggfenljdnaaSmSame
namespace Go.Proofs.Ytlgcggfenljdnaa.smallSame
open Go.ChangeShapes Go.WideShapes Go.ChangeAt Go.RowKit
open Go.ChangeMaps (open_string shut_string)
open Dfa
set_option linter.unusedVariables false

theorem own : ownKnob Try.prog.godebug = none := by kernel_rfl
theorem laidOut : laidOutB Try.prog = true := by kernel_rfl

/-! ### The walk: the Go text returns true. -/
set_option maxHeartbeats 4000000 in
set_option maxRecDepth 20000 in
theorem walk (a0r : Value) (a0t : Value) (a0n : Nat) (a0m : Nat) (a0R : Nat → Nat → Int) (a0T : Nat → Int) (a1r : Value) (a1t : Value) (a1n : Nat) (a1m : Nat) (a1R : Nat → Nat → Int) (a1T : Nat → Int) (w : World) (w0s : Rw w a0r a0n a0R) (w0u : Ts w a0t a0m a0T) (w1s : Rw w a1r a1n a1R) (w1u : Ts w a1t a1m a1T) :
    Calls Try.prog 6 #[.agg #[a0r, a0t], .agg #[a1r, a1t]] w fun e w' => e = .returned (.bool true) ∧ Below w.heap.size w w' := by
  have B0 : Below w.heap.size w ((w.alloc (Obj.cells #[a0r, a0t] 25)).alloc (Obj.cells #[a1r, a1t] 25)) := ((Below.refl _ _).alloc (Nat.le_refl _) _).alloc (by simp) _
  have H0 : Hid (Bx w a0r a0t a1r a1t ((w.alloc (Obj.cells #[a0r, a0t] 25)).alloc (Obj.cells #[a1r, a1t] 25))) := ⟨B0, by simp, by simp, by simp, by simp, by simp⟩
  have HRW : Hid (Rw w a0r a0n a0R ∧ Ts w a0t a0m a0T ∧ Rw w a1r a1n a1R ∧ Ts w a1t a1m a1T) := ⟨w0s, w0u, w1s, w1u⟩
  obtain ⟨ca, HCA⟩ : ∃ c, Hid (chk a0n a0m a0R a0T = c) := ⟨_, (rfl : _ = _)⟩
  obtain ⟨cb, HCB⟩ : ∃ c, Hid (chk a1n a1m a1R a1T = c) := ⟨_, (rfl : _ = _)⟩
  have hbd := zeroRow'
  obtain ⟨l0, HL0⟩ : ∃ l, Hid (rl (fun _ => 0) = l) := ⟨_, (rfl : _ = _)⟩
  rw [HL0.out] at hbd
  have HLL : Hid (l0.length = 256) := by show _ = _; rw [← HL0.out, rl_length]
  have HRL : Hid (∀ W : World, Rw (W.alloc (Obj.cells l0.toArray 42)) (.slice (some ⟨W.heap.size, 0, none⟩) 1 1) 1 (fun _ _ => 0)) := fun W => by rw [← HL0.out]; exact rw_one W
  obtain ⟨i42, hi42, hz42, hs42, hb42⟩ := info_parts infoRow
  have H42 : Hid (Try.prog.info? 42 = some i42 ∧ i42.zero = some (.agg (Array.replicate 256 (.int .i16 0))) ∧ i42.size = 256) := ⟨hi42, hz42, hs42⟩
  obtain ⟨zs, hz47, hzsz, -⟩ := zero47
  have HZS : Hid (zs.size = 258) := hzsz
  clear hi42 hz42 hs42 hb42 w0s w0u w1s w1u HL0 hzsz
  go_enter Try.func6, Try.ntmps6
  go_wp2_with fail
  refine wp_buildSlice 22 42 1 _ rfl l0.toArray i42 _ Try.underlying22 H42.out.1 H42.out.2.1 (by rw [H42.out.2.2]; omega) (by rw [H42.out.2.2]; omega) ?hf ?_
  case hf =>
    rw [H42.out.2.2]
    simp only [List.map_toArray, List.map_cons, List.map_nil]
    exact fill_row l0 HLL.out _ (by simp)
  simp only [Act.put, List.setIfInBounds_toArray, List.set_cons_zero, List.set_cons_succ]
  go_wp2_with fail
  obtain ⟨W0, HW0⟩ : ∃ q, Hid (((w.alloc (Obj.cells #[a0r, a0t] 25)).alloc (Obj.cells #[a1r, a1t] 25)) = q) := ⟨_, (rfl : _ = _)⟩
  have hsz0 : W0.heap.size = w.heap.size + 1 + 1 := by rw [← HW0.out]; simp
  rw [HW0.out] at H0 B0 ⊢
  have hpk := pack_ok (.slice (some ⟨w.heap.size + 1 + 1, 0, none⟩) 1 1) (.slice (some ⟨w.heap.size + 1 + 1 + 1, 0, none⟩) 1 1) 1 (fun _ _ => 0) (fun _ => 0) ((W0.alloc (Obj.cells l0.toArray 42)).alloc (Obj.cells #[Value.int IntKind.i64 0] 3))
    (by have := (HRL.out W0).below ((Below.refl _ _).alloc (Nat.le_refl _) (Obj.cells #[Value.int IntKind.i64 0] 3)) (Nat.le_refl _); rwa [hsz0] at this)
    (by have := ts_one (W0.alloc (Obj.cells l0.toArray 42)) 0 (by omega); rwa [World.size_alloc, hsz0] at this) (chk_one 0 (by omega))
  have HBW : Hid (Below W0.heap.size W0 ((W0.alloc (Obj.cells l0.toArray 42)).alloc (Obj.cells #[Value.int IntKind.i64 0] 3))) := ((Below.refl _ _).alloc (Nat.le_refl _) _).alloc (by simp) _
  refine hpk.mono ?_
  rintro _ w1 ⟨nv1, tv1, rfl, hnx, hts, hb⟩
  obtain ⟨na, nc, hne, -⟩ := hnx
  obtain ⟨tta, ttc, hte, -⟩ := hts
  subst hne hte
  obtain ⟨l, HL⟩ : ∃ l, Hid (pl (fun b => idx 1 (fun _ _ => 0) (fsts 1 (fun _ _ => 0) b) b) (.slice na 1 nc) (.slice tta 1 ttc) = l) := ⟨_, (rfl : _ = _)⟩
  have HSZ : Hid (l.toArray.size = 258) := by show _ = _; rw [List.size_toArray, ← HL.out, pl_length]
  have HONE : Hid (l.toArray.all (·.oneCell') = true) := by show _ = _; rw [← HL.out]; exact pl_one _ _ _ _ _ _ _
  have HB1 : Hid (Below W0.heap.size W0 w1) := HBW.out.trans (hb.mono HBW.out.size)
  have hN : (w1.alloc (Obj.cells l.toArray 47)).cell? ⟨w1.heap.size, 256, none⟩ = some (.slice na 1 nc) := by rw [cell_of_block, ← HL.out, pl_next]
  rw [HL.out]
  clear hb hpk HBW HL
  go_wp2_with (refine wpList_store_new47 rfl _ _ rfl zs l.toArray rfl rfl HZS.out HSZ.out HONE.out ?_)
  refine wp_buildSlice 22 42 1 _ rfl l0.toArray i42 _ Try.underlying22 H42.out.1 H42.out.2.1 (by rw [H42.out.2.2]; omega) (by rw [H42.out.2.2]; omega) ?hf ?_
  case hf =>
    rw [H42.out.2.2]
    simp only [List.map_toArray, List.map_cons, List.map_nil]
    exact fill_row l0 HLL.out _ (by simp)
  simp only [Act.put, List.setIfInBounds_toArray, List.set_cons_zero, List.set_cons_succ]
  go_wp2_with fail
  refine wp_buildSlice 22 42 1 _ rfl l0.toArray i42 _ Try.underlying22 H42.out.1 H42.out.2.1 (by rw [H42.out.2.2]; omega) (by rw [H42.out.2.2]; omega) ?hf ?_
  case hf =>
    rw [H42.out.2.2]
    simp only [List.map_toArray, List.map_cons, List.map_nil]
    exact fill_row l0 HLL.out _ (by simp)
  simp only [Act.put, List.setIfInBounds_toArray, List.set_cons_zero, List.set_cons_succ]
  go_wp2_with fail
  obtain ⟨W1, HW1⟩ : ∃ q, Hid (w1.alloc (Obj.cells l.toArray 47) = q) := ⟨_, (rfl : _ = _)⟩
  have hsz1 : W1.heap.size = w1.heap.size + 1 := by rw [← HW1.out]; simp
  have HB2 : Hid (Below W0.heap.size W0 W1) := by rw [← HW1.out]; exact HB1.out.alloc HB1.out.size _
  rw [HW1.out]
  have hc := apart_any (.slice (some ⟨w1.heap.size + 1, 0, none⟩) 1 1) (.slice (some ⟨w1.heap.size + 1 + 1, 0, none⟩) 1 1) (.slice (some ⟨w1.heap.size + 1 + 1 + 1, 0, none⟩) 1 1) (.slice (some ⟨w1.heap.size + 1 + 1 + 1 + 1, 0, none⟩) 1 1) 1 1 1 1 (fun _ _ => 0) (fun _ _ => 0) (fun _ => 0) (fun _ => 1)
    ((((W1.alloc (Obj.cells l0.toArray 42)).alloc (Obj.cells #[Value.int IntKind.i64 0] 3)).alloc (Obj.cells l0.toArray 42)).alloc (Obj.cells #[Value.int IntKind.i64 1] 3))
    (by have := (HRL.out W1).below ((((Below.refl _ _).alloc (Nat.le_refl _) (Obj.cells #[Value.int IntKind.i64 0] 3)).alloc (by simp) (Obj.cells l0.toArray 42)).alloc (by first | (simp; done) | (simp; omega)) (Obj.cells #[Value.int IntKind.i64 1] 3)) (Nat.le_refl _); rwa [hsz1] at this)
    (by have := (ts_one (W1.alloc (Obj.cells l0.toArray 42)) 0 (by omega)).below (((Below.refl _ _).alloc (Nat.le_refl _) (Obj.cells l0.toArray 42)).alloc (by simp) (Obj.cells #[Value.int IntKind.i64 1] 3)) (Nat.le_refl _); rwa [World.size_alloc, hsz1] at this)
    (by have := (HRL.out ((W1.alloc (Obj.cells l0.toArray 42)).alloc (Obj.cells #[Value.int IntKind.i64 0] 3))).below ((Below.refl _ _).alloc (Nat.le_refl _) (Obj.cells #[Value.int IntKind.i64 1] 3)) (Nat.le_refl _); rwa [World.size_alloc, World.size_alloc, hsz1] at this)
    (by have := ts_one (((W1.alloc (Obj.cells l0.toArray 42)).alloc (Obj.cells #[Value.int IntKind.i64 0] 3)).alloc (Obj.cells l0.toArray 42)) 1 (by omega); rwa [World.size_alloc, World.size_alloc, World.size_alloc, hsz1] at this)
  rw [chk_one 0 (by omega), chk_one 1 (by omega)] at hc
  have HBV : Hid (Below W1.heap.size W1 ((((W1.alloc (Obj.cells l0.toArray 42)).alloc (Obj.cells #[Value.int IntKind.i64 0] 3)).alloc (Obj.cells l0.toArray 42)).alloc (Obj.cells #[Value.int IntKind.i64 1] 3))) := ((((Below.refl _ _).alloc (Nat.le_refl _) _).alloc (by simp) _).alloc (by first | (simp; done) | (simp; omega)) _).alloc (by first | (simp; done) | (simp; omega)) _
  refine hc.mono ?_
  rintro _ w2 ⟨s, is, rfl, ht, -, -, hb⟩
  obtain ⟨rfl, hs⟩ := told_one (ht rfl rfl)
  obtain rfl : s = ⟨#[]⟩ := bytes_nil hs
  have H1 : Hid (Bx w a0r a0t a1r a1t w2) := (H0.out.next HB2.out).next (HBV.out.trans (hb.mono HBV.out.size))
  have c0 := H1.out.c0
  have c1 := H1.out.c1
  have c2 := H1.out.c2
  have c3 := H1.out.c3
  rw [show both 0 0 = 0 from rfl]
  clear hb ht hs hc HBV H0 B0 hsz0 hsz1 HW0 HW1 hbd HRL H42 HLL HB1 HB2 hN HZS HSZ HONE hz47
  go_wp2_with fail
  have hc := apart_any a0r a0t a1r a1t a0n a0m a1n a1m a0R a1R a0T a1T w2 (HRW.out.1.below H1.out.below (Nat.le_refl _)) (HRW.out.2.1.below H1.out.below (Nat.le_refl _)) (HRW.out.2.2.1.below H1.out.below (Nat.le_refl _)) (HRW.out.2.2.2.below H1.out.below (Nat.le_refl _))
  rw [HCA.out, HCB.out] at hc
  obtain ⟨e1, HE1⟩ : ∃ q, Hid (both ca cb = q) := ⟨_, (rfl : _ = _)⟩
  rw [HE1.out] at hc
  refine hc.mono ?_
  rintro _ w3 ⟨s, is, rfl, ht, hn, hl, hb⟩
  have HT1 : Hid ((ca = 0 → cb = 0 → Told a0R a1R a0T a1T s.data.toList is) ∧ (¬ (ca = 0 ∧ cb = 0) → s = ⟨#[]⟩ ∧ is = false)) := ⟨ht, hn⟩
  have H3 : Hid (Bx w a0r a0t a1r a1t w3) := H1.out.next hb
  clear hb ht hn hl hc c0 c1 c2 c3 H1
  have c0 := H3.out.c0
  have c1 := H3.out.c1
  go_wp2_with fail
  have hc := min_any a0r a0t a0n a0m a0R a0T w3 (HRW.out.1.below H3.out.below (Nat.le_refl _)) (HRW.out.2.1.below H3.out.below (Nat.le_refl _))
  rw [HCA.out] at hc
  refine hc.mono ?_
  rintro _ w4 ⟨ra4, rn4, rc4, ta4, tn4, tc4, rfl, hmo, hb⟩
  have HMA : Hid (ca = 0 → Mo a0n a0R a0T 0 w4 (.slice ra4 rn4 rc4) (.slice ta4 tn4 tc4)) := hmo
  have H4 : Hid (Bx w a0r a0t a1r a1t w4) := H3.out.next hb
  clear hb hmo hc c0 c1 H3
  have hbx := below_box w4 (Obj.cells #[.slice ra4 rn4 rc4, .slice ta4 tn4 tc4] 25)
  have hnb := Bb.box w4 (.slice ra4 rn4 rc4) (.slice ta4 tn4 tc4) 25
  obtain ⟨gA, HGA⟩ : ∃ q, Hid (w4.heap.size = q) := ⟨_, (rfl : _ = _)⟩
  obtain ⟨x4, HX4⟩ : ∃ q, Hid (w4.alloc (Obj.cells #[.slice ra4 rn4 rc4, .slice ta4 tn4 tc4] 25) = q) := ⟨_, (rfl : _ = _)⟩
  rw [HX4.out] at hbx hnb
  have H4x : Hid (Bx w a0r a0t a1r a1t x4) := H4.out.next hbx
  have HMAx : Hid (ca = 0 → Mo a0n a0R a0T 0 x4 (.slice ra4 rn4 rc4) (.slice ta4 tn4 tc4)) := fun h => (HMA.out h).below hbx (Nat.le_refl _)
  have HBA : Hid (Bb gA (.slice ra4 rn4 rc4) (.slice ta4 tn4 tc4) x4) := by rw [← HGA.out]; exact hnb
  clear H4 HMA hbx hnb
  have c2 := H4x.out.c2
  have c3 := H4x.out.c3
  go_upto_region 9 with fail
  rw [HX4.out, HGA.out]
  go_wp2_with fail
  have hc := min_any a1r a1t a1n a1m a1R a1T x4 (HRW.out.2.2.1.below H4x.out.below (Nat.le_refl _)) (HRW.out.2.2.2.below H4x.out.below (Nat.le_refl _))
  rw [HCB.out] at hc
  refine hc.mono ?_
  rintro _ w5 ⟨ra5, rn5, rc5, ta5, tn5, tc5, rfl, hmo, hb⟩
  have HMB : Hid (cb = 0 → Mo a1n a1R a1T 0 w5 (.slice ra5 rn5 rc5) (.slice ta5 tn5 tc5)) := hmo
  have H5 : Hid (Bx w a0r a0t a1r a1t w5) := H4x.out.next hb
  have HMA5 : Hid (ca = 0 → Mo a0n a0R a0T 0 w5 (.slice ra4 rn4 rc4) (.slice ta4 tn4 tc4)) := fun h => (HMAx.out h).below hb (Nat.le_refl _)
  have HBA5 : Hid (Bb gA (.slice ra4 rn4 rc4) (.slice ta4 tn4 tc4) w5) := HBA.out.next hb
  clear hb hmo hc c2 c3 H4x HMAx HBA
  have hbx := below_box w5 (Obj.cells #[.slice ra5 rn5 rc5, .slice ta5 tn5 tc5] 25)
  have hnb := Bb.box w5 (.slice ra5 rn5 rc5) (.slice ta5 tn5 tc5) 25
  obtain ⟨gB, HGB⟩ : ∃ q, Hid (w5.heap.size = q) := ⟨_, (rfl : _ = _)⟩
  obtain ⟨x5, HX5⟩ : ∃ q, Hid (w5.alloc (Obj.cells #[.slice ra5 rn5 rc5, .slice ta5 tn5 tc5] 25) = q) := ⟨_, (rfl : _ = _)⟩
  rw [HX5.out] at hbx hnb
  have H5x : Hid (Below w.heap.size w x5) := (H5.out.next hbx).below
  have HMAx : Hid (ca = 0 → Mo a0n a0R a0T 0 x5 (.slice ra4 rn4 rc4) (.slice ta4 tn4 tc4)) := fun h => (HMA5.out h).below hbx (Nat.le_refl _)
  have HMBx : Hid (cb = 0 → Mo a1n a1R a1T 0 x5 (.slice ra5 rn5 rc5) (.slice ta5 tn5 tc5)) := fun h => (HMB.out h).below hbx (Nat.le_refl _)
  have HBA : Hid (Bb gA (.slice ra4 rn4 rc4) (.slice ta4 tn4 tc4) x5) := HBA5.out.next hbx
  have HBB : Hid (Bb gB (.slice ra5 rn5 rc5) (.slice ta5 tn5 tc5) x5) := by rw [← HGB.out]; exact hnb
  clear H5 HMA5 HMB HBA5 hbx hnb
  go_upto_region 10 with fail
  rw [HX5.out, HGB.out]
  clear HX4 HX5 HGA HGB
  by_cases hok : ca = 0 ∧ cb = 0
  · obtain ⟨hca, hcb⟩ := hok
    subst hca
    subst hcb
    obtain ⟨NA, FA, UA, KA, metA, ma1, ma2, ma3, -, -⟩ := HMAx.out rfl
    obtain ⟨NB, FB, UB, KB, metB, mb1, mb2, mb3, -, -⟩ := HMBx.out rfl
    obtain rfl : e1 = 0 := by rw [← HE1.out]; rfl
    obtain ⟨sm, HSM⟩ : ∃ q, Hid ((eqR NA NB FA FB && eqT NA NB UA UB) = q) := ⟨_, (rfl : _ = _)⟩
    have HIS : Hid (is = !sm) := by
      obtain ⟨p0, -, -, p1, -⟩ := chk_zero HCA.out
      obtain ⟨q0, -, -, q1, -⟩ := chk_zero HCB.out
      show _ = _
      rw [← HSM.out]
      exact same_told p0 q0 p1 q1 (ma1.right (by obtain ⟨-, -, e, -⟩ := chk_zero HCA.out; rw [← HCA.out, e])) ma1 mb1 (HT1.out.1 rfl rfl)
    have hc := sameDfa_any (.slice ra4 rn4 rc4) (.slice ta4 tn4 tc4) (.slice ra5 rn5 rc5) (.slice ta5 tn5 tc5) NA NA NB NB FA FB UA UB x5 ma2 ma3 mb2 mb3
    rw [HSM.out] at hc
    have HSC : Hid (Calls Try.prog 11 #[.agg #[.slice ra4 rn4 rc4, .slice ta4 tn4 tc4], .agg #[.slice ra5 rn5 rc5, .slice ta5 tn5 tc5]] x5 fun e w' => e = .returned (.bool sm) ∧ Below x5.heap.size x5 w') := hc
    have y0 := HBA.out.c0
    have y1 := HBA.out.c1
    have y2 := HBB.out.c0
    have y3 := HBB.out.c1
    have hiss := HIS.out
    subst hiss
    clear hc ma1 ma2 ma3 mb1 mb2 mb3 HMAx HMBx HT1
    go_wp2_with fail
    refine HSC.out.mono ?_
    rintro _ w7 ⟨rfl, hb⟩
    have B7 : Below w.heap.size w w7 := H5x.out.trans (hb.mono H5x.out.size)
    clear hb HSC
    cases sm
    · go_wp2_with fail
      go_ret
      exact ⟨rfl, B7⟩
    · go_wp2_with fail
      go_ret
      exact ⟨rfl, B7⟩
  · obtain ⟨hs0, his⟩ := HT1.out.2 hok
    have he : (e1 == 0) = false := by
      have : e1 ≠ 0 := by
        rw [← HE1.out]; unfold both
        split
        · intro x; exact hok ⟨by assumption, x⟩
        · assumption
      simp [this]
    have he2 : (e1 != 0) = true := by simpa using he
    have hsb : (s.toList == []) = true := by rw [hs0, ByteArray.toList_eq]; rfl
    have HS0 : Hid (s = ⟨#[]⟩) := hs0
    subst his
    clear hs0 HT1 HMAx HMBx HBA HBB HE1
    by_cases h1 : ca = 0
    · subst h1
      have hcb : (cb == 0) = false := by simp; intro x; exact hok ⟨rfl, x⟩
      clear hok
      go_wp2_with fail
      go_ret
      exact ⟨rfl, H5x.out⟩
    · have hca : (ca == 0) = false := by simp [h1]
      clear hok h1
      go_wp2_with fail
      go_ret
      exact ⟨rfl, H5x.out⟩

/-! ### What the walk gives, for every argument -/
set_option maxRecDepth 100000 in
theorem contract (H : Type) (enc : TypeId × Value → H) (W : World) (base : Nat) (args : Array Value) (ds gs : List (DataW H)) (before : List MemPlace)
    (hval : ∀ (j : Nat) t v, Try.f6.params[j]? = some t → args[j]? = some v → Value.okWide Try.prog W .any base t v)
    (hW : DataW.Whole enc Try.prog Try.f6.params.toList Rows.smallSameSpec.vars false W args.toList ds gs before) (hsz : (DataW.weightsEach Try.prog (Try.f6.params.toList ++ Rows.smallSameSpec.plain.varTypes Try.prog) (ds ++ gs)).all (· ≤ reachBytes) = true) :
    Calls Try.prog 6 args W fun e W' => ∃ v, e = .returned v ∧ Rows.smallSameSpec.post enc Try.prog Try.f6 false true false false W args v W' := by
  have hW' := hW
  obtain ⟨p, q, hA0, hV, rfl, hfz, hnd⟩ := hW
  have hA : DataW.TrodAll enc Try.prog W 0 (fun _ => true) true Try.f6.params.toList args.toList ds p := hA0
  rw [Try.params6] at hA hval hsz
  obtain ⟨v0, vs0, d0, ds0, p0, q0, hargs, rfl, rfl, h0, r0⟩ := trodAll_cons hA
  obtain ⟨v1, vs1, d1, ds1, p1, q1, rfl, rfl, rfl, h1, r1⟩ := trodAll_cons r0
  obtain ⟨rfl, rfl, rfl⟩ := trodAll_nil r1
  obtain rfl : args = #[v0, v1] := by cases args; simp_all
  obtain ⟨rfl, rfl⟩ := trodVars_none hV
  have k0 := h0
  have lt0 : ∀ x ∈ p0, x.block < W.heap.size := by obtain ⟨m, hm⟩ := k0; exact DataW.trod_lt m _ _ _ hm
  obtain ⟨a0r, a0t, a0n, a0m, a0R, a0T, rfl, w0s, w0u⟩ := open_dfa (hval 0 25 v0 rfl rfl) h0
  have k1 := h1
  have lt1 : ∀ x ∈ p1, x.block < W.heap.size := by obtain ⟨m, hm⟩ := k1; exact DataW.trod_lt m _ _ _ hm
  obtain ⟨a1r, a1t, a1n, a1m, a1R, a1T, rfl, w1s, w1u⟩ := open_dfa (hval 1 25 v1 rfl rfl) h1
  clear hA0
  refine (walk a0r a0t a0n a0m a0R a0T a1r a1t a1n a1m a1R a1T W w0s w0u w1s w1u).mono fun e W' ⟨he, bel⟩ => ?_
  subst he
  exact ⟨_, rfl, _, _, _, [], _, [], hW', trodAll_mk1 (shut_bool Try.underlying4 _), (trodAll_cons_mk (Below.trod laidOut (by kernel_rfl) (of_decide_eq_true (by kernel_rfl)) k0 bel lt0) (trodAll_cons_mk (Below.trod laidOut (by kernel_rfl) (of_decide_eq_true (by kernel_rfl)) k1 bel lt1) trodAll_mk0)), rfl, bel.frame _, fun h => by cases h⟩

/-! ### The row's step -/
set_option maxRecDepth 100000 in
theorem lifted (os : Os) (started : os.Started) (H : Type) (enc : TypeId × Value → H) :
    ReturnsInHanded {} Try.checked os 6 .any (Rows.smallSameSpec.pre6 enc Try.prog Try.f6 Rows.smallSameRow.domain false) (Rows.smallSameSpec.post enc Try.prog Try.f6 false true false false) := by
  refine returnsInHanded_of_change_sized (C := Try.checked) own started (by kernel_rfl) Try.func6
    (ChangeSpec.witness6 (enc := enc) (C := Try.checked) false ⟨#[], #[.agg #[.slice none 0 0, .slice none 0 0], .agg #[.slice none 0 0, .slice none 0 0]], []⟩ 8 (by kernel_rfl) (by kernel_rfl) (by kernel_rfl) (by kernel_rfl)) ?_
  intro W base args ds gs before hval hW hcnd hsz _
  exact contract H enc W base args ds gs before hval hW hsz

theorem over : Rows.smallSameRow.holds Try.pinned (OpenSpec.ofChange Rows.smallSameSpec) :=
  OpenClaim.holds_of_wide 6 Try.f6 rfl rfl rfl rfl rfl rfl rfl ⟨rfl, rfl, rfl, rfl, rfl⟩ rfl rfl rfl rfl rfl (by kernel_rfl) Try.func6 (by kernel_rfl)
    (of_decide_eq_true (by kernel_rfl)) (by unfold Func.isWrapper; first | (rw [if_pos (by decide +kernel)]; kernel_rfl) | (rw [if_neg (by decide +kernel)]; exact ⟨rfl, rfl⟩))
    (fun os started H enc _ => lifted os started H enc)

end Go.Proofs.Ytlgcggfenljdnaa.smallSame
namespace Go.Proofs.Ytlgcggfenljdnaa
/-- The given statement. -/
theorem smallSame_holds : Rows.SmallSameSaid := smallSame.over
#print axioms smallSame_holds
end Go.Proofs.Ytlgcggfenljdnaa
