/-
  SmallLeast returns true whatever automaton and numbers are handed in, and changes nothing that it was handed; no condition.
-/
import Derived.Test.YtlgcggfenljdnaaRows
import Derived.WalkKit
import Derived.ProofKit
import Derived.OpenShut
import Derived.ShutString
import Derived.SizedLaws
import Derived.ChangeOld
import Derived.Below
import Derived.Carry
import Derived.WalkLawsBesides
import Derived.WalkSpells
import Derived.Test.YtlgcggfenljdnaaOpens
import Derived.Deep.Cut
import Derived.Great.BuildSlice
import Derived.Test.YtlgcggfenljdnaaFrMath
namespace Go.Proofs.Ytlgcggfenljdnaa.smallLeast
open Go.ChangeShapes Go.WideShapes Go.ChangeAt Go.RowKit
open Go.ChangeMaps (open_string shut_string)
open Dfa
set_option linter.unusedVariables false

theorem own : ownKnob Try.prog.godebug = none := by kernel_rfl
theorem laidOut : laidOutB Try.prog = true := by kernel_rfl
structure RL8 (w : World) (N : Nat) (F : Nat → Nat → Int) (U : Nat → Int) (ra2 : Option Addr) (rc2 : Nat) (ta2 : Option Addr) (tc2 gA ia ib : Nat) (tw : Bool) (r1 : Value) (t1 : Value) (r2 : Value) (t2 : Value) (s1 : ByteArray) (d : Nat → Bool) (x8 x12 x13 x40 x41 x42 x43 x44 x45 x46 x47 x48 x49 x50 : Value) (W : World) : Prop where
  f0 : d 0 = true → x41 = (.agg #[.slice ra2 N rc2, .slice ta2 N tc2])
  f1 : d 1 = true → x42 = (.int .i64 (ia : Int))
  f2 : d 2 = true → x43 = (.agg #[r1, t1])
  f3 : d 3 = true → x44 = (.agg #[.slice ra2 N rc2, .slice ta2 N tc2])
  f4 : d 4 = true → x45 = (.int .i64 (ib : Int))
  f5 : d 5 = true → x46 = (.agg #[r2, t2])
  f6 : d 6 = true → x47 = (.tuple #[.string s1, .bool tw, .int .i64 0])
  f7 : d 7 = true → x40 = (.tuple #[.string s1, .bool tw, .int .i64 0])
  f8 : d 8 = true → x48 = (.string s1)
  f9 : d 9 = true → x49 = (.bool tw)
  f10 : d 10 = true → x50 = (.int .i64 0)
  f11 : d 11 = true → x12 = (.string s1)
  f12 : d 12 = true → x13 = (.bool tw)
  f13 : d 13 = true → x8 = (.int .i64 0)
  o7_6 : d 7 = true → d 6 = true
  o8_7 : d 8 = true → d 7 = true
  o11_8 : d 11 = true → d 8 = true
  kp : Below w.heap.size w W ∧ Bb gA (.slice ra2 N rc2) (.slice ta2 N tc2) W ∧ Rw W (.slice ra2 N rc2) N F ∧ Ts W (.slice ta2 N tc2) N U
  a2 : d 2 = true → Rw W r1 N (frR N ia F) ∧ Ts W t1 N (frT ia U)
  a5 : d 5 = true → Rw W r2 N (frR N ib F) ∧ Ts W t2 N (frT ib U)

structure RL10 (w : World) (N : Nat) (F : Nat → Nat → Int) (U : Nat → Int) (ra2 : Option Addr) (rc2 : Nat) (ta2 : Option Addr) (tc2 gA ia gz : Nat) (r3 : Value) (t3 : Value) (s2 : ByteArray) (lv : Bool) (d : Nat → Bool) (x15 x16 x17 x55 x56 x57 x58 x59 x60 x61 x62 x63 : Value) (W : World) : Prop where
  f0 : d 0 = true → x56 = (.agg #[.slice ra2 N rc2, .slice ta2 N tc2])
  f1 : d 1 = true → x57 = (.int .i64 (ia : Int))
  f2 : d 2 = true → x58 = (.agg #[r3, t3])
  f3 : d 3 = true → x59 = (.agg #[(.slice (some ⟨gz, 0, none⟩) 1 1), (.slice (some ⟨gz + 1, 0, none⟩) 1 1)])
  f4 : d 4 = true → x60 = (.tuple #[.string s2, .bool lv, .int .i64 0])
  f5 : d 5 = true → x55 = (.tuple #[.string s2, .bool lv, .int .i64 0])
  f6 : d 6 = true → x61 = (.string s2)
  f7 : d 7 = true → x62 = (.bool lv)
  f8 : d 8 = true → x63 = (.int .i64 0)
  f9 : d 9 = true → x15 = (.string s2)
  f10 : d 10 = true → x16 = (.bool lv)
  f11 : d 11 = true → x17 = (.int .i64 0)
  o5_4 : d 5 = true → d 4 = true
  o6_5 : d 6 = true → d 5 = true
  o7_5 : d 7 = true → d 5 = true
  o9_6 : d 9 = true → d 6 = true
  o10_7 : d 10 = true → d 7 = true
  kp : Below w.heap.size w W ∧ Bb gA (.slice ra2 N rc2) (.slice ta2 N tc2) W ∧ Rw W (.slice ra2 N rc2) N F ∧ Ts W (.slice ta2 N tc2) N U ∧ Bb (gz + 1 + 1) (.slice (some ⟨gz, 0, none⟩) 1 1) (.slice (some ⟨gz + 1, 0, none⟩) 1 1) W ∧ Rw W (.slice (some ⟨gz, 0, none⟩) 1 1) 1 (fun _ _ => 0) ∧ Ts W (.slice (some ⟨gz + 1, 0, none⟩) 1 1) 1 (fun _ => -1)
  a2 : d 2 = true → Rw W r3 N (frR N ia F) ∧ Ts W t3 N (frT ia U)
  lv : d 4 = true → lv = false → ia = 0

/-! ### The walk: the Go text returns true. -/
set_option maxHeartbeats 8000000 in
set_option maxRecDepth 20000 in
theorem walk (a0r : Value) (a0t : Value) (a0n : Nat) (a0m : Nat) (a0R : Nat → Nat → Int) (a0T : Nat → Int) (a1 : Int) (a2 : Int) (w : World) (w0s : Rw w a0r a0n a0R) (w0u : Ts w a0t a0m a0T) (w1 : (Lit.int .i64 a1).wf = true) (w2 : (Lit.int .i64 a2).wf = true) :
    Calls Try.prog 5 #[.agg #[a0r, a0t], .int .i64 a1, .int .i64 a2] w fun e w' => e = .returned (.bool true) ∧ Below w.heap.size w w' := by
  have HRW : Hid (Rw w a0r a0n a0R) := w0s
  have HTS : Hid (Ts w a0t a0m a0T) := w0u
  obtain ⟨ra, rc, rfl, hrn, -⟩ := w0s
  obtain ⟨ta, tc, rfl, -⟩ := w0u
  have B0 : Below w.heap.size w (w.alloc (Obj.cells #[(.slice ra a0n rc), (.slice ta a0m tc)] 25)) := (Below.refl _ _).alloc (Nat.le_refl _) _
  have HR0 : Hid (Rw (w.alloc (Obj.cells #[(.slice ra a0n rc), (.slice ta a0m tc)] 25)) (.slice ra a0n rc) a0n a0R) := HRW.out.below B0 (Nat.le_refl _)
  have HT0 : Hid (Ts (w.alloc (Obj.cells #[(.slice ra a0n rc), (.slice ta a0m tc)] 25)) (.slice ta a0m tc) a0m a0T) := HTS.out.below B0 (Nat.le_refl _)
  obtain ⟨c, HC⟩ : ∃ c, Hid (chk a0n a0m a0R a0T = c) := ⟨_, (rfl : _ = _)⟩
  by_cases h0 : c = 0
  · subst h0
    obtain ⟨g0, g1, g2, g3, -⟩ := chk_zero HC.out
    have g2s := g2.symm
    subst g2s
    have HRO : Hid (rowsOk a0n a0R = true) := g3
    have hmi := min_ok (.slice ra a0n rc) (.slice ta a0n tc) a0n a0R a0T _ HR0.out HT0.out HC.out
    clear g2 g3
    have hbd := zeroRow'
    obtain ⟨l0, HL0⟩ : ∃ l, Hid (rl (fun _ => 0) = l) := ⟨_, (rfl : _ = _)⟩
    rw [HL0.out] at hbd
    have HLL : Hid (l0.length = 256) := by show _ = _; rw [← HL0.out, rl_length]
    have HRL : Hid (∀ W : World, Rw (W.alloc (Obj.cells l0.toArray 42)) (.slice (some ⟨W.heap.size, 0, none⟩) 1 1) 1 (fun _ _ => 0)) := fun W => by rw [← HL0.out]; exact rw_one W
    obtain ⟨i42, hi42, hz42, hs42, hb42⟩ := info_parts infoRow
    have H42 : Hid (Try.prog.info? 42 = some i42 ∧ i42.zero = some (.agg (Array.replicate 256 (.int .i16 0))) ∧ i42.size = 256) := ⟨hi42, hz42, hs42⟩
    clear hi42 hz42 hs42 hb42 HL0
    go_enter Try.func5, Try.ntmps5
    go_wp2_with fail
    refine hmi.mono ?_
    rintro _ w1 ⟨rv2, tv2, rfl, hmo, hb⟩
    obtain ⟨N, F, U, K, met, hm1, hm2, hm3, -, -⟩ := hmo
    have HMI : Hid (Mi a0n a0R a0T N F U K met) := hm1
    have HCN : Hid (chk N N F U = 0) := hm1.right HC.out
    obtain ⟨hN0, hN1⟩ := hm1.few
    have HNN : Hid (0 < N ∧ N ≤ 200) := ⟨hN0, by omega⟩
    have B1 : Below w.heap.size w w1 := B0.trans (hb.mono B0.size)
    obtain ⟨ra2, rc2, hre, -⟩ := id hm2
    obtain ⟨ta2, tc2, hte, -⟩ := id hm3
    subst hre hte
    have hbx := below_box w1 (Obj.cells #[(.slice ra2 N rc2), (.slice ta2 N tc2)] 25)
    have hnb := Bb.box w1 (.slice ra2 N rc2) (.slice ta2 N tc2) 25
    obtain ⟨gA, HGA⟩ : ∃ q, Hid (w1.heap.size = q) := ⟨_, (rfl : _ = _)⟩
    obtain ⟨x4, HX4⟩ : ∃ q, Hid (w1.alloc (Obj.cells #[(.slice ra2 N rc2), (.slice ta2 N tc2)] 25) = q) := ⟨_, (rfl : _ = _)⟩
    rw [HX4.out] at hbx hnb
    rw [HGA.out] at hnb
    have HK7 : Hid (Below w.heap.size w x4 ∧ Bb gA (.slice ra2 N rc2) (.slice ta2 N tc2) x4 ∧ Rw x4 (.slice ra2 N rc2) N F ∧ Ts x4 (.slice ta2 N tc2) N U) := ⟨B1.trans (hbx.mono B1.size), hnb, hm2.below hbx (Nat.le_refl _), hm3.below hbx (Nat.le_refl _)⟩
    have hNz : ((N : Int) == 0) = false := by simp; omega
    clear hm1 hm2 hm3 hb hmi B0 B1 hbx hnb HR0 HT0
    go_upto_region 2 with fail
    rw [HX4.out, HGA.out]
    clear HX4 HGA
    have ya := HK7.out.2.1.c0
    have yb := HK7.out.2.1.c1
    go_wp2_with fail
    refine (rest_any a1 N x4 HNN.out.1 HNN.out.2).mono ?_
    rintro _ w5 ⟨⟨ia, ha, rfl⟩, hw⟩
    rw [hw]
    clear hw
    go_wp2_with fail
    refine (rest_any a2 N x4 HNN.out.1 HNN.out.2).mono ?_
    rintro _ w6 ⟨⟨ib, hbN, rfl⟩, hw⟩
    rw [hw]
    clear hw
    have HA : Hid (ia < N) := ha
    have HB : Hid (ib < N) := hbN
    obtain ⟨tw, HTW⟩ : ∃ q, Hid ((!decide ((ia : Int) = (ib : Int))) = q) := ⟨_, (rfl : _ = _)⟩
    clear ya yb
    go_wp2_with fail
    refine wp_region_free mixed (fun a0 d a W => ∃ (r1 : Value) (t1 : Value) (r2 : Value) (t2 : Value) (s1 : ByteArray) (x8 x12 x13 x40 x41 x42 x43 x44 x45 x46 x47 x48 x49 x50 : Value), a = ((((((((((((((a0.put (some 8) x8).put (some 12) x12).put (some 13) x13).put (some 40) x40).put (some 41) x41).put (some 42) x42).put (some 43) x43).put (some 44) x44).put (some 45) x45).put (some 46) x46).put (some 47) x47).put (some 48) x48).put (some 49) x49).put (some 50) x50) ∧ Hid (RL8 w N F U ra2 rc2 ta2 tc2 gA ia ib tw r1 t1 r2 t2 s1 d x8 x12 x13 x40 x41 x42 x43 x44 x45 x46 x47 x48 x49 x50 W)) (by kernel_rfl) ⟨undef, undef, undef, undef, ⟨#[]⟩, (.int .i64 0), undef, undef, undef, undef, undef, undef, undef, undef, undef, undef, undef, undef, undef, by simp only [Act.put, List.setIfInBounds_toArray, List.set_cons_zero, List.set_cons_succ], ?_⟩ ?_ ?_
    · exact ⟨fun h => no_way h, fun h => no_way h, fun h => no_way h, fun h => no_way h, fun h => no_way h, fun h => no_way h, fun h => no_way h, fun h => no_way h, fun h => no_way h, fun h => no_way h, fun h => no_way h, fun h => no_way h, fun h => no_way h, fun h => no_way h, fun h => no_way h, fun h => no_way h, fun h => no_way h, ⟨HK7.out.1.drew, ⟨HK7.out.2.1.c0, HK7.out.2.1.c1, HK7.out.2.1.lt⟩, HK7.out.2.2.1.below (Sm.below (Sm.drew _) _) (Nat.le_refl _), HK7.out.2.2.2.below (Sm.below (Sm.drew _) _) (Nat.le_refl _)⟩, fun h => no_way h, fun h => no_way h⟩
    · simp only [StepAll, and_true]
      refine ⟨?_, ?_, ?_, ?_, ?_, ?_, ?_, ?_, ?_, ?_, ?_, ?_, ?_, ?_⟩
      · intro d a W hI hd hdep
        obtain ⟨r1, t1, r2, t2, s1, x8, x12, x13, x40, x41, x42, x43, x44, x45, x46, x47, x48, x49, x50, rfl, hF⟩ := hI
        have ya := hF.out.kp.2.1.c0
        have yb := hF.out.kp.2.1.c1
        clear hdep hd
        intro K hK
        simp only [Act.put, List.setIfInBounds_toArray, List.set_cons_zero, List.set_cons_succ]
        go_simp
        refine hK.out _ _ ⟨r1, t1, r2, t2, s1, x8, x12, x13, x40, (.agg #[.slice ra2 N rc2, .slice ta2 N tc2]), x42, x43, x44, x45, x46, x47, x48, x49, x50, by simp only [Act.put, List.setIfInBounds_toArray, List.set_cons_zero, List.set_cons_succ], ?_⟩
        exact ⟨fun _ => rfl, fun h => hF.out.f1 (by simpa using h), fun h => hF.out.f2 (by simpa using h), fun h => hF.out.f3 (by simpa using h), fun h => hF.out.f4 (by simpa using h), fun h => hF.out.f5 (by simpa using h), fun h => hF.out.f6 (by simpa using h), fun h => hF.out.f7 (by simpa using h), fun h => hF.out.f8 (by simpa using h), fun h => hF.out.f9 (by simpa using h), fun h => hF.out.f10 (by simpa using h), fun h => hF.out.f11 (by simpa using h), fun h => hF.out.f12 (by simpa using h), fun h => hF.out.f13 (by simpa using h), fun h => by have := hF.out.o7_6 (by simpa using h); simpa using this, fun h => by have := hF.out.o8_7 (by simpa using h); simpa using this, fun h => by have := hF.out.o11_8 (by simpa using h); simpa using this, hF.out.kp, fun h => hF.out.a2 (by simpa using h), fun h => hF.out.a5 (by simpa using h)⟩
      · intro d a W hI hd hdep
        obtain ⟨r1, t1, r2, t2, s1, x8, x12, x13, x40, x41, x42, x43, x44, x45, x46, x47, x48, x49, x50, rfl, hF⟩ := hI
        clear hdep hd
        intro K hK
        simp only [Act.put, List.setIfInBounds_toArray, List.set_cons_zero, List.set_cons_succ]
        go_simp
        refine hK.out _ _ ⟨r1, t1, r2, t2, s1, x8, x12, x13, x40, x41, (.int .i64 (ia : Int)), x43, x44, x45, x46, x47, x48, x49, x50, by simp only [Act.put, List.setIfInBounds_toArray, List.set_cons_zero, List.set_cons_succ], ?_⟩
        exact ⟨fun h => hF.out.f0 (by simpa using h), fun _ => rfl, fun h => hF.out.f2 (by simpa using h), fun h => hF.out.f3 (by simpa using h), fun h => hF.out.f4 (by simpa using h), fun h => hF.out.f5 (by simpa using h), fun h => hF.out.f6 (by simpa using h), fun h => hF.out.f7 (by simpa using h), fun h => hF.out.f8 (by simpa using h), fun h => hF.out.f9 (by simpa using h), fun h => hF.out.f10 (by simpa using h), fun h => hF.out.f11 (by simpa using h), fun h => hF.out.f12 (by simpa using h), fun h => hF.out.f13 (by simpa using h), fun h => by have := hF.out.o7_6 (by simpa using h); simpa using this, fun h => by have := hF.out.o8_7 (by simpa using h); simpa using this, fun h => by have := hF.out.o11_8 (by simpa using h); simpa using this, hF.out.kp, fun h => hF.out.a2 (by simpa using h), fun h => hF.out.a5 (by simpa using h)⟩
      · intro d a W hI hd hdep
        obtain ⟨r1, t1, r2, t2, s1, x8, x12, x13, x40, x41, x42, x43, x44, x45, x46, x47, x48, x49, x50, rfl, hF⟩ := hI
        have hd0 : d 0 = true := dep_of hdep 0 (by kernel_rfl)
        have hd1 : d 1 = true := dep_of hdep 1 (by kernel_rfl)
        obtain rfl := hF.out.f0 hd0
        obtain rfl := hF.out.f1 hd1
        have hcl := from_any (.slice ra2 N rc2) (.slice ta2 N tc2) N F U ia W hF.out.kp.2.2.1 hF.out.kp.2.2.2 HNN.out.1 HNN.out.2 HA.out
        clear hdep hd hd0 hd1
        intro K hK
        simp only [Act.put, List.setIfInBounds_toArray, List.set_cons_zero, List.set_cons_succ]
        go_simp
        refine hcl.mono ?_
        rintro _ W1 ⟨q1, q2, rfl, hq1, hq2, hb1⟩
        have HOW : Hid (Rw W1 q1 N (frR N ia F) ∧ Ts W1 q2 N (frT ia U)) := ⟨hq1, hq2⟩
        clear hq1 hq2 hcl
        go_simp
        refine hK.out _ _ ⟨q1, q2, r2, t2, s1, x8, x12, x13, x40, (.agg #[.slice ra2 N rc2, .slice ta2 N tc2]), (.int .i64 (ia : Int)), (.agg #[q1, q2]), x44, x45, x46, x47, x48, x49, x50, by simp only [Act.put, List.setIfInBounds_toArray, List.set_cons_zero, List.set_cons_succ], ?_⟩
        exact ⟨fun h => hF.out.f0 (by simpa using h), fun h => hF.out.f1 (by simpa using h), fun _ => rfl, fun h => hF.out.f3 (by simpa using h), fun h => hF.out.f4 (by simpa using h), fun h => hF.out.f5 (by simpa using h), fun h => hF.out.f6 (by simpa using h), fun h => hF.out.f7 (by simpa using h), fun h => hF.out.f8 (by simpa using h), fun h => hF.out.f9 (by simpa using h), fun h => hF.out.f10 (by simpa using h), fun h => hF.out.f11 (by simpa using h), fun h => hF.out.f12 (by simpa using h), fun h => hF.out.f13 (by simpa using h), fun h => by have := hF.out.o7_6 (by simpa using h); simpa using this, fun h => by have := hF.out.o8_7 (by simpa using h); simpa using this, fun h => by have := hF.out.o11_8 (by simpa using h); simpa using this, ⟨hF.out.kp.1.trans (hb1.mono hF.out.kp.1.size), hF.out.kp.2.1.next hb1, hF.out.kp.2.2.1.below hb1 (Nat.le_refl _), hF.out.kp.2.2.2.below hb1 (Nat.le_refl _)⟩, fun _ => HOW.out, fun h => have q := hF.out.a5 (by simpa using h); ⟨q.1.below hb1 (Nat.le_refl _), q.2.below hb1 (Nat.le_refl _)⟩⟩
      · intro d a W hI hd hdep
        obtain ⟨r1, t1, r2, t2, s1, x8, x12, x13, x40, x41, x42, x43, x44, x45, x46, x47, x48, x49, x50, rfl, hF⟩ := hI
        have ya := hF.out.kp.2.1.c0
        have yb := hF.out.kp.2.1.c1
        clear hdep hd
        intro K hK
        simp only [Act.put, List.setIfInBounds_toArray, List.set_cons_zero, List.set_cons_succ]
        go_simp
        refine hK.out _ _ ⟨r1, t1, r2, t2, s1, x8, x12, x13, x40, x41, x42, x43, (.agg #[.slice ra2 N rc2, .slice ta2 N tc2]), x45, x46, x47, x48, x49, x50, by simp only [Act.put, List.setIfInBounds_toArray, List.set_cons_zero, List.set_cons_succ], ?_⟩
        exact ⟨fun h => hF.out.f0 (by simpa using h), fun h => hF.out.f1 (by simpa using h), fun h => hF.out.f2 (by simpa using h), fun _ => rfl, fun h => hF.out.f4 (by simpa using h), fun h => hF.out.f5 (by simpa using h), fun h => hF.out.f6 (by simpa using h), fun h => hF.out.f7 (by simpa using h), fun h => hF.out.f8 (by simpa using h), fun h => hF.out.f9 (by simpa using h), fun h => hF.out.f10 (by simpa using h), fun h => hF.out.f11 (by simpa using h), fun h => hF.out.f12 (by simpa using h), fun h => hF.out.f13 (by simpa using h), fun h => by have := hF.out.o7_6 (by simpa using h); simpa using this, fun h => by have := hF.out.o8_7 (by simpa using h); simpa using this, fun h => by have := hF.out.o11_8 (by simpa using h); simpa using this, hF.out.kp, fun h => hF.out.a2 (by simpa using h), fun h => hF.out.a5 (by simpa using h)⟩
      · intro d a W hI hd hdep
        obtain ⟨r1, t1, r2, t2, s1, x8, x12, x13, x40, x41, x42, x43, x44, x45, x46, x47, x48, x49, x50, rfl, hF⟩ := hI
        clear hdep hd
        intro K hK
        simp only [Act.put, List.setIfInBounds_toArray, List.set_cons_zero, List.set_cons_succ]
        go_simp
        refine hK.out _ _ ⟨r1, t1, r2, t2, s1, x8, x12, x13, x40, x41, x42, x43, x44, (.int .i64 (ib : Int)), x46, x47, x48, x49, x50, by simp only [Act.put, List.setIfInBounds_toArray, List.set_cons_zero, List.set_cons_succ], ?_⟩
        exact ⟨fun h => hF.out.f0 (by simpa using h), fun h => hF.out.f1 (by simpa using h), fun h => hF.out.f2 (by simpa using h), fun h => hF.out.f3 (by simpa using h), fun _ => rfl, fun h => hF.out.f5 (by simpa using h), fun h => hF.out.f6 (by simpa using h), fun h => hF.out.f7 (by simpa using h), fun h => hF.out.f8 (by simpa using h), fun h => hF.out.f9 (by simpa using h), fun h => hF.out.f10 (by simpa using h), fun h => hF.out.f11 (by simpa using h), fun h => hF.out.f12 (by simpa using h), fun h => hF.out.f13 (by simpa using h), fun h => by have := hF.out.o7_6 (by simpa using h); simpa using this, fun h => by have := hF.out.o8_7 (by simpa using h); simpa using this, fun h => by have := hF.out.o11_8 (by simpa using h); simpa using this, hF.out.kp, fun h => hF.out.a2 (by simpa using h), fun h => hF.out.a5 (by simpa using h)⟩
      · intro d a W hI hd hdep
        obtain ⟨r1, t1, r2, t2, s1, x8, x12, x13, x40, x41, x42, x43, x44, x45, x46, x47, x48, x49, x50, rfl, hF⟩ := hI
        have hd3 : d 3 = true := dep_of hdep 3 (by kernel_rfl)
        have hd4 : d 4 = true := dep_of hdep 4 (by kernel_rfl)
        obtain rfl := hF.out.f3 hd3
        obtain rfl := hF.out.f4 hd4
        have hcl := from_any (.slice ra2 N rc2) (.slice ta2 N tc2) N F U ib W hF.out.kp.2.2.1 hF.out.kp.2.2.2 HNN.out.1 HNN.out.2 HB.out
        clear hdep hd hd3 hd4
        intro K hK
        simp only [Act.put, List.setIfInBounds_toArray, List.set_cons_zero, List.set_cons_succ]
        go_simp
        refine hcl.mono ?_
        rintro _ W1 ⟨q1, q2, rfl, hq1, hq2, hb1⟩
        have HOW : Hid (Rw W1 q1 N (frR N ib F) ∧ Ts W1 q2 N (frT ib U)) := ⟨hq1, hq2⟩
        clear hq1 hq2 hcl
        go_simp
        refine hK.out _ _ ⟨r1, t1, q1, q2, s1, x8, x12, x13, x40, x41, x42, x43, (.agg #[.slice ra2 N rc2, .slice ta2 N tc2]), (.int .i64 (ib : Int)), (.agg #[q1, q2]), x47, x48, x49, x50, by simp only [Act.put, List.setIfInBounds_toArray, List.set_cons_zero, List.set_cons_succ], ?_⟩
        exact ⟨fun h => hF.out.f0 (by simpa using h), fun h => hF.out.f1 (by simpa using h), fun h => hF.out.f2 (by simpa using h), fun h => hF.out.f3 (by simpa using h), fun h => hF.out.f4 (by simpa using h), fun _ => rfl, fun h => hF.out.f6 (by simpa using h), fun h => hF.out.f7 (by simpa using h), fun h => hF.out.f8 (by simpa using h), fun h => hF.out.f9 (by simpa using h), fun h => hF.out.f10 (by simpa using h), fun h => hF.out.f11 (by simpa using h), fun h => hF.out.f12 (by simpa using h), fun h => hF.out.f13 (by simpa using h), fun h => by have := hF.out.o7_6 (by simpa using h); simpa using this, fun h => by have := hF.out.o8_7 (by simpa using h); simpa using this, fun h => by have := hF.out.o11_8 (by simpa using h); simpa using this, ⟨hF.out.kp.1.trans (hb1.mono hF.out.kp.1.size), hF.out.kp.2.1.next hb1, hF.out.kp.2.2.1.below hb1 (Nat.le_refl _), hF.out.kp.2.2.2.below hb1 (Nat.le_refl _)⟩, fun h => have q := hF.out.a2 (by simpa using h); ⟨q.1.below hb1 (Nat.le_refl _), q.2.below hb1 (Nat.le_refl _)⟩, fun _ => HOW.out⟩
      · intro d a W hI hd hdep
        obtain ⟨r1, t1, r2, t2, s1, x8, x12, x13, x40, x41, x42, x43, x44, x45, x46, x47, x48, x49, x50, rfl, hF⟩ := hI
        have hd2 : d 2 = true := dep_of hdep 2 (by kernel_rfl)
        have hd5 : d 5 = true := dep_of hdep 5 (by kernel_rfl)
        obtain rfl := hF.out.f2 hd2
        obtain rfl := hF.out.f5 hd5
        have k2 := hF.out.a2 hd2
        have k5 := hF.out.a5 hd5
        have hcl := apart_any r1 t1 r2 t2 N N N N (frR N ia F) (frR N ib F) (frT ia U) (frT ib U) W k2.1 k2.2 k5.1 k5.2
        rw [frChk HCN.out HA.out, frChk HCN.out HB.out, show both 0 0 = 0 from rfl] at hcl
        clear k2 k5
        have HN7 : Hid (d 7 = false) := no_later hF.out.o7_6 hd
        have HN8 : Hid (d 8 = false) := no_later hF.out.o8_7 HN7.out
        have HN11 : Hid (d 11 = false) := no_later hF.out.o11_8 HN8.out
        clear hdep hd hd2 hd5
        intro K hK
        simp only [Act.put, List.setIfInBounds_toArray, List.set_cons_zero, List.set_cons_succ]
        go_simp
        refine hcl.mono ?_
        rintro _ W1 ⟨s0, is, rfl, ht, -, -, hb1⟩
        have hie : tw = is := by rw [← HTW.out]; exact (least_two HRO.out HMI.out HCN.out HA.out HB.out (ht rfl rfl)).symm
        subst hie
        clear ht hcl
        go_simp
        refine hK.out _ _ ⟨r1, t1, r2, t2, s0, x8, x12, x13, x40, x41, x42, (.agg #[r1, t1]), x44, x45, (.agg #[r2, t2]), (.tuple #[.string s0, .bool tw, .int .i64 0]), x48, x49, x50, by simp only [Act.put, List.setIfInBounds_toArray, List.set_cons_zero, List.set_cons_succ], ?_⟩
        exact ⟨fun h => hF.out.f0 (by simpa using h), fun h => hF.out.f1 (by simpa using h), fun h => hF.out.f2 (by simpa using h), fun h => hF.out.f3 (by simpa using h), fun h => hF.out.f4 (by simpa using h), fun h => hF.out.f5 (by simpa using h), fun _ => rfl, fun h => by have := HN7.out; simp [this] at h, fun h => by have := HN8.out; simp [this] at h, fun h => hF.out.f9 (by simpa using h), fun h => hF.out.f10 (by simpa using h), fun h => by have := HN11.out; simp [this] at h, fun h => hF.out.f12 (by simpa using h), fun h => hF.out.f13 (by simpa using h), fun _ => by simp, fun h => by have := hF.out.o8_7 (by simpa using h); simpa using this, fun h => by have := hF.out.o11_8 (by simpa using h); simpa using this, ⟨hF.out.kp.1.trans (hb1.mono hF.out.kp.1.size), hF.out.kp.2.1.next hb1, hF.out.kp.2.2.1.below hb1 (Nat.le_refl _), hF.out.kp.2.2.2.below hb1 (Nat.le_refl _)⟩, fun h => have q := hF.out.a2 (by simpa using h); ⟨q.1.below hb1 (Nat.le_refl _), q.2.below hb1 (Nat.le_refl _)⟩, fun h => have q := hF.out.a5 (by simpa using h); ⟨q.1.below hb1 (Nat.le_refl _), q.2.below hb1 (Nat.le_refl _)⟩⟩
      · intro d a W hI hd hdep
        obtain ⟨r1, t1, r2, t2, s1, x8, x12, x13, x40, x41, x42, x43, x44, x45, x46, x47, x48, x49, x50, rfl, hF⟩ := hI
        have hd6 : d 6 = true := dep_of hdep 6 (by kernel_rfl)
        obtain rfl := hF.out.f6 hd6
        have e7_6 := hd6
        clear hdep hd hd6
        intro K hK
        simp only [Act.put, List.setIfInBounds_toArray, List.set_cons_zero, List.set_cons_succ]
        go_simp
        refine hK.out _ _ ⟨r1, t1, r2, t2, s1, x8, x12, x13, (.tuple #[.string s1, .bool tw, .int .i64 0]), x41, x42, x43, x44, x45, x46, (.tuple #[.string s1, .bool tw, .int .i64 0]), x48, x49, x50, by simp only [Act.put, List.setIfInBounds_toArray, List.set_cons_zero, List.set_cons_succ], ?_⟩
        exact ⟨fun h => hF.out.f0 (by simpa using h), fun h => hF.out.f1 (by simpa using h), fun h => hF.out.f2 (by simpa using h), fun h => hF.out.f3 (by simpa using h), fun h => hF.out.f4 (by simpa using h), fun h => hF.out.f5 (by simpa using h), fun h => hF.out.f6 (by simpa using h), fun _ => rfl, fun h => hF.out.f8 (by simpa using h), fun h => hF.out.f9 (by simpa using h), fun h => hF.out.f10 (by simpa using h), fun h => hF.out.f11 (by simpa using h), fun h => hF.out.f12 (by simpa using h), fun h => hF.out.f13 (by simpa using h), fun _ => by simpa using e7_6, fun _ => by simp, fun h => by have := hF.out.o11_8 (by simpa using h); simpa using this, hF.out.kp, fun h => hF.out.a2 (by simpa using h), fun h => hF.out.a5 (by simpa using h)⟩
      · intro d a W hI hd hdep
        obtain ⟨r1, t1, r2, t2, s1, x8, x12, x13, x40, x41, x42, x43, x44, x45, x46, x47, x48, x49, x50, rfl, hF⟩ := hI
        have hd7 : d 7 = true := dep_of hdep 7 (by kernel_rfl)
        obtain rfl := hF.out.f7 hd7
        have e8_7 := hd7
        clear hdep hd hd7
        intro K hK
        simp only [Act.put, List.setIfInBounds_toArray, List.set_cons_zero, List.set_cons_succ]
        go_simp
        refine hK.out _ _ ⟨r1, t1, r2, t2, s1, x8, x12, x13, (.tuple #[.string s1, .bool tw, .int .i64 0]), x41, x42, x43, x44, x45, x46, x47, (.string s1), x49, x50, by simp only [Act.put, List.setIfInBounds_toArray, List.set_cons_zero, List.set_cons_succ], ?_⟩
        exact ⟨fun h => hF.out.f0 (by simpa using h), fun h => hF.out.f1 (by simpa using h), fun h => hF.out.f2 (by simpa using h), fun h => hF.out.f3 (by simpa using h), fun h => hF.out.f4 (by simpa using h), fun h => hF.out.f5 (by simpa using h), fun h => hF.out.f6 (by simpa using h), fun h => hF.out.f7 (by simpa using h), fun _ => rfl, fun h => hF.out.f9 (by simpa using h), fun h => hF.out.f10 (by simpa using h), fun h => hF.out.f11 (by simpa using h), fun h => hF.out.f12 (by simpa using h), fun h => hF.out.f13 (by simpa using h), fun h => by have := hF.out.o7_6 (by simpa using h); simpa using this, fun _ => by simpa using e8_7, fun _ => by simp, hF.out.kp, fun h => hF.out.a2 (by simpa using h), fun h => hF.out.a5 (by simpa using h)⟩
      · intro d a W hI hd hdep
        obtain ⟨r1, t1, r2, t2, s1, x8, x12, x13, x40, x41, x42, x43, x44, x45, x46, x47, x48, x49, x50, rfl, hF⟩ := hI
        have hd7 : d 7 = true := dep_of hdep 7 (by kernel_rfl)
        obtain rfl := hF.out.f7 hd7
        clear hdep hd hd7
        intro K hK
        simp only [Act.put, List.setIfInBounds_toArray, List.set_cons_zero, List.set_cons_succ]
        go_simp
        refine hK.out _ _ ⟨r1, t1, r2, t2, s1, x8, x12, x13, (.tuple #[.string s1, .bool tw, .int .i64 0]), x41, x42, x43, x44, x45, x46, x47, x48, (.bool tw), x50, by simp only [Act.put, List.setIfInBounds_toArray, List.set_cons_zero, List.set_cons_succ], ?_⟩
        exact ⟨fun h => hF.out.f0 (by simpa using h), fun h => hF.out.f1 (by simpa using h), fun h => hF.out.f2 (by simpa using h), fun h => hF.out.f3 (by simpa using h), fun h => hF.out.f4 (by simpa using h), fun h => hF.out.f5 (by simpa using h), fun h => hF.out.f6 (by simpa using h), fun h => hF.out.f7 (by simpa using h), fun h => hF.out.f8 (by simpa using h), fun _ => rfl, fun h => hF.out.f10 (by simpa using h), fun h => hF.out.f11 (by simpa using h), fun h => hF.out.f12 (by simpa using h), fun h => hF.out.f13 (by simpa using h), fun h => by have := hF.out.o7_6 (by simpa using h); simpa using this, fun h => by have := hF.out.o8_7 (by simpa using h); simpa using this, fun h => by have := hF.out.o11_8 (by simpa using h); simpa using this, hF.out.kp, fun h => hF.out.a2 (by simpa using h), fun h => hF.out.a5 (by simpa using h)⟩
      · intro d a W hI hd hdep
        obtain ⟨r1, t1, r2, t2, s1, x8, x12, x13, x40, x41, x42, x43, x44, x45, x46, x47, x48, x49, x50, rfl, hF⟩ := hI
        have hd7 : d 7 = true := dep_of hdep 7 (by kernel_rfl)
        obtain rfl := hF.out.f7 hd7
        clear hdep hd hd7
        intro K hK
        simp only [Act.put, List.setIfInBounds_toArray, List.set_cons_zero, List.set_cons_succ]
        go_simp
        refine hK.out _ _ ⟨r1, t1, r2, t2, s1, x8, x12, x13, (.tuple #[.string s1, .bool tw, .int .i64 0]), x41, x42, x43, x44, x45, x46, x47, x48, x49, (.int .i64 0), by simp only [Act.put, List.setIfInBounds_toArray, List.set_cons_zero, List.set_cons_succ], ?_⟩
        exact ⟨fun h => hF.out.f0 (by simpa using h), fun h => hF.out.f1 (by simpa using h), fun h => hF.out.f2 (by simpa using h), fun h => hF.out.f3 (by simpa using h), fun h => hF.out.f4 (by simpa using h), fun h => hF.out.f5 (by simpa using h), fun h => hF.out.f6 (by simpa using h), fun h => hF.out.f7 (by simpa using h), fun h => hF.out.f8 (by simpa using h), fun h => hF.out.f9 (by simpa using h), fun _ => rfl, fun h => hF.out.f11 (by simpa using h), fun h => hF.out.f12 (by simpa using h), fun h => hF.out.f13 (by simpa using h), fun h => by have := hF.out.o7_6 (by simpa using h); simpa using this, fun h => by have := hF.out.o8_7 (by simpa using h); simpa using this, fun h => by have := hF.out.o11_8 (by simpa using h); simpa using this, hF.out.kp, fun h => hF.out.a2 (by simpa using h), fun h => hF.out.a5 (by simpa using h)⟩
      · intro d a W hI hd hdep
        obtain ⟨r1, t1, r2, t2, s1, x8, x12, x13, x40, x41, x42, x43, x44, x45, x46, x47, x48, x49, x50, rfl, hF⟩ := hI
        have hd8 : d 8 = true := dep_of hdep 8 (by kernel_rfl)
        obtain rfl := hF.out.f8 hd8
        have e11_8 := hd8
        clear hdep hd hd8
        intro K hK
        simp only [Act.put, List.setIfInBounds_toArray, List.set_cons_zero, List.set_cons_succ]
        go_simp
        refine hK.out _ _ ⟨r1, t1, r2, t2, s1, x8, (.string s1), x13, x40, x41, x42, x43, x44, x45, x46, x47, (.string s1), x49, x50, by simp only [Act.put, List.setIfInBounds_toArray, List.set_cons_zero, List.set_cons_succ], ?_⟩
        exact ⟨fun h => hF.out.f0 (by simpa using h), fun h => hF.out.f1 (by simpa using h), fun h => hF.out.f2 (by simpa using h), fun h => hF.out.f3 (by simpa using h), fun h => hF.out.f4 (by simpa using h), fun h => hF.out.f5 (by simpa using h), fun h => hF.out.f6 (by simpa using h), fun h => hF.out.f7 (by simpa using h), fun h => hF.out.f8 (by simpa using h), fun h => hF.out.f9 (by simpa using h), fun h => hF.out.f10 (by simpa using h), fun _ => rfl, fun h => hF.out.f12 (by simpa using h), fun h => hF.out.f13 (by simpa using h), fun h => by have := hF.out.o7_6 (by simpa using h); simpa using this, fun h => by have := hF.out.o8_7 (by simpa using h); simpa using this, fun _ => by simpa using e11_8, hF.out.kp, fun h => hF.out.a2 (by simpa using h), fun h => hF.out.a5 (by simpa using h)⟩
      · intro d a W hI hd hdep
        obtain ⟨r1, t1, r2, t2, s1, x8, x12, x13, x40, x41, x42, x43, x44, x45, x46, x47, x48, x49, x50, rfl, hF⟩ := hI
        have hd9 : d 9 = true := dep_of hdep 9 (by kernel_rfl)
        obtain rfl := hF.out.f9 hd9
        clear hdep hd hd9
        intro K hK
        simp only [Act.put, List.setIfInBounds_toArray, List.set_cons_zero, List.set_cons_succ]
        go_simp
        refine hK.out _ _ ⟨r1, t1, r2, t2, s1, x8, x12, (.bool tw), x40, x41, x42, x43, x44, x45, x46, x47, x48, (.bool tw), x50, by simp only [Act.put, List.setIfInBounds_toArray, List.set_cons_zero, List.set_cons_succ], ?_⟩
        exact ⟨fun h => hF.out.f0 (by simpa using h), fun h => hF.out.f1 (by simpa using h), fun h => hF.out.f2 (by simpa using h), fun h => hF.out.f3 (by simpa using h), fun h => hF.out.f4 (by simpa using h), fun h => hF.out.f5 (by simpa using h), fun h => hF.out.f6 (by simpa using h), fun h => hF.out.f7 (by simpa using h), fun h => hF.out.f8 (by simpa using h), fun h => hF.out.f9 (by simpa using h), fun h => hF.out.f10 (by simpa using h), fun h => hF.out.f11 (by simpa using h), fun _ => rfl, fun h => hF.out.f13 (by simpa using h), fun h => by have := hF.out.o7_6 (by simpa using h); simpa using this, fun h => by have := hF.out.o8_7 (by simpa using h); simpa using this, fun h => by have := hF.out.o11_8 (by simpa using h); simpa using this, hF.out.kp, fun h => hF.out.a2 (by simpa using h), fun h => hF.out.a5 (by simpa using h)⟩
      · intro d a W hI hd hdep
        obtain ⟨r1, t1, r2, t2, s1, x8, x12, x13, x40, x41, x42, x43, x44, x45, x46, x47, x48, x49, x50, rfl, hF⟩ := hI
        have hd10 : d 10 = true := dep_of hdep 10 (by kernel_rfl)
        obtain rfl := hF.out.f10 hd10
        clear hdep hd hd10
        intro K hK
        simp only [Act.put, List.setIfInBounds_toArray, List.set_cons_zero, List.set_cons_succ]
        go_simp
        refine hK.out _ _ ⟨r1, t1, r2, t2, s1, (.int .i64 0), x12, x13, x40, x41, x42, x43, x44, x45, x46, x47, x48, x49, (.int .i64 0), by simp only [Act.put, List.setIfInBounds_toArray, List.set_cons_zero, List.set_cons_succ], ?_⟩
        exact ⟨fun h => hF.out.f0 (by simpa using h), fun h => hF.out.f1 (by simpa using h), fun h => hF.out.f2 (by simpa using h), fun h => hF.out.f3 (by simpa using h), fun h => hF.out.f4 (by simpa using h), fun h => hF.out.f5 (by simpa using h), fun h => hF.out.f6 (by simpa using h), fun h => hF.out.f7 (by simpa using h), fun h => hF.out.f8 (by simpa using h), fun h => hF.out.f9 (by simpa using h), fun h => hF.out.f10 (by simpa using h), fun h => hF.out.f11 (by simpa using h), fun h => hF.out.f12 (by simpa using h), fun _ => rfl, fun h => by have := hF.out.o7_6 (by simpa using h); simpa using this, fun h => by have := hF.out.o8_7 (by simpa using h); simpa using this, fun h => by have := hF.out.o11_8 (by simpa using h); simpa using this, hF.out.kp, fun h => hF.out.a2 (by simpa using h), fun h => hF.out.a5 (by simpa using h)⟩
    · intro d a W hI hall
      obtain ⟨r1, t1, r2, t2, s1, x8, x12, x13, x40, x41, x42, x43, x44, x45, x46, x47, x48, x49, x50, rfl, hF⟩ := hI
      simp only [List.length_cons, List.length_nil] at hall
      obtain rfl := hF.out.f0 (hall 0 (by omega))
      obtain rfl := hF.out.f1 (hall 1 (by omega))
      obtain rfl := hF.out.f2 (hall 2 (by omega))
      obtain rfl := hF.out.f3 (hall 3 (by omega))
      obtain rfl := hF.out.f4 (hall 4 (by omega))
      obtain rfl := hF.out.f5 (hall 5 (by omega))
      obtain rfl := hF.out.f6 (hall 6 (by omega))
      obtain rfl := hF.out.f7 (hall 7 (by omega))
      obtain rfl := hF.out.f8 (hall 8 (by omega))
      obtain rfl := hF.out.f9 (hall 9 (by omega))
      obtain rfl := hF.out.f10 (hall 10 (by omega))
      obtain rfl := hF.out.f11 (hall 11 (by omega))
      obtain rfl := hF.out.f12 (hall 12 (by omega))
      obtain rfl := hF.out.f13 (hall 13 (by omega))
      have HK8 : Hid (Below w.heap.size w W ∧ Bb gA (.slice ra2 N rc2) (.slice ta2 N tc2) W ∧ Rw W (.slice ra2 N rc2) N F ∧ Ts W (.slice ta2 N tc2) N U) := hF.out.kp
      clear hF hall
      simp only [Act.put, List.setIfInBounds_toArray, List.set_cons_zero, List.set_cons_succ]
      obtain ⟨X8, rfl⟩ : ∃ X8, X8 = W := ⟨_, rfl⟩
      go_wp2_with fail
      refine wp_buildSlice 22 42 1 _ rfl l0.toArray i42 _ Try.underlying22 H42.out.1 H42.out.2.1 (by rw [H42.out.2.2]; omega) (by rw [H42.out.2.2]; omega) ?hf ?_
      case hf =>
        rw [H42.out.2.2]
        simp only [List.map_toArray, List.map_cons, List.map_nil]
        exact fill_row l0 HLL.out _ (by simp)
      simp only [Act.put, List.setIfInBounds_toArray, List.set_cons_zero, List.set_cons_succ]
      go_wp2_with fail
      obtain ⟨gz, HGZ⟩ : ∃ q, Hid (X8.heap.size = q) := ⟨_, (rfl : _ = _)⟩
      rw [HGZ.out]
      obtain ⟨X9, HX9⟩ : ∃ q, Hid (((X8.alloc (Obj.cells l0.toArray 42)).alloc (Obj.cells #[Value.int IntKind.i64 (-1)] 3)).alloc (Obj.cells #[(.slice (some ⟨gz, 0, none⟩) 1 1), (.slice (some ⟨gz + 1, 0, none⟩) 1 1)] 25) = q) := ⟨_, (rfl : _ = _)⟩
      have HK9 : Hid (Below w.heap.size w X9 ∧ Bb gA (.slice ra2 N rc2) (.slice ta2 N tc2) X9 ∧ Rw X9 (.slice ra2 N rc2) N F ∧ Ts X9 (.slice ta2 N tc2) N U ∧ Bb (gz + 1 + 1) (.slice (some ⟨gz, 0, none⟩) 1 1) (.slice (some ⟨gz + 1, 0, none⟩) 1 1) X9 ∧ Rw X9 (.slice (some ⟨gz, 0, none⟩) 1 1) 1 (fun _ _ => 0) ∧ Ts X9 (.slice (some ⟨gz + 1, 0, none⟩) 1 1) 1 (fun _ => -1)) := by
        have hb1 : Below X8.heap.size X8 X9 := by rw [← HX9.out]; exact (((Below.refl _ _).alloc (Nat.le_refl _) _).alloc (by simp) _).alloc (by first | (simp; done) | (simp; omega)) _
        refine ⟨HK8.out.1.trans (hb1.mono HK8.out.1.size), HK8.out.2.1.next hb1, HK8.out.2.2.1.below hb1 (Nat.le_refl _), HK8.out.2.2.2.below hb1 (Nat.le_refl _), ?_, ?_, ?_⟩
        · rw [← HX9.out, ← HGZ.out]
          have := Bb.box ((X8.alloc (Obj.cells l0.toArray 42)).alloc (Obj.cells #[Value.int IntKind.i64 (-1)] 3)) (.slice (some ⟨X8.heap.size, 0, none⟩) 1 1) (.slice (some ⟨X8.heap.size + 1, 0, none⟩) 1 1) 25
          rwa [World.size_alloc, World.size_alloc] at this
        · rw [← HX9.out, ← HGZ.out]
          exact (HRL.out X8).below (((Below.refl _ _).alloc (Nat.le_refl _) _).alloc (by simp) _) (Nat.le_refl _)
        · rw [← HX9.out, ← HGZ.out]
          have := (ts_dead (X8.alloc (Obj.cells l0.toArray 42))).below ((Below.refl _ _).alloc (Nat.le_refl _) (Obj.cells #[(.slice (some ⟨X8.heap.size, 0, none⟩) 1 1), (.slice (some ⟨X8.heap.size + 1, 0, none⟩) 1 1)] 25)) (Nat.le_refl _)
          rwa [World.size_alloc] at this
      rw [HX9.out]
      clear HX9 HGZ HK8
      refine wp_region_free mixed (fun a0 d a W => ∃ (r3 : Value) (t3 : Value) (s2 : ByteArray) (lv : Bool) (x15 x16 x17 x55 x56 x57 x58 x59 x60 x61 x62 x63 : Value), a = ((((((((((((a0.put (some 15) x15).put (some 16) x16).put (some 17) x17).put (some 55) x55).put (some 56) x56).put (some 57) x57).put (some 58) x58).put (some 59) x59).put (some 60) x60).put (some 61) x61).put (some 62) x62).put (some 63) x63) ∧ Hid (RL10 w N F U ra2 rc2 ta2 tc2 gA ia gz r3 t3 s2 lv d x15 x16 x17 x55 x56 x57 x58 x59 x60 x61 x62 x63 W)) (by kernel_rfl) ⟨undef, undef, ⟨#[]⟩, true, undef, undef, undef, undef, undef, undef, undef, undef, undef, undef, undef, undef, by simp only [Act.put, List.setIfInBounds_toArray, List.set_cons_zero, List.set_cons_succ], ?_⟩ ?_ ?_
      · exact ⟨fun h => no_way h, fun h => no_way h, fun h => no_way h, fun h => no_way h, fun h => no_way h, fun h => no_way h, fun h => no_way h, fun h => no_way h, fun h => no_way h, fun h => no_way h, fun h => no_way h, fun h => no_way h, fun h => no_way h, fun h => no_way h, fun h => no_way h, fun h => no_way h, fun h => no_way h, ⟨HK9.out.1.drew, ⟨HK9.out.2.1.c0, HK9.out.2.1.c1, HK9.out.2.1.lt⟩, HK9.out.2.2.1.below (Sm.below (Sm.drew _) _) (Nat.le_refl _), HK9.out.2.2.2.1.below (Sm.below (Sm.drew _) _) (Nat.le_refl _), ⟨HK9.out.2.2.2.2.1.c0, HK9.out.2.2.2.2.1.c1, HK9.out.2.2.2.2.1.lt⟩, HK9.out.2.2.2.2.2.1.below (Sm.below (Sm.drew _) _) (Nat.le_refl _), HK9.out.2.2.2.2.2.2.below (Sm.below (Sm.drew _) _) (Nat.le_refl _)⟩, fun h => no_way h, fun h => no_way h⟩
      · simp only [StepAll, and_true]
        refine ⟨?_, ?_, ?_, ?_, ?_, ?_, ?_, ?_, ?_, ?_, ?_, ?_⟩
        · intro d a W hI hd hdep
          obtain ⟨r3, t3, s2, lv, x15, x16, x17, x55, x56, x57, x58, x59, x60, x61, x62, x63, rfl, hF⟩ := hI
          have ya := hF.out.kp.2.1.c0
          have yb := hF.out.kp.2.1.c1
          clear hdep hd
          intro K hK
          simp only [Act.put, List.setIfInBounds_toArray, List.set_cons_zero, List.set_cons_succ]
          go_simp
          refine hK.out _ _ ⟨r3, t3, s2, lv, x15, x16, x17, x55, (.agg #[.slice ra2 N rc2, .slice ta2 N tc2]), x57, x58, x59, x60, x61, x62, x63, by simp only [Act.put, List.setIfInBounds_toArray, List.set_cons_zero, List.set_cons_succ], ?_⟩
          exact ⟨fun _ => rfl, fun h => hF.out.f1 (by simpa using h), fun h => hF.out.f2 (by simpa using h), fun h => hF.out.f3 (by simpa using h), fun h => hF.out.f4 (by simpa using h), fun h => hF.out.f5 (by simpa using h), fun h => hF.out.f6 (by simpa using h), fun h => hF.out.f7 (by simpa using h), fun h => hF.out.f8 (by simpa using h), fun h => hF.out.f9 (by simpa using h), fun h => hF.out.f10 (by simpa using h), fun h => hF.out.f11 (by simpa using h), fun h => by have := hF.out.o5_4 (by simpa using h); simpa using this, fun h => by have := hF.out.o6_5 (by simpa using h); simpa using this, fun h => by have := hF.out.o7_5 (by simpa using h); simpa using this, fun h => by have := hF.out.o9_6 (by simpa using h); simpa using this, fun h => by have := hF.out.o10_7 (by simpa using h); simpa using this, hF.out.kp, fun h => hF.out.a2 (by simpa using h), fun h => hF.out.lv (by simpa using h)⟩
        · intro d a W hI hd hdep
          obtain ⟨r3, t3, s2, lv, x15, x16, x17, x55, x56, x57, x58, x59, x60, x61, x62, x63, rfl, hF⟩ := hI
          clear hdep hd
          intro K hK
          simp only [Act.put, List.setIfInBounds_toArray, List.set_cons_zero, List.set_cons_succ]
          go_simp
          refine hK.out _ _ ⟨r3, t3, s2, lv, x15, x16, x17, x55, x56, (.int .i64 (ia : Int)), x58, x59, x60, x61, x62, x63, by simp only [Act.put, List.setIfInBounds_toArray, List.set_cons_zero, List.set_cons_succ], ?_⟩
          exact ⟨fun h => hF.out.f0 (by simpa using h), fun _ => rfl, fun h => hF.out.f2 (by simpa using h), fun h => hF.out.f3 (by simpa using h), fun h => hF.out.f4 (by simpa using h), fun h => hF.out.f5 (by simpa using h), fun h => hF.out.f6 (by simpa using h), fun h => hF.out.f7 (by simpa using h), fun h => hF.out.f8 (by simpa using h), fun h => hF.out.f9 (by simpa using h), fun h => hF.out.f10 (by simpa using h), fun h => hF.out.f11 (by simpa using h), fun h => by have := hF.out.o5_4 (by simpa using h); simpa using this, fun h => by have := hF.out.o6_5 (by simpa using h); simpa using this, fun h => by have := hF.out.o7_5 (by simpa using h); simpa using this, fun h => by have := hF.out.o9_6 (by simpa using h); simpa using this, fun h => by have := hF.out.o10_7 (by simpa using h); simpa using this, hF.out.kp, fun h => hF.out.a2 (by simpa using h), fun h => hF.out.lv (by simpa using h)⟩
        · intro d a W hI hd hdep
          obtain ⟨r3, t3, s2, lv, x15, x16, x17, x55, x56, x57, x58, x59, x60, x61, x62, x63, rfl, hF⟩ := hI
          have hd0 : d 0 = true := dep_of hdep 0 (by kernel_rfl)
          have hd1 : d 1 = true := dep_of hdep 1 (by kernel_rfl)
          obtain rfl := hF.out.f0 hd0
          obtain rfl := hF.out.f1 hd1
          have hcl := from_any (.slice ra2 N rc2) (.slice ta2 N tc2) N F U ia W hF.out.kp.2.2.1 hF.out.kp.2.2.2.1 HNN.out.1 HNN.out.2 HA.out
          clear hdep hd hd0 hd1
          intro K hK
          simp only [Act.put, List.setIfInBounds_toArray, List.set_cons_zero, List.set_cons_succ]
          go_simp
          refine hcl.mono ?_
          rintro _ W1 ⟨q1, q2, rfl, hq1, hq2, hb1⟩
          have HOW : Hid (Rw W1 q1 N (frR N ia F) ∧ Ts W1 q2 N (frT ia U)) := ⟨hq1, hq2⟩
          clear hq1 hq2 hcl
          go_simp
          refine hK.out _ _ ⟨q1, q2, s2, lv, x15, x16, x17, x55, (.agg #[.slice ra2 N rc2, .slice ta2 N tc2]), (.int .i64 (ia : Int)), (.agg #[q1, q2]), x59, x60, x61, x62, x63, by simp only [Act.put, List.setIfInBounds_toArray, List.set_cons_zero, List.set_cons_succ], ?_⟩
          exact ⟨fun h => hF.out.f0 (by simpa using h), fun h => hF.out.f1 (by simpa using h), fun _ => rfl, fun h => hF.out.f3 (by simpa using h), fun h => hF.out.f4 (by simpa using h), fun h => hF.out.f5 (by simpa using h), fun h => hF.out.f6 (by simpa using h), fun h => hF.out.f7 (by simpa using h), fun h => hF.out.f8 (by simpa using h), fun h => hF.out.f9 (by simpa using h), fun h => hF.out.f10 (by simpa using h), fun h => hF.out.f11 (by simpa using h), fun h => by have := hF.out.o5_4 (by simpa using h); simpa using this, fun h => by have := hF.out.o6_5 (by simpa using h); simpa using this, fun h => by have := hF.out.o7_5 (by simpa using h); simpa using this, fun h => by have := hF.out.o9_6 (by simpa using h); simpa using this, fun h => by have := hF.out.o10_7 (by simpa using h); simpa using this, ⟨hF.out.kp.1.trans (hb1.mono hF.out.kp.1.size), hF.out.kp.2.1.next hb1, hF.out.kp.2.2.1.below hb1 (Nat.le_refl _), hF.out.kp.2.2.2.1.below hb1 (Nat.le_refl _), hF.out.kp.2.2.2.2.1.next hb1, hF.out.kp.2.2.2.2.2.1.below hb1 (Nat.le_refl _), hF.out.kp.2.2.2.2.2.2.below hb1 (Nat.le_refl _)⟩, fun _ => HOW.out, fun h => hF.out.lv (by simpa using h)⟩
        · intro d a W hI hd hdep
          obtain ⟨r3, t3, s2, lv, x15, x16, x17, x55, x56, x57, x58, x59, x60, x61, x62, x63, rfl, hF⟩ := hI
          have ya := hF.out.kp.2.2.2.2.1.c0
          have yb := hF.out.kp.2.2.2.2.1.c1
          clear hdep hd
          intro K hK
          simp only [Act.put, List.setIfInBounds_toArray, List.set_cons_zero, List.set_cons_succ]
          go_simp
          refine hK.out _ _ ⟨r3, t3, s2, lv, x15, x16, x17, x55, x56, x57, x58, (.agg #[(.slice (some ⟨gz, 0, none⟩) 1 1), (.slice (some ⟨gz + 1, 0, none⟩) 1 1)]), x60, x61, x62, x63, by simp only [Act.put, List.setIfInBounds_toArray, List.set_cons_zero, List.set_cons_succ], ?_⟩
          exact ⟨fun h => hF.out.f0 (by simpa using h), fun h => hF.out.f1 (by simpa using h), fun h => hF.out.f2 (by simpa using h), fun _ => rfl, fun h => hF.out.f4 (by simpa using h), fun h => hF.out.f5 (by simpa using h), fun h => hF.out.f6 (by simpa using h), fun h => hF.out.f7 (by simpa using h), fun h => hF.out.f8 (by simpa using h), fun h => hF.out.f9 (by simpa using h), fun h => hF.out.f10 (by simpa using h), fun h => hF.out.f11 (by simpa using h), fun h => by have := hF.out.o5_4 (by simpa using h); simpa using this, fun h => by have := hF.out.o6_5 (by simpa using h); simpa using this, fun h => by have := hF.out.o7_5 (by simpa using h); simpa using this, fun h => by have := hF.out.o9_6 (by simpa using h); simpa using this, fun h => by have := hF.out.o10_7 (by simpa using h); simpa using this, hF.out.kp, fun h => hF.out.a2 (by simpa using h), fun h => hF.out.lv (by simpa using h)⟩
        · intro d a W hI hd hdep
          obtain ⟨r3, t3, s2, lv, x15, x16, x17, x55, x56, x57, x58, x59, x60, x61, x62, x63, rfl, hF⟩ := hI
          have hd2 : d 2 = true := dep_of hdep 2 (by kernel_rfl)
          have hd3 : d 3 = true := dep_of hdep 3 (by kernel_rfl)
          obtain rfl := hF.out.f2 hd2
          obtain rfl := hF.out.f3 hd3
          have k2 := hF.out.a2 hd2
          have hcl := apart_any r3 t3 (.slice (some ⟨gz, 0, none⟩) 1 1) (.slice (some ⟨gz + 1, 0, none⟩) 1 1) N N 1 1 (frR N ia F) (fun _ _ => 0) (frT ia U) (fun _ => -1) W k2.1 k2.2 hF.out.kp.2.2.2.2.2.1 hF.out.kp.2.2.2.2.2.2
          rw [frChk HCN.out HA.out, chk_dead, show both 0 0 = 0 from rfl] at hcl
          clear k2
          have HN5 : Hid (d 5 = false) := no_later hF.out.o5_4 hd
          have HN6 : Hid (d 6 = false) := no_later hF.out.o6_5 HN5.out
          have HN7 : Hid (d 7 = false) := no_later hF.out.o7_5 HN5.out
          have HN9 : Hid (d 9 = false) := no_later hF.out.o9_6 HN6.out
          have HN10 : Hid (d 10 = false) := no_later hF.out.o10_7 HN7.out
          clear hdep hd hd2 hd3
          intro K hK
          simp only [Act.put, List.setIfInBounds_toArray, List.set_cons_zero, List.set_cons_succ]
          go_simp
          refine hcl.mono ?_
          rintro _ W1 ⟨s0, is, rfl, ht, -, -, hb1⟩
          have HIE : Hid (is = false → ia = 0) := least_live HRO.out HMI.out HCN.out HA.out (ht rfl rfl)
          clear ht hcl
          go_simp
          refine hK.out _ _ ⟨r3, t3, s0, is, x15, x16, x17, x55, x56, x57, (.agg #[r3, t3]), (.agg #[(.slice (some ⟨gz, 0, none⟩) 1 1), (.slice (some ⟨gz + 1, 0, none⟩) 1 1)]), (.tuple #[.string s0, .bool is, .int .i64 0]), x61, x62, x63, by simp only [Act.put, List.setIfInBounds_toArray, List.set_cons_zero, List.set_cons_succ], ?_⟩
          exact ⟨fun h => hF.out.f0 (by simpa using h), fun h => hF.out.f1 (by simpa using h), fun h => hF.out.f2 (by simpa using h), fun h => hF.out.f3 (by simpa using h), fun _ => rfl, fun h => by have := HN5.out; simp [this] at h, fun h => by have := HN6.out; simp [this] at h, fun h => by have := HN7.out; simp [this] at h, fun h => hF.out.f8 (by simpa using h), fun h => by have := HN9.out; simp [this] at h, fun h => by have := HN10.out; simp [this] at h, fun h => hF.out.f11 (by simpa using h), fun _ => by simp, fun h => by have := hF.out.o6_5 (by simpa using h); simpa using this, fun h => by have := hF.out.o7_5 (by simpa using h); simpa using this, fun h => by have := hF.out.o9_6 (by simpa using h); simpa using this, fun h => by have := hF.out.o10_7 (by simpa using h); simpa using this, ⟨hF.out.kp.1.trans (hb1.mono hF.out.kp.1.size), hF.out.kp.2.1.next hb1, hF.out.kp.2.2.1.below hb1 (Nat.le_refl _), hF.out.kp.2.2.2.1.below hb1 (Nat.le_refl _), hF.out.kp.2.2.2.2.1.next hb1, hF.out.kp.2.2.2.2.2.1.below hb1 (Nat.le_refl _), hF.out.kp.2.2.2.2.2.2.below hb1 (Nat.le_refl _)⟩, fun h => have q := hF.out.a2 (by simpa using h); ⟨q.1.below hb1 (Nat.le_refl _), q.2.below hb1 (Nat.le_refl _)⟩, fun _ => HIE.out⟩
        · intro d a W hI hd hdep
          obtain ⟨r3, t3, s2, lv, x15, x16, x17, x55, x56, x57, x58, x59, x60, x61, x62, x63, rfl, hF⟩ := hI
          have hd4 : d 4 = true := dep_of hdep 4 (by kernel_rfl)
          obtain rfl := hF.out.f4 hd4
          have e5_4 := hd4
          clear hdep hd hd4
          intro K hK
          simp only [Act.put, List.setIfInBounds_toArray, List.set_cons_zero, List.set_cons_succ]
          go_simp
          refine hK.out _ _ ⟨r3, t3, s2, lv, x15, x16, x17, (.tuple #[.string s2, .bool lv, .int .i64 0]), x56, x57, x58, x59, (.tuple #[.string s2, .bool lv, .int .i64 0]), x61, x62, x63, by simp only [Act.put, List.setIfInBounds_toArray, List.set_cons_zero, List.set_cons_succ], ?_⟩
          exact ⟨fun h => hF.out.f0 (by simpa using h), fun h => hF.out.f1 (by simpa using h), fun h => hF.out.f2 (by simpa using h), fun h => hF.out.f3 (by simpa using h), fun h => hF.out.f4 (by simpa using h), fun _ => rfl, fun h => hF.out.f6 (by simpa using h), fun h => hF.out.f7 (by simpa using h), fun h => hF.out.f8 (by simpa using h), fun h => hF.out.f9 (by simpa using h), fun h => hF.out.f10 (by simpa using h), fun h => hF.out.f11 (by simpa using h), fun _ => by simpa using e5_4, fun _ => by simp, fun _ => by simp, fun h => by have := hF.out.o9_6 (by simpa using h); simpa using this, fun h => by have := hF.out.o10_7 (by simpa using h); simpa using this, hF.out.kp, fun h => hF.out.a2 (by simpa using h), fun h => hF.out.lv (by simpa using h)⟩
        · intro d a W hI hd hdep
          obtain ⟨r3, t3, s2, lv, x15, x16, x17, x55, x56, x57, x58, x59, x60, x61, x62, x63, rfl, hF⟩ := hI
          have hd5 : d 5 = true := dep_of hdep 5 (by kernel_rfl)
          obtain rfl := hF.out.f5 hd5
          have e6_5 := hd5
          clear hdep hd hd5
          intro K hK
          simp only [Act.put, List.setIfInBounds_toArray, List.set_cons_zero, List.set_cons_succ]
          go_simp
          refine hK.out _ _ ⟨r3, t3, s2, lv, x15, x16, x17, (.tuple #[.string s2, .bool lv, .int .i64 0]), x56, x57, x58, x59, x60, (.string s2), x62, x63, by simp only [Act.put, List.setIfInBounds_toArray, List.set_cons_zero, List.set_cons_succ], ?_⟩
          exact ⟨fun h => hF.out.f0 (by simpa using h), fun h => hF.out.f1 (by simpa using h), fun h => hF.out.f2 (by simpa using h), fun h => hF.out.f3 (by simpa using h), fun h => hF.out.f4 (by simpa using h), fun h => hF.out.f5 (by simpa using h), fun _ => rfl, fun h => hF.out.f7 (by simpa using h), fun h => hF.out.f8 (by simpa using h), fun h => hF.out.f9 (by simpa using h), fun h => hF.out.f10 (by simpa using h), fun h => hF.out.f11 (by simpa using h), fun h => by have := hF.out.o5_4 (by simpa using h); simpa using this, fun _ => by simpa using e6_5, fun h => by have := hF.out.o7_5 (by simpa using h); simpa using this, fun _ => by simp, fun h => by have := hF.out.o10_7 (by simpa using h); simpa using this, hF.out.kp, fun h => hF.out.a2 (by simpa using h), fun h => hF.out.lv (by simpa using h)⟩
        · intro d a W hI hd hdep
          obtain ⟨r3, t3, s2, lv, x15, x16, x17, x55, x56, x57, x58, x59, x60, x61, x62, x63, rfl, hF⟩ := hI
          have hd5 : d 5 = true := dep_of hdep 5 (by kernel_rfl)
          obtain rfl := hF.out.f5 hd5
          have e7_5 := hd5
          clear hdep hd hd5
          intro K hK
          simp only [Act.put, List.setIfInBounds_toArray, List.set_cons_zero, List.set_cons_succ]
          go_simp
          refine hK.out _ _ ⟨r3, t3, s2, lv, x15, x16, x17, (.tuple #[.string s2, .bool lv, .int .i64 0]), x56, x57, x58, x59, x60, x61, (.bool lv), x63, by simp only [Act.put, List.setIfInBounds_toArray, List.set_cons_zero, List.set_cons_succ], ?_⟩
          exact ⟨fun h => hF.out.f0 (by simpa using h), fun h => hF.out.f1 (by simpa using h), fun h => hF.out.f2 (by simpa using h), fun h => hF.out.f3 (by simpa using h), fun h => hF.out.f4 (by simpa using h), fun h => hF.out.f5 (by simpa using h), fun h => hF.out.f6 (by simpa using h), fun _ => rfl, fun h => hF.out.f8 (by simpa using h), fun h => hF.out.f9 (by simpa using h), fun h => hF.out.f10 (by simpa using h), fun h => hF.out.f11 (by simpa using h), fun h => by have := hF.out.o5_4 (by simpa using h); simpa using this, fun h => by have := hF.out.o6_5 (by simpa using h); simpa using this, fun _ => by simpa using e7_5, fun h => by have := hF.out.o9_6 (by simpa using h); simpa using this, fun _ => by simp, hF.out.kp, fun h => hF.out.a2 (by simpa using h), fun h => hF.out.lv (by simpa using h)⟩
        · intro d a W hI hd hdep
          obtain ⟨r3, t3, s2, lv, x15, x16, x17, x55, x56, x57, x58, x59, x60, x61, x62, x63, rfl, hF⟩ := hI
          have hd5 : d 5 = true := dep_of hdep 5 (by kernel_rfl)
          obtain rfl := hF.out.f5 hd5
          clear hdep hd hd5
          intro K hK
          simp only [Act.put, List.setIfInBounds_toArray, List.set_cons_zero, List.set_cons_succ]
          go_simp
          refine hK.out _ _ ⟨r3, t3, s2, lv, x15, x16, x17, (.tuple #[.string s2, .bool lv, .int .i64 0]), x56, x57, x58, x59, x60, x61, x62, (.int .i64 0), by simp only [Act.put, List.setIfInBounds_toArray, List.set_cons_zero, List.set_cons_succ], ?_⟩
          exact ⟨fun h => hF.out.f0 (by simpa using h), fun h => hF.out.f1 (by simpa using h), fun h => hF.out.f2 (by simpa using h), fun h => hF.out.f3 (by simpa using h), fun h => hF.out.f4 (by simpa using h), fun h => hF.out.f5 (by simpa using h), fun h => hF.out.f6 (by simpa using h), fun h => hF.out.f7 (by simpa using h), fun _ => rfl, fun h => hF.out.f9 (by simpa using h), fun h => hF.out.f10 (by simpa using h), fun h => hF.out.f11 (by simpa using h), fun h => by have := hF.out.o5_4 (by simpa using h); simpa using this, fun h => by have := hF.out.o6_5 (by simpa using h); simpa using this, fun h => by have := hF.out.o7_5 (by simpa using h); simpa using this, fun h => by have := hF.out.o9_6 (by simpa using h); simpa using this, fun h => by have := hF.out.o10_7 (by simpa using h); simpa using this, hF.out.kp, fun h => hF.out.a2 (by simpa using h), fun h => hF.out.lv (by simpa using h)⟩
        · intro d a W hI hd hdep
          obtain ⟨r3, t3, s2, lv, x15, x16, x17, x55, x56, x57, x58, x59, x60, x61, x62, x63, rfl, hF⟩ := hI
          have hd6 : d 6 = true := dep_of hdep 6 (by kernel_rfl)
          obtain rfl := hF.out.f6 hd6
          have e9_6 := hd6
          clear hdep hd hd6
          intro K hK
          simp only [Act.put, List.setIfInBounds_toArray, List.set_cons_zero, List.set_cons_succ]
          go_simp
          refine hK.out _ _ ⟨r3, t3, s2, lv, (.string s2), x16, x17, x55, x56, x57, x58, x59, x60, (.string s2), x62, x63, by simp only [Act.put, List.setIfInBounds_toArray, List.set_cons_zero, List.set_cons_succ], ?_⟩
          exact ⟨fun h => hF.out.f0 (by simpa using h), fun h => hF.out.f1 (by simpa using h), fun h => hF.out.f2 (by simpa using h), fun h => hF.out.f3 (by simpa using h), fun h => hF.out.f4 (by simpa using h), fun h => hF.out.f5 (by simpa using h), fun h => hF.out.f6 (by simpa using h), fun h => hF.out.f7 (by simpa using h), fun h => hF.out.f8 (by simpa using h), fun _ => rfl, fun h => hF.out.f10 (by simpa using h), fun h => hF.out.f11 (by simpa using h), fun h => by have := hF.out.o5_4 (by simpa using h); simpa using this, fun h => by have := hF.out.o6_5 (by simpa using h); simpa using this, fun h => by have := hF.out.o7_5 (by simpa using h); simpa using this, fun _ => by simpa using e9_6, fun h => by have := hF.out.o10_7 (by simpa using h); simpa using this, hF.out.kp, fun h => hF.out.a2 (by simpa using h), fun h => hF.out.lv (by simpa using h)⟩
        · intro d a W hI hd hdep
          obtain ⟨r3, t3, s2, lv, x15, x16, x17, x55, x56, x57, x58, x59, x60, x61, x62, x63, rfl, hF⟩ := hI
          have hd7 : d 7 = true := dep_of hdep 7 (by kernel_rfl)
          obtain rfl := hF.out.f7 hd7
          have e10_7 := hd7
          clear hdep hd hd7
          intro K hK
          simp only [Act.put, List.setIfInBounds_toArray, List.set_cons_zero, List.set_cons_succ]
          go_simp
          refine hK.out _ _ ⟨r3, t3, s2, lv, x15, (.bool lv), x17, x55, x56, x57, x58, x59, x60, x61, (.bool lv), x63, by simp only [Act.put, List.setIfInBounds_toArray, List.set_cons_zero, List.set_cons_succ], ?_⟩
          exact ⟨fun h => hF.out.f0 (by simpa using h), fun h => hF.out.f1 (by simpa using h), fun h => hF.out.f2 (by simpa using h), fun h => hF.out.f3 (by simpa using h), fun h => hF.out.f4 (by simpa using h), fun h => hF.out.f5 (by simpa using h), fun h => hF.out.f6 (by simpa using h), fun h => hF.out.f7 (by simpa using h), fun h => hF.out.f8 (by simpa using h), fun h => hF.out.f9 (by simpa using h), fun _ => rfl, fun h => hF.out.f11 (by simpa using h), fun h => by have := hF.out.o5_4 (by simpa using h); simpa using this, fun h => by have := hF.out.o6_5 (by simpa using h); simpa using this, fun h => by have := hF.out.o7_5 (by simpa using h); simpa using this, fun h => by have := hF.out.o9_6 (by simpa using h); simpa using this, fun _ => by simpa using e10_7, hF.out.kp, fun h => hF.out.a2 (by simpa using h), fun h => hF.out.lv (by simpa using h)⟩
        · intro d a W hI hd hdep
          obtain ⟨r3, t3, s2, lv, x15, x16, x17, x55, x56, x57, x58, x59, x60, x61, x62, x63, rfl, hF⟩ := hI
          have hd8 : d 8 = true := dep_of hdep 8 (by kernel_rfl)
          obtain rfl := hF.out.f8 hd8
          clear hdep hd hd8
          intro K hK
          simp only [Act.put, List.setIfInBounds_toArray, List.set_cons_zero, List.set_cons_succ]
          go_simp
          refine hK.out _ _ ⟨r3, t3, s2, lv, x15, x16, (.int .i64 0), x55, x56, x57, x58, x59, x60, x61, x62, (.int .i64 0), by simp only [Act.put, List.setIfInBounds_toArray, List.set_cons_zero, List.set_cons_succ], ?_⟩
          exact ⟨fun h => hF.out.f0 (by simpa using h), fun h => hF.out.f1 (by simpa using h), fun h => hF.out.f2 (by simpa using h), fun h => hF.out.f3 (by simpa using h), fun h => hF.out.f4 (by simpa using h), fun h => hF.out.f5 (by simpa using h), fun h => hF.out.f6 (by simpa using h), fun h => hF.out.f7 (by simpa using h), fun h => hF.out.f8 (by simpa using h), fun h => hF.out.f9 (by simpa using h), fun h => hF.out.f10 (by simpa using h), fun _ => rfl, fun h => by have := hF.out.o5_4 (by simpa using h); simpa using this, fun h => by have := hF.out.o6_5 (by simpa using h); simpa using this, fun h => by have := hF.out.o7_5 (by simpa using h); simpa using this, fun h => by have := hF.out.o9_6 (by simpa using h); simpa using this, fun h => by have := hF.out.o10_7 (by simpa using h); simpa using this, hF.out.kp, fun h => hF.out.a2 (by simpa using h), fun h => hF.out.lv (by simpa using h)⟩
      · intro d a W hI hall
        obtain ⟨r3, t3, s2, lv, x15, x16, x17, x55, x56, x57, x58, x59, x60, x61, x62, x63, rfl, hF⟩ := hI
        simp only [List.length_cons, List.length_nil] at hall
        obtain rfl := hF.out.f0 (hall 0 (by omega))
        obtain rfl := hF.out.f1 (hall 1 (by omega))
        obtain rfl := hF.out.f2 (hall 2 (by omega))
        obtain rfl := hF.out.f3 (hall 3 (by omega))
        obtain rfl := hF.out.f4 (hall 4 (by omega))
        obtain rfl := hF.out.f5 (hall 5 (by omega))
        obtain rfl := hF.out.f6 (hall 6 (by omega))
        obtain rfl := hF.out.f7 (hall 7 (by omega))
        obtain rfl := hF.out.f8 (hall 8 (by omega))
        obtain rfl := hF.out.f9 (hall 9 (by omega))
        obtain rfl := hF.out.f10 (hall 10 (by omega))
        obtain rfl := hF.out.f11 (hall 11 (by omega))
        have HL : Hid (lv = false → ia = 0) := hF.out.lv (hall 4 (by omega))
        have BE : Below w.heap.size w W := hF.out.kp.1
        clear hF hall
        simp only [Act.put, List.setIfInBounds_toArray, List.set_cons_zero, List.set_cons_succ]
        have htw := HTW.out
        clear HTW
        by_cases hab : ia = ib
        · subst hab
          have htf : tw = false := by rw [← htw]; simp
          subst htf
          cases lv
          · have ha0 := HL.out rfl
            have hz : ((ia : Int) == 0) = true := by simp [ha0]
            go_wp2_with fail
            go_ret
            exact ⟨rfl, BE⟩
          · go_wp2_with fail
            go_ret
            exact ⟨rfl, BE⟩
        · have hne : ((ia : Int) == (ib : Int)) = false := by simp; omega
          have htf : tw = true := by rw [← htw]; simp; omega
          subst htf
          have hnb : Hid (((ia : Int) != (ib : Int)) = true) := by show _ = _; simp; omega
          cases lv
          · have ha0 := HL.out rfl
            have hnz : Hid (((0 : Int) != (ib : Int)) = true) := by show _ = _; simp; omega
            have hz : ((ia : Int) == 0) = true := by simp [ha0]
            go_wp2_with fail
            go_ret
            exact ⟨congrArg (fun q => Ending.returned (Value.bool q)) hnz.out, BE⟩
          · go_wp2_with fail
            go_ret
            exact ⟨congrArg (fun q => Ending.returned (Value.bool q)) hnb.out, BE⟩

  · have hc0 : (c == 0) = false := by simp [h0]
    have hc1 : (c != 0) = true := by simpa using hc0
    have hmi := min_bad (.slice ra a0n rc) (.slice ta a0m tc) a0n a0m a0R a0T _ HR0.out HT0.out (by rw [HC.out]; exact h0)
    rw [HC.out] at hmi
    go_enter Try.func5, Try.ntmps5
    go_wp2_with fail
    refine hmi.mono ?_
    rintro _ w1 ⟨rfl, hb⟩
    have B1 : Below w.heap.size w (w1.alloc (Obj.cells #[.slice none 0 0, .slice none 0 0] 25)) := (B0.trans (hb.mono B0.size)).alloc ((B0.trans (hb.mono B0.size)).size) _
    clear hb
    go_wp2_with fail
    go_ret
    exact ⟨rfl, B1⟩

/-! ### What the walk gives, for every argument -/
set_option maxRecDepth 100000 in
theorem contract (H : Type) (enc : TypeId × Value → H) (W : World) (base : Nat) (args : Array Value) (ds gs : List (DataW H)) (before : List MemPlace)
    (hval : ∀ (j : Nat) t v, Try.f5.params[j]? = some t → args[j]? = some v → Value.okWide Try.prog W .any base t v)
    (hW : DataW.Whole enc Try.prog Try.f5.params.toList Rows.smallLeastSpec.vars false W args.toList ds gs before) (hsz : (DataW.weightsEach Try.prog (Try.f5.params.toList ++ Rows.smallLeastSpec.plain.varTypes Try.prog) (ds ++ gs)).all (· ≤ reachBytes) = true) :
    Calls Try.prog 5 args W fun e W' => ∃ v, e = .returned v ∧ Rows.smallLeastSpec.post enc Try.prog Try.f5 false true false false W args v W' := by
  have hW' := hW
  obtain ⟨p, q, hA0, hV, rfl, hfz, hnd⟩ := hW
  have hA : DataW.TrodAll enc Try.prog W 0 (fun _ => true) true Try.f5.params.toList args.toList ds p := hA0
  rw [Try.params5] at hA hval hsz
  obtain ⟨v0, vs0, d0, ds0, p0, q0, hargs, rfl, rfl, h0, r0⟩ := trodAll_cons hA
  obtain ⟨v1, vs1, d1, ds1, p1, q1, rfl, rfl, rfl, h1, r1⟩ := trodAll_cons r0
  obtain ⟨v2, vs2, d2, ds2, p2, q2, rfl, rfl, rfl, h2, r2⟩ := trodAll_cons r1
  obtain ⟨rfl, rfl, rfl⟩ := trodAll_nil r2
  obtain rfl : args = #[v0, v1, v2] := by cases args; simp_all
  obtain ⟨rfl, rfl⟩ := trodVars_none hV
  have k0 := h0
  have lt0 : ∀ x ∈ p0, x.block < W.heap.size := by obtain ⟨m, hm⟩ := k0; exact DataW.trod_lt m _ _ _ hm
  obtain ⟨a0r, a0t, a0n, a0m, a0R, a0T, rfl, w0s, w0u⟩ := open_dfa (hval 0 25 v0 rfl rfl) h0
  obtain ⟨a1, rfl, rfl, rfl, w1⟩ := open_int Try.underlying3 (hval 1 3 v1 rfl rfl) h1
  obtain ⟨a2, rfl, rfl, rfl, w2⟩ := open_int Try.underlying3 (hval 2 3 v2 rfl rfl) h2
  clear hA0
  refine (walk a0r a0t a0n a0m a0R a0T a1 a2 W w0s w0u w1 w2).mono fun e W' ⟨he, bel⟩ => ?_
  subst he
  exact ⟨_, rfl, _, _, _, [], _, [], hW', trodAll_mk1 (shut_bool Try.underlying4 _), (trodAll_cons_mk (Below.trod laidOut (by kernel_rfl) (of_decide_eq_true (by kernel_rfl)) k0 bel lt0) (trodAll_cons_mk (shut_int Try.underlying3 w1) (trodAll_cons_mk (shut_int Try.underlying3 w2) trodAll_mk0))), rfl, bel.frame _, fun h => by cases h⟩

/-! ### The row's step -/
set_option maxRecDepth 100000 in
theorem lifted (os : Os) (started : os.Started) (H : Type) (enc : TypeId × Value → H) :
    ReturnsInHanded {} Try.checked os 5 .any (Rows.smallLeastSpec.pre6 enc Try.prog Try.f5 Rows.smallLeastRow.domain false) (Rows.smallLeastSpec.post enc Try.prog Try.f5 false true false false) := by
  refine returnsInHanded_of_change_sized (C := Try.checked) own started (by kernel_rfl) Try.func5
    (ChangeSpec.witness6 (enc := enc) (C := Try.checked) false ⟨#[], #[.agg #[.slice none 0 0, .slice none 0 0], .int .i64 0, .int .i64 0], []⟩ 8 (by kernel_rfl) (by kernel_rfl) (by kernel_rfl) (by kernel_rfl)) ?_
  intro W base args ds gs before hval hW hcnd hsz _
  exact contract H enc W base args ds gs before hval hW hsz

theorem over : Rows.smallLeastRow.holds Try.pinned (OpenSpec.ofChange Rows.smallLeastSpec) :=
  OpenClaim.holds_of_wide 5 Try.f5 rfl rfl rfl rfl rfl rfl rfl ⟨rfl, rfl, rfl, rfl, rfl⟩ rfl rfl rfl rfl rfl (by kernel_rfl) Try.func5 (by kernel_rfl)
    (of_decide_eq_true (by kernel_rfl)) (by unfold Func.isWrapper; first | (rw [if_pos (by decide +kernel)]; kernel_rfl) | (rw [if_neg (by decide +kernel)]; exact ⟨rfl, rfl⟩))
    (fun os started H enc _ => lifted os started H enc)

end Go.Proofs.Ytlgcggfenljdnaa.smallLeast
namespace Go.Proofs.Ytlgcggfenljdnaa
/-- The given statement. -/
theorem smallLeast_holds : Rows.SmallLeastSaid := smallLeast.over
#print axioms smallLeast_holds
end Go.Proofs.Ytlgcggfenljdnaa
