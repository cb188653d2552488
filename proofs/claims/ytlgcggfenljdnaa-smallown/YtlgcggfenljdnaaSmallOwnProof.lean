/-
  SmallOwn returns true whatever automaton is handed in, and changes nothing that it was handed; no condition.
-/
import Derived.Test.YtlgcggfenljdnaaRows
import Derived.WalkKit
import Derived.ProofKit
import Derived.OpenShut
import Derived.ShutString
import Derived.SizedLaws
import Derived.ChangeOld
import Derived.Below
import Derived.Carry
import Derived.WalkLawsBesides
import Derived.WalkSpells
import Derived.Test.YtlgcggfenljdnaaOpens
import Derived.Deep.Cut
import Derived.BigQuiet
import Derived.Test.YtlgcggfenljdnaaOwHold
namespace Go.Proofs.Ytlgcggfenljdnaa.smallOwn
open Go.ChangeShapes Go.WideShapes Go.ChangeAt Go.RowKit
open Go.ChangeMaps (open_string shut_string)
open Dfa
set_option linter.unusedVariables false

theorem own : ownKnob Try.prog.godebug = none := by kernel_rfl
theorem laidOut : laidOutB Try.prog = true := by kernel_rfl
def f3 : Nat → Int := fun j => if j = 0 then 3 else 0
theorem rl_ones (f : Nat → Int) : ∀ u ∈ rl f, u.oneCell' = true := fun v hv => by
  simp only [rl, List.mem_map] at hv
  obtain ⟨j, _, rfl⟩ := hv
  rfl
theorem rl_zero' : (rl fun _ => 0).toArray = Array.replicate 256 (Value.int .i16 0) := by
  apply Array.ext
  · simp [rl_length]
  · intro i h1 h2
    simp [rl]
theorem f3_set : (Array.replicate 256 (Value.int .i16 0)).setIfInBounds 0 (.int .i16 3) = (rl f3).toArray := by
  apply Array.ext
  · simp [rl_length]
  · intro i h1 h2
    by_cases e : i = 0
    · subst e; simp [rl, f3]
    · have : ¬ 0 = i := by omega
      rw [Array.getElem_setIfInBounds_ne (by simpa using h1) (by omega)]
      simp [rl, f3, e]
structure RO1 (w : World) (n m : Nat) (R : Nat → Nat → Int) (T : Nat → Int) (ra : Option Addr) (rc : Nat) (ta : Option Addr) (tc : Nat) (l3 : List Value) (g1 : Nat) (g2 : Nat) (gi : Nat) (d : Nat → Bool) (x3 x14 x15 x16 x17 x18 x19 x20 x21 : Value) (W : World) : Prop where
  f0 : d 0 = true → x14 = (.pointer (some ⟨w.heap.size, 0, none⟩))
  f1 : d 1 = true → x15 = (.slice ra n rc)
  f2 : d 2 = true → x16 = (.agg l3.toArray)
  f3 : d 3 = true → x17 = (.slice (some ⟨g1, 0, none⟩) n (n + 3))
  f4 : d 4 = true → x18 = (.pointer (some ⟨w.heap.size, 1, none⟩))
  f5 : d 5 = true → x19 = (.slice ta m tc)
  f6 : d 6 = true → x20 = (.slice (some ⟨g2, 0, none⟩) m (m + 3))
  f7 : d 7 = true → x21 = (.agg #[(.slice (some ⟨g1, 0, none⟩) n (n + 3)), (.slice (some ⟨g2, 0, none⟩) m (m + 3))])
  f8 : d 8 = true → x3 = (.pointer (some ⟨gi, 0, none⟩))
  f9 : d 9 = true → True
  o7_3 : d 7 = true → d 3 = true
  o7_6 : d 7 = true → d 6 = true
  q9_8 : d 9 = true → d 8 = true
  q9_7 : d 9 = true → d 7 = true
  kp : Below w.heap.size w W ∧ Bb w.heap.size (.slice ra n rc) (.slice ta m tc) W
  a3 : d 3 = true → W.ownsRow (w.heap.size + 1) 42 256 (.slice (some ⟨g1, 0, none⟩) (n + 2) (n + 3)) (n + 2) (rcl (fun j => j) R n ++ (l3 ++ l3))
  a6 : d 6 = true → W.ownsRow (w.heap.size + 1) 3 1 (.slice (some ⟨g2, 0, none⟩) (m + 2) (m + 3)) (m + 2) (tl m T ++ [.int .i64 5, .int .i64 5])
  n36 : d 3 = true → d 6 = true → g1 ≠ g2
  al : d 8 = true → d 9 = false → w.heap.size < gi ∧ W.rowIs gi 25 2 (fun _ => .slice none 0 0)
  n38 : d 3 = true → d 8 = true → g1 ≠ gi
  n68 : d 6 = true → d 8 = true → g2 ≠ gi
  fin : d 9 = true → w.heap.size < gi ∧ W.rowIs gi 25 2 (fun i => if i = 0 then (.slice (some ⟨g1, 0, none⟩) n (n + 3)) else (.slice (some ⟨g2, 0, none⟩) m (m + 3)))
structure RO9 (x9 : World) (N : Nat) (F : Nat → Nat → Int) (U : Nat → Int) (ra3 : Option Addr) (rc3 : Nat) (ta3 : Option Addr) (tc3 gM : Nat) (k1 : Nat) (c1 : Nat) (k2 : Nat) (c2 : Nat) (d : Nat → Bool) (x10 x11 x77 x78 x79 x80 x81 x82 : Value) (W : World) : Prop where
  f0 : d 0 = true → x77 = (.pointer (some ⟨gM, 0, none⟩))
  f1 : d 1 = true → x78 = (.slice ra3 N rc3)
  f2 : d 2 = true → x79 = (.slice (some ⟨k1, 0, none⟩) N c1)
  f3 : d 3 = true → x80 = (.pointer (some ⟨gM, 1, none⟩))
  f4 : d 4 = true → x81 = (.slice ta3 N tc3)
  f5 : d 5 = true → x82 = (.slice (some ⟨k2, 0, none⟩) N c2)
  f6 : d 6 = true → x10 = (.slice (some ⟨k1, 0, none⟩) N c1)
  f7 : d 7 = true → x11 = (.slice (some ⟨k2, 0, none⟩) N c2)
  o6_2 : d 6 = true → d 2 = true
  o7_5 : d 7 = true → d 5 = true
  kp : Below x9.heap.size x9 W
  a2 : d 2 = true → W.ownsRow x9.heap.size 42 256 (.slice (some ⟨k1, 0, none⟩) N c1) N (rcl (fun j => j) F N)
  a5 : d 5 = true → W.ownsRow x9.heap.size 3 1 (.slice (some ⟨k2, 0, none⟩) N c2) N (tl N U)

/-! ### The walk: the Go text returns true. -/
set_option maxHeartbeats 8000000 in
set_option maxRecDepth 20000 in
theorem walk (a0r : Value) (a0t : Value) (a0n : Nat) (a0m : Nat) (a0R : Nat → Nat → Int) (a0T : Nat → Int) (w : World) (w0s : Rw w a0r a0n a0R) (w0u : Ts w a0t a0m a0T) (w0p : a0r = .slice none 0 0 ∨ ∃ ad n c, a0r = .slice (some ad) n c) (w0q : a0t = .slice none 0 0 ∨ ∃ ad n c, a0t = .slice (some ad) n c) (w0z : a0n ≤ 274877906944 ∧ a0m ≤ 17592186043904) :
    Calls Try.prog 8 #[.agg #[a0r, a0t]] w fun e w' => e = .returned (.bool true) ∧ Below w.heap.size w w' := by
  obtain ⟨n, HN⟩ : ∃ q, Hid (a0n = q) := ⟨_, (rfl : _ = _)⟩
  obtain ⟨m, HM⟩ : ∃ q, Hid (a0m = q) := ⟨_, (rfl : _ = _)⟩
  rw [HN.out] at w0s w0z
  rw [HM.out] at w0u w0z
  clear HN HM
  obtain ⟨R, HN⟩ : ∃ q, Hid (a0R = q) := ⟨_, (rfl : _ = _)⟩
  obtain ⟨T, HM⟩ : ∃ q, Hid (a0T = q) := ⟨_, (rfl : _ = _)⟩
  rw [HN.out] at w0s
  rw [HM.out] at w0u
  clear HN HM
  have HRW : Hid (Rw w a0r n R) := w0s
  have HTS : Hid (Ts w a0t m T) := w0u
  have HAO : Hid ((a0r = .slice none 0 0 ∨ ∃ ad n c, a0r = .slice (some ad) n c) ∧ (a0t = .slice none 0 0 ∨ ∃ ad n c, a0t = .slice (some ad) n c)) := ⟨w0p, w0q⟩
  have HNM : Hid (n ≤ 274877906944 ∧ m ≤ 17592186043904) := w0z
  obtain ⟨ra, rc, rfl, hrn, hrr, -⟩ := w0s
  obtain ⟨ta, tc, rfl, htn, htr, -⟩ := w0u
  have HRR : Hid ((∀ i j, -32768 ≤ R i j ∧ R i j ≤ 32767) ∧ ∀ i, -9223372036854775808 ≤ T i ∧ T i ≤ 9223372036854775807) := ⟨hrr, htr⟩
  clear w0p w0q w0z hrn hrr htn htr
  have HK0 : Hid (Below w.heap.size w (w.alloc (Obj.cells #[(.slice ra n rc), (.slice ta m tc)] 25)) ∧ Bb w.heap.size (.slice ra n rc) (.slice ta m tc) (w.alloc (Obj.cells #[(.slice ra n rc), (.slice ta m tc)] 25))) := ⟨below_box _ _, Bb.box w _ _ 25⟩
  obtain ⟨z4, hz4, hz4s⟩ : ∃ zs : Array Value, (∀ w, (zeroValue 42).run Try.prog w = .ok (.agg zs) w) ∧ zs = Array.replicate 256 (.int .i16 0) := ⟨_, (zero_of_info (P := Try.prog) (t := 42) (v := .agg (Array.replicate 256 (.int .i16 0))) (n := 256) (by kernel_rfl)).1, rfl⟩
  have HZ4Z : Hid (¬ z4 = #[]) := by show ¬ _; rw [hz4s]; intro e; have := congrArg Array.size e; simp at this
  have HZ42 : Hid (∀ w, (zeroValue 42).run Try.prog w = .ok (.agg z4) w) := hz4
  obtain ⟨l3, HL3E⟩ : ∃ q, Hid (rl f3 = q) := ⟨_, (rfl : _ = _)⟩
  have HZ3 : Hid (z4.setIfInBounds 0 (.int .i16 3) = l3.toArray) := by show _ = _; rw [← HL3E.out, hz4s]; exact f3_set
  obtain ⟨l0, HL0E⟩ : ∃ q, Hid (rl (fun _ => 0) = q) := ⟨_, (rfl : _ = _)⟩
  have HZ0 : Hid (z4 = l0.toArray) := by show _ = _; rw [← HL0E.out, hz4s, ← rl_zero']
  have HL3 : Hid (l3.length = 256 ∧ ∀ u ∈ l3, u.oneCell' = true) := by rw [← HL3E.out]; exact ⟨rl_length _, rl_ones _⟩
  have HL0 : Hid (l0.length = 256 ∧ l0.toArray.all (·.oneCell') = true) := by rw [← HL0E.out]; exact ⟨rl_length _, rl_one _⟩
  obtain ⟨zs, hz47, hzsz, hzs⟩ := zero47
  have HZS : Hid (zs.size = 258 ∧ zs = (pl (fun _ => 0) (.slice none 0 0) (.slice none 0 0)).toArray) := ⟨hzsz, hzs⟩
  have HZ47 : Hid (∀ w, (zeroValue 47).run Try.prog w = .ok (.agg zs) w) := hz47
  have HZ1 : Hid (zs.all (·.oneCell') = true) := by show _ = _; rw [hzs]; exact pl_one _ _ _ _ _ _ _
  have HRN : Hid (∀ W : World, (W.alloc (Obj.cells zs 47)).cell? ⟨W.heap.size, 256, none⟩ = some (.slice none 0 0)) := fun W => by
    have := cell_of_block W zs.toList 47 256
    simp only [Array.toArray_toList] at this
    rw [this, hzs]
    exact pl_next _ _ _
  clear hz4 hz4s hz47 hzsz hzs
  go_enter Try.func8, Try.ntmps8
  go_wp2_with fail
  refine wp_region_free mixed (fun a0 d a W => ∃ (g1 : Nat) (g2 : Nat) (gi : Nat) (x3 x14 x15 x16 x17 x18 x19 x20 x21 : Value), a = (((((((((a0.put (some 3) x3).put (some 14) x14).put (some 15) x15).put (some 16) x16).put (some 17) x17).put (some 18) x18).put (some 19) x19).put (some 20) x20).put (some 21) x21) ∧ Hid (RO1 w n m R T ra rc ta tc l3 g1 g2 gi d x3 x14 x15 x16 x17 x18 x19 x20 x21 W)) (by kernel_rfl) ⟨0, 0, 0, undef, undef, undef, undef, undef, undef, undef, undef, undef, by simp only [Act.put, List.setIfInBounds_toArray, List.set_cons_zero, List.set_cons_succ], ?_⟩ ?_ ?_
  · exact ⟨fun h => no_way h, fun h => no_way h, fun h => no_way h, fun h => no_way h, fun h => no_way h, fun h => no_way h, fun h => no_way h, fun h => no_way h, fun h => no_way h, fun _ => trivial, fun h => no_way h, fun h => no_way h, fun h => no_way h, fun h => no_way h, ⟨HK0.out.1.drew, ⟨HK0.out.2.c0, HK0.out.2.c1, HK0.out.2.lt⟩⟩, fun h => no_way h, fun h => no_way h, fun h => no_way h, fun h => no_way h, fun h => no_way h, fun h => no_way h, fun h => no_way h⟩
  · simp only [StepAll, and_true]
    refine ⟨?_, ?_, ?_, ?_, ?_, ?_, ?_, ?_, ?_, ?_⟩
    · intro d a W hI hd hdep
      obtain ⟨g1, g2, gi, x3, x14, x15, x16, x17, x18, x19, x20, x21, rfl, hF⟩ := hI
      clear hdep hd
      intro K hK
      simp only [Act.put, List.setIfInBounds_toArray, List.set_cons_zero, List.set_cons_succ]
      go_simp
      refine hK.out _ _ ⟨g1, g2, gi, x3, (.pointer (some ⟨w.heap.size, 0, none⟩)), x15, x16, x17, x18, x19, x20, x21, by simp only [Act.put, List.setIfInBounds_toArray, List.set_cons_zero, List.set_cons_succ], ?_⟩
      exact ⟨fun _ => rfl, fun h => hF.out.f1 (by simpa using h), fun h => hF.out.f2 (by simpa using h), fun h => hF.out.f3 (by simpa using h), fun h => hF.out.f4 (by simpa using h), fun h => hF.out.f5 (by simpa using h), fun h => hF.out.f6 (by simpa using h), fun h => hF.out.f7 (by simpa using h), fun h => hF.out.f8 (by simpa using h), fun h => hF.out.f9 (by simpa using h), fun h => by have := hF.out.o7_3 (by simpa using h); simpa using this, fun h => by have := hF.out.o7_6 (by simpa using h); simpa using this, fun h => by have := hF.out.q9_8 (by simpa using h); simpa using this, fun h => by have := hF.out.q9_7 (by simpa using h); simpa using this, hF.out.kp, fun h => hF.out.a3 (by simpa using h), fun h => hF.out.a6 (by simpa using h), fun h k => hF.out.n36 (by simpa using h) (by simpa using k), fun h k => hF.out.al (by simpa using h) (by simpa using k), fun h k => hF.out.n38 (by simpa using h) (by simpa using k), fun h k => hF.out.n68 (by simpa using h) (by simpa using k), fun h => hF.out.fin (by simpa using h)⟩
    · intro d a W hI hd hdep
      obtain ⟨g1, g2, gi, x3, x14, x15, x16, x17, x18, x19, x20, x21, rfl, hF⟩ := hI
      have hd0 : d 0 = true := dep_of hdep 0 (by kernel_rfl)
      obtain rfl := hF.out.f0 hd0
      have ya := hF.out.kp.2.c0
      clear hdep hd hd0
      intro K hK
      simp only [Act.put, List.setIfInBounds_toArray, List.set_cons_zero, List.set_cons_succ]
      go_simp
      refine hK.out _ _ ⟨g1, g2, gi, x3, (.pointer (some ⟨w.heap.size, 0, none⟩)), (.slice ra n rc), x16, x17, x18, x19, x20, x21, by simp only [Act.put, List.setIfInBounds_toArray, List.set_cons_zero, List.set_cons_succ], ?_⟩
      exact ⟨fun h => hF.out.f0 (by simpa using h), fun _ => rfl, fun h => hF.out.f2 (by simpa using h), fun h => hF.out.f3 (by simpa using h), fun h => hF.out.f4 (by simpa using h), fun h => hF.out.f5 (by simpa using h), fun h => hF.out.f6 (by simpa using h), fun h => hF.out.f7 (by simpa using h), fun h => hF.out.f8 (by simpa using h), fun h => hF.out.f9 (by simpa using h), fun h => by have := hF.out.o7_3 (by simpa using h); simpa using this, fun h => by have := hF.out.o7_6 (by simpa using h); simpa using this, fun h => by have := hF.out.q9_8 (by simpa using h); simpa using this, fun h => by have := hF.out.q9_7 (by simpa using h); simpa using this, hF.out.kp, fun h => hF.out.a3 (by simpa using h), fun h => hF.out.a6 (by simpa using h), fun h k => hF.out.n36 (by simpa using h) (by simpa using k), fun h k => hF.out.al (by simpa using h) (by simpa using k), fun h k => hF.out.n38 (by simpa using h) (by simpa using k), fun h k => hF.out.n68 (by simpa using h) (by simpa using k), fun h => hF.out.fin (by simpa using h)⟩
    · intro d a W hI hd hdep
      obtain ⟨g1, g2, gi, x3, x14, x15, x16, x17, x18, x19, x20, x21, rfl, hF⟩ := hI
      have hz42 := HZ42.out
      have hz3 := HZ3.out
      have hze : ¬ z4 = #[] := HZ4Z.out
      clear hdep hd
      intro K hK
      simp only [Act.put, List.setIfInBounds_toArray, List.set_cons_zero, List.set_cons_succ]
      go_simp
      refine hK.out _ _ ⟨g1, g2, gi, x3, x14, x15, (.agg l3.toArray), x17, x18, x19, x20, x21, by simp only [Act.put, List.setIfInBounds_toArray, List.set_cons_zero, List.set_cons_succ], ?_⟩
      exact ⟨fun h => hF.out.f0 (by simpa using h), fun h => hF.out.f1 (by simpa using h), fun _ => rfl, fun h => hF.out.f3 (by simpa using h), fun h => hF.out.f4 (by simpa using h), fun h => hF.out.f5 (by simpa using h), fun h => hF.out.f6 (by simpa using h), fun h => hF.out.f7 (by simpa using h), fun h => hF.out.f8 (by simpa using h), fun h => hF.out.f9 (by simpa using h), fun h => by have := hF.out.o7_3 (by simpa using h); simpa using this, fun h => by have := hF.out.o7_6 (by simpa using h); simpa using this, fun h => by have := hF.out.q9_8 (by simpa using h); simpa using this, fun h => by have := hF.out.q9_7 (by simpa using h); simpa using this, hF.out.kp, fun h => hF.out.a3 (by simpa using h), fun h => hF.out.a6 (by simpa using h), fun h k => hF.out.n36 (by simpa using h) (by simpa using k), fun h k => hF.out.al (by simpa using h) (by simpa using k), fun h k => hF.out.n38 (by simpa using h) (by simpa using k), fun h k => hF.out.n68 (by simpa using h) (by simpa using k), fun h => hF.out.fin (by simpa using h)⟩
    · intro d a W hI hd hdep
      obtain ⟨g1, g2, gi, x3, x14, x15, x16, x17, x18, x19, x20, x21, rfl, hF⟩ := hI
      have hd1 : d 1 = true := dep_of hdep 1 (by kernel_rfl)
      have hd2 : d 2 = true := dep_of hdep 2 (by kernel_rfl)
      obtain rfl := hF.out.f1 hd1
      obtain rfl := hF.out.f2 hd2
      have hcl := roomyR_any (.slice ra n rc) n R l3 W (HRW.out.below hF.out.kp.1 (Nat.le_refl _)) HAO.out.1 HNM.out.1 HL3.out.1 HL3.out.2
      have HN7 : Hid (d 7 = false) := no_later hF.out.o7_3 hd
      have HN9 : Hid (d 9 = false) := no_later hF.out.q9_7 HN7.out
      clear hdep hd hd1 hd2
      intro K hK
      simp only [Act.put, List.setIfInBounds_toArray, List.set_cons_zero, List.set_cons_succ]
      go_simp
      refine hcl.mono ?_
      rintro _ W1 ⟨q1, rfl, hown, hb1⟩
      have HOW : Hid (W.heap.size ≤ q1 ∧ W1.ownsRow (w.heap.size + 1) 42 256 (.slice (some ⟨q1, 0, none⟩) (n + 2) (n + 3)) (n + 2) (rcl (fun j => j) R n ++ (l3 ++ l3))) := ⟨(hown.lt q1 rfl).1, own_lessC hown (by have := hF.out.kp.2.lt; omega)⟩
      clear hown hcl
      go_simp
      refine hK.out _ _ ⟨q1, g2, gi, x3, x14, (.slice ra n rc), (.agg l3.toArray), (.slice (some ⟨q1, 0, none⟩) n (n + 3)), x18, x19, x20, x21, by simp only [Act.put, List.setIfInBounds_toArray, List.set_cons_zero, List.set_cons_succ], ?_⟩
      exact ⟨fun h => hF.out.f0 (by simpa using h), fun h => hF.out.f1 (by simpa using h), fun h => hF.out.f2 (by simpa using h), fun _ => rfl, fun h => hF.out.f4 (by simpa using h), fun h => hF.out.f5 (by simpa using h), fun h => hF.out.f6 (by simpa using h), fun h => by have := HN7.out; simp [this] at h, fun h => hF.out.f8 (by simpa using h), fun h => hF.out.f9 (by simpa using h), fun _ => by simp, fun h => by have := hF.out.o7_6 (by simpa using h); simpa using this, fun h => by have := hF.out.q9_8 (by simpa using h); simpa using this, fun h => by have := hF.out.q9_7 (by simpa using h); simpa using this, ⟨hF.out.kp.1.trans (hb1.mono hF.out.kp.1.size), hF.out.kp.2.next hb1⟩, fun _ => HOW.out.2, fun h => own_same (hF.out.a6 (by simpa using h)) fun k hk => hb1.block k ((hF.out.a6 (by simpa using h)).lt k hk).2, fun _ k => by have := ((hF.out.a6 (by simpa using k)).lt g2 rfl).2; have := HOW.out.1; omega, fun h k => have q := hF.out.al (by simpa using h) HN9.out; ⟨q.1, q.2.of_block (hb1.block _ q.2.lt)⟩, fun _ k => by have := (hF.out.al (by simpa using k) HN9.out).2.lt; have := HOW.out.1; omega, fun h k => hF.out.n68 (by simpa using h) (by simpa using k), fun h => by have := HN9.out; simp [this] at h⟩
    · intro d a W hI hd hdep
      obtain ⟨g1, g2, gi, x3, x14, x15, x16, x17, x18, x19, x20, x21, rfl, hF⟩ := hI
      clear hdep hd
      intro K hK
      simp only [Act.put, List.setIfInBounds_toArray, List.set_cons_zero, List.set_cons_succ]
      go_simp
      refine hK.out _ _ ⟨g1, g2, gi, x3, x14, x15, x16, x17, (.pointer (some ⟨w.heap.size, 1, none⟩)), x19, x20, x21, by simp only [Act.put, List.setIfInBounds_toArray, List.set_cons_zero, List.set_cons_succ], ?_⟩
      exact ⟨fun h => hF.out.f0 (by simpa using h), fun h => hF.out.f1 (by simpa using h), fun h => hF.out.f2 (by simpa using h), fun h => hF.out.f3 (by simpa using h), fun _ => rfl, fun h => hF.out.f5 (by simpa using h), fun h => hF.out.f6 (by simpa using h), fun h => hF.out.f7 (by simpa using h), fun h => hF.out.f8 (by simpa using h), fun h => hF.out.f9 (by simpa using h), fun h => by have := hF.out.o7_3 (by simpa using h); simpa using this, fun h => by have := hF.out.o7_6 (by simpa using h); simpa using this, fun h => by have := hF.out.q9_8 (by simpa using h); simpa using this, fun h => by have := hF.out.q9_7 (by simpa using h); simpa using this, hF.out.kp, fun h => hF.out.a3 (by simpa using h), fun h => hF.out.a6 (by simpa using h), fun h k => hF.out.n36 (by simpa using h) (by simpa using k), fun h k => hF.out.al (by simpa using h) (by simpa using k), fun h k => hF.out.n38 (by simpa using h) (by simpa using k), fun h k => hF.out.n68 (by simpa using h) (by simpa using k), fun h => hF.out.fin (by simpa using h)⟩
    · intro d a W hI hd hdep
      obtain ⟨g1, g2, gi, x3, x14, x15, x16, x17, x18, x19, x20, x21, rfl, hF⟩ := hI
      have hd4 : d 4 = true := dep_of hdep 4 (by kernel_rfl)
      obtain rfl := hF.out.f4 hd4
      have ya := hF.out.kp.2.c1
      clear hdep hd hd4
      intro K hK
      simp only [Act.put, List.setIfInBounds_toArray, List.set_cons_zero, List.set_cons_succ]
      go_simp
      refine hK.out _ _ ⟨g1, g2, gi, x3, x14, x15, x16, x17, (.pointer (some ⟨w.heap.size, 1, none⟩)), (.slice ta m tc), x20, x21, by simp only [Act.put, List.setIfInBounds_toArray, List.set_cons_zero, List.set_cons_succ], ?_⟩
      exact ⟨fun h => hF.out.f0 (by simpa using h), fun h => hF.out.f1 (by simpa using h), fun h => hF.out.f2 (by simpa using h), fun h => hF.out.f3 (by simpa using h), fun h => hF.out.f4 (by simpa using h), fun _ => rfl, fun h => hF.out.f6 (by simpa using h), fun h => hF.out.f7 (by simpa using h), fun h => hF.out.f8 (by simpa using h), fun h => hF.out.f9 (by simpa using h), fun h => by have := hF.out.o7_3 (by simpa using h); simpa using this, fun h => by have := hF.out.o7_6 (by simpa using h); simpa using this, fun h => by have := hF.out.q9_8 (by simpa using h); simpa using this, fun h => by have := hF.out.q9_7 (by simpa using h); simpa using this, hF.out.kp, fun h => hF.out.a3 (by simpa using h), fun h => hF.out.a6 (by simpa using h), fun h k => hF.out.n36 (by simpa using h) (by simpa using k), fun h k => hF.out.al (by simpa using h) (by simpa using k), fun h k => hF.out.n38 (by simpa using h) (by simpa using k), fun h k => hF.out.n68 (by simpa using h) (by simpa using k), fun h => hF.out.fin (by simpa using h)⟩
    · intro d a W hI hd hdep
      obtain ⟨g1, g2, gi, x3, x14, x15, x16, x17, x18, x19, x20, x21, rfl, hF⟩ := hI
      have hd5 : d 5 = true := dep_of hdep 5 (by kernel_rfl)
      obtain rfl := hF.out.f5 hd5
      have hcl := roomyT_any (.slice ta m tc) m T 5 W (HTS.out.below hF.out.kp.1 (Nat.le_refl _)) HAO.out.2 HNM.out.2
      have HN7 : Hid (d 7 = false) := no_later hF.out.o7_6 hd
      have HN9 : Hid (d 9 = false) := no_later hF.out.q9_7 HN7.out
      clear hdep hd hd5
      intro K hK
      simp only [Act.put, List.setIfInBounds_toArray, List.set_cons_zero, List.set_cons_succ]
      go_simp
      refine hcl.mono ?_
      rintro _ W1 ⟨q1, rfl, hown, hb1⟩
      have HOW : Hid (W.heap.size ≤ q1 ∧ W1.ownsRow (w.heap.size + 1) 3 1 (.slice (some ⟨q1, 0, none⟩) (m + 2) (m + 3)) (m + 2) (tl m T ++ [.int .i64 5, .int .i64 5])) := ⟨(hown.lt q1 rfl).1, own_lessC hown (by have := hF.out.kp.2.lt; omega)⟩
      clear hown hcl
      go_simp
      refine hK.out _ _ ⟨g1, q1, gi, x3, x14, x15, x16, x17, x18, (.slice ta m tc), (.slice (some ⟨q1, 0, none⟩) m (m + 3)), x21, by simp only [Act.put, List.setIfInBounds_toArray, List.set_cons_zero, List.set_cons_succ], ?_⟩
      exact ⟨fun h => hF.out.f0 (by simpa using h), fun h => hF.out.f1 (by simpa using h), fun h => hF.out.f2 (by simpa using h), fun h => hF.out.f3 (by simpa using h), fun h => hF.out.f4 (by simpa using h), fun h => hF.out.f5 (by simpa using h), fun _ => rfl, fun h => by have := HN7.out; simp [this] at h, fun h => hF.out.f8 (by simpa using h), fun h => hF.out.f9 (by simpa using h), fun h => by have := hF.out.o7_3 (by simpa using h); simpa using this, fun _ => by simp, fun h => by have := hF.out.q9_8 (by simpa using h); simpa using this, fun h => by have := hF.out.q9_7 (by simpa using h); simpa using this, ⟨hF.out.kp.1.trans (hb1.mono hF.out.kp.1.size), hF.out.kp.2.next hb1⟩, fun h => own_same (hF.out.a3 (by simpa using h)) fun k hk => hb1.block k ((hF.out.a3 (by simpa using h)).lt k hk).2, fun _ => HOW.out.2, fun k _ => by have := ((hF.out.a3 (by simpa using k)).lt g1 rfl).2; have := HOW.out.1; omega, fun h k => have q := hF.out.al (by simpa using h) HN9.out; ⟨q.1, q.2.of_block (hb1.block _ q.2.lt)⟩, fun h k => hF.out.n38 (by simpa using h) (by simpa using k), fun _ k => by have := (hF.out.al (by simpa using k) HN9.out).2.lt; have := HOW.out.1; omega, fun h => by have := HN9.out; simp [this] at h⟩
    · intro d a W hI hd hdep
      obtain ⟨g1, g2, gi, x3, x14, x15, x16, x17, x18, x19, x20, x21, rfl, hF⟩ := hI
      have hd3 : d 3 = true := dep_of hdep 3 (by kernel_rfl)
      have hd6 : d 6 = true := dep_of hdep 6 (by kernel_rfl)
      obtain rfl := hF.out.f3 hd3
      obtain rfl := hF.out.f6 hd6
      have e7_3 := hd3
      have e7_6 := hd6
      clear hdep hd hd3 hd6
      intro K hK
      simp only [Act.put, List.setIfInBounds_toArray, List.set_cons_zero, List.set_cons_succ]
      go_simp
      refine hK.out _ _ ⟨g1, g2, gi, x3, x14, x15, x16, (.slice (some ⟨g1, 0, none⟩) n (n + 3)), x18, x19, (.slice (some ⟨g2, 0, none⟩) m (m + 3)), (.agg #[(.slice (some ⟨g1, 0, none⟩) n (n + 3)), (.slice (some ⟨g2, 0, none⟩) m (m + 3))]), by simp only [Act.put, List.setIfInBounds_toArray, List.set_cons_zero, List.set_cons_succ], ?_⟩
      exact ⟨fun h => hF.out.f0 (by simpa using h), fun h => hF.out.f1 (by simpa using h), fun h => hF.out.f2 (by simpa using h), fun h => hF.out.f3 (by simpa using h), fun h => hF.out.f4 (by simpa using h), fun h => hF.out.f5 (by simpa using h), fun h => hF.out.f6 (by simpa using h), fun _ => rfl, fun h => hF.out.f8 (by simpa using h), fun h => hF.out.f9 (by simpa using h), fun _ => by simpa using e7_3, fun _ => by simpa using e7_6, fun h => by have := hF.out.q9_8 (by simpa using h); simpa using this, fun _ => by simp, hF.out.kp, fun h => hF.out.a3 (by simpa using h), fun h => hF.out.a6 (by simpa using h), fun h k => hF.out.n36 (by simpa using h) (by simpa using k), fun h k => hF.out.al (by simpa using h) (by simpa using k), fun h k => hF.out.n38 (by simpa using h) (by simpa using k), fun h k => hF.out.n68 (by simpa using h) (by simpa using k), fun h => hF.out.fin (by simpa using h)⟩
    · intro d a W hI hd hdep
      obtain ⟨g1, g2, gi, x3, x14, x15, x16, x17, x18, x19, x20, x21, rfl, hF⟩ := hI
      have HN9 : Hid (d 9 = false) := no_later hF.out.q9_8 hd
      clear hdep hd
      intro K hK
      simp only [Act.put, List.setIfInBounds_toArray, List.set_cons_zero, List.set_cons_succ]
      go_simp
      refine hK.out _ _ ⟨g1, g2, W.heap.size, (.pointer (some ⟨W.heap.size, 0, none⟩)), x14, x15, x16, x17, x18, x19, x20, x21, by simp only [Act.put, List.setIfInBounds_toArray, List.set_cons_zero, List.set_cons_succ], ?_⟩
      have hb1 := (Below.refl W.heap.size W).alloc (Nat.le_refl _) (Obj.cells #[Value.slice none 0 0, Value.slice none 0 0] 25)
      exact ⟨fun h => hF.out.f0 (by simpa using h), fun h => hF.out.f1 (by simpa using h), fun h => hF.out.f2 (by simpa using h), fun h => hF.out.f3 (by simpa using h), fun h => hF.out.f4 (by simpa using h), fun h => hF.out.f5 (by simpa using h), fun h => hF.out.f6 (by simpa using h), fun h => hF.out.f7 (by simpa using h), fun _ => rfl, fun h => hF.out.f9 (by simpa using h), fun h => by have := hF.out.o7_3 (by simpa using h); simpa using this, fun h => by have := hF.out.o7_6 (by simpa using h); simpa using this, fun _ => by simp, fun h => by have := hF.out.q9_7 (by simpa using h); simpa using this, ⟨hF.out.kp.1.trans (hb1.mono hF.out.kp.1.size), hF.out.kp.2.next hb1⟩, fun h => own_same (hF.out.a3 (by simpa using h)) fun k hk => hb1.block k ((hF.out.a3 (by simpa using h)).lt k hk).2, fun h => own_same (hF.out.a6 (by simpa using h)) fun k hk => hb1.block k ((hF.out.a6 (by simpa using h)).lt k hk).2, fun h k => hF.out.n36 (by simpa using h) (by simpa using k), fun _ _ => ⟨hF.out.kp.2.lt, (row_two W _ _).congr fun i _ => by simp⟩, fun k _ => by have := ((hF.out.a3 (by simpa using k)).lt g1 rfl).2; omega, fun k _ => by have := ((hF.out.a6 (by simpa using k)).lt g2 rfl).2; omega, fun h => by have := HN9.out; simp [this] at h⟩
    · intro d a W hI hd hdep
      obtain ⟨g1, g2, gi, x3, x14, x15, x16, x17, x18, x19, x20, x21, rfl, hF⟩ := hI
      have hd8 : d 8 = true := dep_of hdep 8 (by kernel_rfl)
      have hd7 : d 7 = true := dep_of hdep 7 (by kernel_rfl)
      obtain rfl := hF.out.f8 hd8
      obtain rfl := hF.out.f7 hd7
      have e9_8 := hd8
      have e9_7 := hd7
      have k3 := hF.out.o7_3 hd7
      have k6 := hF.out.o7_6 hd7
      have hal := hF.out.al hd8 hd
      have ya := hal.2.cell (i := 0) (by omega)
      have yb := hal.2.cell (i := 1) (by omega)
      have yc := hal.2.frozen 0
      have yd := hal.2.frozen 1
      have HAL : Hid (w.heap.size < gi ∧ W.rowIs gi 25 2 (fun _ => .slice none 0 0)) := hal
      have HNE : Hid (g1 ≠ gi ∧ g2 ≠ gi) := ⟨hF.out.n38 k3 hd8, hF.out.n68 k6 hd8⟩
      clear hal
      clear hdep hd hd8 hd7
      intro K hK
      simp only [Act.put, List.setIfInBounds_toArray, List.set_cons_zero, List.set_cons_succ]
      go_simp
      refine hK.out _ _ ⟨g1, g2, gi, (.pointer (some ⟨gi, 0, none⟩)), x14, x15, x16, x17, x18, x19, x20, (.agg #[(.slice (some ⟨g1, 0, none⟩) n (n + 3)), (.slice (some ⟨g2, 0, none⟩) m (m + 3))]), by simp only [Act.put, List.setIfInBounds_toArray, List.set_cons_zero, List.set_cons_succ], ?_⟩
      have hsame := same_two W gi (.slice (some ⟨g1, 0, none⟩) n (n + 3)) (.slice (some ⟨g2, 0, none⟩) m (m + 3))
      exact ⟨fun h => hF.out.f0 (by simpa using h), fun h => hF.out.f1 (by simpa using h), fun h => hF.out.f2 (by simpa using h), fun h => hF.out.f3 (by simpa using h), fun h => hF.out.f4 (by simpa using h), fun h => hF.out.f5 (by simpa using h), fun h => hF.out.f6 (by simpa using h), fun h => hF.out.f7 (by simpa using h), fun h => hF.out.f8 (by simpa using h), fun _ => trivial, fun h => by have := hF.out.o7_3 (by simpa using h); simpa using this, fun h => by have := hF.out.o7_6 (by simpa using h); simpa using this, fun _ => by simpa using e9_8, fun _ => by simpa using e9_7, ⟨(hF.out.kp.1.setCell (by have := HAL.out.1; simp; omega) _).setCell (by have := HAL.out.1; simp; omega) _, (cell_same (hsame.2.2.2.2 _ (by have := HAL.out.1; omega)) 0).trans hF.out.kp.2.c0, (cell_same (hsame.2.2.2.2 _ (by have := HAL.out.1; omega)) 1).trans hF.out.kp.2.c1, by rw [hsame.1]; exact hF.out.kp.2.lt⟩, fun h => own_same (hF.out.a3 k3) fun k hk => hsame.2.2.2.2 k (by simp [Value.ownBlock] at hk; have := HNE.out.1; omega), fun h => own_same (hF.out.a6 k6) fun k hk => hsame.2.2.2.2 k (by simp [Value.ownBlock] at hk; have := HNE.out.2; omega), fun h k => hF.out.n36 (by simpa using h) (by simpa using k), fun _ h => by simp at h, fun h k => hF.out.n38 (by simpa using h) (by simpa using k), fun h k => hF.out.n68 (by simpa using h) (by simpa using k), fun _ => ⟨HAL.out.1, row_two_set HAL.out.2 _ _⟩⟩
  · intro d a W hI hall
    obtain ⟨g1, g2, gi, x3, x14, x15, x16, x17, x18, x19, x20, x21, rfl, hF⟩ := hI
    simp only [List.length_cons, List.length_nil] at hall
    obtain rfl := hF.out.f0 (hall 0 (by omega))
    obtain rfl := hF.out.f1 (hall 1 (by omega))
    obtain rfl := hF.out.f2 (hall 2 (by omega))
    obtain rfl := hF.out.f3 (hall 3 (by omega))
    obtain rfl := hF.out.f4 (hall 4 (by omega))
    obtain rfl := hF.out.f5 (hall 5 (by omega))
    obtain rfl := hF.out.f6 (hall 6 (by omega))
    obtain rfl := hF.out.f7 (hall 7 (by omega))
    obtain rfl := hF.out.f8 (hall 8 (by omega))
    have HOA : Hid (OA w n m R T (.slice ra n rc) (.slice ta m tc) l3 g1 g2 gi W) := by
      have k9 := hF.out.fin (hall 9 (by omega))
      have k3 := hF.out.a3 (hall 3 (by omega))
      have k6 := hF.out.a6 (hall 6 (by omega))
      have c0 := k9.2.cell (i := 0) (by omega)
      have c1 := k9.2.cell (i := 1) (by omega)
      simp only [if_true] at c0
      rw [if_neg (by omega)] at c1
      exact ⟨hF.out.kp.1, hF.out.kp.2, ⟨c0, c1, k9.2.lt⟩, k3, k6, hF.out.n36 (hall 3 (by omega)) (hall 6 (by omega)), hF.out.n38 (hall 3 (by omega)) (hall 8 (by omega)), hF.out.n68 (hall 6 (by omega)) (hall 8 (by omega)), k9.1⟩
    clear hF hall
    simp only [Act.put, List.setIfInBounds_toArray, List.set_cons_zero, List.set_cons_succ]
    obtain ⟨X1, rfl⟩ : ∃ X1, X1 = W := ⟨_, rfl⟩
    have HRI : Hid (Rw X1 (.slice (some ⟨g1, 0, none⟩) n (n + 3)) n R ∧ Ts X1 (.slice (some ⟨g2, 0, none⟩) m (m + 3)) m T) := ⟨rw_front HOA.out.o1 (by have := HNM.out.1; omega) HRR.out.1, ts_front HOA.out.o2 (by have := HNM.out.2; omega) HRR.out.2⟩
    obtain ⟨c, HC⟩ : ∃ c, Hid (chk n m R T = c) := ⟨_, (rfl : _ = _)⟩
    by_cases h0 : c = 0
    · subst h0
      obtain ⟨p0, p1, p2, p3, -⟩ := chk_zero HC.out
      have p2s := p2.symm
      subst p2s
      have HN0 : Hid (0 < n ∧ n ≤ 200 ∧ rowsOk n R = true) := ⟨p0, p1, p3⟩
      have hmi := min_ok (.slice (some ⟨g1, 0, none⟩) n (n + 3)) (.slice (some ⟨g2, 0, none⟩) n (n + 3)) n R T X1 HRI.out.1 HRI.out.2 HC.out
      have HCP : Hid (chkP n n (ofp n R) (fun _ => (fsts n R 256).length) (fun i t => R i ((fsts n R 256).getD t 0)) T = 0) := pack_right HC.out
      have HCL : Hid (0 < (fsts n R 256).length) := by have := (ofp_at n R (b := 0) (by omega)).1; show 0 < _; omega
      have ya := HOA.out.bi.c0
      have yb := HOA.out.bi.c1
      have HZ1 : Hid (g1 < X1.heap.size ∧ g2 < X1.heap.size ∧ gi < X1.heap.size) := ⟨(HOA.out.o1.lt g1 rfl).2, (HOA.out.o2.lt g2 rfl).2, HOA.out.bi.lt⟩
      clear p0 p1 p2 p3
      go_wp2_with fail
      refine hmi.mono ?_
      rintro _ w2 ⟨rv3, tv3, rfl, hmo, hb⟩
      obtain ⟨N, F, U, K, met, hm1, hm2, hm3, hm4, hm5⟩ := hmo
      obtain ⟨hN0, hN1⟩ := hm1.few
      have HNN : Hid (0 < N ∧ N ≤ 200) := ⟨hN0, by have := HN0.out.2.1; omega⟩
      have HFU : Hid ((∀ i j, -32768 ≤ F i j ∧ F i j ≤ 32767) ∧ ∀ i, -9223372036854775808 ≤ U i ∧ U i ≤ 9223372036854775807) := by
        obtain ⟨_, _, _, _, q1, _⟩ := hm2
        obtain ⟨_, _, _, _, q2, _⟩ := hm3
        exact ⟨q1, q2⟩
      have hza := Rw.at hm2 hN0
      have hzb := Ts.at hm3 hN0
      obtain ⟨ra3, rc3, hre, -⟩ := id hm2
      obtain ⟨ta3, tc3, hte, -⟩ := id hm3
      subst hre hte
      have HZM0 : Hid (∀ b, (((.slice ra3 N rc3) : Value).ownBlock = some b ∨ ((.slice ta3 N tc3) : Value).ownBlock = some b) → X1.heap.size ≤ b ∧ b < w2.heap.size) := fun b hbb => hbb.elim (fun h => ⟨hm4 b h, hza b h⟩) (fun h => ⟨hm5 b h, hzb b h⟩)
      have HOA2 : Hid (OA w n n R T (.slice ra n rc) (.slice ta n tc) l3 g1 g2 gi w2) := HOA.out.next hb
      have HRI2 : Hid (Rw w2 (.slice (some ⟨g1, 0, none⟩) n (n + 3)) n R ∧ Ts w2 (.slice (some ⟨g2, 0, none⟩) n (n + 3)) n T) := ⟨HRI.out.1.below hb (Nat.le_refl _), HRI.out.2.below hb (Nat.le_refl _)⟩
      have HM2 : Hid (Rw w2 (.slice ra3 N rc3) N F ∧ Ts w2 (.slice ta3 N tc3) N U) := ⟨hm2, hm3⟩
      have HS1 : Hid (X1.heap.size ≤ w2.heap.size) := hb.size
      clear hmi ya yb hb HOA HRI hm1 hm2 hm3 hm4 hm5 hN0 hN1 hza hzb
      have hbx := below_box w2 (Obj.cells #[(.slice ra3 N rc3), (.slice ta3 N tc3)] 25)
      have hnb := Bb.box w2 (.slice ra3 N rc3) (.slice ta3 N tc3) 25
      have hsz : (w2.alloc (Obj.cells #[(.slice ra3 N rc3), (.slice ta3 N tc3)] 25)).heap.size = w2.heap.size + 1 := by simp
      obtain ⟨gM, HGM⟩ : ∃ q, Hid (w2.heap.size = q) := ⟨_, (rfl : _ = _)⟩
      obtain ⟨x2, HX2⟩ : ∃ q, Hid (w2.alloc (Obj.cells #[(.slice ra3 N rc3), (.slice ta3 N tc3)] 25) = q) := ⟨_, (rfl : _ = _)⟩
      rw [HX2.out] at hbx hnb hsz
      rw [HGM.out] at hnb hsz HZM0 HS1
      have HOA3 : Hid (OA w n n R T (.slice ra n rc) (.slice ta n tc) l3 g1 g2 gi x2) := HOA2.out.next hbx
      have HM3 : Hid (Bb gM (.slice ra3 N rc3) (.slice ta3 N tc3) x2 ∧ Rw x2 (.slice ra3 N rc3) N F ∧ Ts x2 (.slice ta3 N tc3) N U) := ⟨hnb, HM2.out.1.below hbx (Nat.le_refl _), HM2.out.2.below hbx (Nat.le_refl _)⟩
      obtain ⟨s2, HS2⟩ : ∃ q, Hid (x2.heap.size = q) := ⟨_, (rfl : _ = _)⟩
      have HSM : Hid (s2 = gM + 1) := by show _ = _; rw [← HS2.out]; exact hsz
      have hpk := pack_own (.slice (some ⟨g1, 0, none⟩) n (n + 3)) (.slice (some ⟨g2, 0, none⟩) n (n + 3)) n R T x2 (HRI2.out.1.below hbx (Nat.le_refl _)) (HRI2.out.2.below hbx (Nat.le_refl _)) HC.out
      clear hbx hnb hsz HOA2 HRI2 HM2
      go_upto_region 3 with fail
      rw [HX2.out, HGM.out]
      clear HX2 HGM
      have ya := HOA3.out.bi.c0
      have yb := HOA3.out.bi.c1
      have hz47 := HZ47.out
      go_wp2_with fail
      refine hpk.mono ?_
      rintro _ w4 ⟨nv1, tv1, rfl, hnx, hts, hb, hpow⟩
      obtain ⟨BB, gN, V, gt, ct, XV, T2, rfl, rfl, htn, hB1, hB2, hB3, hB4, htg⟩ := hpow
      rw [HS2.out] at hB1 hB2
      have HOA4 : Hid (OA w n n R T (.slice ra n rc) (.slice ta n tc) l3 g1 g2 gi w4) := HOA3.out.next hb
      have HM4 : Hid (Bb gM (.slice ra3 N rc3) (.slice ta3 N tc3) w4 ∧ Rw w4 (.slice ra3 N rc3) N F ∧ Ts w4 (.slice ta3 N tc3) N U) := ⟨HM3.out.1.next hb, HM3.out.2.1.below hb (Nat.le_refl _), HM3.out.2.2.below hb (Nat.le_refl _)⟩
      have HTN : Hid (Tn BB gN n (fun _ => (fsts n R 256).length) XV V w4 ∧ Tg gt ct n T2 w4) := ⟨htn, htg⟩
      have HSP : Hid (s2 ≤ w4.heap.size) := by rw [← HS2.out]; exact hb.size
      have HZP0 : Hid (s2 ≤ gN ∧ ∀ i q, i < n → (V i).ownBlock = some q → q < w4.heap.size) := ⟨hB1, fun i q hi hq => ((htn.own i hi).lt q hq).2⟩
      have HZT0 : Hid (s2 ≤ gt ∧ gt < w4.heap.size ∧ gt ≠ gN) := ⟨hB2, by obtain ⟨f, hf⟩ := htg.2.1; exact hf.lt, fun e => hB4 e.symm⟩
      have hpl : pl (fun b => idx n R (fsts n R b) b) (.slice (some ⟨gN, 0, none⟩) n n) (.slice (some ⟨gt, 0, none⟩) n ct) = pl (ofp n R) (.slice (some ⟨gN, 0, none⟩) n n) (.slice (some ⟨gt, 0, none⟩) n ct) := pl_congr _ _ fun j hj => by unfold ofp; rw [if_pos hj]
      rw [hpl]
      have HUN : Hid (∀ W, Below w4.heap.size w4 W → Calls Try.prog 19 #[.agg (pl (ofp n R) (.slice (some ⟨gN, 0, none⟩) n n) (.slice (some ⟨gt, 0, none⟩) n ct)).toArray] W fun e w' => ∃ rv tv', e = .returned (.tuple #[.agg #[rv, tv'], .int .i64 0]) ∧ Rw w' rv n (fun i j => if i < n ∧ j < 256 then R i ((fsts n R 256).getD (ofp n R j) 0) else 0) ∧ Ts w' tv' n T ∧ Below W.heap.size W w' ∧ (∀ g, rv.ownBlock = some g → W.heap.size ≤ g) ∧ (∀ g, tv'.ownBlock = some g → W.heap.size ≤ g)) := fun W hB => unpack_own (ofp n R) (.slice (some ⟨gN, 0, none⟩) n n) (.slice (some ⟨gt, 0, none⟩) n ct) n (fun _ => (fsts n R 256).length) (fun i t => R i ((fsts n R 256).getD t 0)) T W (ofp_lt n R) (hnx.below hB (Nat.le_refl _)) (hts.below hB (Nat.le_refl _)) HCP.out
      have HONE : Hid ((pl (ofp n R) (.slice (some ⟨gN, 0, none⟩) n n) (.slice (some ⟨gt, 0, none⟩) n ct)).toArray.all (·.oneCell') = true) := pl_one _ _ _ _ _ _ _
      have HLN : Hid ((pl (ofp n R) (.slice (some ⟨gN, 0, none⟩) n n) (.slice (some ⟨gt, 0, none⟩) n ct)).length = 258) := pl_length _ _ _
      have HNV : Hid ((pl (ofp n R) (.slice (some ⟨gN, 0, none⟩) n n) (.slice (some ⟨gt, 0, none⟩) n ct))[256]? = some (.slice (some ⟨gN, 0, none⟩) n n) ∧ (pl (ofp n R) (.slice (some ⟨gN, 0, none⟩) n n) (.slice (some ⟨gt, 0, none⟩) n ct))[257]? = some (.slice (some ⟨gt, 0, none⟩) n ct)) := ⟨pl_next _ _ _, pl_tags _ _ _⟩
      obtain ⟨l, HL⟩ : ∃ l, Hid (pl (ofp n R) (.slice (some ⟨gN, 0, none⟩) n n) (.slice (some ⟨gt, 0, none⟩) n ct) = l) := ⟨_, (rfl : _ = _)⟩
      rw [HL.out] at HUN HONE HLN HNV
      rw [HL.out]
      have HSZ : Hid (l.toArray.size = 258) := by show _ = _; rw [List.size_toArray]; exact HLN.out
      have HSI : Hid ((Try.prog.info? 47).map (·.size) = some l.length) := by show _ = _; rw [HLN.out]; exact size47
      have BP := below_box w4 (Obj.cells l.toArray 47)
      have hrg : Rg w4.heap.size l (w4.alloc (Obj.cells l.toArray 47)) := ⟨range_block w4 l 47, by simp⟩
      obtain ⟨gP, HGP⟩ : ∃ q, Hid (w4.heap.size = q) := ⟨_, (rfl : _ = _)⟩
      obtain ⟨wp, HWP⟩ : ∃ q, Hid (w4.alloc (Obj.cells l.toArray 47) = q) := ⟨_, (rfl : _ = _)⟩
      rw [HWP.out] at BP hrg
      rw [HGP.out] at hrg HZP0 HZT0 HSP
      have HOA5 : Hid (OA w n n R T (.slice ra n rc) (.slice ta n tc) l3 g1 g2 gi wp) := HOA4.out.next BP
      have HOB5 : Hid (OB n N (fsts n R 256).length F U XV T2 gM gN gt ct gP BB (.slice ra3 N rc3) (.slice ta3 N tc3) V l wp) := ⟨HM4.out.1.next BP, HM4.out.2.1.below BP (Nat.le_refl _), HM4.out.2.2.below BP (Nat.le_refl _), hrg, HTN.out.1.next BP, HTN.out.2.same (BP.block _ (by have := HZT0.out.2.1; have := HGP.out; omega))⟩
      have HUN2 := HUN.out wp BP
      have HSW : Hid (gP ≤ wp.heap.size) := by rw [← HGP.out]; exact BP.size
      clear hpk ya yb hb HOA3 HM3 htn htg hB1 hB2 hB3 hB4 hnx hts hpl HUN BP hrg HOA4 HM4 HTN HL HCP
      have yc := HOB5.out.pg.rng
      go_wp2_with (first | (refine wpList_store_new47 rfl _ _ rfl zs l.toArray rfl rfl HZS.out.1 HSZ.out HONE.out ?_; rw [HWP.out, HGP.out]) | refine wpList_load_mid rfl 47 _ rfl gP 0 rfl l _ HOB5.out.pg.rng Try.underlying47 rfl HSI.out ?_)
      refine HUN2.mono ?_
      rintro _ w5 ⟨rv5, tv5, rfl, hr5, ht5, hb, hz5, hz6⟩
      obtain ⟨ra5, rc5, hre, -⟩ := id hr5
      obtain ⟨ta5, tc5, hte, -⟩ := id ht5
      subst hre hte
      have HZU0 : Hid (∀ b, (((.slice ra5 n rc5) : Value).ownBlock = some b ∨ ((.slice ta5 n tc5) : Value).ownBlock = some b) → gP ≤ b) := fun b hbb => Nat.le_trans HSW.out (hbb.elim (hz5 b) (hz6 b))
      have HOA6 : Hid (OA w n n R T (.slice ra n rc) (.slice ta n tc) l3 g1 g2 gi w5) := HOA5.out.next hb
      have HOB6 : Hid (OB n N (fsts n R 256).length F U XV T2 gM gN gt ct gP BB (.slice ra3 N rc3) (.slice ta3 N tc3) V l w5) := HOB5.out.next hb
      have HR6 : Hid (Rw w5 (.slice ra5 n rc5) n (fun i j => if i < n ∧ j < 256 then R i ((fsts n R 256).getD (ofp n R j) 0) else 0) ∧ Ts w5 (.slice ta5 n tc5) n T) := ⟨hr5, ht5⟩
      have HS5 : Hid (gP ≤ w5.heap.size) := Nat.le_trans HSW.out hb.size
      clear HUN2 HOA5 HOB5 hr5 ht5 hb hz5 hz6 HWP HGP HSW yc hz47
      have hbx := below_box w5 (Obj.cells #[(.slice ra5 n rc5), (.slice ta5 n tc5)] 25)
      have hnb := Bb.box w5 (.slice ra5 n rc5) (.slice ta5 n tc5) 25
      obtain ⟨gU, HGU⟩ : ∃ q, Hid (w5.heap.size = q) := ⟨_, (rfl : _ = _)⟩
      obtain ⟨x5, HX5⟩ : ∃ q, Hid (w5.alloc (Obj.cells #[(.slice ra5 n rc5), (.slice ta5 n tc5)] 25) = q) := ⟨_, (rfl : _ = _)⟩
      rw [HX5.out] at hbx hnb
      rw [HGU.out] at hnb HS5
      have HOA7 : Hid (OA w n n R T (.slice ra n rc) (.slice ta n tc) l3 g1 g2 gi x5) := HOA6.out.next hbx
      have HOB7 : Hid (OB n N (fsts n R 256).length F U XV T2 gM gN gt ct gP BB (.slice ra3 N rc3) (.slice ta3 N tc3) V l x5) := HOB6.out.next hbx
      have HOU7 : Hid (OU n (fun i j => if i < n ∧ j < 256 then R i ((fsts n R 256).getD (ofp n R j) 0) else 0) T gU (.slice ra5 n rc5) (.slice ta5 n tc5) x5) := ⟨hnb, HR6.out.1.below hbx (Nat.le_refl _), HR6.out.2.below hbx (Nat.le_refl _)⟩
      clear hbx hnb HOA6 HOB6 HR6
      go_upto_region 7 with fail
      rw [HX5.out, HGU.out]
      clear HX5 HGU
      -- in is as it was
      have hq := sameDfa_any (.slice (some ⟨g1, 0, none⟩) n (n + 3)) (.slice (some ⟨g2, 0, none⟩) n (n + 3)) (.slice ra n rc) (.slice ta n tc) n n n n R R T T x5 (rw_front HOA7.out.o1 (by have := HN0.out.2.1; omega) HRR.out.1) (ts_front HOA7.out.o2 (by have := HN0.out.2.1; omega) HRR.out.2) (HRW.out.below HOA7.out.below (Nat.le_refl _)) (HTS.out.below HOA7.out.below (Nat.le_refl _))
      rw [eqR_refl n _ _ (fun _ _ _ _ => rfl), eqT_refl n _ _ (fun _ _ => rfl)] at hq
      have HQ : Hid (Calls Try.prog 11 #[.agg #[(.slice (some ⟨g1, 0, none⟩) n (n + 3)), (.slice (some ⟨g2, 0, none⟩) n (n + 3))], .agg #[(.slice ra n rc), (.slice ta n tc)]] x5 fun e w' => e = .returned (.bool (true && true)) ∧ Below x5.heap.size x5 w') := hq
      have y0 := HOA7.out.bi.c0
      have y1 := HOA7.out.bi.c1
      have y2 := HOA7.out.bd.c0
      have y3 := HOA7.out.bd.c1
      clear hq
      go_wp2_with fail
      refine HQ.out.mono ?_
      rintro _ x6 ⟨rfl, hb⟩
      have HOA8 : Hid (OA w n n R T (.slice ra n rc) (.slice ta n tc) l3 g1 g2 gi x6) := HOA7.out.next hb
      have HOB8 : Hid (OB n N (fsts n R 256).length F U XV T2 gM gN gt ct gP BB (.slice ra3 N rc3) (.slice ta3 N tc3) V l x6) := HOB7.out.next hb
      have HOU8 : Hid (OU n (fun i j => if i < n ∧ j < 256 then R i ((fsts n R 256).getD (ofp n R j) 0) else 0) T gU (.slice ra5 n rc5) (.slice ta5 n tc5) x6) := HOU7.out.next hb
      clear hb HQ y0 y1 y2 y3 HOA7 HOB7 HOU7
      have hrc : (rcl (fun j => j) R n).length = n * 256 := rcl_length _ _ _
      have hfl := filledR_any g1 n (n + 3) f3 x6 (by omega) (by have := HN0.out.2.1; omega) (HOA8.out.o1.lt g1 rfl).2 (fun j u hj => own_cell HOA8.out.o1 (n * 256 + j) u (by
          rw [HL3E.out] at hj
          have hjl : j < l3.length := (List.getElem?_eq_some_iff.1 hj).1
          rw [List.getElem?_append_right (by omega), hrc, Nat.add_sub_cancel_left, List.getElem?_append_left hjl]; exact hj)) (fun j u hj => own_cell HOA8.out.o1 ((n + 1) * 256 + j) u (by
          rw [HL3E.out] at hj
          have hjl := HL3.out.1
          rw [List.getElem?_append_right (by omega), hrc, List.getElem?_append_right (by omega), show (n + 1) * 256 + j - n * 256 - l3.length = j by omega]; exact hj))
      rw [HL3E.out] at hfl
      have hz42 := HZ42.out
      have hz3 := HZ3.out
      have hze : ¬ z4 = #[] := HZ4Z.out
      have y0 := HOA8.out.bi.c0
      go_wp2_with fail
      refine hfl.mono ?_
      rintro _ x7 ⟨rfl, hb⟩
      have HOA7 : Hid (OA w n n R T (.slice ra n rc) (.slice ta n tc) l3 g1 g2 gi x7) := HOA8.out.next hb
      have HOB7 : Hid (OB n N (fsts n R 256).length F U XV T2 gM gN gt ct gP BB (.slice ra3 N rc3) (.slice ta3 N tc3) V l x7) := HOB8.out.next hb
      have HOU7 : Hid (OU n (fun i j => if i < n ∧ j < 256 then R i ((fsts n R 256).getD (ofp n R j) 0) else 0) T gU (.slice ra5 n rc5) (.slice ta5 n tc5) x7) := HOU8.out.next hb
      clear hb hfl y0 hz42 hz3 hze hrc HOA8 HOB8 HOU8
      have htl : (tl n T).length = n := by simp [tl]
      have hfl := filledT_any g2 n (n + 3) 5 x7 (by omega) (by have := HN0.out.2.1; omega) (own_cell HOA7.out.o2 n _ (by rw [List.getElem?_append_right (by omega), htl, Nat.sub_self]; rfl)) (own_cell HOA7.out.o2 (n + 1) _ (by rw [List.getElem?_append_right (by omega), htl, Nat.add_sub_cancel_left]; rfl))
      have y0 := HOA7.out.bi.c1
      go_wp2_with fail
      refine hfl.mono ?_
      rintro _ x8 ⟨rfl, hw⟩
      rw [hw]
      clear hw hfl y0 htl
      obtain ⟨x9, rfl⟩ : ∃ q, q = x7 := ⟨_, rfl⟩
      obtain ⟨s3, HS3⟩ : ∃ q, Hid (gP = q) := ⟨_, (rfl : _ = _)⟩
      have HZI : Hid (g1 < gM ∧ g2 < gM ∧ s2 = gM + 1 ∧ gi < s2) := by have := HZ1.out; have := HS1.out; have := HSM.out; exact ⟨by omega, by omega, this, by omega⟩
      have HZB : Hid (gM < s2 ∧ s2 ≤ s3 ∧ s3 ≤ gP ∧ s3 ≤ gU ∧ s3 ≤ x9.heap.size) := by have := HSM.out; have := HSP.out; have := HS5.out; have := HS3.out; have := HOB7.out.pg.lt; exact ⟨by omega, by omega, by omega, by omega, by omega⟩
      have HZP : Hid (s2 ≤ gN ∧ ∀ i q, i < n → (V i).ownBlock = some q → q < s3) := by rw [← HS3.out]; exact HZP0.out
      have HZT : Hid (s2 ≤ gt ∧ gt < s3 ∧ gt ≠ gN) := by rw [← HS3.out]; exact HZT0.out
      have HZU : Hid (∀ b, (((.slice ra5 n rc5) : Value).ownBlock = some b ∨ ((.slice ta5 n tc5) : Value).ownBlock = some b) → s3 ≤ b) := by rw [← HS3.out]; exact HZU0.out
      have HZM : Hid (∀ b, (((.slice ra3 N rc3) : Value).ownBlock = some b ∨ ((.slice ta3 N tc3) : Value).ownBlock = some b) → g1 < b ∧ g2 < b ∧ b < s2) := fun b hb => by have := HZM0.out b hb; have := HZ1.out; have := HSM.out; exact ⟨by omega, by omega, by omega⟩
      have HB9 : Hid (Bb gM (.slice ra3 N rc3) (.slice ta3 N tc3) x9 ∧ Rw x9 (.slice ra3 N rc3) N F ∧ Ts x9 (.slice ta3 N tc3) N U) := ⟨HOB7.out.bm, HOB7.out.rm, HOB7.out.tm⟩
      clear HZ1 HS1 HSP HS5 HSM HS3 HZP0 HZT0 HZU0 HZM0
      go_wp2_with fail
      refine wp_region_free mixed (fun a0 d a W => ∃ (k1 : Nat) (c1 : Nat) (k2 : Nat) (c2 : Nat) (x10 x11 x77 x78 x79 x80 x81 x82 : Value), a = ((((((((a0.put (some 10) x10).put (some 11) x11).put (some 77) x77).put (some 78) x78).put (some 79) x79).put (some 80) x80).put (some 81) x81).put (some 82) x82) ∧ Hid (RO9 x9 N F U ra3 rc3 ta3 tc3 gM k1 c1 k2 c2 d x10 x11 x77 x78 x79 x80 x81 x82 W)) (by kernel_rfl) ⟨0, 0, 0, 0, undef, undef, undef, undef, undef, undef, undef, undef, by simp only [Act.put, List.setIfInBounds_toArray, List.set_cons_zero, List.set_cons_succ], ?_⟩ ?_ ?_
      · exact ⟨fun h => no_way h, fun h => no_way h, fun h => no_way h, fun h => no_way h, fun h => no_way h, fun h => no_way h, fun h => no_way h, fun h => no_way h, fun h => no_way h, fun h => no_way h, (Below.refl _ _).drew, fun h => no_way h, fun h => no_way h⟩
      · simp only [StepAll, and_true]
        refine ⟨?_, ?_, ?_, ?_, ?_, ?_, ?_, ?_⟩
        · intro d a W hI hd hdep
          obtain ⟨k1, c1, k2, c2, x10, x11, x77, x78, x79, x80, x81, x82, rfl, hF⟩ := hI
          clear hdep hd
          intro K hK
          simp only [Act.put, List.setIfInBounds_toArray, List.set_cons_zero, List.set_cons_succ]
          go_simp
          refine hK.out _ _ ⟨k1, c1, k2, c2, x10, x11, (.pointer (some ⟨gM, 0, none⟩)), x78, x79, x80, x81, x82, by simp only [Act.put, List.setIfInBounds_toArray, List.set_cons_zero, List.set_cons_succ], ?_⟩
          exact ⟨fun _ => rfl, fun h => hF.out.f1 (by simpa using h), fun h => hF.out.f2 (by simpa using h), fun h => hF.out.f3 (by simpa using h), fun h => hF.out.f4 (by simpa using h), fun h => hF.out.f5 (by simpa using h), fun h => hF.out.f6 (by simpa using h), fun h => hF.out.f7 (by simpa using h), fun h => by have := hF.out.o6_2 (by simpa using h); simpa using this, fun h => by have := hF.out.o7_5 (by simpa using h); simpa using this, hF.out.kp, fun h => hF.out.a2 (by simpa using h), fun h => hF.out.a5 (by simpa using h)⟩
        · intro d a W hI hd hdep
          obtain ⟨k1, c1, k2, c2, x10, x11, x77, x78, x79, x80, x81, x82, rfl, hF⟩ := hI
          have hd0 : d 0 = true := dep_of hdep 0 (by kernel_rfl)
          obtain rfl := hF.out.f0 hd0
          have ya := (HB9.out.1.next hF.out.kp).c0
          clear hdep hd hd0
          intro K hK
          simp only [Act.put, List.setIfInBounds_toArray, List.set_cons_zero, List.set_cons_succ]
          go_simp
          refine hK.out _ _ ⟨k1, c1, k2, c2, x10, x11, (.pointer (some ⟨gM, 0, none⟩)), (.slice ra3 N rc3), x79, x80, x81, x82, by simp only [Act.put, List.setIfInBounds_toArray, List.set_cons_zero, List.set_cons_succ], ?_⟩
          exact ⟨fun h => hF.out.f0 (by simpa using h), fun _ => rfl, fun h => hF.out.f2 (by simpa using h), fun h => hF.out.f3 (by simpa using h), fun h => hF.out.f4 (by simpa using h), fun h => hF.out.f5 (by simpa using h), fun h => hF.out.f6 (by simpa using h), fun h => hF.out.f7 (by simpa using h), fun h => by have := hF.out.o6_2 (by simpa using h); simpa using this, fun h => by have := hF.out.o7_5 (by simpa using h); simpa using this, hF.out.kp, fun h => hF.out.a2 (by simpa using h), fun h => hF.out.a5 (by simpa using h)⟩
        · intro d a W hI hd hdep
          obtain ⟨k1, c1, k2, c2, x10, x11, x77, x78, x79, x80, x81, x82, rfl, hF⟩ := hI
          have hd1 : d 1 = true := dep_of hdep 1 (by kernel_rfl)
          obtain rfl := hF.out.f1 hd1
          have hcl := cloneR_own (.slice ra3 N rc3) N F W (HB9.out.2.1.below hF.out.kp (Nat.le_refl _)) HNN.out.1 HNN.out.2
          have HN6 : Hid (d 6 = false) := no_later hF.out.o6_2 hd
          clear hdep hd hd1
          intro K hK
          simp only [Act.put, List.setIfInBounds_toArray, List.set_cons_zero, List.set_cons_succ]
          go_simp
          refine hcl.mono ?_
          rintro _ W1 ⟨q1, q2, rfl, hown, hb1⟩
          have HOW : Hid (W1.ownsRow x9.heap.size 42 256 (.slice (some ⟨q1, 0, none⟩) N q2) N (rcl (fun j => j) F N)) := own_lessC hown hF.out.kp.size
          clear hown hcl
          go_simp
          refine hK.out _ _ ⟨q1, q2, k2, c2, x10, x11, x77, (.slice ra3 N rc3), (.slice (some ⟨q1, 0, none⟩) N q2), x80, x81, x82, by simp only [Act.put, List.setIfInBounds_toArray, List.set_cons_zero, List.set_cons_succ], ?_⟩
          exact ⟨fun h => hF.out.f0 (by simpa using h), fun h => hF.out.f1 (by simpa using h), fun _ => rfl, fun h => hF.out.f3 (by simpa using h), fun h => hF.out.f4 (by simpa using h), fun h => hF.out.f5 (by simpa using h), fun h => by have := HN6.out; simp [this] at h, fun h => hF.out.f7 (by simpa using h), fun _ => by simp, fun h => by have := hF.out.o7_5 (by simpa using h); simpa using this, hF.out.kp.trans (hb1.mono hF.out.kp.size), fun _ => HOW.out, fun h => own_same (hF.out.a5 (by simpa using h)) fun k hk => hb1.block k ((hF.out.a5 (by simpa using h)).lt k hk).2⟩
        · intro d a W hI hd hdep
          obtain ⟨k1, c1, k2, c2, x10, x11, x77, x78, x79, x80, x81, x82, rfl, hF⟩ := hI
          clear hdep hd
          intro K hK
          simp only [Act.put, List.setIfInBounds_toArray, List.set_cons_zero, List.set_cons_succ]
          go_simp
          refine hK.out _ _ ⟨k1, c1, k2, c2, x10, x11, x77, x78, x79, (.pointer (some ⟨gM, 1, none⟩)), x81, x82, by simp only [Act.put, List.setIfInBounds_toArray, List.set_cons_zero, List.set_cons_succ], ?_⟩
          exact ⟨fun h => hF.out.f0 (by simpa using h), fun h => hF.out.f1 (by simpa using h), fun h => hF.out.f2 (by simpa using h), fun _ => rfl, fun h => hF.out.f4 (by simpa using h), fun h => hF.out.f5 (by simpa using h), fun h => hF.out.f6 (by simpa using h), fun h => hF.out.f7 (by simpa using h), fun h => by have := hF.out.o6_2 (by simpa using h); simpa using this, fun h => by have := hF.out.o7_5 (by simpa using h); simpa using this, hF.out.kp, fun h => hF.out.a2 (by simpa using h), fun h => hF.out.a5 (by simpa using h)⟩
        · intro d a W hI hd hdep
          obtain ⟨k1, c1, k2, c2, x10, x11, x77, x78, x79, x80, x81, x82, rfl, hF⟩ := hI
          have hd3 : d 3 = true := dep_of hdep 3 (by kernel_rfl)
          obtain rfl := hF.out.f3 hd3
          have ya := (HB9.out.1.next hF.out.kp).c1
          clear hdep hd hd3
          intro K hK
          simp only [Act.put, List.setIfInBounds_toArray, List.set_cons_zero, List.set_cons_succ]
          go_simp
          refine hK.out _ _ ⟨k1, c1, k2, c2, x10, x11, x77, x78, x79, (.pointer (some ⟨gM, 1, none⟩)), (.slice ta3 N tc3), x82, by simp only [Act.put, List.setIfInBounds_toArray, List.set_cons_zero, List.set_cons_succ], ?_⟩
          exact ⟨fun h => hF.out.f0 (by simpa using h), fun h => hF.out.f1 (by simpa using h), fun h => hF.out.f2 (by simpa using h), fun h => hF.out.f3 (by simpa using h), fun _ => rfl, fun h => hF.out.f5 (by simpa using h), fun h => hF.out.f6 (by simpa using h), fun h => hF.out.f7 (by simpa using h), fun h => by have := hF.out.o6_2 (by simpa using h); simpa using this, fun h => by have := hF.out.o7_5 (by simpa using h); simpa using this, hF.out.kp, fun h => hF.out.a2 (by simpa using h), fun h => hF.out.a5 (by simpa using h)⟩
        · intro d a W hI hd hdep
          obtain ⟨k1, c1, k2, c2, x10, x11, x77, x78, x79, x80, x81, x82, rfl, hF⟩ := hI
          have hd4 : d 4 = true := dep_of hdep 4 (by kernel_rfl)
          obtain rfl := hF.out.f4 hd4
          have hcl := cloneT_own (.slice ta3 N tc3) N U W (HB9.out.2.2.below hF.out.kp (Nat.le_refl _)) HNN.out.1 HNN.out.2
          have HN7 : Hid (d 7 = false) := no_later hF.out.o7_5 hd
          clear hdep hd hd4
          intro K hK
          simp only [Act.put, List.setIfInBounds_toArray, List.set_cons_zero, List.set_cons_succ]
          go_simp
          refine hcl.mono ?_
          rintro _ W1 ⟨q1, q2, rfl, hown, hb1⟩
          have HOW : Hid (W1.ownsRow x9.heap.size 3 1 (.slice (some ⟨q1, 0, none⟩) N q2) N (tl N U)) := own_lessC hown hF.out.kp.size
          clear hown hcl
          go_simp
          refine hK.out _ _ ⟨k1, c1, q1, q2, x10, x11, x77, x78, x79, x80, (.slice ta3 N tc3), (.slice (some ⟨q1, 0, none⟩) N q2), by simp only [Act.put, List.setIfInBounds_toArray, List.set_cons_zero, List.set_cons_succ], ?_⟩
          exact ⟨fun h => hF.out.f0 (by simpa using h), fun h => hF.out.f1 (by simpa using h), fun h => hF.out.f2 (by simpa using h), fun h => hF.out.f3 (by simpa using h), fun h => hF.out.f4 (by simpa using h), fun _ => rfl, fun h => hF.out.f6 (by simpa using h), fun h => by have := HN7.out; simp [this] at h, fun h => by have := hF.out.o6_2 (by simpa using h); simpa using this, fun _ => by simp, hF.out.kp.trans (hb1.mono hF.out.kp.size), fun h => own_same (hF.out.a2 (by simpa using h)) fun k hk => hb1.block k ((hF.out.a2 (by simpa using h)).lt k hk).2, fun _ => HOW.out⟩
        · intro d a W hI hd hdep
          obtain ⟨k1, c1, k2, c2, x10, x11, x77, x78, x79, x80, x81, x82, rfl, hF⟩ := hI
          have hd2 : d 2 = true := dep_of hdep 2 (by kernel_rfl)
          obtain rfl := hF.out.f2 hd2
          have e6_2 := hd2
          clear hdep hd hd2
          intro K hK
          simp only [Act.put, List.setIfInBounds_toArray, List.set_cons_zero, List.set_cons_succ]
          go_simp
          refine hK.out _ _ ⟨k1, c1, k2, c2, (.slice (some ⟨k1, 0, none⟩) N c1), x11, x77, x78, (.slice (some ⟨k1, 0, none⟩) N c1), x80, x81, x82, by simp only [Act.put, List.setIfInBounds_toArray, List.set_cons_zero, List.set_cons_succ], ?_⟩
          exact ⟨fun h => hF.out.f0 (by simpa using h), fun h => hF.out.f1 (by simpa using h), fun h => hF.out.f2 (by simpa using h), fun h => hF.out.f3 (by simpa using h), fun h => hF.out.f4 (by simpa using h), fun h => hF.out.f5 (by simpa using h), fun _ => rfl, fun h => hF.out.f7 (by simpa using h), fun _ => by simpa using e6_2, fun h => by have := hF.out.o7_5 (by simpa using h); simpa using this, hF.out.kp, fun h => hF.out.a2 (by simpa using h), fun h => hF.out.a5 (by simpa using h)⟩
        · intro d a W hI hd hdep
          obtain ⟨k1, c1, k2, c2, x10, x11, x77, x78, x79, x80, x81, x82, rfl, hF⟩ := hI
          have hd5 : d 5 = true := dep_of hdep 5 (by kernel_rfl)
          obtain rfl := hF.out.f5 hd5
          have e7_5 := hd5
          clear hdep hd hd5
          intro K hK
          simp only [Act.put, List.setIfInBounds_toArray, List.set_cons_zero, List.set_cons_succ]
          go_simp
          refine hK.out _ _ ⟨k1, c1, k2, c2, x10, (.slice (some ⟨k2, 0, none⟩) N c2), x77, x78, x79, x80, x81, (.slice (some ⟨k2, 0, none⟩) N c2), by simp only [Act.put, List.setIfInBounds_toArray, List.set_cons_zero, List.set_cons_succ], ?_⟩
          exact ⟨fun h => hF.out.f0 (by simpa using h), fun h => hF.out.f1 (by simpa using h), fun h => hF.out.f2 (by simpa using h), fun h => hF.out.f3 (by simpa using h), fun h => hF.out.f4 (by simpa using h), fun h => hF.out.f5 (by simpa using h), fun h => hF.out.f6 (by simpa using h), fun _ => rfl, fun h => by have := hF.out.o6_2 (by simpa using h); simpa using this, fun _ => by simpa using e7_5, hF.out.kp, fun h => hF.out.a2 (by simpa using h), fun h => hF.out.a5 (by simpa using h)⟩
      · intro d a W hI hall
        obtain ⟨k1, c1, k2, c2, x10, x11, x77, x78, x79, x80, x81, x82, rfl, hF⟩ := hI
        simp only [List.length_cons, List.length_nil] at hall
        obtain rfl := hF.out.f0 (hall 0 (by omega))
        obtain rfl := hF.out.f1 (hall 1 (by omega))
        obtain rfl := hF.out.f2 (hall 2 (by omega))
        obtain rfl := hF.out.f3 (hall 3 (by omega))
        obtain rfl := hF.out.f4 (hall 4 (by omega))
        obtain rfl := hF.out.f5 (hall 5 (by omega))
        obtain rfl := hF.out.f6 (hall 6 (by omega))
        obtain rfl := hF.out.f7 (hall 7 (by omega))
        have HK9 : Hid (Rw W (.slice (some ⟨k1, 0, none⟩) N c1) N F ∧ Ts W (.slice (some ⟨k2, 0, none⟩) N c2) N U ∧ x9.heap.size ≤ k1 ∧ x9.heap.size ≤ k2) := by
          have q2 := hF.out.a2 (hall 2 (by omega))
          have q5 := hF.out.a5 (hall 5 (by omega))
          exact ⟨rw_own q2 (by have := HNN.out.2; omega) HFU.out.1, ts_own q5 (by have := HNN.out.2; omega) HFU.out.2, (q2.lt k1 rfl).1, (q5.lt k2 rfl).1⟩
        have HOA9 : Hid (OA w n n R T (.slice ra n rc) (.slice ta n tc) l3 g1 g2 gi W) := HOA7.out.next hF.out.kp
        have HOB9 : Hid (OB n N (fsts n R 256).length F U XV T2 gM gN gt ct gP BB (.slice ra3 N rc3) (.slice ta3 N tc3) V l W) := HOB7.out.next hF.out.kp
        have HOU9 : Hid (OU n (fun i j => if i < n ∧ j < 256 then R i ((fsts n R 256).getD (ofp n R j) 0) else 0) T gU (.slice ra5 n rc5) (.slice ta5 n tc5) W) := HOU7.out.next hF.out.kp
        have HS9 : Hid (x9.heap.size ≤ W.heap.size) := hF.out.kp.size
        clear hF hall HOA7 HOB7 HOU7 HB9
        simp only [Act.put, List.setIfInBounds_toArray, List.set_cons_zero, List.set_cons_succ]
        obtain ⟨W9, rfl⟩ : ∃ W9, W9 = W := ⟨_, rfl⟩
        have HX : Hid (Sx W9 g1 g2 s2 s3 gN n (fsts n R 256).length gt ct V W9) := Sx.start HOA9.out HOB9.out HCL.out HZP.out.1 HZP.out.2
        -- in's rows are spoiled
        obtain ⟨f1, hf1⟩ := HX.out.o1
        have hsp := spoilR_any g1 n (n + 3) _ f1 l0 W9 hf1 (Nat.le_refl _) (by omega) (by have := HN0.out.2.1; omega) HL0.out.1 HL0.out.2
        rw [← HZ0.out] at hsp
        have HF1 : Hid (W9.rowIs g1 42 ((n + 3) * 256) f1) := hf1
        clear hf1
        have hz42 := HZ42.out
        have ya := HOA9.out.bi.c0
        go_wp2_with fail
        refine hsp.mono ?_
        rintro _ wa ⟨rfl, ⟨f2, hf2⟩, hg⟩
        have HXa : Hid (Sx W9 g1 g2 s2 s3 gN n (fsts n R 256).length gt ct V wa) := HX.out.spoil hg HF1.out hf2 (Or.inl rfl)
        clear hsp hf2 hg ya HF1 HX hz42
        -- in's tags
        have HBI : Hid (Bb gi (.slice (some ⟨g1, 0, none⟩) n (n + 3)) (.slice (some ⟨g2, 0, none⟩) n (n + 3)) wa) := HXa.out.box HOA9.out.bi (fun e => HOA9.out.ne.2.1 e.symm) (fun e => HOA9.out.ne.2.2.1 e.symm) (Or.inl HZI.out.2.2.2)
        obtain ⟨f1, hf1⟩ := HXa.out.o2
        have hsp := spoilT_any g2 n (n + 3) _ f1 (-1) wa hf1 (Nat.le_refl _) (by omega) (by have := HN0.out.2.1; omega)
        have HF1 : Hid (wa.rowIs g2 3 (n + 3) f1) := hf1
        clear hf1
        have ya := HBI.out.c1
        go_wp2_with fail
        refine hsp.mono ?_
        rintro _ wb ⟨rfl, ⟨f2, hf2⟩, hg⟩
        have HXb : Hid (Sx W9 g1 g2 s2 s3 gN n (fsts n R 256).length gt ct V wb) := HXa.out.spoil hg HF1.out hf2 (Or.inr (Or.inl rfl))
        clear hsp hf2 hg ya HF1 HXa HBI
        -- p's rows
        have HPC : Hid (∀ W : World, Sx W9 g1 g2 s2 s3 gN n (fsts n R 256).length gt ct V W → W.cell? ⟨gP, 256, none⟩ = some (.slice (some ⟨gN, 0, none⟩) n n) ∧ W.cell? ⟨gP, 257, none⟩ = some (.slice (some ⟨gt, 0, none⟩) n ct)) := fun W hx => by
          have e := hx.blk gP HOB9.out.pg.lt (by have := HZI.out; have := HZB.out; omega) (by have := HZI.out; have := HZB.out; omega) (Or.inr (Or.inl HZB.out.2.2.1))
          have c0 := HOB9.out.pg.rng 256 _ HNV.out.1
          have c1 := HOB9.out.pg.rng 257 _ HNV.out.2
          rw [Nat.zero_add] at c0 c1
          exact ⟨(cell_as e 256).trans c0, (cell_as e 257).trans c1⟩
        have ya := (HPC.out wb HXb.out).1
        go_wp2_with fail
        go_loopw [93] (fun z wr => ∃ k : Nat, k ≤ n ∧ z = .int .i64 (k : Int) ∧ Hid (Sx W9 g1 g2 s2 s3 gN n (fsts n R 256).length gt ct V wr)) (fun z _ => n - (intOf z).toNat)
        case atStart => exact ⟨0, by omega, rfl, HXb⟩
        case round =>
          clear HXb ya
          obtain ⟨k, hk, rfl, HXk⟩ := hrel
          by_cases hlt : k < n
          · obtain ⟨g, cap, f, hv, h1, h2, h3, h4, h5, h6⟩ := HXk.out.pv k hlt
            have yb : wr.cell? ⟨gN, k, none⟩ = some (.slice (some ⟨g, 0, none⟩) (fsts n R 256).length cap) := by
              have e := HXk.out.blk gN HOB9.out.tn.top.lt (by have := HZI.out; have := HZP.out.1; omega) (by have := HZI.out; have := HZP.out.1; omega) (Or.inr (Or.inr rfl))
              rw [← hv]
              exact (cell_as e k).trans (HOB9.out.tn.top.cell hlt)
            have hn200 := HN0.out.2.1
            have hk0 : (0 : Int) ≤ (k : Int) := by omega
            have hk1 : (k : Int) < (n : Int) := by omega
            have hsp := spoilT_any g (fsts n R 256).length cap _ f 0 wr h6 (Nat.le_refl _) h1 h2
            have HF : Hid (wr.rowIs g 3 cap f) := h6
            have HG : Hid (gN < g ∧ s2 ≤ g ∧ g < s3) := ⟨h3, h4, h5⟩
            obtain ⟨cl, HCLE⟩ : ∃ q, Hid ((fsts n R 256).length = q) := ⟨_, (rfl : _ = _)⟩
            rw [HCLE.out] at yb hsp
            clear hv h1 h2 h3 h4 h5 h6
            go_wp2_with fail
            refine hsp.mono ?_
            rintro _ wc ⟨rfl, ⟨f2, hf2⟩, hg⟩
            have HXc : Hid (Sx W9 g1 g2 s2 s3 gN n (fsts n R 256).length gt ct V wc) := HXk.out.spoil hg HF.out hf2 (Or.inr (Or.inr ⟨HG.out.2.1, HG.out.2.2, by have := HG.out.1; omega⟩))
            clear hsp hf2 hg yb HF HXk
            go_wp2_with fail
            go_roundw
            case rel => exact ⟨k + 1, by omega, by go_num, HXc⟩
            case measure => simp [intOf]; omega
          · have hk1 : ¬ (k : Int) < (n : Int) := by omega
            -- p's tags
            obtain ⟨f1, hf1⟩ := HXk.out.tg
            have hsp := spoilT_any gt n ct _ f1 (-1) wr hf1 (Nat.le_refl _) HOB9.out.tg.2.2.1 HOB9.out.tg.2.2.2
            have HF1 : Hid (wr.rowIs gt 3 ct f1) := hf1
            have ya := (HPC.out wr HXk.out).2
            clear hf1
            go_wp2_with fail
            refine hsp.mono ?_
            rintro _ wd ⟨rfl, ⟨f2, hf2⟩, hg⟩
            have HXd : Hid (Sx W9 g1 g2 s2 s3 gN n (fsts n R 256).length gt ct V wd) := HXk.out.spoil hg HF1.out hf2 (Or.inr (Or.inr HZT.out))
            clear hsp hf2 hg ya HF1 HXk HPC
            -- what is left
            have hxd := HXd.out
            have kp : ∀ v : Value, (∀ b, v.ownBlock = some b → b ≠ g1 ∧ b ≠ g2 ∧ (b < s2 ∨ s3 ≤ b)) → ∀ b, v.ownBlock = some b → b < W9.heap.size → wd.heap[b]? = W9.heap[b]? := fun v hv b hb hl => hxd.blk b hl (hv b hb).1 (hv b hb).2.1 ((hv b hb).2.2.imp id Or.inl)
            have hlate : ∀ b, s3 ≤ b → b ≠ g1 ∧ b ≠ g2 ∧ (b < s2 ∨ s3 ≤ b) := fun b hb => by have := HZI.out; have := HZB.out; omega
            have hmid : ∀ b, (((.slice ra3 N rc3) : Value).ownBlock = some b ∨ ((.slice ta3 N tc3) : Value).ownBlock = some b) → b ≠ g1 ∧ b ≠ g2 ∧ (b < s2 ∨ s3 ≤ b) := fun b hb => by have := HZM.out b hb; have := HZI.out; omega
            have HR1 : Hid (Rw wd (.slice ra3 N rc3) N F) := HOB9.out.rm.keep hxd.size (kp _ fun b hb => hmid b (Or.inl hb))
            have HT1 : Hid (Ts wd (.slice ta3 N tc3) N U) := HOB9.out.tm.keep hxd.size (kp _ fun b hb => hmid b (Or.inr hb))
            have HR2 : Hid (Rw wd (.slice (some ⟨k1, 0, none⟩) N c1) N F) := HK9.out.1.keep hxd.size (kp _ fun b hb => hlate b (by simp [Value.ownBlock] at hb; have := HK9.out.2.2.1; have := HZB.out; omega))
            have HT2 : Hid (Ts wd (.slice (some ⟨k2, 0, none⟩) N c2) N U) := HK9.out.2.1.keep hxd.size (kp _ fun b hb => hlate b (by simp [Value.ownBlock] at hb; have := HK9.out.2.2.2; have := HZB.out; omega))
            have HR3 : Hid (Rw wd (.slice ra5 n rc5) n (fun i j => if i < n ∧ j < 256 then R i ((fsts n R 256).getD (ofp n R j) 0) else 0)) := HOU9.out.ru.keep hxd.size (kp _ fun b hb => hlate b (HZU.out b (Or.inl hb)))
            have HT3 : Hid (Ts wd (.slice ta5 n tc5) n T) := HOU9.out.tu.keep hxd.size (kp _ fun b hb => hlate b (HZU.out b (Or.inr hb)))
            have HBM : Hid (Bb gM (.slice ra3 N rc3) (.slice ta3 N tc3) wd) := hxd.box HOB9.out.bm (by have := HZI.out; have := HZB.out; omega) (by have := HZI.out; have := HZB.out; omega) (Or.inl HZB.out.1)
            have HBU : Hid (Bb gU (.slice ra5 n rc5) (.slice ta5 n tc5) wd) := hxd.box HOU9.out.bu (hlate gU HZB.out.2.2.2.1).1 (hlate gU HZB.out.2.2.2.1).2.1 (Or.inr HZB.out.2.2.2.1)
            have HBD : Hid (Bb w.heap.size (.slice ra n rc) (.slice ta n tc) wd) := hxd.box HOA9.out.bd (by have := (HOA9.out.o1.lt g1 rfl).1; omega) (by have := (HOA9.out.o2.lt g2 rfl).1; omega) (Or.inl (by have := HZI.out; have := HOA9.out.ne; omega))
            have HBW : Hid (Below w.heap.size w wd) := hxd.below HOA9.out.below (by have := (HOA9.out.o1.lt g1 rfl).1; omega) (by have := (HOA9.out.o2.lt g2 rfl).1; omega) (by have := HZI.out; have := HOA9.out.ne; omega)
            clear kp hlate hmid hxd HXd HOB9 HOA9 HOU9 HK9
            have hq := equalR_any (.slice ra3 N rc3) (.slice (some ⟨k1, 0, none⟩) N c1) N N F F wd HR1.out HR2.out
            rw [eqR_refl N _ _ (fun _ _ _ _ => rfl)] at hq
            have ya := HBM.out.c0
            go_wp2_with fail
            refine hq.mono ?_
            rintro _ we ⟨rfl, hb⟩
            have HBM2 := HBM.out.next hb
            have HT12 : Hid (Ts we (.slice ta3 N tc3) N U ∧ Ts we (.slice (some ⟨k2, 0, none⟩) N c2) N U) := ⟨HT1.out.below hb (Nat.le_refl _), HT2.out.below hb (Nat.le_refl _)⟩
            have HU2 : Hid (Rw we (.slice ra5 n rc5) n (fun i j => if i < n ∧ j < 256 then R i ((fsts n R 256).getD (ofp n R j) 0) else 0) ∧ Ts we (.slice ta5 n tc5) n T ∧ Bb gU (.slice ra5 n rc5) (.slice ta5 n tc5) we ∧ Bb w.heap.size (.slice ra n rc) (.slice ta n tc) we ∧ Below w.heap.size w we) := ⟨HR3.out.below hb (Nat.le_refl _), HT3.out.below hb (Nat.le_refl _), HBU.out.next hb, HBD.out.next hb, HBW.out.trans (hb.mono HBW.out.size)⟩
            clear hq ya hb HBM HR1 HR2 HT1 HT2 HR3 HT3 HBU HBD HBW
            have hq := equalT_any (.slice ta3 N tc3) (.slice (some ⟨k2, 0, none⟩) N c2) N N U U we HT12.out.1 HT12.out.2
            rw [eqT_refl N _ _ (fun _ _ => rfl)] at hq
            have ya := HBM2.c1
            clear HBM2
            go_wp2_with fail
            refine hq.mono ?_
            rintro _ wf ⟨rfl, hb⟩
            have HU3 : Hid (Rw wf (.slice ra5 n rc5) n (fun i j => if i < n ∧ j < 256 then R i ((fsts n R 256).getD (ofp n R j) 0) else 0) ∧ Ts wf (.slice ta5 n tc5) n T ∧ Bb gU (.slice ra5 n rc5) (.slice ta5 n tc5) wf ∧ Bb w.heap.size (.slice ra n rc) (.slice ta n tc) wf ∧ Below w.heap.size w wf) := ⟨HU2.out.1.below hb (Nat.le_refl _), HU2.out.2.1.below hb (Nat.le_refl _), HU2.out.2.2.1.next hb, HU2.out.2.2.2.1.next hb, HU2.out.2.2.2.2.trans (hb.mono HU2.out.2.2.2.2.size)⟩
            clear hq ya hb HT12 HU2
            have hq := sameDfa_any (.slice ra5 n rc5) (.slice ta5 n tc5) (.slice ra n rc) (.slice ta n tc) n n n n (fun i j => if i < n ∧ j < 256 then R i ((fsts n R 256).getD (ofp n R j) 0) else 0) R T T wf HU3.out.1 HU3.out.2.1 (HRW.out.below HU3.out.2.2.2.2 (Nat.le_refl _)) (HTS.out.below HU3.out.2.2.2.2 (Nat.le_refl _))
            rw [eqR_refl n _ _ (fun i j hi hj => by rw [if_pos ⟨hi, hj⟩]; exact (ofp_at n R hj).2 i hi), eqT_refl n _ _ (fun _ _ => rfl)] at hq
            have HQ : Hid (Calls Try.prog 11 #[.agg #[(.slice ra5 n rc5), (.slice ta5 n tc5)], .agg #[(.slice ra n rc), (.slice ta n tc)]] wf fun e w' => e = .returned (.bool (true && true)) ∧ Below wf.heap.size wf w') := hq
            have y0 := HU3.out.2.2.1.c0
            have y1 := HU3.out.2.2.1.c1
            have y2 := HU3.out.2.2.2.1.c0
            have y3 := HU3.out.2.2.2.1.c1
            clear hq
            go_wp2_with fail
            refine HQ.out.mono ?_
            rintro _ wg ⟨rfl, hb⟩
            have HBE : Hid (Below w.heap.size w wg) := HU3.out.2.2.2.2.trans (hb.mono HU3.out.2.2.2.2.size)
            clear hb HQ y0 y1 y2 y3 HU3
            go_wp2_with fail
            go_ret
            exact ⟨rfl, HBE.out⟩
    · have hc0 : (c == 0) = false := by simp [h0]
      have hc1 : (c != 0) = true := by simp [h0]
      have hcc : (c == c) = true := by simp
      have hmb := min_bad (.slice (some ⟨g1, 0, none⟩) n (n + 3)) (.slice (some ⟨g2, 0, none⟩) m (m + 3)) n m R T X1 HRI.out.1 HRI.out.2 (by rw [HC.out]; exact h0)
      rw [HC.out] at hmb
      have ya := HOA.out.bi.c0
      have yb := HOA.out.bi.c1
      go_wp2_with fail
      refine hmb.mono ?_
      rintro _ w2 ⟨rfl, hb⟩
      have HOA2 : Hid (OA w n m R T (.slice ra n rc) (.slice ta m tc) l3 g1 g2 gi w2) := HOA.out.next hb
      have HRI2 : Hid (Rw w2 (.slice (some ⟨g1, 0, none⟩) n (n + 3)) n R ∧ Ts w2 (.slice (some ⟨g2, 0, none⟩) m (m + 3)) m T) := ⟨HRI.out.1.below hb (Nat.le_refl _), HRI.out.2.below hb (Nat.le_refl _)⟩
      clear hb hmb ya yb HOA HRI
      have hbx := below_box w2 (Obj.cells #[.slice none 0 0, .slice none 0 0] 25)
      have hnb := Bb.box w2 (.slice none 0 0) (.slice none 0 0) 25
      obtain ⟨gM, HGM⟩ : ∃ q, Hid (w2.heap.size = q) := ⟨_, (rfl : _ = _)⟩
      obtain ⟨x2, HX2⟩ : ∃ q, Hid (w2.alloc (Obj.cells #[.slice none 0 0, .slice none 0 0] 25) = q) := ⟨_, (rfl : _ = _)⟩
      rw [HX2.out] at hbx hnb
      rw [HGM.out] at hnb
      have HOA3 : Hid (OA w n m R T (.slice ra n rc) (.slice ta m tc) l3 g1 g2 gi x2) := HOA2.out.next hbx
      have HBM : Hid (Bb gM (.slice none 0 0) (.slice none 0 0) x2) := hnb
      have hpb := pack_bad (.slice (some ⟨g1, 0, none⟩) n (n + 3)) (.slice (some ⟨g2, 0, none⟩) m (m + 3)) n m R T x2 (HRI2.out.1.below hbx (Nat.le_refl _)) (HRI2.out.2.below hbx (Nat.le_refl _)) (by rw [HC.out]; exact h0)
      rw [HC.out, ← HZS.out.2] at hpb
      clear hbx hnb HOA2 HRI2
      go_upto_region 3 with fail
      rw [HX2.out, HGM.out]
      clear HX2 HGM
      have ya := HOA3.out.bi.c0
      have yb := HOA3.out.bi.c1
      have hz47 := HZ47.out
      go_wp2_with fail
      refine hpb.mono ?_
      rintro _ w4 ⟨rfl, hb⟩
      have HOA4 : Hid (OA w n m R T (.slice ra n rc) (.slice ta m tc) l3 g1 g2 gi w4) := HOA3.out.next hb
      have HBM4 : Hid (Bb gM (.slice none 0 0) (.slice none 0 0) w4) := HBM.out.next hb
      have hz256 := HRN.out w4
      have hbx := below_box w4 (Obj.cells zs 47)
      have hbm := HBM4.out.next hbx
      have HBE : Hid (Below w.heap.size w (w4.alloc (Obj.cells zs 47))) := (HOA4.out.next hbx).below
      clear hpb ya yb hb HOA3 HBM HOA4 HBM4 hbx
      have y0 := hbm.c0
      clear hbm
      go_wp2_with (refine wpList_store_new47 rfl _ _ rfl zs zs rfl rfl HZS.out.1 HZS.out.1 HZ1.out ?_)
      go_ret
      exact ⟨rfl, HBE.out⟩

/-! ### What the walk gives, for every argument -/
set_option maxRecDepth 100000 in
theorem contract (H : Type) (enc : TypeId × Value → H) (W : World) (base : Nat) (args : Array Value) (ds gs : List (DataW H)) (before : List MemPlace)
    (hval : ∀ (j : Nat) t v, Try.f8.params[j]? = some t → args[j]? = some v → Value.okWide Try.prog W .any base t v)
    (hW : DataW.Whole enc Try.prog Try.f8.params.toList Rows.smallOwnSpec.vars false W args.toList ds gs before) (hsz : (DataW.weightsEach Try.prog (Try.f8.params.toList ++ Rows.smallOwnSpec.plain.varTypes Try.prog) (ds ++ gs)).all (· ≤ reachBytes) = true) :
    Calls Try.prog 8 args W fun e W' => ∃ v, e = .returned v ∧ Rows.smallOwnSpec.post enc Try.prog Try.f8 false true false false W args v W' := by
  have hW' := hW
  obtain ⟨p, q, hA0, hV, rfl, hfz, hnd⟩ := hW
  have hA : DataW.TrodAll enc Try.prog W 0 (fun _ => true) true Try.f8.params.toList args.toList ds p := hA0
  rw [Try.params8] at hA hval hsz
  obtain ⟨v0, vs0, d0, ds0, p0, q0, hargs, rfl, rfl, h0, r0⟩ := trodAll_cons hA
  obtain ⟨rfl, rfl, rfl⟩ := trodAll_nil r0
  obtain rfl : args = #[v0] := by cases args; simp_all
  obtain ⟨rfl, rfl⟩ := trodVars_none hV
  have k0 := h0
  have lt0 : ∀ x ∈ p0, x.block < W.heap.size := by obtain ⟨m, hm⟩ := k0; exact DataW.trod_lt m _ _ _ hm
  obtain ⟨a0r, a0t, a0n, a0m, a0R, a0T, rfl, w0s, w0u, w0p, w0q, w0y⟩ := open_dfa_own (hval 0 25 v0 rfl rfl) h0
  have r0z : a0n ≤ 274877906944 ∧ a0m ≤ 17592186043904 := by
    obtain ⟨y0, y1⟩ := w0y
    constructor
    · rcases y0 with h | ⟨q, q1, q2⟩
      · omega
      · have := sized_each hsz (j := 0) (t := 25) rfl rfl q2
        simp only [reachBytes] at this
        omega
    · rcases y1 with h | ⟨q, q1, q2⟩
      · omega
      · have := sized_each hsz (j := 0) (t := 25) rfl rfl q2
        simp only [reachBytes] at this
        omega
  clear hA0
  refine (walk a0r a0t a0n a0m a0R a0T W w0s w0u w0p w0q r0z).mono fun e W' ⟨he, bel⟩ => ?_
  subst he
  exact ⟨_, rfl, _, _, _, [], _, [], hW', trodAll_mk1 (shut_bool Try.underlying4 _), (trodAll_cons_mk (Below.trod laidOut (by kernel_rfl) (of_decide_eq_true (by kernel_rfl)) k0 bel lt0) trodAll_mk0), rfl, bel.frame _, fun h => by cases h⟩

/-! ### The row's step -/
set_option maxRecDepth 100000 in
theorem lifted (os : Os) (started : os.Started) (H : Type) (enc : TypeId × Value → H) :
    ReturnsInHanded {} Try.checked os 8 .any (Rows.smallOwnSpec.pre6 enc Try.prog Try.f8 Rows.smallOwnRow.domain false) (Rows.smallOwnSpec.post enc Try.prog Try.f8 false true false false) := by
  refine returnsInHanded_of_change_sized (C := Try.checked) own started (by kernel_rfl) Try.func8
    (ChangeSpec.witness6 (enc := enc) (C := Try.checked) false ⟨#[], #[.agg #[.slice none 0 0, .slice none 0 0]], []⟩ 8 (by kernel_rfl) (by kernel_rfl) (by kernel_rfl) (by kernel_rfl)) ?_
  intro W base args ds gs before hval hW hcnd hsz _
  exact contract H enc W base args ds gs before hval hW hsz

theorem over : Rows.smallOwnRow.holds Try.pinned (OpenSpec.ofChange Rows.smallOwnSpec) :=
  OpenClaim.holds_of_wide 8 Try.f8 rfl rfl rfl rfl rfl rfl rfl ⟨rfl, rfl, rfl, rfl, rfl⟩ rfl rfl rfl rfl rfl (by kernel_rfl) Try.func8 (by kernel_rfl)
    (of_decide_eq_true (by kernel_rfl)) (by unfold Func.isWrapper; first | (rw [if_pos (by decide +kernel)]; kernel_rfl) | (rw [if_neg (by decide +kernel)]; exact ⟨rfl, rfl⟩))
    (fun os started H enc _ => lifted os started H enc)

end Go.Proofs.Ytlgcggfenljdnaa.smallOwn
namespace Go.Proofs.Ytlgcggfenljdnaa
/-- The given statement. -/
theorem smallOwn_holds : Rows.SmallOwnSaid := smallOwn.over
#print axioms smallOwn_holds
end Go.Proofs.Ytlgcggfenljdnaa
