/-
  SmallTold returns true whatever two automata are handed in, and changes nothing that it was handed; no condition.
-/
import Derived.Test.YtcddomihkamhcaaRows
import Derived.WalkKit
import Derived.ProofKit
import Derived.OpenShut
import Derived.ShutString
import Derived.SizedLaws
import Derived.ChangeOld
import Derived.Below
import Derived.Carry
import Derived.WalkLawsBesides
import Derived.WalkSpells
import Derived.Test.YtcddomihkamhcaaOpens
import Derived.BigQuiet
import Derived.Test.YtcddomihkamhcaaApBox
namespace Go.Proofs.Ytcddomihkamhcaa.smallTold
open Go.ChangeShapes Go.WideShapes Go.ChangeAt Go.RowKit
open Go.ChangeMaps (open_string shut_string)
open Dfa
set_option linter.unusedVariables false

theorem own : ownKnob Try.prog.godebug = none := by kernel_rfl
theorem laidOut : laidOutB Try.prog = true := by kernel_rfl

/-! ### The walk: the Go text returns true. -/
set_option maxHeartbeats 4000000 in
set_option maxRecDepth 20000 in
theorem walk (a0r : Value) (a0t : Value) (a0n : Nat) (a0m : Nat) (a0R : Nat → Nat → Int) (a0T : Nat → Int) (a1r : Value) (a1t : Value) (a1n : Nat) (a1m : Nat) (a1R : Nat → Nat → Int) (a1T : Nat → Int) (w : World) (w0s : Rw w a0r a0n a0R) (w0u : Ts w a0t a0m a0T) (w1s : Rw w a1r a1n a1R) (w1u : Ts w a1t a1m a1T) :
    Calls Try.prog 4 #[.agg #[a0r, a0t], .agg #[a1r, a1t]] w fun e w' => e = .returned (.bool true) ∧ Below w.heap.size w w' := by
  have B0 : Below w.heap.size w ((w.alloc (Obj.cells #[a0r, a0t] 25)).alloc (Obj.cells #[a1r, a1t] 25)) := ((Below.refl _ _).alloc (Nat.le_refl _) _).alloc (by simp) _
  have H0 : Hid (Bx w a0r a0t a1r a1t ((w.alloc (Obj.cells #[a0r, a0t] 25)).alloc (Obj.cells #[a1r, a1t] 25))) := ⟨B0, by simp, by simp, by simp, by simp, by simp⟩
  have HRW : Hid (Rw w a0r a0n a0R ∧ Ts w a0t a0m a0T ∧ Rw w a1r a1n a1R ∧ Ts w a1t a1m a1T) := ⟨w0s, w0u, w1s, w1u⟩
  obtain ⟨ca, HCA⟩ : ∃ c, Hid (chk a0n a0m a0R a0T = c) := ⟨_, (rfl : _ = _)⟩
  obtain ⟨cb, HCB⟩ : ∃ c, Hid (chk a1n a1m a1R a1T = c) := ⟨_, (rfl : _ = _)⟩
  have hbd := zero35'
  obtain ⟨l0, HL0⟩ : ∃ l, Hid (rl (fun _ => 0) = l) := ⟨_, (rfl : _ = _)⟩
  rw [HL0.out] at hbd
  have HLL : Hid (l0.length = 256) := by show _ = _; rw [← HL0.out, rl_length]
  have HRL : Hid (∀ W : World, Rw (W.alloc (Obj.cells l0.toArray 35)) (.slice (some ⟨W.heap.size, 0, none⟩) 1 1) 1 (fun _ _ => 0)) := fun W => by rw [← HL0.out]; exact rw_one W
  obtain ⟨i35, hi35, hz35, hs35, hb35⟩ := info_parts info35
  have H35 : Hid (Try.prog.info? 35 = some i35 ∧ i35.zero = some (.agg (Array.replicate 256 (.int .i16 0))) ∧ i35.size = 256) := ⟨hi35, hz35, hs35⟩
  clear hi35 hz35 hs35 hb35 w0s w0u w1s w1u HL0
  go_enter Try.func4, Try.ntmps4
  go_wp2_with fail
  refine wp_buildSlice 22 35 1 _ rfl l0.toArray i35 _ Try.underlying22 H35.out.1 H35.out.2.1 (by rw [H35.out.2.2]; omega) (by rw [H35.out.2.2]; omega) ?hf ?_
  case hf =>
    rw [H35.out.2.2]
    simp only [List.map_toArray, List.map_cons, List.map_nil]
    exact fill_row l0 HLL.out _ (by simp)
  simp only [Act.put, List.setIfInBounds_toArray, List.set_cons_zero, List.set_cons_succ]
  go_wp2_with fail
  refine wp_buildSlice 22 35 1 _ rfl l0.toArray i35 _ Try.underlying22 H35.out.1 H35.out.2.1 (by rw [H35.out.2.2]; omega) (by rw [H35.out.2.2]; omega) ?hf ?_
  case hf =>
    rw [H35.out.2.2]
    simp only [List.map_toArray, List.map_cons, List.map_nil]
    exact fill_row l0 HLL.out _ (by simp)
  simp only [Act.put, List.setIfInBounds_toArray, List.set_cons_zero, List.set_cons_succ]
  go_wp2_with fail
  obtain ⟨W0, HW0⟩ : ∃ q, Hid (((w.alloc (Obj.cells #[a0r, a0t] 25)).alloc (Obj.cells #[a1r, a1t] 25)) = q) := ⟨_, (rfl : _ = _)⟩
  have hsz0 : W0.heap.size = w.heap.size + 1 + 1 := by rw [← HW0.out]; simp
  rw [HW0.out] at H0 B0 ⊢
  have hc := apart_any (.slice (some ⟨w.heap.size + 1 + 1, 0, none⟩) 1 1) (.slice (some ⟨w.heap.size + 1 + 1 + 1, 0, none⟩) 1 1) (.slice (some ⟨w.heap.size + 1 + 1 + 1 + 1, 0, none⟩) 1 1) (.slice (some ⟨w.heap.size + 1 + 1 + 1 + 1 + 1, 0, none⟩) 1 1) 1 1 1 1 (fun _ _ => 0) (fun _ _ => 0) (fun _ => 0) (fun _ => 1)
    ((((W0.alloc (Obj.cells l0.toArray 35)).alloc (Obj.cells #[Value.int IntKind.i64 0] 3)).alloc (Obj.cells l0.toArray 35)).alloc (Obj.cells #[Value.int IntKind.i64 1] 3))
    (by have := (HRL.out W0).below ((((Below.refl _ _).alloc (Nat.le_refl _) (Obj.cells #[Value.int IntKind.i64 0] 3)).alloc (by simp) (Obj.cells l0.toArray 35)).alloc (by first | (simp; done) | (simp; omega)) (Obj.cells #[Value.int IntKind.i64 1] 3)) (Nat.le_refl _); rwa [hsz0] at this)
    (by have := (ts_one (W0.alloc (Obj.cells l0.toArray 35)) 0 (by omega)).below (((Below.refl _ _).alloc (Nat.le_refl _) (Obj.cells l0.toArray 35)).alloc (by simp) (Obj.cells #[Value.int IntKind.i64 1] 3)) (Nat.le_refl _); rwa [World.size_alloc, hsz0] at this)
    (by have := (HRL.out ((W0.alloc (Obj.cells l0.toArray 35)).alloc (Obj.cells #[Value.int IntKind.i64 0] 3))).below ((Below.refl _ _).alloc (Nat.le_refl _) (Obj.cells #[Value.int IntKind.i64 1] 3)) (Nat.le_refl _); rwa [World.size_alloc, World.size_alloc, hsz0] at this)
    (by have := ts_one (((W0.alloc (Obj.cells l0.toArray 35)).alloc (Obj.cells #[Value.int IntKind.i64 0] 3)).alloc (Obj.cells l0.toArray 35)) 1 (by omega); rwa [World.size_alloc, World.size_alloc, World.size_alloc, hsz0] at this)
  rw [chk_one 0 (by omega), chk_one 1 (by omega)] at hc
  have HBW : Hid (Below W0.heap.size W0 ((((W0.alloc (Obj.cells l0.toArray 35)).alloc (Obj.cells #[Value.int IntKind.i64 0] 3)).alloc (Obj.cells l0.toArray 35)).alloc (Obj.cells #[Value.int IntKind.i64 1] 3))) := ((((Below.refl _ _).alloc (Nat.le_refl _) _).alloc (by simp) _).alloc (by first | (simp; done) | (simp; omega)) _).alloc (by first | (simp; done) | (simp; omega)) _
  refine hc.mono ?_
  rintro _ w1 ⟨s, is, rfl, ht, -, -, hb⟩
  obtain ⟨rfl, hs⟩ := told_one (ht rfl rfl)
  obtain rfl : s = ⟨#[]⟩ := bytes_nil hs
  have H1 : Hid (Bx w a0r a0t a1r a1t w1) := H0.out.next (HBW.out.trans (hb.mono HBW.out.size))
  have c0 := H1.out.c0
  have c1 := H1.out.c1
  have c2 := H1.out.c2
  have c3 := H1.out.c3
  rw [show both 0 0 = 0 from rfl]
  clear hb ht hs hc HBW H0 B0 hsz0 HW0 hbd HRL H35 HLL
  go_wp2_with fail
  have hc := apart_any a0r a0t a1r a1t a0n a0m a1n a1m a0R a1R a0T a1T w1 (HRW.out.1.below H1.out.below (Nat.le_refl _)) (HRW.out.2.1.below H1.out.below (Nat.le_refl _)) (HRW.out.2.2.1.below H1.out.below (Nat.le_refl _)) (HRW.out.2.2.2.below H1.out.below (Nat.le_refl _))
  rw [HCA.out, HCB.out] at hc
  obtain ⟨e1, HE1⟩ : ∃ q, Hid (both ca cb = q) := ⟨_, (rfl : _ = _)⟩
  rw [HE1.out] at hc
  refine hc.mono ?_
  rintro _ w2 ⟨s, is, rfl, ht, hn, hl, hb⟩
  have HT1 : Hid ((ca = 0 → cb = 0 → Told a0R a1R a0T a1T s.data.toList is) ∧ (¬ (ca = 0 ∧ cb = 0) → s = ⟨#[]⟩ ∧ is = false) ∧ s.size ≤ 50000) := ⟨ht, hn, hl⟩
  have H2 : Hid (Bx w a0r a0t a1r a1t w2) := H1.out.next hb
  clear hb ht hn hl hc c0 c1 c2 c3 H1
  have c0 := H2.out.c0
  have c1 := H2.out.c1
  have c2 := H2.out.c2
  have c3 := H2.out.c3
  go_wp2_with fail
  have hc := apart_any a1r a1t a0r a0t a1n a1m a0n a0m a1R a0R a1T a0T w2 (HRW.out.2.2.1.below H2.out.below (Nat.le_refl _)) (HRW.out.2.2.2.below H2.out.below (Nat.le_refl _)) (HRW.out.1.below H2.out.below (Nat.le_refl _)) (HRW.out.2.1.below H2.out.below (Nat.le_refl _))
  rw [HCA.out, HCB.out] at hc
  obtain ⟨e2, HE2⟩ : ∃ q, Hid (both cb ca = q) := ⟨_, (rfl : _ = _)⟩
  rw [HE2.out] at hc
  refine hc.mono ?_
  rintro _ w3 ⟨s2, is2, rfl, ht, hn, hl, hb⟩
  have HT2 : Hid ((cb = 0 → ca = 0 → Told a1R a0R a1T a0T s2.data.toList is2) ∧ (¬ (cb = 0 ∧ ca = 0) → s2 = ⟨#[]⟩ ∧ is2 = false)) := ⟨ht, hn⟩
  have H3 : Hid (Bx w a0r a0t a1r a1t w3) := H2.out.next hb
  clear hb ht hn hl hc c0 c1 c2 c3 H2
  by_cases hok : ca = 0 ∧ cb = 0
  · obtain ⟨hca, hcb⟩ := hok
    subst hca
    subst hcb
    have hh := told_sym (HT1.out.1 rfl rfl) (HT2.out.1 rfl rfl)
    obtain ⟨his, hss⟩ := hh
    obtain rfl : is = is2 := his
    obtain rfl : s = s2 := bytes_ext hss
    have HTO : Hid (Told a0R a1R a0T a1T s.data.toList is) := HT1.out.1 rfl rfl
    have hsl : s.size ≤ 50000 := HT1.out.2.2
    obtain rfl : e1 = 0 := by rw [← HE1.out]; rfl
    obtain rfl : e2 = 0 := by rw [← HE2.out]; rfl
    clear hss HT1 HT2 HE1 HE2
    cases is
    case false =>
      have hse : s = ⟨#[]⟩ := by
        rcases HTO.out with ⟨h, _⟩ | ⟨-, h, -⟩
        · cases h
        · exact bytes_nil h
      have HSE : Hid (s = ⟨#[]⟩) := hse
      have hsb : (s.toList != []) = false := by rw [hse, ByteArray.toList_eq]; rfl
      have hsb2 : (s.toList == []) = true := by rw [hse, ByteArray.toList_eq]; rfl
      clear hse
      go_wp2_with fail
      go_loopw [14] (fun i wr => ∃ k : Nat, k ≤ s.size + 1 ∧ i = .int .i64 (k : Int) ∧ Hid (Bx w a0r a0t a1r a1t wr)) (fun i _ => s.size + 1 - (intOf i).toNat)
      case atStart => exact ⟨0, by omega, rfl, H3⟩
      case round =>
        obtain ⟨k, hk, rfl, HB⟩ := hrel
        by_cases hlt : k ≤ s.size
        · have hk0 : (0 : Int) ≤ (k : Int) := by omega
          have hk1 : (k : Int) ≤ (s.size : Int) := by omega
          have hex : (s.extract 0 k).data.toList = s.data.toList.take k := ext_take s k
          have hsz : (s.extract 0 k).size ≤ 9223372036854775807 := by simp; omega
          have hat := told_at HTO.out k (by rw [data_size]; exact hlt)
          rw [data_size] at hat
          obtain ⟨x, HX⟩ : ∃ q, Hid (tagOf a0T (goes a0R 0 (s.data.toList.take k)) = q) := ⟨_, (rfl : _ = _)⟩
          obtain ⟨y, HY⟩ : ∃ q, Hid (tagOf a1T (goes a1R 0 (s.data.toList.take k)) = q) := ⟨_, (rfl : _ = _)⟩
          rw [HX.out, HY.out] at hat
          have HTA : Hid (∀ p : Kp (Bx w a0r a0t a1r a1t), Calls Try.prog 8 #[.agg #[a0r, a0t], .string (s.extract 0 k)] p.W fun e w'' => e = .returned (.tuple #[.int .i64 x, .int .i64 0]) ∧ ∃ q : Kp (Bx w a0r a0t a1r a1t), w'' = q.W) := fun p => by
            have := Tag_any a0r a0t a0n a0m a0R a0T (s.extract 0 k) p.W (HRW.out.1.below p.h.below (Nat.le_refl _)) (HRW.out.2.1.below p.h.below (Nat.le_refl _)) hsz
            rw [tagAns_ok HCA.out, hex, HX.out, HCA.out] at this
            exact Kp.calls p (fun _ _ h hb => h.next hb) this
          have HTB : Hid (∀ p : Kp (Bx w a0r a0t a1r a1t), Calls Try.prog 8 #[.agg #[a1r, a1t], .string (s.extract 0 k)] p.W fun e w'' => e = .returned (.tuple #[.int .i64 y, .int .i64 0]) ∧ ∃ q : Kp (Bx w a0r a0t a1r a1t), w'' = q.W) := fun p => by
            have := Tag_any a1r a1t a1n a1m a1R a1T (s.extract 0 k) p.W (HRW.out.2.2.1.below p.h.below (Nat.le_refl _)) (HRW.out.2.2.2.below p.h.below (Nat.le_refl _)) hsz
            rw [tagAns_ok HCB.out, hex, HY.out, HCB.out] at this
            exact Kp.calls p (fun _ _ h hb => h.next hb) this
          have p0 : ∀ p : Kp (Bx w a0r a0t a1r a1t), p.W.cell? ⟨w.heap.size, 0, none⟩ = some a0r := fun p => p.h.c0
          have p1 : ∀ p : Kp (Bx w a0r a0t a1r a1t), p.W.cell? ⟨w.heap.size, 1, none⟩ = some a0t := fun p => p.h.c1
          have p2 : ∀ p : Kp (Bx w a0r a0t a1r a1t), p.W.cell? ⟨w.heap.size + 1, 0, none⟩ = some a1r := fun p => p.h.c2
          have p3 : ∀ p : Kp (Bx w a0r a0t a1r a1t), p.W.cell? ⟨w.heap.size + 1, 1, none⟩ = some a1t := fun p => p.h.c3
          have hne : Nonempty (Kp (Bx w a0r a0t a1r a1t)) := ⟨⟨_, HB.out⟩⟩
          have HXY : Hid ((x != y) = (false && decide (k = s.size))) := hat
          clear hex hsz hat
          go_wp2_with fail
          refine wp_region_kept mixed (by kernel_rfl) (HB.out.next (Below.refl _ _).drew) ?_
          repeat (go_big_quiet_step (first | (go_at_call 8; with_reducible exact HTA.out _)))
          refine wpQuiet_nil ?_
          intro W2 hw2
          obtain ⟨⟨W2, HS2⟩, rfl⟩ := hw2
          have HB2 : Hid (Bx w a0r a0t a1r a1t W2) := HS2
          clear HS2 HB HTA
          go_wp2_with fail
          refine wp_region_kept mixed (by kernel_rfl) (HB2.out.next (Below.refl _ _).drew) ?_
          repeat (go_big_quiet_step (first | (go_at_call 8; with_reducible exact HTB.out _)))
          refine wpQuiet_nil ?_
          intro W3 hw3
          obtain ⟨⟨W3, HS3⟩, rfl⟩ := hw3
          have HB3 : Hid (Bx w a0r a0t a1r a1t W3) := HS3
          clear HS3 HB2 HTB hne p0 p1 p2 p3
          by_cases hke : k = s.size
          · have hx : (x != y) = false := by rw [HXY.out, hke]; simp
            have hie : ((k : Int) == (s.size : Int)) = true := by rw [hke]; simp
            have HKE : Hid (k = s.size) := hke
            clear hke
            go_wp2_with fail
            go_roundw
            case rel => exact ⟨k + 1, by omega, by go_num, HB3⟩
            case measure => simp [intOf]; omega
          · have hx : (x != y) = false := by rw [HXY.out]; simp [hke]
            have hie : ((k : Int) == (s.size : Int)) = false := by simp; omega
            clear hke
            go_wp2_with fail
            go_roundw
            case rel => exact ⟨k + 1, by omega, by go_num, HB3⟩
            case measure => simp [intOf]; omega
        · have HBB : Hid (Below w.heap.size w wr) := HB.out.below
          have hk2 : ¬ ((k : Int) ≤ (s.size : Int)) := by omega
          go_wp2_with fail
          go_ret
          exact ⟨rfl, HBB.out⟩
    case true =>
      go_wp2_with fail
      go_loopw [14] (fun i wr => ∃ k : Nat, k ≤ s.size + 1 ∧ i = .int .i64 (k : Int) ∧ Hid (Bx w a0r a0t a1r a1t wr)) (fun i _ => s.size + 1 - (intOf i).toNat)
      case atStart => exact ⟨0, by omega, rfl, H3⟩
      case round =>
        obtain ⟨k, hk, rfl, HB⟩ := hrel
        by_cases hlt : k ≤ s.size
        · have hk0 : (0 : Int) ≤ (k : Int) := by omega
          have hk1 : (k : Int) ≤ (s.size : Int) := by omega
          have hex : (s.extract 0 k).data.toList = s.data.toList.take k := ext_take s k
          have hsz : (s.extract 0 k).size ≤ 9223372036854775807 := by simp; omega
          have hat := told_at HTO.out k (by rw [data_size]; exact hlt)
          rw [data_size] at hat
          obtain ⟨x, HX⟩ : ∃ q, Hid (tagOf a0T (goes a0R 0 (s.data.toList.take k)) = q) := ⟨_, (rfl : _ = _)⟩
          obtain ⟨y, HY⟩ : ∃ q, Hid (tagOf a1T (goes a1R 0 (s.data.toList.take k)) = q) := ⟨_, (rfl : _ = _)⟩
          rw [HX.out, HY.out] at hat
          have HTA : Hid (∀ p : Kp (Bx w a0r a0t a1r a1t), Calls Try.prog 8 #[.agg #[a0r, a0t], .string (s.extract 0 k)] p.W fun e w'' => e = .returned (.tuple #[.int .i64 x, .int .i64 0]) ∧ ∃ q : Kp (Bx w a0r a0t a1r a1t), w'' = q.W) := fun p => by
            have := Tag_any a0r a0t a0n a0m a0R a0T (s.extract 0 k) p.W (HRW.out.1.below p.h.below (Nat.le_refl _)) (HRW.out.2.1.below p.h.below (Nat.le_refl _)) hsz
            rw [tagAns_ok HCA.out, hex, HX.out, HCA.out] at this
            exact Kp.calls p (fun _ _ h hb => h.next hb) this
          have HTB : Hid (∀ p : Kp (Bx w a0r a0t a1r a1t), Calls Try.prog 8 #[.agg #[a1r, a1t], .string (s.extract 0 k)] p.W fun e w'' => e = .returned (.tuple #[.int .i64 y, .int .i64 0]) ∧ ∃ q : Kp (Bx w a0r a0t a1r a1t), w'' = q.W) := fun p => by
            have := Tag_any a1r a1t a1n a1m a1R a1T (s.extract 0 k) p.W (HRW.out.2.2.1.below p.h.below (Nat.le_refl _)) (HRW.out.2.2.2.below p.h.below (Nat.le_refl _)) hsz
            rw [tagAns_ok HCB.out, hex, HY.out, HCB.out] at this
            exact Kp.calls p (fun _ _ h hb => h.next hb) this
          have p0 : ∀ p : Kp (Bx w a0r a0t a1r a1t), p.W.cell? ⟨w.heap.size, 0, none⟩ = some a0r := fun p => p.h.c0
          have p1 : ∀ p : Kp (Bx w a0r a0t a1r a1t), p.W.cell? ⟨w.heap.size, 1, none⟩ = some a0t := fun p => p.h.c1
          have p2 : ∀ p : Kp (Bx w a0r a0t a1r a1t), p.W.cell? ⟨w.heap.size + 1, 0, none⟩ = some a1r := fun p => p.h.c2
          have p3 : ∀ p : Kp (Bx w a0r a0t a1r a1t), p.W.cell? ⟨w.heap.size + 1, 1, none⟩ = some a1t := fun p => p.h.c3
          have hne : Nonempty (Kp (Bx w a0r a0t a1r a1t)) := ⟨⟨_, HB.out⟩⟩
          have HXY : Hid ((x != y) = (true && decide (k = s.size))) := hat
          clear hex hsz hat
          go_wp2_with fail
          refine wp_region_kept mixed (by kernel_rfl) (HB.out.next (Below.refl _ _).drew) ?_
          repeat (go_big_quiet_step (first | (go_at_call 8; with_reducible exact HTA.out _)))
          refine wpQuiet_nil ?_
          intro W2 hw2
          obtain ⟨⟨W2, HS2⟩, rfl⟩ := hw2
          have HB2 : Hid (Bx w a0r a0t a1r a1t W2) := HS2
          clear HS2 HB HTA
          go_wp2_with fail
          refine wp_region_kept mixed (by kernel_rfl) (HB2.out.next (Below.refl _ _).drew) ?_
          repeat (go_big_quiet_step (first | (go_at_call 8; with_reducible exact HTB.out _)))
          refine wpQuiet_nil ?_
          intro W3 hw3
          obtain ⟨⟨W3, HS3⟩, rfl⟩ := hw3
          have HB3 : Hid (Bx w a0r a0t a1r a1t W3) := HS3
          clear HS3 HB2 HTB hne p0 p1 p2 p3
          by_cases hke : k = s.size
          · have hx : (x != y) = true := by rw [HXY.out, hke]; simp
            have hie : ((k : Int) == (s.size : Int)) = true := by rw [hke]; simp
            have HKE : Hid (k = s.size) := hke
            clear hke
            go_wp2_with fail
            go_roundw
            case rel => exact ⟨k + 1, by omega, by go_num, HB3⟩
            case measure => simp [intOf]; omega
          · have hx : (x != y) = false := by rw [HXY.out]; simp [hke]
            have hie : ((k : Int) == (s.size : Int)) = false := by simp; omega
            clear hke
            go_wp2_with fail
            go_roundw
            case rel => exact ⟨k + 1, by omega, by go_num, HB3⟩
            case measure => simp [intOf]; omega
        · have HBB : Hid (Below w.heap.size w wr) := HB.out.below
          have hk2 : ¬ ((k : Int) ≤ (s.size : Int)) := by omega
          go_wp2_with fail
          go_ret
          exact ⟨rfl, HBB.out⟩
  · have h1 := HT1.out.2.1 hok
    obtain ⟨rfl, rfl⟩ := h1
    have HE1' : Hid (¬ e1 = 0) := fun h => hok (by have := HE1.out; rw [h] at this; unfold both at this; split at this <;> omega)
    have HE2' : Hid (¬ e2 = 0) := fun h => hok (by have := HE2.out; rw [h] at this; unfold both at this; split at this <;> omega)
    have hb1 : (e1 != 0) = true := by simp; exact HE1'.out
    have hb2 : (e2 != 0) = true := by simp; exact HE2'.out
    have HBB : Hid (Below w.heap.size w w3) := H3.out.below
    clear hok
    go_wp2_with fail
    go_ret
    exact ⟨rfl, HBB.out⟩

/-! ### What the walk gives, for every argument -/
set_option maxRecDepth 100000 in
theorem contract (H : Type) (enc : TypeId × Value → H) (W : World) (base : Nat) (args : Array Value) (ds gs : List (DataW H)) (before : List MemPlace)
    (hval : ∀ (j : Nat) t v, Try.f4.params[j]? = some t → args[j]? = some v → Value.okWide Try.prog W .any base t v)
    (hW : DataW.Whole enc Try.prog Try.f4.params.toList Rows.smallToldSpec.vars false W args.toList ds gs before) (hsz : (DataW.weightsEach Try.prog (Try.f4.params.toList ++ Rows.smallToldSpec.plain.varTypes Try.prog) (ds ++ gs)).all (· ≤ reachBytes) = true) :
    Calls Try.prog 4 args W fun e W' => ∃ v, e = .returned v ∧ Rows.smallToldSpec.post enc Try.prog Try.f4 false true false false W args v W' := by
  have hW' := hW
  obtain ⟨p, q, hA0, hV, rfl, hfz, hnd⟩ := hW
  have hA : DataW.TrodAll enc Try.prog W 0 (fun _ => true) true Try.f4.params.toList args.toList ds p := hA0
  rw [Try.params4] at hA hval hsz
  obtain ⟨v0, vs0, d0, ds0, p0, q0, hargs, rfl, rfl, h0, r0⟩ := trodAll_cons hA
  obtain ⟨v1, vs1, d1, ds1, p1, q1, rfl, rfl, rfl, h1, r1⟩ := trodAll_cons r0
  obtain ⟨rfl, rfl, rfl⟩ := trodAll_nil r1
  obtain rfl : args = #[v0, v1] := by cases args; simp_all
  obtain ⟨rfl, rfl⟩ := trodVars_none hV
  have k0 := h0
  have lt0 : ∀ x ∈ p0, x.block < W.heap.size := by obtain ⟨m, hm⟩ := k0; exact DataW.trod_lt m _ _ _ hm
  obtain ⟨a0r, a0t, a0n, a0m, a0R, a0T, rfl, w0s, w0u⟩ := open_dfa (hval 0 25 v0 rfl rfl) h0
  have k1 := h1
  have lt1 : ∀ x ∈ p1, x.block < W.heap.size := by obtain ⟨m, hm⟩ := k1; exact DataW.trod_lt m _ _ _ hm
  obtain ⟨a1r, a1t, a1n, a1m, a1R, a1T, rfl, w1s, w1u⟩ := open_dfa (hval 1 25 v1 rfl rfl) h1
  clear hA0
  refine (walk a0r a0t a0n a0m a0R a0T a1r a1t a1n a1m a1R a1T W w0s w0u w1s w1u).mono fun e W' ⟨he, bel⟩ => ?_
  subst he
  exact ⟨_, rfl, _, _, _, [], _, [], hW', trodAll_mk1 (shut_bool Try.underlying4 _), (trodAll_cons_mk (Below.trod laidOut (by kernel_rfl) (of_decide_eq_true (by kernel_rfl)) k0 bel lt0) (trodAll_cons_mk (Below.trod laidOut (by kernel_rfl) (of_decide_eq_true (by kernel_rfl)) k1 bel lt1) trodAll_mk0)), rfl, bel.frame _, fun h => by cases h⟩

/-! ### The row's step -/
set_option maxRecDepth 100000 in
theorem lifted (os : Os) (started : os.Started) (H : Type) (enc : TypeId × Value → H) :
    ReturnsInHanded {} Try.checked os 4 .any (Rows.smallToldSpec.pre6 enc Try.prog Try.f4 Rows.smallToldRow.domain false) (Rows.smallToldSpec.post enc Try.prog Try.f4 false true false false) := by
  refine returnsInHanded_of_change_sized (C := Try.checked) own started (by kernel_rfl) Try.func4
    (ChangeSpec.witness6 (enc := enc) (C := Try.checked) false ⟨#[], #[.agg #[.slice none 0 0, .slice none 0 0], .agg #[.slice none 0 0, .slice none 0 0]], []⟩ 8 (by kernel_rfl) (by kernel_rfl) (by kernel_rfl) (by kernel_rfl)) ?_
  intro W base args ds gs before hval hW hcnd hsz _
  exact contract H enc W base args ds gs before hval hW hsz

theorem over : Rows.smallToldRow.holds Try.pinned (OpenSpec.ofChange Rows.smallToldSpec) :=
  OpenClaim.holds_of_wide 4 Try.f4 rfl rfl rfl rfl rfl rfl rfl ⟨rfl, rfl, rfl, rfl, rfl⟩ rfl rfl rfl rfl rfl (by kernel_rfl) Try.func4 (by kernel_rfl)
    (of_decide_eq_true (by kernel_rfl)) (by unfold Func.isWrapper; first | (rw [if_pos (by decide +kernel)]; kernel_rfl) | (rw [if_neg (by decide +kernel)]; exact ⟨rfl, rfl⟩))
    (fun os started H enc _ => lifted os started H enc)

end Go.Proofs.Ytcddomihkamhcaa.smallTold
namespace Go.Proofs.Ytcddomihkamhcaa
/-- The given statement. -/
theorem smallTold_holds : Rows.SmallToldSaid := smallTold.over
#print axioms smallTold_holds
end Go.Proofs.Ytcddomihkamhcaa
