/-
  The contract of slices.EqualFunc at rows of numbers, with slices.Equal.
-/
import Derived.Test.YtkogbokelaanjaaPkBad
namespace Go.Proofs.Ytkogbokelaanjaa
open Go.RowKit
open Dfa

def eqN (n m : Nat) (L M : Nat → Nat) (X Y : Nat → Nat → Int) : Bool := (n == m) && (List.range n).all fun i => eqT (L i) (M i) (X i) (Y i)
set_option maxHeartbeats 1600000 in
set_option maxRecDepth 20000 in
theorem equalF_any (xv yv : Value) (n m : Nat) (L M : Nat → Nat) (X Y : Nat → Nat → Int) (w : World) (hx : Nx w xv n L X) (hy : Nx w yv m M Y) :
    Calls Try.prog 18 #[xv, yv, .func (.func 19) #[] #[]] w fun e w' => e = .returned (.bool (eqN n m L M X Y)) ∧ Below w.heap.size w w' := by
  obtain ⟨ao, cap, rfl, hn, hcs⟩ := hx
  obtain ⟨ao', cap2, rfl, hm, hcs'⟩ := hy
  have HEQ : Hid (∀ (tv uv : Value) (n m : Nat) (T U : Nat → Int) (w : World), Ts w tv n T → Ts w uv m U → Calls Try.prog 19 #[tv, uv] w fun e w' => e = .returned (.bool (eqT n m T U)) ∧ Below w.heap.size w w') := fun _ _ _ _ _ _ _ h k => equalT_any _ _ _ _ _ _ _ h k
  go_enter Try.func18, Try.ntmps18
  by_cases hnm : n = m
  · subst hnm
    have hbb : ((n : Int) != (n : Int)) = false := by simp
    go_wp2_with fail
    go_loopw [17] (fun i wr => ∃ k : Nat, k ≤ n ∧ i = .int .i64 (k : Int) ∧ Hid (∀ i, i < k → eqT (L i) (M i) (X i) (Y i) = true) ∧ Below w.heap.size w wr) (fun i _ => n - (intOf i).toNat)
    case atStart => exact ⟨0, by omega, rfl, fun i hi => by omega, Below.refl _ _⟩
    case round =>
      obtain ⟨k, hk, rfl, HA, hbel⟩ := hrel
      by_cases hlt : k < n
      · obtain ⟨b, o, rfl, hb, hc⟩ := hcs.resolve_left (by omega)
        obtain ⟨b2, o2, rfl, hb2, hc2⟩ := hcs'.resolve_left (by omega)
        obtain ⟨u, hu1, hu2⟩ := hc k hlt
        obtain ⟨v, hv1, hv2⟩ := hc2 k hlt
        have c0 := (hbel.cell (p := ⟨b, o + k, none⟩) hb).trans hu1
        have c1 := (hbel.cell (p := ⟨b2, o2 + k, none⟩) hb2).trans hv1
        have HU : Hid (Ts w u (L k) (X k) ∧ Ts w v (M k) (Y k)) := ⟨hu2, hv2⟩
        have HB0 : Hid (Below w.heap.size w wr) := hbel
        have hk0 : (0 : Int) ≤ (k : Int) := by omega
        have hk1 : (k : Int) < (n : Int) := by omega
        clear hcs hc hcs' hc2 hbel hu1 hu2 hv1 hv2
        go_wp2_with (go_quiet (fail))
        have hq := HEQ.out u v (L k) (M k) (X k) (Y k) wr (HU.out.1.below HB0.out (Nat.le_refl _)) (HU.out.2.below HB0.out (Nat.le_refl _))
        obtain ⟨q, HQ⟩ : ∃ q, Hid (eqT (L k) (M k) (X k) (Y k) = q) := ⟨_, (rfl : _ = _)⟩
        rw [HQ.out] at hq
        refine hq.mono ?_
        rintro _ w2 ⟨rfl, hB⟩
        have HB2 : Hid (Below w.heap.size w w2) := HB0.out.trans (hB.mono HB0.out.size)
        clear hq hB HB0
        cases q with
        | true =>
          go_wp2_with fail
          go_roundw
          case rel =>
            refine ⟨k + 1, by omega, by go_num, fun i hi => ?_, HB2.out⟩
            by_cases e : i = k
            · subst e; exact HQ.out
            · exact HA.out i (by omega)
          case measure => simp [intOf]; omega
        | false =>
          go_wp2_with fail
          go_ret
          refine ⟨?_, HB2.out⟩
          rw [show eqN n n L M X Y = false by unfold eqN; rw [show (List.range n).all (fun i => eqT (L i) (M i) (X i) (Y i)) = false from all_false hlt HQ.out]; simp]
          rfl
      · have HB0 : Hid (Below w.heap.size w wr) := hbel
        clear hcs hcs' hbel
        go_wp2_with fail
        go_ret
        refine ⟨?_, HB0.out⟩
        rw [show eqN n n L M X Y = true by unfold eqN; rw [show (List.range n).all (fun i => eqT (L i) (M i) (X i) (Y i)) = true from all_true fun i hi => HA.out i (by omega)]; simp]
        rfl
  · have hbb : ((n : Int) != (m : Int)) = true := by simp; omega
    have HE : Hid (¬ n = m) := hnm
    clear hnm
    go_wp2_with fail
    go_ret
    refine ⟨?_, Below.refl _ _⟩
    rw [show eqN n m L M X Y = false by unfold eqN; simp [HE.out]]
    rfl
end Go.Proofs.Ytkogbokelaanjaa
