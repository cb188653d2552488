/-
  The contract of small.kindsOf.
-/
import Derived.Test.YtlgcggfenljdnaaMnRef
namespace Go.Proofs.Ytlgcggfenljdnaa
open Go.RowKit
open Dfa

set_option maxHeartbeats 4000000 in
set_option maxRecDepth 20000 in
theorem kindsOf_any (rv tv : Value) (n : Nat) (R : Nat → Nat → Int) (T : Nat → Int) (w : World) (hr : Rw w rv n R) (ht : Ts w tv n T) (hn0 : 0 < n) (hn : n ≤ 200) (hok : rowsOk n R = true) (htg : tagsOk n T = true) :
    Calls Try.prog 32 #[.agg #[rv, tv]] w fun e w' => ∃ v, e = .returned v ∧ (∃ K, Ks w' v n K ∧ Kinds n R T K) ∧ Below w.heap.size w w' := by
  have HRW : Hid (Rw w rv n R) := hr
  have HTS : Hid (Ts w tv n T) := ht
  have HOK : Hid (rowsOk n R = true ∧ tagsOk n T = true) := ⟨hok, htg⟩
  obtain ⟨ra, rc, rfl, -⟩ := hr
  obtain ⟨ta, tc, rfl, -⟩ := ht
  have HMK : Hid (∀ W : World, (Instr.makeSlice 63 (.int .i64 (n : Int)) (.int .i64 (n : Int))).run Try.prog W = .ok (.slice (some ⟨W.heap.size, 0, none⟩) n n) (W.alloc (.cells (madeCells #[.int .i16 0] n) 40))) := fun W => run_make_row' (P := Try.prog) 63 40 (.int .i16 0) 2 Try.underlying63 info40 rfl .i64 .i64 n (by omega) (by omega) W
  have hmk := HMK.out
  clear hok htg
  obtain ⟨w0, HW0⟩ : ∃ q, Hid ((w.alloc (Obj.cells #[.slice ra n rc, .slice ta n tc] 25)).alloc (.cells (madeCells #[.int .i16 0] n) 40) = q) := ⟨_, (rfl : _ = _)⟩
  have HS : Hid (w0.rowIs (w.heap.size + 1) 40 n (fun j => .int .i16 (if j < 0 then -1 else 0)) ∧ Below w.heap.size w w0 ∧ w0.cell? ⟨w.heap.size, 0, none⟩ = some (.slice ra n rc) ∧ w0.cell? ⟨w.heap.size, 1, none⟩ = some (.slice ta n tc)) := by
    have h1 := World.rowIs_made (w.alloc (Obj.cells #[.slice ra n rc, .slice ta n tc] 25)) (.int .i16 0) n 40
    rw [show (w.alloc (Obj.cells #[.slice ra n rc, .slice ta n tc] 25)).heap.size = w.heap.size + 1 by simp] at h1
    rw [← HW0.out]
    exact ⟨h1.congr fun i _ => by simp, ((Below.refl _ _).alloc (Nat.le_refl _) _).alloc (by simp) _, Go.Lib.cell?_alloc_some _ (by simp), Go.Lib.cell?_alloc_some _ (by simp)⟩
  go_enter Try.func32, Try.ntmps32
  go_wp2_with fail
  rw [HW0.out]
  clear hmk HMK HW0
  go_loopw [13] (fun i wr => ∃ k : Nat, k ≤ n ∧ i = .int .i64 (k : Int) ∧ Hid (wr.rowIs (w.heap.size + 1) 40 n (fun j => .int .i16 (if j < k then -1 else 0)) ∧ Below w.heap.size w wr ∧ wr.cell? ⟨w.heap.size, 0, none⟩ = some (.slice ra n rc) ∧ wr.cell? ⟨w.heap.size, 1, none⟩ = some (.slice ta n tc))) (fun i _ => n - (intOf i).toNat)
  case atStart => exact ⟨0, by omega, rfl, HS⟩
  case round =>
    clear HS
    obtain ⟨k, hk, rfl, HA⟩ := hrel
    by_cases hlt : k < n
    · have hk0 : (0 : Int) ≤ (k : Int) := by omega
      have hk1 : (k : Int) < (n : Int) := by omega
      have y0 := HA.out.1.cell (i := k) hlt
      have y1 := HA.out.1.frozen k
      have HNX : Hid ((wr.setCell ⟨w.heap.size + 1, k, none⟩ (.int .i16 (-1))).rowIs (w.heap.size + 1) 40 n (fun j => .int .i16 (if j < k + 1 then -1 else 0)) ∧ Below w.heap.size w (wr.setCell ⟨w.heap.size + 1, k, none⟩ (.int .i16 (-1))) ∧ (wr.setCell ⟨w.heap.size + 1, k, none⟩ (.int .i16 (-1))).cell? ⟨w.heap.size, 0, none⟩ = some (.slice ra n rc) ∧ (wr.setCell ⟨w.heap.size + 1, k, none⟩ (.int .i16 (-1))).cell? ⟨w.heap.size, 1, none⟩ = some (.slice ta n tc)) := by
        refine ⟨(HA.out.1.set k (.int .i16 (-1))).congr fun i hi => ?_, HA.out.2.1.setCell (by simp) _, (cell_set_other (by simp)).trans HA.out.2.2.1, (cell_set_other (by simp)).trans HA.out.2.2.2⟩
        by_cases e : i = k
        · subst e; simp
        · by_cases e2 : i < k
          · simp [e, e2, show i < k + 1 by omega]
          · simp [e, e2, show ¬ i < k + 1 by omega]
      go_wp2_with fail
      go_roundw
      case rel => exact ⟨k + 1, by omega, by go_num, HNX⟩
      case measure => simp [intOf]; omega
    · obtain rfl : k = n := by omega
      have HK0 : Hid (Ks wr (.slice (some ⟨w.heap.size + 1, 0, none⟩) k k) k (fun _ => -1)) := ⟨_, _, rfl, HA.out.1.lt, fun i _ => ⟨by simp, by simp; omega⟩, fun i hi => by rw [HA.out.1.cell hi, if_pos hi]⟩
      have HH : Hid (Below w.heap.size w wr ∧ wr.cell? ⟨w.heap.size, 0, none⟩ = some (.slice ra k rc) ∧ wr.cell? ⟨w.heap.size, 1, none⟩ = some (.slice ta k tc)) := HA.out.2
      have HSZ : Hid (w.heap.size < wr.heap.size) := by have := HA.out.1.lt; show _ < _; omega
      clear HA
      obtain ⟨W0, rfl⟩ : ∃ W0, W0 = wr := ⟨_, rfl⟩
      go_wp2_with fail
      go_loopw [3, 5, 6] (fun v cv bv wr => ∃ (K : Nat → Int) (c b : Nat), cv = .int .i64 (c : Int) ∧ bv = .int .i64 (b : Int) ∧ c ≤ k + 1 ∧ Hid (Ks wr v k K ∧ KS k R T K c b ∧ Below w.heap.size w wr ∧ wr.cell? ⟨w.heap.size, 0, none⟩ = some (.slice ra k rc) ∧ wr.cell? ⟨w.heap.size, 1, none⟩ = some (.slice ta k tc) ∧ w.heap.size < wr.heap.size)) (fun _ _ bv _ => k + 2 - (intOf bv).toNat)
      case atStart => exact ⟨_, 1, 0, rfl, rfl, by omega, HK0.out, KS.start k, HH.out.1, HH.out.2.1, HH.out.2.2, HSZ.out⟩
      case round =>
        clear HK0 HH HSZ
        obtain ⟨K, c, b, rfl, rfl, hc, HX⟩ := hrel
        obtain ⟨kg, kc, hv, -⟩ := HX.out.1
        subst hv
        by_cases hcb : b < c
        · have hcb1 : (b : Int) < (c : Int) := by omega
          have y0 := HX.out.2.2.2.1
          have y1 := HX.out.2.2.2.2.1
          have hre := refined_any (.slice ra k rc) (.slice ta k tc) (.slice (some ⟨kg, 0, none⟩) k kc) k R T K wr (HRW.out.below HX.out.2.2.1 (Nat.le_refl _)) (HTS.out.below HX.out.2.2.1 (Nat.le_refl _)) HX.out.1 hn0 hn HOK.out.1 HOK.out.2
          have HNX : Hid (KS k R T (ref R T K) ((frs R T K k).length + 1) c) := HX.out.2.1.next HOK.out.1
          have HC2 : Hid ((frs R T K k).length + 1 ≤ k + 1) := by show _ ≤ _; have := frs_length (R := R) (T := T) (K := K) k; omega
          obtain ⟨c2, HC⟩ : ∃ q, Hid ((frs R T K k).length + 1 = q) := ⟨_, (rfl : _ = _)⟩
          rw [HC.out] at hre HNX HC2
          go_wp2_with fail
          refine hre.mono ?_
          rintro _ w3 ⟨v3, rfl, hks, hb3⟩
          have HX2 : Hid (Ks w3 v3 k (ref R T K) ∧ KS k R T (ref R T K) c2 c ∧ Below w.heap.size w w3 ∧ w3.cell? ⟨w.heap.size, 0, none⟩ = some (.slice ra k rc) ∧ w3.cell? ⟨w.heap.size, 1, none⟩ = some (.slice ta k tc) ∧ w.heap.size < w3.heap.size) := ⟨hks, HNX.out, HX.out.2.2.1.trans (hb3.mono HX.out.2.2.1.size), (hb3.cell (p := ⟨w.heap.size, 0, none⟩) HX.out.2.2.2.2.2).trans HX.out.2.2.2.1, (hb3.cell (p := ⟨w.heap.size, 1, none⟩) HX.out.2.2.2.2.2).trans HX.out.2.2.2.2.1, Nat.lt_of_lt_of_le HX.out.2.2.2.2.2 hb3.size⟩
          clear hks hb3 hre y0 y1 HX
          go_wp2_with fail
          go_roundw
          case rel => exact ⟨_, c2, c, rfl, rfl, HC2.out, HX2⟩
          case measure => simp [intOf]; omega
        · have hcb1 : ¬ (b : Int) < (c : Int) := by omega
          have HF : Hid (Kinds k R T K) := HX.out.2.1.done HOK.out.1 (by omega)
          go_wp2_with fail
          go_ret
          exact ⟨_, rfl, ⟨K, HX.out.1, HF.out⟩, HX.out.2.2.1⟩
end Go.Proofs.Ytlgcggfenljdnaa
