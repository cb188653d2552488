/-
  The contract of small.rowOf.
-/
import Derived.Test.YtlgcggfenljdnaaMnRow
import Derived.Deep.Cut
namespace Go.Proofs.Ytlgcggfenljdnaa
open Go.RowKit
open Dfa

set_option maxHeartbeats 1600000 in
set_option maxRecDepth 20000 in
theorem rowOf_any (rv tv kv : Value) (n : Nat) (R : Nat → Nat → Int) (T K : Nat → Int) (s : Nat) (w : World) (hr : Rw w rv n R) (ht : Ts w tv n T) (hk : Ks w kv n K) (hs : s < n) (hok : rowsOk n R = true) (htg : tagsOk n T = true) :
    Calls Try.prog 54 #[.agg #[rv, tv], kv, .int .i64 (s : Int)] w fun e w' => e = .returned (.agg (xl (rwk R T K s)).toArray) ∧ Below w.heap.size w w' := by
  have HK : Hid (Ks w kv n K) := hk
  obtain ⟨kg, kcap, rfl, -⟩ := hk
  obtain ⟨ao, cap, rfl, hm, hwf, hcs⟩ := hr
  obtain ⟨ao', cap', rfl, hm', hwf', hct⟩ := ht
  obtain ⟨b0, o, rfl, hb0, hc⟩ := hcs.resolve_left (by omega)
  obtain ⟨b1, o1, rfl, hb1, hc1⟩ := hct.resolve_left (by omega)
  have HRS : Hid (∀ j, j < 256 → At n (R s j)) := fun j hj => row_at hok hs hj
  have hT : -1 ≤ T s ∧ T s < 20 := by have := all_at htg s hs; simpa [tagOk] using this
  obtain ⟨zs, hz47, hzs, hzc⟩ := zero101
  have HZ : Hid (zs.size = 257 ∧ ∀ i, i < 257 → zs[i]? = some (.int .i16 0)) := ⟨hzs, hzc⟩
  have HC : Hid (∀ W, Below w.heap.size w W → W.rangeAt b0 (o + s * 256) (rl (R s))) := fun W hB => range_of_cells fun j hj => (hB.cell (p := ⟨b0, o + s * 256 + j, none⟩) hb0).trans (hc s hs j hj)
  have HCT : Hid (∀ W, Below w.heap.size w W → W.cell? ⟨b1, o1 + s, none⟩ = some (.int .i64 (T s))) := fun W hB => (hB.cell (p := ⟨b1, o1 + s, none⟩) hb1).trans (hc1 s hs)
  have HL : Hid ((rl (R s)).length = 256) := rl_length _
  have HIX : Hid (∀ j : Nat, j < 256 → ∀ w, (Instr.index 42 (.agg (rl (R s)).toArray) (.int .i64 (j : Int))).run Try.prog w = .ok (.int .i16 (R s j)) w) := fun j hj => index_row (R s) j hj
  obtain ⟨l1, HLN⟩ : ∃ q, Hid (rl (R s) = q) := ⟨_, (rfl : _ = _)⟩
  rw [HLN.out] at HC HL HIX
  have hw16 : IntKind.i16.wrap (T s) = T s := wrap16 (by omega)
  obtain ⟨tz, HTZ⟩ : ∃ q, Hid (T s = q) := ⟨_, (rfl : _ = _)⟩
  rw [HTZ.out] at HCT hw16
  have HW16 : Hid (IntKind.i16.wrap tz = tz) := hw16
  clear hzs hzc hcs hct hc hc1 hwf hwf' hT hw16
  obtain ⟨w0, HW0⟩ : ∃ q, Hid (((w.alloc (Obj.cells #[Value.slice (some ⟨b0, o, none⟩) n cap, Value.slice (some ⟨b1, o1, none⟩) n cap'] 25)).alloc (Obj.cells zs 101)).alloc (Obj.cells zs 101) = q) := ⟨_, (rfl : _ = _)⟩
  have HS : Hid (w0.rowIs (w.heap.size + 1) 101 257 (fun _ => .int .i16 0) ∧ w0.rowIs (w.heap.size + 2) 101 257 (fun j => .int .i16 (if j < 0 then rwk R T K s j else 0)) ∧ Below w.heap.size w w0 ∧ w0.cell? ⟨w.heap.size, 0, none⟩ = some (Value.slice (some ⟨b0, o, none⟩) n cap) ∧ w0.cell? ⟨w.heap.size, 1, none⟩ = some (Value.slice (some ⟨b1, o1, none⟩) n cap')) := by
    have h1 := World.rowIs_alloc (w.alloc (Obj.cells #[Value.slice (some ⟨b0, o, none⟩) n cap, Value.slice (some ⟨b1, o1, none⟩) n cap'] 25)) zs 101 (fun _ => .int .i16 0) (fun i hi => HZ.out.2 i (by rw [← HZ.out.1]; exact hi))
    have h2 := World.rowIs_alloc ((w.alloc (Obj.cells #[Value.slice (some ⟨b0, o, none⟩) n cap, Value.slice (some ⟨b1, o1, none⟩) n cap'] 25)).alloc (Obj.cells zs 101)) zs 101 (fun _ => .int .i16 0) (fun i hi => HZ.out.2 i (by rw [← HZ.out.1]; exact hi))
    rw [HZ.out.1] at h1 h2
    rw [show (w.alloc (Obj.cells #[Value.slice (some ⟨b0, o, none⟩) n cap, Value.slice (some ⟨b1, o1, none⟩) n cap'] 25)).heap.size = w.heap.size + 1 by simp] at h1
    rw [show ((w.alloc (Obj.cells #[Value.slice (some ⟨b0, o, none⟩) n cap, Value.slice (some ⟨b1, o1, none⟩) n cap'] 25)).alloc (Obj.cells zs 101)).heap.size = w.heap.size + 2 by simp] at h2
    rw [← HW0.out]
    exact ⟨h1.alloc _, h2.congr fun i _ => by simp, (((Below.refl _ _).alloc (Nat.le_refl _) _).alloc (by simp) _).alloc (by simp; omega) _, Go.Lib.cell?_alloc_some _ (Go.Lib.cell?_alloc_some _ (by simp)), Go.Lib.cell?_alloc_some _ (Go.Lib.cell?_alloc_some _ (by simp))⟩
  have hs0 : (0 : Int) ≤ (s : Int) := by omega
  have hs1 : (s : Int) < (n : Int) := by omega
  have y2 := HS.out.2.2.2.1
  have HC0 : Hid (w0.rangeAt b0 (o + s * 256) l1) := HC.out w0 HS.out.2.2.1
  go_enter Try.func54, Try.ntmps54
  go_upto_region 2 with fail
  rw [HW0.out]
  go_wp2_with (refine wpList_load_mid rfl 42 _ rfl b0 (o + s * 256) rfl l1 _ HC0.out Try.underlying42 rfl (by rw [HL.out]; exact size42) ?_)
  clear y2 HC0
  go_loopw [15] (fun i wr => ∃ k : Nat, k ≤ 256 ∧ i = .int .i64 (k : Int) ∧ Hid (wr.rowIs (w.heap.size + 1) 101 257 (fun _ => .int .i16 0) ∧ wr.rowIs (w.heap.size + 2) 101 257 (fun j => .int .i16 (if j < k then rwk R T K s j else 0)) ∧ Below w.heap.size w wr ∧ wr.cell? ⟨w.heap.size, 0, none⟩ = some (Value.slice (some ⟨b0, o, none⟩) n cap) ∧ wr.cell? ⟨w.heap.size, 1, none⟩ = some (Value.slice (some ⟨b1, o1, none⟩) n cap'))) (fun i _ => 256 - (intOf i).toNat)
  case atStart => exact ⟨0, by omega, rfl, HS⟩
  case round =>
    clear HS
    obtain ⟨k, hk, rfl, HA⟩ := hrel
    by_cases hlt : k < 256
    · have hk0 : (0 : Int) ≤ (k : Int) := by omega
      have hk1 : (k : Int) < 256 := by omega
      have hk2 : (k : Int) < 257 := by omega
      have hix := HIX.out k hlt
      have hkk := kindOf_any (.slice (some ⟨kg, 0, none⟩) n kcap) n K (R s k) wr (HK.out.below HA.out.2.2.1 (Nat.le_refl _)) (HRS.out k hlt)
      have HRW : Hid (rwk R T K s k = kof K (R s k)) := by show _ = _; unfold rwk; rw [if_pos hlt]
      obtain ⟨z, HZK⟩ : ∃ q, Hid (R s k = q) := ⟨_, (rfl : _ = _)⟩
      rw [HZK.out] at hix hkk HRW
      obtain ⟨y, HYK⟩ : ∃ q, Hid (kof K z = q) := ⟨_, (rfl : _ = _)⟩
      rw [HYK.out] at hkk HRW
      have HKK : Hid (Calls Try.prog 47 #[.slice (some ⟨kg, 0, none⟩) n kcap, .int .i16 z] wr fun e w' => e = .returned (.int .i16 y) ∧ w' = wr) := hkk
      have y0 := HA.out.2.1.cell (i := k) (by omega)
      have y1 := HA.out.2.1.frozen k
      have HNX : Hid ((wr.setCell ⟨w.heap.size + 2, k, none⟩ (.int .i16 y)).rowIs (w.heap.size + 1) 101 257 (fun _ => .int .i16 0) ∧ (wr.setCell ⟨w.heap.size + 2, k, none⟩ (.int .i16 y)).rowIs (w.heap.size + 2) 101 257 (fun j => .int .i16 (if j < k + 1 then rwk R T K s j else 0)) ∧ Below w.heap.size w (wr.setCell ⟨w.heap.size + 2, k, none⟩ (.int .i16 y)) ∧ (wr.setCell ⟨w.heap.size + 2, k, none⟩ (.int .i16 y)).cell? ⟨w.heap.size, 0, none⟩ = some (Value.slice (some ⟨b0, o, none⟩) n cap) ∧ (wr.setCell ⟨w.heap.size + 2, k, none⟩ (.int .i16 y)).cell? ⟨w.heap.size, 1, none⟩ = some (Value.slice (some ⟨b1, o1, none⟩) n cap')) := by
        refine ⟨HA.out.1.setOther (by simp) _, (HA.out.2.1.set k (.int .i16 y)).congr fun i hi => ?_, HA.out.2.2.1.setCell (by simp) _, (cell_set_other (by simp)).trans HA.out.2.2.2.1, (cell_set_other (by simp)).trans HA.out.2.2.2.2⟩
        by_cases e : i = k
        · subst e; simp [HRW.out]
        · by_cases e2 : i < k
          · simp [e, e2, show i < k + 1 by omega]
          · simp [e, e2, show ¬ i < k + 1 by omega]
      clear hkk
      go_wp2_with fail
      refine HKK.out.mono ?_
      rintro _ _ ⟨rfl, rfl⟩
      go_wp2_with fail
      go_roundw
      case rel => exact ⟨k + 1, by omega, by go_num, HNX⟩
      case measure => simp [intOf]; omega
    · obtain rfl : k = 256 := by omega
      have y2 := HA.out.2.2.2.2
      have y3 := HCT.out wr HA.out.2.2.1
      have y0 := HA.out.2.1.cell (i := 256) (by omega)
      have y1 := HA.out.2.1.frozen 256
      have hw16 := HW16.out
      have HNX : Hid ((wr.setCell ⟨w.heap.size + 2, 256, none⟩ (.int .i16 tz)).rowIs (w.heap.size + 1) 101 257 (fun _ => .int .i16 0) ∧ (wr.setCell ⟨w.heap.size + 2, 256, none⟩ (.int .i16 tz)).rowIs (w.heap.size + 2) 101 257 (fun j => .int .i16 (rwk R T K s j)) ∧ Below w.heap.size w (wr.setCell ⟨w.heap.size + 2, 256, none⟩ (.int .i16 tz))) := by
        refine ⟨HA.out.1.setOther (by simp) _, (HA.out.2.1.set 256 (.int .i16 tz)).congr fun i hi => ?_, HA.out.2.2.1.setCell (by simp) _⟩
        by_cases e : i = 256
        · subst e; simp [rwk, HTZ.out]
        · simp [e, show i < 256 by omega]
      go_upto_region 8 with fail
      obtain ⟨w2, HW2⟩ : ∃ q, Hid (wr.setCell ⟨w.heap.size + 2, 256, none⟩ (.int .i16 tz) = q) := ⟨_, (rfl : _ = _)⟩
      rw [HW2.out] at HNX
      rw [HW2.out]
      have HR : Hid (w2.rangeAt (w.heap.size + 2) 0 (xl (rwk R T K s))) := fun j v hv => by
        have hj : j < 257 := by have := (List.getElem?_eq_some_iff.1 hv).1; rwa [xl_length] at this
        rw [xl_at _ j hj] at hv
        rw [Nat.zero_add, HNX.out.2.1.cell hj, hv]
      have HO : Hid ((xl (rwk R T K s)).toArray.all (·.oneCell') = true ∧ (xl (rwk R T K s)).length = 257) := ⟨xl_one _, xl_length _⟩
      obtain ⟨l, HLL⟩ : ∃ q, Hid (xl (rwk R T K s) = q) := ⟨_, (rfl : _ = _)⟩
      rw [HLL.out] at HR HO
      have HSZ : Hid (l.toArray.size = 257) := by show _ = _; simp [HO.out.2]
      have HTH : Hid (w2.there (w.heap.size + 1) 0 l.toArray.size) := by rw [HSZ.out]; exact there_row HNX.out.1
      clear y0 y1 y2 y3 HA
      go_wp2_with (first | refine wpList_load_mid rfl 101 _ rfl (w.heap.size + 2) 0 rfl l _ HR.out Try.underlying101 rfl (by rw [HO.out.2]; exact size101) ?_ | refine wpList_store_mid rfl 101 _ _ rfl (w.heap.size + 1) 0 l.toArray rfl rfl HTH.out (by rw [HSZ.out]; exact size101) HO.out.1 ?_)
      exact bodyPost_ret (v := .agg l.toArray) (results_cell_mid Try.results54 _ _ (w.heap.size + 1) l _ rfl (World.rangeAt_setCells_same _ _ _ _ (by rw [HO.out.2]; exact there_row HNX.out.1)) Try.underlying101 rfl (by rw [HO.out.2]; exact size101)) rfl ⟨by rw [HLL.out], setCells_below _ (by omega) _ _ _ HNX.out.2.2⟩
end Go.Proofs.Ytlgcggfenljdnaa
