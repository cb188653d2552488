/-
  The contracts of the document's own answer: pushref.Goes, pushref.TagOf, pushref.RightDfa.
-/
import Derived.Test.YtlgcggfenljdnaaChecks
namespace Go.Proofs.Ytlgcggfenljdnaa
open Go.RowKit
open Dfa

set_option maxHeartbeats 1600000 in
set_option maxRecDepth 20000 in
theorem right_any (rv tv : Value) (n m : Nat) (R : Nat → Nat → Int) (T : Nat → Int) (w : World) (hr : Rw w rv n R) (ht : Ts w tv m T) :
    Calls Try.prog 10 #[.agg #[rv, tv]] w fun e w' => e = .returned (.int .i64 (chk n m R T)) ∧ Below w.heap.size w w' := by
  obtain ⟨ao, cap, rfl, hn, hwf, hcs⟩ := hr
  obtain ⟨ao', cap', rfl, hm, hwf', hcs'⟩ := ht
  have HW : Hid (∀ i j, -32768 ≤ R i j ∧ R i j ≤ 32767) := hwf
  clear hwf hwf'
  have B0 : Below w.heap.size w (w.alloc (Obj.cells #[Value.slice ao n cap, Value.slice ao' m cap'] 25)) := (Below.refl _ _).alloc (Nat.le_refl _) _
  go_enter Try.func10, Try.ntmps10
  by_cases h1 : 200 < n
  · have h1' : (200 : Int) < (n : Int) := by omega
    go_wp2_with fail
    go_ret
    exact ⟨by unfold chk; rw [if_pos h1]; rfl, B0⟩
  · by_cases h2 : n = 0 ∨ m ≠ n
    · have E : Hid (chk n m R T = 1) := by show _ = _; unfold chk; rw [if_neg h1, if_pos h2]
      by_cases h3 : n = 0
      · subst h3
        go_wp2_with fail
        go_ret
        exact ⟨by rw [E.out]; rfl, B0⟩
      · have h4 : m ≠ n := by omega
        have h5 : ((n : Int) != (m : Int)) = true := by simp; omega
        have h6 : ((n : Int) == 0) = false := by simp; omega
        go_wp2_with fail
        go_ret
        exact ⟨by rw [E.out]; rfl, B0⟩
    · obtain rfl : m = n := by omega
      have h6 : ((m : Int) == 0) = false := by simp; omega
      have h7 : ((m : Int) != (m : Int)) = false := by simp
      obtain ⟨b, o, rfl, hb, hc⟩ := hcs.resolve_left (by omega)
      obtain ⟨b', o', rfl, hb', hc'⟩ := hcs'.resolve_left (by omega)
      have E : Hid (chk m m R T = if rowsOk m R = true ∧ tagsOk m T = true then 0 else 1) := by show _ = _; unfold chk; rw [if_neg h1, if_neg h2]
      have HC : Hid (∀ i, i < m → ∀ j, j < 256 → w.cell? ⟨b, o + i * 256 + j, none⟩ = some (.int .i16 (R i j))) := hc
      have HC' : Hid (∀ i, i < m → w.cell? ⟨b', o' + i, none⟩ = some (.int .i64 (T i))) := hc'
      clear hcs hcs' hc hc' h2
      go_wp2_with fail
      go_loopw [4] (fun i wr => ∃ k : Nat, k ≤ m ∧ i = .int .i64 (k : Int) ∧ Hid (∀ i, i < k → rowOk m (R i) = true) ∧ Hid (∀ i, i < k → tagOk (T i) = true) ∧ wr = w.alloc (Obj.cells #[Value.slice (some ⟨b, o, none⟩) m cap, Value.slice (some ⟨b', o', none⟩) m cap'] 25)) (fun i _ => m - (intOf i).toNat)
      case atStart => exact ⟨0, by omega, rfl, fun i hi => by omega, fun i hi => by omega, rfl⟩
      case round =>
        obtain ⟨k, hk, rfl, HA, HT, rfl⟩ := hrel
        by_cases hlt : k < m
        · have hk1 : (k : Int) < (m : Int) := by omega
          have c0 : (w.alloc (Obj.cells #[Value.slice (some ⟨b, o, none⟩) m cap, Value.slice (some ⟨b', o', none⟩) m cap'] 25)).cell? ⟨b', o' + k, none⟩ = some (.int .i64 (T k)) := (B0.cell (p := ⟨b', o' + k, none⟩) hb').trans (HC'.out k hlt)
          obtain ⟨t, HX⟩ : ∃ t, Hid (T k = t) := ⟨_, (rfl : T k = T k)⟩
          rw [HX.out] at c0
          by_cases t1 : t < -1
          · go_wp2_with fail
            go_ret
            refine ⟨?_, B0⟩
            rw [E.out, if_neg (by rintro ⟨-, h⟩; rw [show tagsOk m T = false from all_false hlt (by unfold tagOk; rw [HX.out]; simp; omega)] at h; cases h)]
            rfl
          · by_cases t2 : 19 < t
            · go_wp2_with fail
              go_ret
              refine ⟨?_, B0⟩
              rw [E.out, if_neg (by rintro ⟨-, h⟩; rw [show tagsOk m T = false from all_false hlt (by unfold tagOk; rw [HX.out]; simp; omega)] at h; cases h)]
              rfl
            · go_wp2_with fail
              go_loopw [5] (fun i wr => ∃ j : Nat, j ≤ 256 ∧ i = .int .i64 (j : Int) ∧ Hid (∀ i, i < j → numOk m (R k i) = true) ∧ wr = w.alloc (Obj.cells #[Value.slice (some ⟨b, o, none⟩) m cap, Value.slice (some ⟨b', o', none⟩) m cap'] 25)) (fun i _ => 256 - (intOf i).toNat)
              case atStart => exact ⟨0, by omega, rfl, fun i hi => by omega, rfl⟩
              case round =>
                obtain ⟨j, hj, rfl, HB, rfl⟩ := hrel
                by_cases hjt : j < 256
                · have hj1 : (j : Int) < 256 := by omega
                  have c1 : (w.alloc (Obj.cells #[Value.slice (some ⟨b, o, none⟩) m cap, Value.slice (some ⟨b', o', none⟩) m cap'] 25)).cell? ⟨b, o + k * 256 + j, none⟩ = some (.int .i16 (R k j)) := (B0.cell (p := ⟨b, o + k * 256 + j, none⟩) hb).trans (HC.out k hlt j hjt)
                  have hzk := HW.out k j
                  obtain ⟨z, HZ⟩ : ∃ z, Hid (R k j = z) := ⟨_, (rfl : R k j = R k j)⟩
                  rw [HZ.out] at c1 hzk
                  have hwr := wrap_small hzk
                  by_cases z1 : z < -1
                  · go_wp2_with fail
                    go_ret
                    refine ⟨?_, B0⟩
                    rw [E.out, if_neg (by rintro ⟨h, -⟩; rw [show rowsOk m R = false from all_false hlt (all_false hjt (by unfold numOk; rw [HZ.out]; simp; omega))] at h; cases h)]
                    rfl
                  · by_cases z2 : (m : Int) ≤ z
                    · go_wp2_with fail
                      go_ret
                      refine ⟨?_, B0⟩
                      rw [E.out, if_neg (by rintro ⟨h, -⟩; rw [show rowsOk m R = false from all_false hlt (all_false hjt (by unfold numOk; rw [HZ.out]; simp; omega))] at h; cases h)]
                      rfl
                    · go_wp2_with fail
                      go_roundw
                      case rel =>
                        refine ⟨j + 1, by omega, by go_num, fun i hi => ?_, by trivial⟩
                        by_cases e : i = j
                        · subst e; unfold numOk; rw [HZ.out]; simp; omega
                        · exact HB.out i (by omega)
                      case measure => simp [intOf]; omega
                · go_wp2_with fail
                  go_roundw
                  case rel =>
                    refine ⟨k + 1, by omega, by go_num, fun i hi => ?_, fun i hi => ?_, by trivial⟩
                    · by_cases e : i = k
                      · subst e; exact all_true fun i hi => HB.out i (by omega)
                      · exact HA.out i (by omega)
                    · by_cases e : i = k
                      · subst e; unfold tagOk; rw [HX.out]; simp; omega
                      · exact HT.out i (by omega)
                  case measure => simp [intOf]; omega
        · go_wp2_with fail
          go_ret
          refine ⟨?_, B0⟩
          rw [E.out, if_pos ⟨all_true fun i hi => HA.out i (by omega), all_true fun i hi => HT.out i (by omega)⟩]
          rfl
end Go.Proofs.Ytlgcggfenljdnaa
