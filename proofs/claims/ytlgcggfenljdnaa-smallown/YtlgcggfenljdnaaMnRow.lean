/-
  The contracts of small.kindOf, small.nowhere and small.rowOf; the cells of a row, and rows as keys of a map.
-/
import Derived.Test.YtlgcggfenljdnaaPkMap
import Derived.Test.YtlgcggfenljdnaaMnKind
namespace Go.Proofs.Ytlgcggfenljdnaa
open Go.RowKit
open Go.Maps
open Dfa

/-- A value is a slice that holds these kinds. -/
def Ks (w : World) (v : Value) (n : Nat) (K : Nat → Int) : Prop :=
  ∃ g cap, v = .slice (some ⟨g, 0, none⟩) n cap ∧ g < w.heap.size ∧ (∀ i, i < n → -1 ≤ K i ∧ K i < (n : Int)) ∧ ∀ i, i < n → w.cell? ⟨g, i, none⟩ = some (.int .i16 (K i))
theorem Ks.below {w w' : World} {v : Value} {n : Nat} {K : Nat → Int} (h : Ks w v n K) {B : Nat} (hb : Below B w w') (hB : w.heap.size ≤ B) : Ks w' v n K := by
  obtain ⟨g, cap, hv, hg, hk, hc⟩ := h
  exact ⟨g, cap, hv, Nat.lt_of_lt_of_le hg hb.size, hk, fun i hi => (hb.cell (p := ⟨g, i, none⟩) (by simp; omega)).trans (hc i hi)⟩
/-- The cells of a row. -/
def xl (f : Nat → Int) : List Value := (List.range 257).map fun j => Value.int .i16 (f j)
theorem xl_length (f : Nat → Int) : (xl f).length = 257 := by simp [xl]
theorem xl_at (f : Nat → Int) (j : Nat) (hj : j < 257) : (xl f)[j]? = some (.int .i16 (f j)) := by simp [xl, hj]
theorem xl_one (f : Nat → Int) : (xl f).toArray.all (·.oneCell') = true := all_oneCell_toArray fun v hv => by
  simp only [xl, List.mem_map] at hv
  obtain ⟨j, _, rfl⟩ := hv
  rfl
theorem xl_congr {f g : Nat → Int} (h : ∀ j, j < 257 → f j = g j) : xl f = xl g := by
  unfold xl
  apply List.map_congr_left
  intro j hj
  rw [h j (by simpa using hj)]
theorem xl_inj {f g : Nat → Int} (h : xl f = xl g) (j : Nat) (hj : j < 257) : f j = g j := by
  have h1 := xl_at f j hj
  rw [h, xl_at g j hj] at h1
  simpa using h1.symm
theorem cells101 : Try.prog.cellsOf 101 = 257 := by kernel_rfl
theorem size101 : (Try.prog.info? 101).map (·.size) = some 257 := by kernel_rfl
theorem zero101 : ∃ zs : Array Value, (∀ w, (zeroValue 101).run Try.prog w = .ok (.agg zs) w) ∧ zs.size = 257 ∧ ∀ i, i < 257 → zs[i]? = some (.int .i16 0) :=
  ⟨_, (zero_of_info (P := Try.prog) (t := 101) (v := .agg (Array.replicate 257 (.int .i16 0))) (n := 257) (by kernel_rfl)).1, by simp, fun i hi => by simp [hi]⟩
theorem law101 : Maps.Keyed Try.prog 101 := Maps.Keyed.of_law (deep_law_laid laidOut' (m := 2) (by omega) (of_decide_eq_true (by kernel_rfl)) (by kernel_rfl) (by rw [Try.underlying101]))
theorem key101_inj {f g : Nat → Int} {kl : Lit} (h1 : keyOf Try.prog 101 (.agg (xl f).toArray) = some kl) (h2 : keyOf Try.prog 101 (.agg (xl g).toArray) = some kl) : ∀ j, j < 257 → f j = g j := by
  have := law101.inj h1 h2
  simp only [Value.agg.injEq, Array.mk.injEq] at this
  exact xl_inj this
theorem key101 (f : Nat → Int) (hcf : ∀ j, j < 257 → -32768 ≤ f j ∧ f j ≤ 32767) : ∃ kl, keyOf Try.prog 101 (.agg (xl f).toArray) = some kl := by
  have hk : Try.prog.keyType 101 = true := by kernel_rfl
  obtain ⟨m, hm⟩ : ∃ m, Try.prog.types.size = m + 1 := ⟨Try.prog.types.size - 1, by have : 0 < Try.prog.types.size := of_decide_eq_true (by kernel_rfl); omega⟩
  have hl := xl_length f
  have hat := xl_at f
  generalize xl f = l at hl hat
  unfold keyOf
  rw [Try.underlying101]
  simp only [hk, Bool.true_and]
  rw [if_pos (by simp [Value.formed, Try.underlying101, cells101, hl])]
  rw [hm]
  obtain ⟨ys, hys⟩ := mapM_some (fun i => Try.prog.keyLits (m + 1) 40 ((l.drop (i * Try.prog.cellsOf 40)).take (Try.prog.cellsOf 40))) (List.range 257) (fun i hi => by
    have hi' : i < 257 := by simpa using hi
    refine ⟨[.int .i16 (f i)], ?_⟩
    have e : (l.drop (i * Try.prog.cellsOf 40)).take (Try.prog.cellsOf 40) = [.int .i16 (f i)] := by
      rw [cells40, Nat.mul_one, List.drop_eq_getElem_cons (by omega)]
      have := hat i hi'
      rw [List.getElem?_eq_getElem (by omega)] at this
      simp [Option.some.inj this]
    rw [e]
    have hwf : (Lit.int .i16 (f i)).wf = true := by
      have := hcf i hi'
      simp [Lit.wf, IntKind.min, IntKind.max, IntKind.signed, IntKind.bits]; omega
    simp [Program.keyLits, Try.underlying40, hwf])
  have e0 : Try.prog.keyLits (m + 1 + 1) 101 (Value.agg l.toArray).cells.toList = some ys.flatten := by
    unfold Program.keyLits
    simp only [Try.underlying101, Value.cells]
    rw [if_pos (by rw [cells101]; exact hl), hys]
    rfl
  rw [e0]
  exact ⟨_, rfl⟩

set_option maxHeartbeats 1600000 in
set_option maxRecDepth 20000 in
theorem kindOf_any (kv : Value) (n : Nat) (K : Nat → Int) (z : Int) (w : World) (hk : Ks w kv n K) (hz : At n z) :
    Calls Try.prog 47 #[kv, .int .i16 z] w fun e w' => e = .returned (.int .i16 (kof K z)) ∧ w' = w := by
  obtain ⟨g, cap, rfl, hg, -, hc⟩ := hk
  obtain ⟨z1, z2⟩ := hz
  go_enter Try.func47, Try.ntmps47
  by_cases h : z = -1
  · subst h
    go_wp2_with fail
    go_ret
    exact ⟨rfl, rfl⟩
  · obtain ⟨p, rfl⟩ : ∃ p : Nat, z = (p : Int) := ⟨z.toNat, by omega⟩
    have hp : p < n := by omega
    have c0 := hc p hp
    have hb : ((p : Int) == -1) = false := by simp
    have hp1 : (p : Int) < (n : Int) := by omega
    clear hc
    go_wp2_with fail
    go_ret
    exact ⟨by unfold kof; rw [if_neg (by omega)]; rfl, rfl⟩

set_option maxHeartbeats 1600000 in
set_option maxRecDepth 20000 in
theorem nowhere_any (w : World) : Calls Try.prog 53 #[] w fun e w' => e = .returned (.agg (xl fun _ => -1).toArray) ∧ Below w.heap.size w w' := by
  obtain ⟨zs, hz47, hzs, hzc⟩ := zero101
  have HS : Hid (((w.alloc (Obj.cells zs 101)).alloc (Obj.cells zs 101)).rowIs w.heap.size 101 257 (fun _ => .int .i16 0) ∧ ((w.alloc (Obj.cells zs 101)).alloc (Obj.cells zs 101)).rowIs (w.heap.size + 1) 101 257 (fun s => .int .i16 (if s < 0 then -1 else 0)) ∧ Below w.heap.size w ((w.alloc (Obj.cells zs 101)).alloc (Obj.cells zs 101))) := by
    have h1 := World.rowIs_alloc w zs 101 (fun _ => .int .i16 0) (fun i hi => hzc i (by rw [← hzs]; exact hi))
    have h2 := World.rowIs_alloc (w.alloc (Obj.cells zs 101)) zs 101 (fun _ => .int .i16 0) (fun i hi => hzc i (by rw [← hzs]; exact hi))
    rw [hzs] at h1 h2
    rw [show (w.alloc (Obj.cells zs 101)).heap.size = w.heap.size + 1 by simp] at h2
    exact ⟨h1.alloc _, h2.congr fun i _ => by simp, ((Below.refl _ _).alloc (Nat.le_refl _) _).alloc (by simp) _⟩
  clear hzs hzc
  go_enter Try.func53, Try.ntmps53
  go_wp2_with fail
  go_loopw [3] (fun i wr => ∃ k : Nat, k ≤ 257 ∧ i = .int .i64 (k : Int) ∧ Hid (wr.rowIs w.heap.size 101 257 (fun _ => .int .i16 0) ∧ wr.rowIs (w.heap.size + 1) 101 257 (fun s => .int .i16 (if s < k then -1 else 0)) ∧ Below w.heap.size w wr)) (fun i _ => 257 - (intOf i).toNat)
  case atStart => exact ⟨0, by omega, rfl, HS⟩
  case round =>
    clear HS
    obtain ⟨k, hk, rfl, HA⟩ := hrel
    by_cases hlt : k < 257
    · have hk0 : (0 : Int) ≤ (k : Int) := by omega
      have hk1 : (k : Int) < 257 := by omega
      have y0 := HA.out.2.1.cell (i := k) (by omega)
      have y1 := HA.out.2.1.frozen k
      have HNX : Hid ((wr.setCell ⟨w.heap.size + 1, k, none⟩ (.int .i16 (-1))).rowIs w.heap.size 101 257 (fun _ => .int .i16 0) ∧ (wr.setCell ⟨w.heap.size + 1, k, none⟩ (.int .i16 (-1))).rowIs (w.heap.size + 1) 101 257 (fun s => .int .i16 (if s < k + 1 then -1 else 0)) ∧ Below w.heap.size w (wr.setCell ⟨w.heap.size + 1, k, none⟩ (.int .i16 (-1)))) := by
        refine ⟨HA.out.1.setOther (by simp) _, (HA.out.2.1.set k (.int .i16 (-1))).congr fun i hi => ?_, HA.out.2.2.setCell (by simp) _⟩
        by_cases e : i = k
        · subst e; simp
        · by_cases e2 : i < k
          · simp [e, e2, show i < k + 1 by omega]
          · simp [e, e2, show ¬ i < k + 1 by omega]
      go_wp2_with fail
      go_roundw
      case rel => exact ⟨k + 1, by omega, by go_num, HNX⟩
      case measure => simp [intOf]; omega
    · obtain rfl : k = 257 := by omega
      have HR : Hid (wr.rangeAt (w.heap.size + 1) 0 (xl fun _ => -1)) := fun j v hv => by
        have hj : j < 257 := by have := (List.getElem?_eq_some_iff.1 hv).1; rwa [xl_length] at this
        rw [xl_at _ j hj] at hv
        rw [Nat.zero_add, HA.out.2.1.cell hj, if_pos hj, hv]
      have HO : Hid ((xl fun _ => -1).toArray.all (·.oneCell') = true ∧ (xl fun _ => -1).length = 257) := ⟨xl_one _, xl_length _⟩
      obtain ⟨l, HLN⟩ : ∃ q, Hid ((xl fun _ => -1) = q) := ⟨_, (rfl : _ = _)⟩
      rw [HLN.out] at HR HO
      have HSZ : Hid (l.toArray.size = 257) := by show _ = _; simp [HO.out.2]
      have HTH : Hid (wr.there w.heap.size 0 l.toArray.size) := by rw [HSZ.out]; exact there_row HA.out.1
      go_wp2_with (first | refine wpList_load_mid rfl 101 _ rfl (w.heap.size + 1) 0 rfl l _ HR.out Try.underlying101 rfl (by rw [HO.out.2]; exact size101) ?_ | refine wpList_store_mid rfl 101 _ _ rfl w.heap.size 0 l.toArray rfl rfl HTH.out (by rw [HSZ.out]; exact size101) HO.out.1 ?_)
      exact bodyPost_ret (v := .agg l.toArray) (results_cell_mid Try.results53 _ _ w.heap.size l _ rfl (World.rangeAt_setCells_same _ _ _ _ (by rw [HO.out.2]; exact there_row HA.out.1)) Try.underlying101 rfl (by rw [HO.out.2]; exact size101)) rfl ⟨by rw [HLN.out], setCells_below _ (by omega) _ _ _ HA.out.2.2⟩
end Go.Proofs.Ytlgcggfenljdnaa
