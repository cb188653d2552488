/-
  The contract of small.columnOf: where a byte leads from each state.
-/
import Derived.Test.YtlgcggfenljdnaaPkEqs
namespace Go.Proofs.Ytlgcggfenljdnaa
open Go.RowKit
open Dfa

/-- The cells of a column. -/
def cf (n : Nat) (R : Nat → Nat → Int) (b s : Nat) : Int := if s < n then R s b else 0
def cl (n : Nat) (R : Nat → Nat → Int) (b : Nat) : List Value := (List.range 200).map fun s => Value.int .i16 (cf n R b s)
theorem cl_length (n : Nat) (R : Nat → Nat → Int) (b : Nat) : (cl n R b).length = 200 := by simp [cl]
theorem cl_at (n : Nat) (R : Nat → Nat → Int) (b s : Nat) (hs : s < 200) : (cl n R b)[s]? = some (.int .i16 (cf n R b s)) := by simp [cl, hs]
theorem size83 : (Try.prog.info? 83).map (·.size) = some 200 := by kernel_rfl
theorem zero83 : ∃ zs : Array Value, (∀ w, (zeroValue 83).run Try.prog w = .ok (.agg zs) w) ∧ zs.size = 200 ∧ ∀ i, i < 200 → zs[i]? = some (.int .i16 0) :=
  ⟨_, (zero_of_info (P := Try.prog) (t := 83) (v := .agg (Array.replicate 200 (.int .i16 0))) (n := 200) (by kernel_rfl)).1, by simp, fun i hi => by simp [hi]⟩

theorem results_cell_mid {P : Program} {fn : Func} {p : Tmp} {ty : TypeId} (h : fn.results = #[.cell p ty]) (tmps : Array Value) (w : World) (g : Nat) (cs : List Value) (d : TypeDesc) (hp : tmps.getD p undef = .pointer (some ⟨g, 0, none⟩)) (hc : w.rangeAt g 0 cs)
    (hu : P.underlying ty = some d) (hd : d.isRow = true) (hi : (P.info? ty).map (·.size) = some cs.length) : (results fn tmps).run P w = .ok (.agg cs.toArray) w := by
  have hp' : tmps[p]?.getD undef = .pointer (some ⟨g, 0, none⟩) := by simpa using hp
  simp [results, h, hp', asAddr, run_loadVar_mid w g 0 ty cs d hc hu hd hi]
theorem setCells_below {B : Nat} {a : World} (g : Nat) (hg : B ≤ g) : ∀ (vs : List Value) (o : Nat) (w : World), Below B a w → Below B a (w.setCells g o vs)
  | [], _, _, h => h
  | v :: vs, o, _, h => setCells_below g hg vs (o + 1) _ (h.setCell (p := ⟨g, o, none⟩) hg v)
theorem there_row {w : World} {g t n : Nat} {f : Nat → Value} (h : w.rowIs g t n f) : w.there g 0 n := fun j hj => by
  rw [Nat.zero_add]
  exact ⟨by rw [h.cell hj]; rfl, h.frozen j⟩

set_option maxHeartbeats 4000000 in
set_option maxRecDepth 20000 in
theorem columnOf_any (rv tv : Value) (n m : Nat) (R : Nat → Nat → Int) (T : Nat → Int) (b : Nat) (w : World) (hr : Rw w rv n R) (ht : Ts w tv m T) (hn : n ≤ 200) (hb : b < 256) :
    Calls Try.prog 42 #[.agg #[rv, tv], .int .i64 (b : Int)] w fun e w' => e = .returned (.agg (cl n R b).toArray) ∧ Below w.heap.size w w' := by
  obtain ⟨ao, cap, rfl, hm, hwf, hcs⟩ := hr
  obtain ⟨ao', cap', rfl, hm', hwf', -⟩ := ht
  have HW : Hid (∀ i j, -32768 ≤ R i j ∧ R i j ≤ 32767) := hwf
  clear hwf hwf'
  obtain ⟨zs, hz83, hzs, hzc⟩ := zero83
  have HZ : Hid (zs.size = 200 ∧ ∀ i, i < 200 → zs[i]? = some (.int .i16 0)) := ⟨hzs, hzc⟩
  obtain ⟨z2, hz42, hz2⟩ := zero42
  have HZ2 : Hid (z2.size = 256) := hz2
  clear hzs hzc hz2
  have hb1 : (b : Int) < 256 := by omega
  go_enter Try.func42, Try.ntmps42
  go_wp2_with fail
  have HS : Hid ((((w.alloc (Obj.cells #[Value.slice ao n cap, Value.slice ao' m cap'] 25)).alloc (Obj.cells zs 83)).alloc (Obj.cells zs 83)).rowIs (w.heap.size + 1) 83 200 (fun _ => .int .i16 0) ∧ (((w.alloc (Obj.cells #[Value.slice ao n cap, Value.slice ao' m cap'] 25)).alloc (Obj.cells zs 83)).alloc (Obj.cells zs 83)).rowIs (w.heap.size + 2) 83 200 (fun s => .int .i16 (cf 0 R b s)) ∧ Below w.heap.size w (((w.alloc (Obj.cells #[Value.slice ao n cap, Value.slice ao' m cap'] 25)).alloc (Obj.cells zs 83)).alloc (Obj.cells zs 83))) := by
    have h1 := World.rowIs_alloc (w.alloc (Obj.cells #[Value.slice ao n cap, Value.slice ao' m cap'] 25)) zs 83 (fun _ => .int .i16 0) (fun i hi => HZ.out.2 i (by rw [← HZ.out.1]; exact hi))
    have h2 := World.rowIs_alloc ((w.alloc (Obj.cells #[Value.slice ao n cap, Value.slice ao' m cap'] 25)).alloc (Obj.cells zs 83)) zs 83 (fun _ => .int .i16 0) (fun i hi => HZ.out.2 i (by rw [← HZ.out.1]; exact hi))
    rw [HZ.out.1] at h1 h2
    rw [show (w.alloc (Obj.cells #[Value.slice ao n cap, Value.slice ao' m cap'] 25)).heap.size = w.heap.size + 1 by simp] at h1
    rw [show ((w.alloc (Obj.cells #[Value.slice ao n cap, Value.slice ao' m cap'] 25)).alloc (Obj.cells zs 83)).heap.size = w.heap.size + 2 by simp] at h2
    exact ⟨h1.alloc _, h2.congr fun i _ => by simp [cf], (((Below.refl _ _).alloc (Nat.le_refl _) _).alloc (by simp) _).alloc (by simp; omega) _⟩
  go_loopw [11] (fun i wr => ∃ k : Nat, k ≤ n ∧ i = .int .i64 (k : Int) ∧ Hid (wr.rowIs (w.heap.size + 1) 83 200 (fun _ => .int .i16 0) ∧ wr.rowIs (w.heap.size + 2) 83 200 (fun s => .int .i16 (cf k R b s)) ∧ Below w.heap.size w wr)) (fun i _ => n - (intOf i).toNat)
  case atStart => exact ⟨0, by omega, rfl, HS⟩
  case round =>
    clear HS
    obtain ⟨k, hk, rfl, HA⟩ := hrel
    by_cases hlt : k < n
    · obtain ⟨b0, o, rfl, hb0, hc⟩ := hcs.resolve_left (by omega)
      have HC : Hid (wr.rangeAt b0 (o + k * 256) (rl (R k))) := range_of_cells fun j hj => (HA.out.2.2.cell (p := ⟨b0, o + k * 256 + j, none⟩) hb0).trans (hc k hlt j hj)
      have HL : Hid ((rl (R k)).length = 256 ∧ (rl (R k)).toArray.all (·.oneCell') = true) := ⟨rl_length _, rl_one _⟩
      have hcx : (wr.alloc (Obj.cells (rl (R k)).toArray 42)).cell? ⟨wr.heap.size, b, none⟩ = some (.int .i16 (R k b)) := by rw [cell_of_block, rl_at _ _ hb]
      obtain ⟨l, HLN⟩ : ∃ q, Hid (rl (R k) = q) := ⟨_, (rfl : _ = _)⟩
      obtain ⟨z, HZK⟩ : ∃ q, Hid (R k b = q) := ⟨_, (rfl : _ = _)⟩
      rw [HLN.out] at HC HL hcx
      rw [HZK.out] at hcx
      have hk0 : (0 : Int) ≤ (k : Int) := by omega
      have hk1 : (k : Int) < (n : Int) := by omega
      have hk2 : (k : Int) < 200 := by omega
      have h2 := HA.out.2.1.alloc (Obj.cells l.toArray 42)
      have y0 := h2.cell (i := k) (by omega)
      have y1 := h2.frozen k
      have HNX : Hid (((wr.alloc (Obj.cells l.toArray 42)).setCell ⟨w.heap.size + 2, k, none⟩ (.int .i16 z)).rowIs (w.heap.size + 1) 83 200 (fun _ => .int .i16 0) ∧ ((wr.alloc (Obj.cells l.toArray 42)).setCell ⟨w.heap.size + 2, k, none⟩ (.int .i16 z)).rowIs (w.heap.size + 2) 83 200 (fun s => .int .i16 (cf (k + 1) R b s)) ∧ Below w.heap.size w ((wr.alloc (Obj.cells l.toArray 42)).setCell ⟨w.heap.size + 2, k, none⟩ (.int .i16 z))) := by
        refine ⟨(HA.out.1.alloc _).setOther (by simp) _, (h2.set k (.int .i16 z)).congr fun i hi => ?_, (HA.out.2.2.alloc HA.out.2.2.size _).setCell (by simp) _⟩
        by_cases e : i = k
        · subst e; simp [cf, HZK.out]
        · by_cases e2 : i < k
          · simp [e, cf, e2, show i < k + 1 by omega]
          · simp [e, cf, e2, show ¬ i < k + 1 by omega]
      clear hcs hc h2
      go_wp2_with (first | refine wpList_load_mid rfl 42 _ rfl b0 (o + k * 256) rfl l _ HC.out Try.underlying42 rfl (by rw [HL.out.1]; exact size42) ?_ | refine wpList_store_new rfl _ _ rfl _ l.toArray rfl rfl HZ2.out (by simp [HL.out.1]) HL.out.2 ?_)
      go_roundw
      case rel => exact ⟨k + 1, by omega, by go_num, HNX⟩
      case measure => simp [intOf]; omega
    · obtain rfl : k = n := by omega
      have HR : Hid (wr.rangeAt (w.heap.size + 2) 0 (cl k R b)) := fun j v hv => by
        have hj : j < 200 := by have := (List.getElem?_eq_some_iff.1 hv).1; rwa [cl_length] at this
        rw [cl_at _ _ _ j hj] at hv
        rw [Nat.zero_add, HA.out.2.1.cell hj, hv]
      have HO : Hid ((cl k R b).toArray.all (·.oneCell') = true ∧ (cl k R b).length = 200) := ⟨all_oneCell_toArray fun v hv => by simp only [cl, List.mem_map] at hv; obtain ⟨j, _, rfl⟩ := hv; rfl, cl_length _ _ _⟩
      obtain ⟨l, HLN⟩ : ∃ q, Hid (cl k R b = q) := ⟨_, (rfl : _ = _)⟩
      rw [HLN.out] at HR HO
      have HSZ : Hid (l.toArray.size = 200) := by show _ = _; simp [HO.out.2]
      have HTH : Hid (wr.there (w.heap.size + 1) 0 l.toArray.size) := by rw [HSZ.out]; exact there_row HA.out.1
      go_wp2_with (first | refine wpList_load_mid rfl 83 _ rfl (w.heap.size + 2) 0 rfl l _ HR.out Try.underlying83 rfl (by rw [HO.out.2]; exact size83) ?_ | refine wpList_store_mid rfl 83 _ _ rfl (w.heap.size + 1) 0 l.toArray rfl rfl HTH.out (by rw [HSZ.out]; exact size83) HO.out.1 ?_)
      exact bodyPost_ret (v := .agg l.toArray) (results_cell_mid Try.results42 _ _ (w.heap.size + 1) l _ rfl (World.rangeAt_setCells_same _ _ _ _ (by rw [HO.out.2]; exact there_row HA.out.1)) Try.underlying83 rfl (by rw [HO.out.2]; exact size83)) rfl ⟨by rw [HLN.out], setCells_below _ (by omega) _ _ _ HA.out.2.2⟩
end Go.Proofs.Ytlgcggfenljdnaa
