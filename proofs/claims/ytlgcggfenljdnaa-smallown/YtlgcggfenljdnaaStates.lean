/-
  The contract of dfa.areStates: it answers whether each number of these rows is none or a state's.
-/
import Derived.Test.YtlgcggfenljdnaaWalks
namespace Go.Proofs.Ytlgcggfenljdnaa
open Go.RowKit
open Dfa

theorem wrap_small {z : Int} (h : -32768 ≤ z ∧ z ≤ 32767) : IntKind.i64.wrap z = z := by
  unfold IntKind.wrap
  simp [IntKind.bits, IntKind.signed]
  omega
/-- The cells of a row. -/
def rl (f : Nat → Int) : List Value := (List.range 256).map fun j => Value.int .i16 (f j)
theorem rl_length (f : Nat → Int) : (rl f).length = 256 := by simp [rl]
theorem rl_at (f : Nat → Int) (j : Nat) (hj : j < 256) : (rl f)[j]? = some (.int .i16 (f j)) := by simp [rl, hj]
theorem rl_one (f : Nat → Int) : (rl f).toArray.all (·.oneCell') = true := all_oneCell_toArray fun v hv => by
  simp only [rl, List.mem_map] at hv
  obtain ⟨j, _, rfl⟩ := hv
  rfl
theorem range_of_cells {w : World} {b o : Nat} {f : Nat → Int} (h : ∀ j, j < 256 → w.cell? ⟨b, o + j, none⟩ = some (.int .i16 (f j))) : w.rangeAt b o (rl f) := fun j v hv => by
  have hj : j < 256 := by have := (List.getElem?_eq_some_iff.1 hv).1; rwa [rl_length] at this
  rw [rl_at f j hj] at hv
  rw [h j hj, hv]
theorem range_new (w : World) (f : Nat → Int) : (w.alloc (.cells (rl f).toArray 42)).rangeAt w.heap.size 0 (rl f) := fun j v hv => by
  rw [Nat.zero_add, cell_of_row _ _ j (rl f).toArray 42 (0, 0) (heap_alloc_last w _)]
  simpa using hv
theorem index_row (f : Nat → Int) (j : Nat) (hj : j < 256) (w : World) : (Instr.index 42 (.agg (rl f).toArray) (.int .i64 (j : Int))).run Try.prog w = .ok (.int .i16 (f j)) w := by
  have h1 : (0 : Int) ≤ (j : Int) ∧ (j : Int) < (256 : Nat) := by omega
  have h2 := rl_at f j hj
  have h3 := rl_length f
  simp [Instr.index, run_underlying Try.underlying42, asIntOf, h1, go_sem, h3, hj]
  rw [List.getElem?_eq_getElem (by omega)] at h2
  exact Option.some.inj h2
theorem wpList_store_new {ops : Array Oper} {rest : List Oper} {op : Oper} {a : Act} {w : World} {Q : Exit → Act → World → Prop} (hgd : op.guard = none) (x y : Operand) (ho : op.op = .store 42 x y)
    (c c' : Array Value) (hx : a.eval x = .pointer (some ⟨w.heap.size, 0, none⟩)) (hy : a.eval y = .agg c') (hc : c.size = 256) (hc' : c'.size = 256) (h1 : c'.all (·.oneCell') = true)
    (h : wpList Try.prog ops Q rest (a.put op.dst undef) (w.alloc (.cells c' 42))) : wpList Try.prog ops Q (op :: rest) a (w.alloc (.cells c 42)) :=
  wpList_plain hgd fun K hK => by
    unfold Oper.wp execOp
    simp only [ho, hx, hy, Sem.run_bind, run_storeAt_new w 42 c c' (by rw [hc']; exact size42) (by omega) h1, Result.andThen_ok]
    exact hK _ _ h
theorem zero42 : ∃ zs : Array Value, (∀ w, (zeroValue 42).run Try.prog w = .ok (.agg zs) w) ∧ zs.size = 256 :=
  ⟨_, (zero_of_info (P := Try.prog) (t := 42) (v := .agg (Array.replicate 256 (.int .i16 0))) (n := 256) (by kernel_rfl)).1, by simp⟩

set_option maxHeartbeats 1600000 in
set_option maxRecDepth 20000 in
theorem areStates_any (rv : Value) (n : Nat) (R : Nat → Nat → Int) (w : World) (hr : Rw w rv n R) :
    Calls Try.prog 34 #[rv] w fun e w' => e = .returned (.bool (rowsOk n R)) ∧ Below w.heap.size w w' := by
  obtain ⟨ao, cap, rfl, hm, hwf, hcs⟩ := hr
  have HW : Hid (∀ i j, -32768 ≤ R i j ∧ R i j ≤ 32767) := hwf
  clear hwf
  obtain ⟨zs, hz35, hzs⟩ := zero42
  have HZ : Hid (zs.size = 256) := hzs
  clear hzs
  go_enter Try.func34, Try.ntmps34
  go_wp2_with fail
  go_loopw [9] (fun i wr => ∃ k : Nat, k ≤ n ∧ i = .int .i64 (k : Int) ∧ Hid (∀ i, i < k → rowOk n (R i) = true) ∧ Below w.heap.size w wr) (fun i _ => n - (intOf i).toNat)
  case atStart => exact ⟨0, by omega, rfl, fun i hi => by omega, Below.refl _ _⟩
  case round =>
    obtain ⟨k, hk, rfl, HA, hbel⟩ := hrel
    have hsb := hbel.size
    by_cases hlt : k < n
    · obtain ⟨b, o, rfl, hb, hc⟩ := hcs.resolve_left (by omega)
      have HC : Hid (wr.rangeAt b (o + k * 256) (rl (R k))) := range_of_cells fun j hj => (hbel.cell (p := ⟨b, o + k * 256 + j, none⟩) hb).trans (hc k hlt j hj)
      have hk0 : (0 : Int) ≤ (k : Int) := by omega
      have hk1 : (k : Int) < (n : Int) := by omega
      clear hcs hc
      go_wp2_with (first | refine wpList_load_mid rfl 42 _ rfl b (o + k * 256) rfl (rl (R k)) _ HC.out Try.underlying42 rfl (by rw [rl_length]; exact size42) ?_ | refine wpList_store_new rfl _ _ rfl _ (rl (R k)).toArray rfl rfl HZ.out (by simp [rl_length]) (rl_one _) ?_ | refine wpList_load_mid rfl 42 _ rfl wr.heap.size 0 rfl (rl (R k)) _ (range_new wr (R k)) Try.underlying42 rfl (by rw [rl_length]; exact size42) ?_)
      go_loopw [14] (fun i wx => ∃ j : Nat, j ≤ 256 ∧ i = .int .i64 (j : Int) ∧ Hid (∀ i, i < j → numOk n (R k i) = true) ∧ Below w.heap.size w wx) (fun i _ => 256 - (intOf i).toNat)
      case atStart => exact ⟨0, by omega, rfl, fun i hi => by omega, hbel.alloc hsb _⟩
      case round =>
        obtain ⟨j, hj, rfl, HB, hbel2⟩ := hrel
        by_cases hjt : j < 256
        · have hj0 : (0 : Int) ≤ (j : Int) := by omega
          have hj1 : (j : Int) < 256 := by omega
          have hix := index_row (R k) j hjt
          have hzk := HW.out k j
          obtain ⟨z, HX⟩ : ∃ z, Hid (R k j = z) := ⟨_, (rfl : R k j = R k j)⟩
          rw [HX.out] at hix hzk
          by_cases h1 : z < -1
          · go_wp2_with fail
            go_ret
            refine ⟨?_, hbel2⟩
            rw [show rowsOk n R = false from all_false hlt (all_false hjt (by unfold numOk; rw [HX.out]; simp; omega))]
            rfl
          · have hwr := wrap_small hzk
            by_cases h2 : (n : Int) ≤ z
            · go_wp2_with fail
              go_ret
              refine ⟨?_, hbel2⟩
              rw [show rowsOk n R = false from all_false hlt (all_false hjt (by unfold numOk; rw [HX.out]; simp; omega))]
              rfl
            · go_wp2_with fail
              go_roundw
              case rel =>
                refine ⟨j + 1, by omega, by go_num, fun i hi => ?_, hbel2⟩
                by_cases e : i = j
                · subst e; unfold numOk; rw [HX.out]; simp; omega
                · exact HB.out i (by omega)
              case measure => simp [intOf]; omega
        · go_wp2_with fail
          go_roundw
          case rel =>
            refine ⟨k + 1, by omega, by go_num, fun i hi => ?_, hbel2⟩
            by_cases e : i = k
            · subst e; exact all_true fun i hi => HB.out i (by omega)
            · exact HA.out i (by omega)
          case measure => simp [intOf]; omega
    · go_wp2_with fail
      go_ret
      refine ⟨?_, hbel⟩
      rw [show rowsOk n R = true from all_true fun i hi => HA.out i (by omega)]
      rfl
end Go.Proofs.Ytlgcggfenljdnaa
