/-
  The contracts of dfa.has, join, meet and setOf: sets of places, as four words. What dfa.maker holds in memory: sets as keys of a map, numbered as they are first met; rows of sets. No function is walked here. The contract of dfa.maker's number.
-/
import Derived.Test.YtlmlkpdppkgenaaSets
import Derived.Test.YtlmlkpdppkgenaaDmMath
import Derived.Deep.RegionHeld3
import Derived.Deep.Cut
import Derived.Test.YtlmlkpdppkgenaaPoOpens
import Derived.Test.YtlmlkpdppkgenaaPmPlace
import Derived.Test.YtlmlkpdppkgenaaEqs
import Derived.Maps.OwnSet
import Derived.Maps.Own
import Derived.DeepKeys4
import Derived.Deep.OwnRows
import Derived.Test.YtlmlkpdppkgenaaFree
namespace Go.Proofs.Ytlmlkpdppkgenaa
open Go.RowKit
open Cls Dm

theorem scell_wd (w : World) (c : Cl) (i : Nat) (hi : i < 4) : (w.alloc (.cells #[.int .u64 (c.1.toNat : Int), .int .u64 (c.2.1.toNat : Int), .int .u64 (c.2.2.1.toNat : Int), .int .u64 (c.2.2.2.toNat : Int)] 74)).cell? ⟨w.heap.size, i, none⟩ = some (.int .u64 ((wd c i).toNat : Int)) := by
  have : i = 0 ∨ i = 1 ∨ i = 2 ∨ i = 3 := by omega
  rcases this with rfl | rfl | rfl | rfl <;> simp [wd]
theorem sblock4 {W : World} {b : Nat} {d : Cl} (h : W.heap[b]? = some (.cells #[.int .u64 (d.1.toNat : Int), .int .u64 (d.2.1.toNat : Int), .int .u64 (d.2.2.1.toNat : Int), .int .u64 (d.2.2.2.toNat : Int)] 74)) :
    (W.cell? ⟨b, 0, none⟩ = some (.int .u64 (d.1.toNat : Int)) ∧ W.cell? ⟨b, 1, none⟩ = some (.int .u64 (d.2.1.toNat : Int)) ∧ W.cell? ⟨b, 2, none⟩ = some (.int .u64 (d.2.2.1.toNat : Int)) ∧ W.cell? ⟨b, 3, none⟩ = some (.int .u64 (d.2.2.2.toNat : Int))) ∧
    (W.frozen? ⟨b, 0, none⟩ = false ∧ W.frozen? ⟨b, 1, none⟩ = false ∧ W.frozen? ⟨b, 2, none⟩ = false ∧ W.frozen? ⟨b, 3, none⟩ = false) := by
  have hf : ∀ o, W.frozen? ⟨b, o, none⟩ = false := fun o => by simp [World.frozen?, h]
  refine ⟨⟨?_, ?_, ?_, ?_⟩, hf 0, hf 1, hf 2, hf 3⟩ <;> simp [World.cell?, h]
theorem sblock_cell {W : World} {b : Nat} {d : Cl} (h : W.heap[b]? = some (.cells #[.int .u64 (d.1.toNat : Int), .int .u64 (d.2.1.toNat : Int), .int .u64 (d.2.2.1.toNat : Int), .int .u64 (d.2.2.2.toNat : Int)] 74)) (i : Nat) (hi : i < 4) : W.cell? ⟨b, i, none⟩ = some (.int .u64 ((wd d i).toNat : Int)) := by
  have : i = 0 ∨ i = 1 ∨ i = 2 ∨ i = 3 := by omega
  rcases this with rfl | rfl | rfl | rfl <;> simp [World.cell?, h, wd]
theorem sblock_free {W : World} {b : Nat} {d : Cl} (h : W.heap[b]? = some (.cells #[.int .u64 (d.1.toNat : Int), .int .u64 (d.2.1.toNat : Int), .int .u64 (d.2.2.1.toNat : Int), .int .u64 (d.2.2.2.toNat : Int)] 74)) (i : Nat) : W.frozen? ⟨b, i, none⟩ = false := by simp [World.frozen?, h]
theorem sblock_upd {W : World} {b : Nat} {d : Cl} (h : W.heap[b]? = some (.cells #[.int .u64 (d.1.toNat : Int), .int .u64 (d.2.1.toNat : Int), .int .u64 (d.2.2.1.toNat : Int), .int .u64 (d.2.2.2.toNat : Int)] 74)) (i : Nat) (hi : i < 4) (v : Wd) : (W.setCell ⟨b, i, none⟩ (.int .u64 (v.toNat : Int))).heap[b]? = some (.cells #[.int .u64 ((Cls.upd d i v).1.toNat : Int), .int .u64 ((Cls.upd d i v).2.1.toNat : Int), .int .u64 ((Cls.upd d i v).2.2.1.toNat : Int), .int .u64 ((Cls.upd d i v).2.2.2.toNat : Int)] 74) := by
  have : i = 0 ∨ i = 1 ∨ i = 2 ∨ i = 3 := by omega
  rcases this with rfl | rfl | rfl | rfl <;> simp [World.setCell, Array.getElem?_modify, h, Cls.upd]
theorem sone_shl (k : Nat) : IntKind.u64.wrap ((2 : Int) ^ (k % 64)) = ((BitVec.ofNat 64 (2 ^ (k % 64))).toNat : Int) := by
  have hw : ∀ n : Int, IntKind.u64.wrap n = n % 18446744073709551616 := fun n => by simp [IntKind.wrap, IntKind.bits, IntKind.signed]
  rw [hw, BitVec.toNat_ofNat]
  simp
theorem snew (w : World) (o : Obj) : (w.alloc o).heap[w.heap.size]? = some o := heap_alloc_new w o
theorem snew1 (w : World) (o o' : Obj) : ((w.alloc o).alloc o').heap[w.heap.size + 1]? = some o' := by
  have := snew (w.alloc o) o'
  rwa [show (w.alloc o).heap.size = w.heap.size + 1 by simp] at this
theorem snew0 (w : World) (o o' : Obj) : ((w.alloc o).alloc o').heap[w.heap.size]? = some o := by
  rw [Below.heap_alloc _ _ _ (by simp)]; exact snew w o

set_option maxHeartbeats 400000 in
theorem shas_any (c : Cl) (z : Int) (b : Nat) (hz : z = (b : Int)) (hb : b < 256) (w : World) :
    Calls Try.prog 57 #[.agg #[.int .u64 (c.1.toNat : Int), .int .u64 (c.2.1.toNat : Int), .int .u64 (c.2.2.1.toNat : Int), .int .u64 (c.2.2.2.toNat : Int)], .int .i64 z] w fun e w' => e = .returned (.bool (mem c b)) ∧ Below w.heap.size w w' := by
  subst hz
  have hc := scell_wd w c (b / 64) (by omega)
  have hi : b / 64 < 4 := by omega
  have hm : b % 64 < 64 := by omega
  go_enter Try.func57, Try.ntmps57
  go_wp2
  go_ret
  exact ⟨ret_bool (by rw [and_bit]; exact bit_one c b), ((Lays.refl w).alloc _).below⟩

set_option maxHeartbeats 1000000 in
set_option maxRecDepth 20000 in
theorem sjoin_any (c d : Cl) (w : World) :
    Calls Try.prog 58 #[.agg #[.int .u64 (c.1.toNat : Int), .int .u64 (c.2.1.toNat : Int), .int .u64 (c.2.2.1.toNat : Int), .int .u64 (c.2.2.2.toNat : Int)], .agg #[.int .u64 (d.1.toNat : Int), .int .u64 (d.2.1.toNat : Int), .int .u64 (d.2.2.1.toNat : Int), .int .u64 (d.2.2.2.toNat : Int)]] w fun e w' => e = .returned (.agg #[.int .u64 ((join c d).1.toNat : Int), .int .u64 ((join c d).2.1.toNat : Int), .int .u64 ((join c d).2.2.1.toNat : Int), .int .u64 ((join c d).2.2.2.toNat : Int)]) ∧ Below w.heap.size w w' := by
  go_enter Try.func58, Try.ntmps58
  go_wp2
  refine wp_loop_rounds 5 ?_
  rw [rounds_succ]; go_wp2_with fail
  go_region
  go_wp2_with fail
  rw [rounds_succ]; go_wp2_with fail
  go_region
  go_wp2_with fail
  rw [rounds_succ]; go_wp2_with fail
  go_region
  go_wp2_with fail
  rw [rounds_succ]; go_wp2_with fail
  go_region
  go_wp2_with fail
  rw [rounds_succ]; go_wp2_with fail
  refine bodyPost_ret (v := .agg #[.int .u64 ((join c d).1.toNat : Int), .int .u64 ((join c d).2.1.toNat : Int), .int .u64 ((join c d).2.2.1.toNat : Int), .int .u64 ((join c d).2.2.2.toNat : Int)]) (by simp [results, Try.results58, go_sem, or64, join]) rfl ⟨rfl, ?_⟩
  exact ((((((Below.refl _ w).alloc (Nat.le_refl _) _).alloc (by simp) _).alloc (by simp; omega) _).drew.drew.drew.drew))
set_option maxHeartbeats 1000000 in
set_option maxRecDepth 20000 in
theorem smeet_any (c d : Cl) (w : World) :
    Calls Try.prog 56 #[.agg #[.int .u64 (c.1.toNat : Int), .int .u64 (c.2.1.toNat : Int), .int .u64 (c.2.2.1.toNat : Int), .int .u64 (c.2.2.2.toNat : Int)], .agg #[.int .u64 (d.1.toNat : Int), .int .u64 (d.2.1.toNat : Int), .int .u64 (d.2.2.1.toNat : Int), .int .u64 (d.2.2.2.toNat : Int)]] w fun e w' => e = .returned (.agg #[.int .u64 ((meet c d).1.toNat : Int), .int .u64 ((meet c d).2.1.toNat : Int), .int .u64 ((meet c d).2.2.1.toNat : Int), .int .u64 ((meet c d).2.2.2.toNat : Int)]) ∧ Below w.heap.size w w' := by
  go_enter Try.func56, Try.ntmps56
  go_wp2
  refine wp_loop_rounds 5 ?_
  rw [rounds_succ]; go_wp2_with fail
  go_region
  go_wp2_with fail
  rw [rounds_succ]; go_wp2_with fail
  go_region
  go_wp2_with fail
  rw [rounds_succ]; go_wp2_with fail
  go_region
  go_wp2_with fail
  rw [rounds_succ]; go_wp2_with fail
  go_region
  go_wp2_with fail
  rw [rounds_succ]; go_wp2_with fail
  refine bodyPost_ret (v := .agg #[.int .u64 ((meet c d).1.toNat : Int), .int .u64 ((meet c d).2.1.toNat : Int), .int .u64 ((meet c d).2.2.1.toNat : Int), .int .u64 ((meet c d).2.2.2.toNat : Int)]) (by simp [results, Try.results56, go_sem, and64, meet]) rfl ⟨rfl, ?_⟩
  exact ((((((Below.refl _ w).alloc (Nat.le_refl _) _).alloc (by simp) _).alloc (by simp; omega) _).drew.drew.drew.drew))

set_option maxHeartbeats 2000000 in
set_option maxRecDepth 20000 in
theorem setOf_any (v : Value) (l : List Int) (w : World) (hl : Ints w v l) (hin : ∀ x ∈ l, 0 ≤ x ∧ x < 256) :
    Calls Try.prog 27 #[v] w fun e w' => e = .returned (.agg #[.int .u64 ((stOf l).1.toNat : Int), .int .u64 ((stOf l).2.1.toNat : Int), .int .u64 ((stOf l).2.2.1.toNat : Int), .int .u64 ((stOf l).2.2.2.toNat : Int)]) ∧ Below w.heap.size w w' := by
  have HL : Hid (Ints w v l) := hl
  have HI : Hid (∀ x ∈ l, 0 ≤ x ∧ x < 256) := hin
  obtain ⟨ao, cap, rfl, hm, hcs⟩ := hl
  have HCS : Hid (l = [] ∨ ∃ b o, ao = some ⟨b, o, none⟩ ∧ b < w.heap.size ∧ ∀ i (hi : i < l.length), w.cell? ⟨b, o + i, none⟩ = some (.int .i64 l[i])) := hcs
  clear hcs hin
  obtain ⟨qq, HQQ⟩ : ∃ q, Hid (stOf l = q) := ⟨_, (rfl : _ = _)⟩
  rw [HQQ.out]
  go_enter Try.func27, Try.ntmps27
  go_wp2_with fail
  go_loopw [8] (fun i wr => ∃ k : Nat, k ≤ l.length ∧ i = .int .i64 (k : Int) ∧ Hid (wr.heap[w.heap.size + 1]? = some (.cells #[.int .u64 ((stOf (l.take k)).1.toNat : Int), .int .u64 ((stOf (l.take k)).2.1.toNat : Int), .int .u64 ((stOf (l.take k)).2.2.1.toNat : Int), .int .u64 ((stOf (l.take k)).2.2.2.toNat : Int)] 74) ∧ (wr.heap[w.heap.size]? = some (.cells #[.int .u64 (empty.1.toNat : Int), .int .u64 (empty.2.1.toNat : Int), .int .u64 (empty.2.2.1.toNat : Int), .int .u64 (empty.2.2.2.toNat : Int)] 74)) ∧ Below w.heap.size w wr ∧ w.heap.size + 2 ≤ wr.heap.size)) (fun i _ => l.length - (intOf i).toNat)
  case atStart => exact ⟨0, by omega, rfl, snew1 _ _ _, snew0 _ _ _, ((Below.refl _ w).alloc (Nat.le_refl _) _).alloc (by simp) _, by simp⟩
  case round =>
    obtain ⟨k, hk, rfl, HW⟩ := hrel
    obtain ⟨h1, h2, h3, h4⟩ := HW.out
    by_cases hlt : k < l.length
    · obtain ⟨b, o, rfl, hb, hcell⟩ := HCS.out.resolve_left (fun e => by rw [e] at hlt; simp at hlt)
      have y0 := (h3.cell (p := ⟨b, o + k, none⟩) hb).trans (hcell k hlt)
      obtain ⟨x, hx, hx2⟩ : ∃ x : Nat, l[k] = (x : Int) ∧ x < 256 := by
        have := HI.out l[k] (List.getElem_mem hlt)
        exact ⟨l[k].toNat, by omega, by omega⟩
      have HE : Hid (stOf (l.take (k + 1)) = Cls.upd (stOf (l.take k)) (x / 64) (wd (stOf (l.take k)) (x / 64) ||| BitVec.ofNat 64 (2 ^ (x % 64)))) := by
        show _ = _
        rw [stOf_take l k hlt, hx]; rfl
      rw [hx] at y0
      clear hx hcell
      have hk0 : (0 : Int) ≤ (k : Int) := by omega
      have hk1 : (k : Int) < (l.length : Int) := by omega
      obtain ⟨q, HQ⟩ : ∃ q, Hid (stOf (l.take k) = q) := ⟨_, (rfl : _ = _)⟩
      rw [HQ.out] at h1 HE
      have HB : Hid (wr.heap[w.heap.size + 1]? = some (.cells #[.int .u64 (q.1.toNat : Int), .int .u64 (q.2.1.toNat : Int), .int .u64 (q.2.2.1.toNat : Int), .int .u64 (q.2.2.2.toNat : Int)] 74) ∧ wr.heap[w.heap.size]? = some (.cells #[.int .u64 (empty.1.toNat : Int), .int .u64 (empty.2.1.toNat : Int), .int .u64 (empty.2.2.1.toNat : Int), .int .u64 (empty.2.2.2.toNat : Int)] 74) ∧ Below w.heap.size w wr ∧ w.heap.size + 2 ≤ wr.heap.size) := ⟨h1, h2, h3, h4⟩
      have hcell := sblock_cell h1 (x / 64) (by omega)
      have hfree := sblock_free h1 (x / 64)
      have hk4 : x / 64 < 4 := by omega
      have hk6 : x % 64 < 64 := by omega
      clear h1 h2 h3 HW HQ HL
      generalize hgw : wd q (x / 64) = gw at hcell
      have HG : Hid (wd q (x / 64) = gw) := hgw
      clear hgw
      go_upto_region 5 with (fail)
      go_region
      go_wp2_with fail
      have ho : bits .or .u64 (gw.toNat : Int) (IntKind.u64.wrap ((2 : Int) ^ (x % 64))) = ((gw ||| BitVec.ofNat 64 (2 ^ (x % 64))).toNat : Int) := by rw [sone_shl, or64]
      rw [ho]
      go_roundw
      case rel =>
        refine ⟨k + 1, by omega, by go_num, ⟨?_, ?_, (HB.out.2.2.1.setCell (Nat.le_succ _) _).drew, ?_⟩⟩
        · rw [HE.out, HG.out]
          exact sblock_upd HB.out.1 (x / 64) hk4 _
        · exact (Below.heap_setCell _ _ _ _ (by simp)).trans HB.out.2.1
        · show _ ≤ (wr.setCell _ _).heap.size
          have := HB.out.2.2.2
          simp [World.setCell]; omega
      case measure => simp [intOf]; omega
    · obtain rfl : k = l.length := by omega
      rw [List.take_length, HQQ.out] at h1
      obtain ⟨⟨z0, z1, z2, z3⟩, y0, y1, y2, y3⟩ := sblock4 h2
      obtain ⟨⟨x0, x1, x2, x3⟩, _⟩ := sblock4 h1
      clear h1 h2 HW
      go_wp2_with fail
      refine bodyPost_ret (v := .agg #[.int .u64 (qq.1.toNat : Int), .int .u64 (qq.2.1.toNat : Int), .int .u64 (qq.2.2.1.toNat : Int), .int .u64 (qq.2.2.2.toNat : Int)]) (by simp [results, Try.results27, go_sem, z0, z1, z2, z3]) rfl ⟨rfl, ?_⟩
      exact (((h3.setCell (Nat.le_refl _) _).setCell (Nat.le_refl _) _).setCell (Nat.le_refl _) _).setCell (Nat.le_refl _) _
end Go.Proofs.Ytlmlkpdppkgenaa

namespace Go.Proofs.Ytlmlkpdppkgenaa
open Go.RowKit
open Go.Maps
open Cls Po Dm

theorem cells74 : Try.prog.cellsOf 74 = 4 := by kernel_rfl
theorem cells40 : Try.prog.cellsOf 40 = 1 := by kernel_rfl
theorem info74 : (Try.prog.info? 74).map (fun i => (i.zero, i.size, i.bytes)) = some (some (.agg #[.int .u64 0, .int .u64 0, .int .u64 0, .int .u64 0]), 4, 32) := by kernel_rfl
theorem zero70 (w : World) : (zeroValue 70).run Try.prog w = .ok (.int .i16 0) w := (zero_of_info (P := Try.prog) (t := 70) (v := .int .i16 0) (n := 1) (by kernel_rfl)).1 w
theorem eql74 (c d : Cl) (w : World) : (binOp .eql 74 (.agg #[.int .u64 (c.1.toNat : Int), .int .u64 (c.2.1.toNat : Int), .int .u64 (c.2.2.1.toNat : Int), .int .u64 (c.2.2.2.toNat : Int)]) (.agg #[.int .u64 (d.1.toNat : Int), .int .u64 (d.2.1.toNat : Int), .int .u64 (d.2.2.1.toNat : Int), .int .u64 (d.2.2.2.toNat : Int)])).run Try.prog w = .ok (.bool (decide (c = d))) w := by
  obtain ⟨i, hi, _, _, _⟩ := info_parts info37
  have u22 := Try.underlying40
  rw [run_eql_struct, show (10000 : Nat) = 9999 + 1 from rfl, run_equalIn_array w 9999 _ _ Try.underlying74 hi]
  simp only [cells37]
  obtain ⟨c0, c1, c2, c3⟩ := c
  obtain ⟨d0, d1, d2, d3⟩ := d
  by_cases h0 : c0 = d0
  · subst h0
    by_cases h1 : c1 = d1
    · subst h1
      by_cases h2 : c2 = d2
      · subst h2
        by_cases h3 : c3 = d3
        · subst h3
          simp [Op.eqItems, List.range_succ, go_sem, u22]
        · have := wd_ne h3
          simp [Op.eqItems, List.range_succ, go_sem, u22, this, h3]
      · have := wd_ne h2
        simp [Op.eqItems, List.range_succ, go_sem, u22, this, h2]
    · have := wd_ne h1
      simp [Op.eqItems, List.range_succ, go_sem, u22, this, h1]
  · have := wd_ne h0
    simp [Op.eqItems, List.range_succ, go_sem, u22, this, h0]

theorem eqIn74 (c d : Cl) (w : World) : (Op.equalIn 10000 74 (.agg #[.int .u64 (c.1.toNat : Int), .int .u64 (c.2.1.toNat : Int), .int .u64 (c.2.2.1.toNat : Int), .int .u64 (c.2.2.2.toNat : Int)]) (.agg #[.int .u64 (d.1.toNat : Int), .int .u64 (d.2.1.toNat : Int), .int .u64 (d.2.2.1.toNat : Int), .int .u64 (d.2.2.2.toNat : Int)])).run Try.prog w = .ok (decide (c = d)) w := by
  have h := eql74 c d w
  rw [run_eql_struct] at h
  generalize (Op.equalIn 10000 74 (.agg #[.int .u64 (c.1.toNat : Int), .int .u64 (c.2.1.toNat : Int), .int .u64 (c.2.2.1.toNat : Int), .int .u64 (c.2.2.2.toNat : Int)]) (.agg #[.int .u64 (d.1.toNat : Int), .int .u64 (d.2.1.toNat : Int), .int .u64 (d.2.2.1.toNat : Int), .int .u64 (d.2.2.2.toNat : Int)])).run Try.prog w = r at h ⊢
  cases r with
  | ok b w1 =>
    simp only [Result.andThen_ok, Result.ok.injEq, Value.bool.injEq] at h
    obtain ⟨rfl, rfl⟩ := h; rfl
  | halt p w1 => simp [Result.andThen] at h
theorem eqIn74_zero (c : Cl) (w : World) : (Op.equalIn 10000 74 (.agg #[.int .u64 (c.1.toNat : Int), .int .u64 (c.2.1.toNat : Int), .int .u64 (c.2.2.1.toNat : Int), .int .u64 (c.2.2.2.toNat : Int)]) (.agg #[.int .u64 0, .int .u64 0, .int .u64 0, .int .u64 0])).run Try.prog w = .ok (decide (c = empty)) w := eqIn74 c empty w
theorem laidOutD : laidOutB Try.prog = true := by kernel_rfl
theorem law74 : Maps.Keyed Try.prog 74 := Maps.Keyed.of_law (deep_law_laid laidOutD (m := 2) (by omega) (of_decide_eq_true (by kernel_rfl)) (by kernel_rfl) (by rw [Try.underlying74]))
theorem swd_wf (a : Wd) : (Lit.int .u64 (a.toNat : Int)).wf = true := by
  have := a.isLt
  simp [Lit.wf, IntKind.min, IntKind.max, IntKind.signed, IntKind.bits]; omega
theorem key74 (c : Cl) : ∃ kl, keyOf Try.prog 74 (.agg #[.int .u64 (c.1.toNat : Int), .int .u64 (c.2.1.toNat : Int), .int .u64 (c.2.2.1.toNat : Int), .int .u64 (c.2.2.2.toNat : Int)]) = some kl := by
  have hk : Try.prog.keyType 74 = true := by kernel_rfl
  obtain ⟨m, hm⟩ : ∃ m, Try.prog.types.size = m + 1 := ⟨Try.prog.types.size - 1, by have : 0 < Try.prog.types.size := of_decide_eq_true (by kernel_rfl); omega⟩
  unfold keyOf
  rw [Try.underlying74]
  simp only [hk, Bool.true_and]
  rw [if_pos (by simp [Value.formed, Try.underlying74, cells74])]
  rw [hm]
  have e0 : Try.prog.keyLits (m + 1 + 1) 74 (Value.agg #[.int .u64 (c.1.toNat : Int), .int .u64 (c.2.1.toNat : Int), .int .u64 (c.2.2.1.toNat : Int), .int .u64 (c.2.2.2.toNat : Int)]).cells.toList = some [.int .u64 (c.1.toNat : Int), .int .u64 (c.2.1.toNat : Int), .int .u64 (c.2.2.1.toNat : Int), .int .u64 (c.2.2.2.toNat : Int)] := by
    simp [Program.keyLits, Try.underlying74, Try.underlying40, cells74, cells40, List.range_succ, swd_wf, Value.cells]
  rw [e0]
  exact ⟨_, rfl⟩
theorem key74_inj {c d : Cl} {kl : Lit} (h1 : keyOf Try.prog 74 (.agg #[.int .u64 (c.1.toNat : Int), .int .u64 (c.2.1.toNat : Int), .int .u64 (c.2.2.1.toNat : Int), .int .u64 (c.2.2.2.toNat : Int)]) = some kl) (h2 : keyOf Try.prog 74 (.agg #[.int .u64 (d.1.toNat : Int), .int .u64 (d.2.1.toNat : Int), .int .u64 (d.2.2.1.toNat : Int), .int .u64 (d.2.2.2.toNat : Int)]) = some kl) : c = d := by
  have := law74.inj h1 h2
  simp only [Value.agg.injEq, Array.mk.injEq, List.cons.injEq, Value.int.injEq, true_and, and_true] at this
  obtain ⟨a, b, e, f⟩ := this
  exact Prod.ext (BitVec.eq_of_toNat_eq (by omega)) (Prod.ext (BitVec.eq_of_toNat_eq (by omega)) (Prod.ext (BitVec.eq_of_toNat_eq (by omega)) (BitVec.eq_of_toNat_eq (by omega))))
/-- The map tells the numbers of the states. -/
structure MK (D : DataW Unit) (S : List Cl) : Prop where
  isMap : IsMap D
  has : ∀ c kl, keyOf Try.prog 74 (.agg #[.int .u64 (c.1.toNat : Int), .int .u64 (c.2.1.toNat : Int), .int .u64 (c.2.2.1.toNat : Int), .int .u64 (c.2.2.2.toNat : Int)]) = some kl → (Maps.has D kl = true ↔ c ∈ S.tail)
  at_ : ∀ c kl, keyOf Try.prog 74 (.agg #[.int .u64 (c.1.toNat : Int), .int .u64 (c.2.1.toNat : Int), .int .u64 (c.2.2.1.toNat : Int), .int .u64 (c.2.2.2.toNat : Int)]) = some kl → c ∈ S.tail → D.atKey kl (.lit (.int .i16 0)) = .lit (.int .i16 ((S.tail.idxOf c : Int) + 1))
theorem MK.start : MK (DataW.map (H := Unit) []) [empty] := ⟨⟨[], rfl⟩, fun c kl _ => by simp [Maps.has_eq], fun c kl _ h => by simp at h⟩
theorem MK.put {D : DataW Unit} {S : List Cl} (h : MK D S) (hS : 0 < S.length) {c : Cl} {kl : Lit} (hk : keyOf Try.prog 74 (.agg #[.int .u64 (c.1.toNat : Int), .int .u64 (c.2.1.toNat : Int), .int .u64 (c.2.2.1.toNat : Int), .int .u64 (c.2.2.2.toNat : Int)]) = some kl) (hn : c ∉ S.tail) : MK (D.put kl (.lit (.int .i16 (S.length : Int)))) (S ++ [c]) := by
  have ht := tail_append hS [c]
  have hl : (S.tail.length : Int) + 1 = (S.length : Int) := by rw [List.length_tail]; omega
  refine ⟨?_, fun d kd hd => ?_, fun d kd hd hm => ?_⟩
  · obtain ⟨es, rfl⟩ := h.isMap
    exact ⟨_, rfl⟩
  · rw [ht]
    by_cases e : kd = kl
    · subst e
      obtain rfl := key74_inj hk hd
      rw [Maps.has_put_same h.isMap (law74.key hk)]; simp
    · have : d ≠ c := fun e2 => e (by subst e2; rw [hk] at hd; exact (Option.some.inj hd).symm)
      rw [Maps.has_put_other e, h.has d kd hd]; simp [this]
  · rw [ht] at hm ⊢
    by_cases e : kd = kl
    · subst e
      obtain rfl := key74_inj hk hd
      rw [Maps.atKey_put_same h.isMap (law74.key hk), List.idxOf_append, if_neg hn]
      simp only [List.idxOf_cons_self]
      rw [← hl]; simp
    · have hd2 : d ≠ c := fun e2 => e (by subst e2; rw [hk] at hd; exact (Option.some.inj hd).symm)
      have hm2 : d ∈ S.tail := by simpa [hd2] using hm
      rw [Maps.atKey_put_other e, h.at_ d kd hd hm2, List.idxOf_append, if_pos hm2]
theorem map_same {W W' : World} {gm k : Nat} {D : DataW Unit} (h : W.ownsMap Try.prog 74 (plainElem Try.prog 70) gm k D) (e : W'.heap[gm]? = W.heap[gm]?) : W'.ownsMap Try.prog 74 (plainElem Try.prog 70) gm k D := by
  unfold World.ownsMap at *
  rw [e]; exact h

/-! ### Rows of sets -/
theorem dclc_at (l : List Cl) (i : Nat) (hi : i < l.length) (j : Nat) (hj : j < 4) : (clc l)[i * 4 + j]? = some (.int .u64 ((wd l[i] j).toNat : Int)) := by
  induction l generalizing i with
  | nil => simp at hi
  | cons c l ih =>
    cases i with
    | zero =>
      have : j = 0 ∨ j = 1 ∨ j = 2 ∨ j = 3 := by omega
      rcases this with rfl | rfl | rfl | rfl <;> rfl
    | succ i =>
      have h0 := ih i (by simpa using hi)
      have e : (clc (c :: l))[(i + 1) * 4 + j]? = (clc l)[i * 4 + j]? := by
        rw [show (i + 1) * 4 + j = i * 4 + j + 1 + 1 + 1 + 1 by omega]; rfl
      rw [e, h0]; rfl
/-- The words of the set at place i. -/
theorem own_set4 {W : World} {base b cap n : Nat} {S : List Cl} (h : W.ownsRow base 74 4 (.slice (some ⟨b, 0, none⟩) n cap) n (clc S)) (hn : n = S.length) (i : Nat) (hi : i < S.length) (j : Nat) (hj : j < 4) : W.cell? ⟨b, i * 4 + j, none⟩ = some (.int .u64 ((wd (S.getD i empty) j).toNat : Int)) := by
  subst hn
  obtain ⟨hl, ⟨h1, h2⟩ | ⟨g, cap', cur, hv, hg, hh, hn, hc, hs, ht⟩⟩ := h
  · cases h1
  · cases hv
    have e1 : W.cell? ⟨b, i * 4 + j, none⟩ = cur[i * 4 + j]? := by simp [World.cell?, hh]
    have e2 := dclc_at S i hi j hj
    rw [← ht, List.getElem?_take_of_lt (by omega)] at e2
    rw [List.getD_eq_getElem?_getD, List.getElem?_eq_getElem hi, e1]
    simpa using e2
def hvc (p : P) : Nat → Value := fun j => .int .u64 ((wd (hv p (j / 4)) (j % 4)).toNat : Int)
/-- The maker's four cells. -/
def mv (hb : Nat) (fo : Option Addr) (fl fc sb sn sc mb : Nat) : Nat → Value := fun i => if i = 0 then .slice (some ⟨hb, 0, none⟩) 256 256 else if i = 1 then .slice fo fl fc else if i = 2 then .slice (some ⟨sb, 0, none⟩) sn sc else .map (some mb)
/-- A maker in memory. -/
structure Ma (B g hb mb : Nat) (fo : Option Addr) (fc sb sc : Nat) (p : P) (S : List Cl) (D : DataW Unit) (W : World) : Prop where
  bx : W.rowIs g 80 4 (mv hb fo p.follow.length fc sb S.length sc mb)
  hv : W.rowIs hb 74 1024 (hvc p)
  fw : W.ownsRow B 74 4 (.slice fo p.follow.length fc) p.follow.length (clc (flS p))
  st : W.ownsRow B 74 4 (.slice (some ⟨sb, 0, none⟩) S.length sc) S.length (clc S)
  mp : W.ownsMap Try.prog 74 (plainElem Try.prog 70) mb (S.length - 1) D
  mK : MK D S
  ge : B ≤ g ∧ B ≤ hb ∧ B ≤ mb ∧ B ≤ sb ∧ B ≤ W.heap.size
  ne : hb ≠ sb ∧ g ≠ sb ∧ (∀ q, (Value.slice fo p.follow.length fc).ownBlock = some q → q ≠ sb ∧ q ≠ g ∧ q ≠ mb)
  nm : mb ≠ sb ∧ mb ≠ g ∧ mb ≠ hb ∧ hb ≠ g
variable {B g hb mb sb sc fc : Nat} {fo : Option Addr} {p : P} {S : List Cl} {D : DataW Unit} {W W' : World}
theorem Ma.lt (h : Ma B g hb mb fo fc sb sc p S D W) : g < W.heap.size ∧ hb < W.heap.size ∧ sb < W.heap.size ∧ mb < W.heap.size := by
  refine ⟨h.bx.lt, h.hv.lt, ?_, ?_⟩
  · exact (h.st.lt sb rfl).2
  · obtain ⟨es, clock, hb, -⟩ := h.mp
    exact (Array.getElem?_eq_some_iff.1 hb).1
/-- What may change: all else stays. -/
def Xs (g mb sb : Nat) : Nat → Prop := fun q => q = g ∨ q = mb ∨ q = sb
/-- The blocks of the maker are as they were. -/
theorem Ma.keep (h : Ma B g hb mb fo fc sb sc p S D W) (hs : W.heap.size ≤ W'.heap.size) (e : ∀ k, k < W.heap.size → (k = g ∨ k = hb ∨ k = mb ∨ k = sb ∨ (Value.slice fo p.follow.length fc).ownBlock = some k) → W'.heap[k]? = W.heap[k]?) : Ma B g hb mb fo fc sb sc p S D W' := by
  obtain ⟨l1, l2, l3, l4⟩ := h.lt
  refine ⟨h.bx.of_block (e g l1 (Or.inl rfl)), h.hv.of_block (e hb l2 (Or.inr (Or.inl rfl))), own_keep h.fw (fun k hk => e k (h.fw.lt k hk).2 (Or.inr (Or.inr (Or.inr (Or.inr hk))))), own_keep h.st (fun k hk => ?_), map_same h.mp (e mb l4 (Or.inr (Or.inr (Or.inl rfl)))), h.mK, ⟨h.ge.1, h.ge.2.1, h.ge.2.2.1, h.ge.2.2.2.1, Nat.le_trans h.ge.2.2.2.2 hs⟩, h.ne, h.nm⟩
  have hk2 : k = sb := by simpa [Value.ownBlock, eq_comm] using hk
  subst hk2
  exact e _ l3 (Or.inr (Or.inr (Or.inr (Or.inl rfl))))
theorem Ma.next (h : Ma B g hb mb fo fc sb sc p S D W) (hbl : Below W.heap.size W W') : Ma B g hb mb fo fc sb sc p S D W' := h.keep hbl.size fun k hk _ => hbl.block k hk
theorem Ma.drew (h : Ma B g hb mb fo fc sb sc p S D W) : Ma B g hb mb fo fc sb sc p S D W.drew := h.next (Below.refl _ _).drew
/-- A store into a block that is none of the maker's. -/
theorem Ma.other (h : Ma B g hb mb fo fc sb sc p S D W) {a : Addr} {v : Value} (ha : a.block ≠ g ∧ a.block ≠ hb ∧ a.block ≠ mb ∧ a.block ≠ sb ∧ (Value.slice fo p.follow.length fc).ownBlock ≠ some a.block) : Ma B g hb mb fo fc sb sc p S D (W.setCell a v) :=
  h.keep (by simp [World.setCell]) fun k _ hk => Below.heap_setCell _ _ _ _ (fun e => by
    subst e
    rcases hk with hk | hk | hk | hk | hk
    · exact ha.1 hk
    · exact ha.2.1 hk
    · exact ha.2.2.1 hk
    · exact ha.2.2.2.1 hk
    · exact ha.2.2.2.2 hk)
/-- A state more is in the map. -/
theorem Ma.mapped (h : Ma B g hb mb fo fc sb sc p S D W) (hg : W.grownBy W' (some mb)) : W'.rowIs g 80 4 (mv hb fo p.follow.length fc sb S.length sc mb) ∧ W'.rowIs hb 74 1024 (hvc p) ∧ W'.ownsRow B 74 4 (.slice fo p.follow.length fc) p.follow.length (clc (flS p)) ∧ W'.ownsRow B 74 4 (.slice (some ⟨sb, 0, none⟩) S.length sc) S.length (clc S) := by
  obtain ⟨l1, l2, l3, l4⟩ := h.lt
  have e : ∀ k, k < W.heap.size → k ≠ mb → W'.heap[k]? = W.heap[k]? := fun k hk hk2 => hg.block k hk (fun x => hk2 (Option.some.inj x))
  refine ⟨h.bx.of_block (e g l1 (Ne.symm h.nm.2.1)), h.hv.of_block (e hb l2 (Ne.symm h.nm.2.2.1)), own_keep h.fw (fun k hk => e k (h.fw.lt k hk).2 ((h.ne.2.2 k hk).2.2)), own_keep h.st (fun k hk => ?_)⟩
  have hk2 : k = sb := by simpa [Value.ownBlock, eq_comm] using hk
  subst hk2
  exact e _ l3 (Ne.symm h.nm.1)
end Go.Proofs.Ytlmlkpdppkgenaa

namespace Go.Proofs.Ytlmlkpdppkgenaa
open Go.RowKit
open Go.Maps
open Cls Po Dm

theorem step_mapUpdate {P : Program} {ops : Array Oper} {o : Oper} {a : Act} {K : Act → World → Prop} {Q : Exit → Act → World → Prop} {E : Prop} {W W1 : World} {mx xv yv : Value} (hgd : o.guard = none) (m x y : Operand) (t : TypeId) (ho : o.op = .mapUpdate t m x y)
    (hm : a.eval m = mx) (hx : a.eval x = xv) (hy : a.eval y = yv) (hr : (Instr.mapUpdate t mx xv yv).run P W = .ok () W1) (h : K (a.put o.dst undef) W1) : if Region.wanted o (yielded ops a.tmps) = true then Oper.wp P o a W K Q else E := by
  have hw : Region.wanted o (yielded ops a.tmps) = true := by simp [Region.wanted, hgd]
  rw [if_pos hw]
  unfold Oper.wp
  simp [execOp, ho, hm, hx, hy, hr, Result.andThen]
  exact h
theorem Fm.grown1 {W W' : World} {b : Nat} (h : W.grownBy W' (some b)) : Fm (fun q => q = b) W W' := ⟨h.os, h.tape, h.output, h.size, fun k hk hn => h.block k hk (fun e => hn (Option.some.inj e))⟩
theorem Fm.grown2 {W W' : World} {b n c : Nat} (h : W.grownBy W' (Value.slice (some ⟨b, 0, none⟩) n c).ownBlock) : Fm (fun q => q = b) W W' := ⟨h.os, h.tape, h.output, h.size, fun k hk hn => h.block k hk (fun e => hn (by simpa [Value.ownBlock] using e))⟩
theorem Fm.setX {W W' : World} {g mb sb o : Nat} {v : Value} (h : Fm (Xs g mb sb) W W') : Fm (Xs g mb sb) W (W'.setCell ⟨g, o, none⟩ v) :=
  ⟨h.os, h.tape, h.output, by simpa [World.setCell] using h.size, fun k hk hn => (Below.heap_setCell _ _ _ _ (fun e => hn (Or.inl e))).trans (h.blk k hk hn)⟩
theorem Bx.grownB {W W' : World} {b : Nat} {c : Cl} {r : Option Nat} (h : Bx W b c) (hg : W.grownBy W' r) (hn : r ≠ some b) : Bx W' b c := by
  have e := hg.block b h.lt (fun e => hn e.symm)
  exact ⟨(cell_as e 0).trans h.1, (cell_as e 1).trans h.2.1, (cell_as e 2).trans h.2.2.1, (cell_as e 3).trans h.2.2.2⟩
theorem Bx.otherB {W : World} {b : Nat} {c : Cl} {a : Addr} {v : Value} (h : Bx W b c) (hn : b ≠ a.block) : Bx (W.setCell a v) b c := by
  have e := Below.heap_setCell W a v b hn
  exact ⟨(cell_as e 0).trans h.1, (cell_as e 1).trans h.2.1, (cell_as e 2).trans h.2.2.1, (cell_as e 3).trans h.2.2.2⟩
theorem bx_new74 (W : World) (c : Cl) : Bx (W.alloc (.cells #[.int .u64 (c.1.toNat : Int), .int .u64 (c.2.1.toNat : Int), .int .u64 (c.2.2.1.toNat : Int), .int .u64 (c.2.2.2.toNat : Int)] 74)) W.heap.size c := by
  unfold Bx; simp
/-- The map is ahead of the states by one. -/
structure Mh (B g hb mb : Nat) (fo : Option Addr) (fc sb sc : Nat) (p : P) (S : List Cl) (E : DataW Unit) (c : Cl) (W : World) : Prop where
  bx : W.rowIs g 80 4 (mv hb fo p.follow.length fc sb S.length sc mb)
  hv : W.rowIs hb 74 1024 (hvc p)
  fw : W.ownsRow B 74 4 (.slice fo p.follow.length fc) p.follow.length (clc (flS p))
  st : W.ownsRow B 74 4 (.slice (some ⟨sb, 0, none⟩) S.length sc) S.length (clc S)
  mp : W.ownsMap Try.prog 74 (plainElem Try.prog 70) mb S.length E
  mK : MK E (S ++ [c])
  ge : B ≤ g ∧ B ≤ hb ∧ B ≤ mb ∧ B ≤ sb ∧ B ≤ W.heap.size
  ne : hb ≠ sb ∧ g ≠ sb ∧ (∀ q, (Value.slice fo p.follow.length fc).ownBlock = some q → q ≠ sb ∧ q ≠ g ∧ q ≠ mb)
  nm : mb ≠ sb ∧ mb ≠ g ∧ mb ≠ hb ∧ hb ≠ g
variable {B g hb mb sb sc fc : Nat} {fo : Option Addr} {p : P} {S : List Cl} {D E : DataW Unit} {c : Cl} {W W' : World}
theorem Ma.put (h : Ma B g hb mb fo fc sb sc p S D W) {kl : Lit} (hS : 0 < S.length) (hk : keyOf Try.prog 74 (.agg #[.int .u64 (c.1.toNat : Int), .int .u64 (c.2.1.toNat : Int), .int .u64 (c.2.2.1.toNat : Int), .int .u64 (c.2.2.2.toNat : Int)]) = some kl) (hn : c ∉ S.tail) (hE : E = D.put kl (.lit (.int .i16 (S.length : Int)))) (hm : W'.ownsMap Try.prog 74 (plainElem Try.prog 70) mb (S.length - 1 + 1) (D.put kl (.lit (.int .i16 (S.length : Int))))) (hg : W.grownBy W' (some mb)) : Mh B g hb mb fo fc sb sc p S E c W' := by
  obtain ⟨h1, h2, h3, h4⟩ := h.mapped hg
  subst hE
  exact ⟨h1, h2, h3, h4, by rwa [show S.length - 1 + 1 = S.length by omega] at hm, h.mK.put hS hk hn, ⟨h.ge.1, h.ge.2.1, h.ge.2.2.1, h.ge.2.2.2.1, Nat.le_trans h.ge.2.2.2.2 hg.size⟩, h.ne, h.nm⟩
theorem Mh.lt (h : Mh B g hb mb fo fc sb sc p S E c W) : g < W.heap.size ∧ hb < W.heap.size ∧ sb < W.heap.size ∧ mb < W.heap.size := by
  refine ⟨h.bx.lt, h.hv.lt, ?_, ?_⟩
  · exact (h.st.lt sb rfl).2
  · obtain ⟨es, clock, hb, -⟩ := h.mp
    exact (Array.getElem?_eq_some_iff.1 hb).1
theorem Mh.next (h : Mh B g hb mb fo fc sb sc p S E c W) (hbl : Below W.heap.size W W') : Mh B g hb mb fo fc sb sc p S E c W' := by
  obtain ⟨l1, l2, l3, l4⟩ := h.lt
  exact ⟨h.bx.of_block (hbl.block g l1), h.hv.of_block (hbl.block hb l2), own_keep h.fw (fun k hk => hbl.block k (h.fw.lt k hk).2), own_keep h.st (fun k hk => hbl.block k (h.st.lt k hk).2), map_same h.mp (hbl.block mb l4), h.mK, ⟨h.ge.1, h.ge.2.1, h.ge.2.2.1, h.ge.2.2.2.1, Nat.le_trans h.ge.2.2.2.2 hbl.size⟩, h.ne, h.nm⟩
theorem Mh.drew (h : Mh B g hb mb fo fc sb sc p S E c W) : Mh B g hb mb fo fc sb sc p S E c W.drew := h.next (Below.refl _ _).drew
/-- The states have grown, and their slice is written. -/
theorem Mh.grow {gr cr : Nat} (h : Mh B g hb mb fo fc sb sc p S E c W) (hg : W.grownBy W' (Value.slice (some ⟨sb, 0, none⟩) S.length sc).ownBlock) (ho : W'.ownsRow B 74 4 (.slice (some ⟨gr, 0, none⟩) (S.length + 1) cr) (S.length + 1) (clc (S ++ [c]))) (hr : gr = sb ∨ gr = W.heap.size) :
    W'.rowIs g 80 4 (mv hb fo p.follow.length fc sb S.length sc mb) ∧ Ma B g hb mb fo fc gr cr p (S ++ [c]) E (W'.setCell ⟨g, 2, none⟩ (.slice (some ⟨gr, 0, none⟩) (S.length + 1) cr)) ∧ (gr = sb ∨ W.heap.size ≤ gr) := by
  obtain ⟨l1, l2, l3, l4⟩ := h.lt
  have e : ∀ k, k < W.heap.size → k ≠ sb → W'.heap[k]? = W.heap[k]? := fun k hk hk2 => hg.block k hk (fun x => hk2 (by simpa [Value.ownBlock] using x))
  have e2 : ∀ k, k ≠ g → (W'.setCell ⟨g, 2, none⟩ (.slice (some ⟨gr, 0, none⟩) (S.length + 1) cr)).heap[k]? = W'.heap[k]? := fun k hk => Below.heap_setCell _ _ _ _ hk
  have hb1 := h.bx.of_block (e g l1 h.ne.2.1)
  have ngr : ∀ k, k < W.heap.size → k ≠ sb → k ≠ gr := fun k hk hk2 => by rcases hr with r | r <;> omega
  have hfl : ∀ k, (Value.slice fo p.follow.length fc).ownBlock = some k → k < W.heap.size := fun k hk => (h.fw.lt k hk).2
  have hlen : (S ++ [c]).length = S.length + 1 := by simp
  refine ⟨hb1, ⟨?_, ?_, ?_, ?_, ?_, h.mK, ⟨h.ge.1, h.ge.2.1, h.ge.2.2.1, ?_, ?_⟩, ⟨ngr hb l2 h.ne.1, ngr g l1 h.ne.2.1, fun q hq => ⟨ngr q (hfl q hq) (h.ne.2.2 q hq).1, (h.ne.2.2 q hq).2⟩⟩, ⟨ngr mb l4 h.nm.1, h.nm.2⟩⟩, hr.imp id (fun r => by omega)⟩
  · rw [hlen]
    exact (hb1.set 2 _).congr fun i _ => by
      unfold mv
      by_cases e : i = 2
      · subst e; simp
      · simp [e]
  · exact h.hv.of_block ((e2 hb h.nm.2.2.2).trans (e hb l2 h.ne.1))
  · exact own_keep h.fw (fun k hk => (e2 k (h.ne.2.2 k hk).2.1).trans (e k (hfl k hk) (h.ne.2.2 k hk).1))
  · rw [hlen]
    refine own_keep ho (fun k hk => e2 k ?_)
    have : k = gr := by simpa [Value.ownBlock, eq_comm] using hk
    subst this
    exact Ne.symm (ngr g l1 h.ne.2.1)
  · rw [hlen]
    exact map_same h.mp ((e2 mb h.nm.2.1).trans (e mb l4 h.nm.1))
  · rcases hr with r | r
    · rw [r]; exact h.ge.2.2.2.1
    · rw [r]; exact h.ge.2.2.2.2
  · have := hg.size
    have := h.ge.2.2.2.2
    simp [World.setCell]; omega
/-- What number leaves. -/
def NumP (B g hb mb : Nat) (fo : Option Addr) (fc sb : Nat) (p : P) (S : List Cl) (c : Cl) (w w' : World) : Prop :=
  ∃ sb' sc' D', Ma B g hb mb fo fc sb' sc' p (add S c) D' w' ∧ Fm (Xs g mb sb) w w' ∧ (sb' = sb ∨ w.heap.size ≤ sb')
structure RN6 (w2 : World) (B g hb mb : Nat) (fo : Option Addr) (fc sb sc : Nat) (p : P) (S : List Cl) (D E : DataW Unit) (c : Cl) (b : Nat) (d : Nat → Bool) (x27 x28 x29 x30 x31 x32 : Value) (W : World) : Prop where
  f0 : d 0 = true → x27 = (.pointer (some ⟨g, 0, none⟩))
  f1 : d 1 = true → x28 = (.pointer (some ⟨g, 0, none⟩))
  f2 : d 2 = true → x29 = (.pointer (some ⟨g, 3, none⟩))
  f3 : d 3 = true → x30 = (.map (some mb))
  f4 : d 4 = true → x31 = (.agg #[.int .u64 (c.1.toNat : Int), .int .u64 (c.2.1.toNat : Int), .int .u64 (c.2.2.1.toNat : Int), .int .u64 (c.2.2.2.toNat : Int)])
  f5 : d 5 = true → x32 = (.int .i16 (S.length : Int))
  f6 : d 6 = true → True
  o6_3 : d 6 = true → d 3 = true
  o6_4 : d 6 = true → d 4 = true
  ma : d 6 = false → Ma B g hb mb fo fc sb sc p S D W
  bx : Bx W b c
  fm : Fm (Xs g mb sb) w2 W
  fin : d 6 = true → Mh B g hb mb fo fc sb sc p S E c W
structure RN7 (w2 : World) (B g hb mb : Nat) (fo : Option Addr) (fc sb sc : Nat) (p : P) (S : List Cl) (D E : DataW Unit) (c : Cl) (b : Nat) (gb : Nat) (gr : Nat) (cr : Nat) (d : Nat → Bool) (x33 x34 x35 x36 x37 x38 x39 x40 x41 x42 : Value) (W : World) : Prop where
  f0 : d 0 = true → x33 = (.pointer (some ⟨g, 0, none⟩))
  f1 : d 1 = true → x34 = (.pointer (some ⟨g, 0, none⟩))
  f2 : d 2 = true → x35 = (.pointer (some ⟨g, 0, none⟩))
  f3 : d 3 = true → x36 = (.pointer (some ⟨g, 2, none⟩))
  f4 : d 4 = true → x37 = (.slice (some ⟨sb, 0, none⟩) S.length sc)
  f5 : d 5 = true → x38 = (.agg #[.int .u64 (c.1.toNat : Int), .int .u64 (c.2.1.toNat : Int), .int .u64 (c.2.2.1.toNat : Int), .int .u64 (c.2.2.2.toNat : Int)])
  f6 : d 6 = true → x39 = (.slice (some ⟨gb, 0, none⟩) 1 1)
  f7 : d 7 = true → x40 = (.slice (some ⟨gr, 0, none⟩) (S.length + 1) cr)
  f8 : d 8 = true → x41 = (.pointer (some ⟨g, 0, none⟩))
  f9 : d 9 = true → x42 = (.pointer (some ⟨g, 2, none⟩))
  f10 : d 10 = true → True
  o7_4 : d 7 = true → d 4 = true
  o7_6 : d 7 = true → d 6 = true
  q10_7 : d 10 = true → d 7 = true
  fm : Fm (Xs g mb sb) w2 W
  bx : Bx W b c
  pm : d 7 = false → Mh B g hb mb fo fc sb sc p S E c W
  bs : d 6 = true → d 7 = false → ∀ j u, ([.int .u64 (c.1.toNat : Int), .int .u64 (c.2.1.toNat : Int), .int .u64 (c.2.2.1.toNat : Int), .int .u64 (c.2.2.2.toNat : Int)] : List Value)[j]? = some u → W.cell? ⟨gb, j, none⟩ = some u
  th : d 7 = true → d 10 = false → W.rowIs g 80 4 (mv hb fo p.follow.length fc sb S.length sc mb) ∧ (Ma B g hb mb fo fc gr cr p (S ++ [c]) E (W.setCell ⟨g, 2, none⟩ (.slice (some ⟨gr, 0, none⟩) (S.length + 1) cr)) ∧ Fm (Xs g mb sb) w2 (W.setCell ⟨g, 2, none⟩ (.slice (some ⟨gr, 0, none⟩) (S.length + 1) cr)) ∧ (gr = sb ∨ w2.heap.size ≤ gr))
  fin : d 10 = true → Ma B g hb mb fo fc gr cr p (S ++ [c]) E W ∧ Fm (Xs g mb sb) w2 W ∧ (gr = sb ∨ w2.heap.size ≤ gr)

set_option maxHeartbeats 8000000 in
set_option maxRecDepth 20000 in
theorem number_any (B g hb mb : Nat) (fo : Option Addr) (fc sb sc : Nat) (p : P) (S : List Cl) (D : DataW Unit) (c : Cl) (w : World) (h : Ma B g hb mb fo fc sb sc p S D w) (hS : 0 < S.length) (hS2 : S.length ≤ 1000) :
    Calls Try.prog 55 #[(.pointer (some ⟨g, 0, none⟩)), .agg #[.int .u64 (c.1.toNat : Int), .int .u64 (c.2.1.toNat : Int), .int .u64 (c.2.2.1.toNat : Int), .int .u64 (c.2.2.2.toNat : Int)]] w fun e w' => e = .returned (.int .i16 (num (add S c) c)) ∧ NumP B g hb mb fo fc sb p S c w w' := by
  obtain ⟨i74, a1, a2, a3, a4⟩ := info_parts info74
  have H74 : Hid (Try.prog.info? 74 = some i74 ∧ i74.zero = some (.agg #[.int .u64 0, .int .u64 0, .int .u64 0, .int .u64 0]) ∧ i74.size = 4 ∧ i74.bytes = 32) := ⟨a1, a2, a3, a4⟩
  clear a1 a2 a3 a4
  have hbl := (Below.refl w.heap.size w).alloc (Nat.le_refl _) (.cells #[.int .u64 (c.1.toNat : Int), .int .u64 (c.2.1.toNat : Int), .int .u64 (c.2.2.1.toNat : Int), .int .u64 (c.2.2.2.toNat : Int)] 74)
  have HMA : Hid (Ma B g hb mb fo fc sb sc p S D (w.alloc (.cells #[.int .u64 (c.1.toNat : Int), .int .u64 (c.2.1.toNat : Int), .int .u64 (c.2.2.1.toNat : Int), .int .u64 (c.2.2.2.toNat : Int)] 74))) := h.next hbl
  have HF0 : Hid (Fm (Xs g mb sb) w (w.alloc (.cells #[.int .u64 (c.1.toNat : Int), .int .u64 (c.2.1.toNat : Int), .int .u64 (c.2.2.1.toNat : Int), .int .u64 (c.2.2.2.toNat : Int)] 74))) := Fm.below hbl
  have HBX : Hid (Bx (w.alloc (.cells #[.int .u64 (c.1.toNat : Int), .int .u64 (c.2.1.toNat : Int), .int .u64 (c.2.2.1.toNat : Int), .int .u64 (c.2.2.2.toNat : Int)] 74)) w.heap.size c) := bx_new74 w c
  obtain ⟨l1, l2, l3, l4⟩ := h.lt
  have HBG : Hid (w.heap.size ≠ g) := (by omega : w.heap.size ≠ g)
  have HBM : Hid (some mb ≠ some w.heap.size) := (by simp; omega : some mb ≠ some w.heap.size)
  have HBS : Hid ((Value.slice (some ⟨sb, 0, none⟩) S.length sc).ownBlock ≠ some w.heap.size) := (by simp [Value.ownBlock]; omega : (Value.slice (some ⟨sb, 0, none⟩) S.length sc).ownBlock ≠ some w.heap.size)
  have HPOS : Hid (0 < S.length) := hS
  have HSZ : Hid (S.length ≤ 1000) := hS2
  obtain ⟨kl, hkl⟩ := key74 c
  have HKL : Hid (keyOf Try.prog 74 (.agg #[.int .u64 (c.1.toNat : Int), .int .u64 (c.2.1.toNat : Int), .int .u64 (c.2.2.1.toNat : Int), .int .u64 (c.2.2.2.toNat : Int)]) = some kl) := hkl
  clear hkl hS hS2 hbl h l1 l2 l3 l4
  by_cases h0 : c = empty
  · have hq : ∀ W, (Op.equalIn 10000 74 (.agg #[.int .u64 (c.1.toNat : Int), .int .u64 (c.2.1.toNat : Int), .int .u64 (c.2.2.1.toNat : Int), .int .u64 (c.2.2.2.toNat : Int)]) (.agg #[.int .u64 0, .int .u64 0, .int .u64 0, .int .u64 0])).run Try.prog W = .ok true W := fun W => by rw [eqIn74_zero, decide_eq_true h0]
    have HADD : Hid (add S c = S ∧ num S c = -1) := ⟨by unfold add; rw [if_pos h0], by unfold num; rw [if_pos h0]⟩
    rw [HADD.out.1, HADD.out.2]
    have HFIN : Hid (NumP B g hb mb fo fc sb p S c w (w.alloc (.cells #[.int .u64 (c.1.toNat : Int), .int .u64 (c.2.1.toNat : Int), .int .u64 (c.2.2.1.toNat : Int), .int .u64 (c.2.2.2.toNat : Int)] 74))) := ⟨sb, sc, D, by rw [HADD.out.1]; exact HMA.out, HF0.out, Or.inl rfl⟩
    clear h0
    go_enter Try.func55, Try.ntmps55
    go_wp2_with fail
    go_ret
    exact ⟨rfl, HFIN.out⟩
  · have hq : ∀ W, (Op.equalIn 10000 74 (.agg #[.int .u64 (c.1.toNat : Int), .int .u64 (c.2.1.toNat : Int), .int .u64 (c.2.2.1.toNat : Int), .int .u64 (c.2.2.2.toNat : Int)]) (.agg #[.int .u64 0, .int .u64 0, .int .u64 0, .int .u64 0])).run Try.prog W = .ok false W := fun W => by rw [eqIn74_zero, decide_eq_false h0]
    obtain ⟨w2, HW2⟩ : ∃ q, Hid (w.alloc (.cells #[.int .u64 (c.1.toNat : Int), .int .u64 (c.2.1.toNat : Int), .int .u64 (c.2.2.1.toNat : Int), .int .u64 (c.2.2.2.toNat : Int)] 74) = q) := ⟨_, (rfl : _ = _)⟩
    obtain ⟨b, HB⟩ : ∃ q, Hid (w.heap.size = q) := ⟨_, (rfl : _ = _)⟩
    rw [HW2.out] at HMA HF0 HBX
    rw [HB.out] at HBX HBG HBM HBS
    obtain ⟨v, ps, hrun, hv⟩ := HMA.out.mp.drew.look_ok law74 Try.underlying78 (zero70 _) (plainElem_int (H := Unit) Try.underlying70 (by decide : (Lit.int .i16 0).wf = true)) HKL.out
    obtain ⟨z, rfl, hz, -⟩ := plainElem_int_inv Try.underlying70 hv
    have HZ : Hid (D.atKey kl (.lit (.int .i16 0)) = .lit (.int .i16 z)) := congrArg Prod.fst hz
    clear hv hz
    have ya := HBX.out.1
    have yb := HBX.out.2.1
    have yc := HBX.out.2.2.1
    have yd := HBX.out.2.2.2
    have y3 := HMA.out.bx.cell (i := 3) (by omega)
    simp only [mv] at y3
    by_cases hm : c ∈ S.tail
    · have HADD : Hid (add S c = S ∧ num S c = z) := ⟨by unfold add; rw [if_neg h0, if_pos hm], by
        have e := HMA.out.mK.at_ c kl HKL.out hm
        rw [HZ.out] at e
        injection e with e1
        injection e1 with _ e2
        unfold num; rw [if_neg h0, ← e2]⟩
      have hh : Maps.has D kl = true := (HMA.out.mK.has c kl HKL.out).2 hm
      rw [hh] at hrun
      rw [HADD.out.1, HADD.out.2]
      have HFIN : Hid (NumP B g hb mb fo fc sb p S c w w2.drew) := ⟨sb, sc, D, by rw [HADD.out.1]; exact HMA.out.drew, HF0.out.trans (Fm.below (Below.refl _ _).drew) (fun q _ h => h), Or.inl rfl⟩
      clear h0 hh hm HZ
      go_enter Try.func55, Try.ntmps55
      go_upto_region 3 with fail
      rw [HW2.out, HB.out]
      go_region
      go_wp2_with fail
      go_ret
      exact ⟨rfl, HFIN.out⟩
    · have hh : Maps.has D kl = false := by
        cases e : Maps.has D kl
        · rfl
        · exact absurd ((HMA.out.mK.has c kl HKL.out).1 e) hm
      rw [hh] at hrun
      have HNM : Hid (c ∉ S.tail) := hm
      have HADD : Hid (add S c = S ++ [c]) := (by unfold add; rw [if_neg h0, if_neg hm] : add S c = S ++ [c])
      have HNUM : Hid (num (S ++ [c]) c = (S.length : Int)) := by
        show _ = _
        unfold num
        rw [if_neg h0, tail_append HPOS.out, List.idxOf_append, if_neg hm]
        have := HPOS.out
        simp only [List.idxOf_cons_self, List.length_tail]
        omega
      rw [HADD.out, HNUM.out]
      have HVL : Hid (plainElem (H := Unit) Try.prog 70 (.int .i16 (S.length : Int)) = some (.lit (.int .i16 (S.length : Int)), [])) := plainElem_int Try.underlying70 (by have := HSZ.out; simp [Lit.wf, IntKind.min, IntKind.max, IntKind.signed, IntKind.bits]; omega)
      obtain ⟨E, HE⟩ : ∃ E, Hid (E = D.put kl (.lit (.int .i16 (S.length : Int)))) := ⟨_, (rfl : _ = _)⟩
      have hwr : IntKind.i16.wrap (S.length : Int) = (S.length : Int) := by
        have := HSZ.out
        simp [IntKind.wrap, IntKind.bits, IntKind.signed]; omega
      have y2 := HMA.out.bx.cell (i := 2) (by omega)
      simp only [mv] at y2
      clear h0 hh hm HZ
      go_enter Try.func55, Try.ntmps55
      go_upto_region 3 with fail
      rw [HW2.out, HB.out]
      go_region
      have HMA2 : Hid (Ma B g hb mb fo fc sb sc p S D w2.drew) := HMA.out.drew
      have HF02 : Hid (Fm (Xs g mb sb) w w2.drew) := HF0.out.trans (Fm.below (Below.refl _ _).drew) (fun q _ h => h)
      have HBX2 : Hid (Bx w2.drew b c) := HBX.out
      go_upto_region 6 with fail
      clear hrun ya yb yc yd y3 y2 hwr hq HMA HF0 HBX HW2 HB
      generalize w2.drew = w2 at HMA2 HF02 HBX2 ⊢
      have HMA := HMA2
      have HF0 := HF02
      have HBX := HBX2
      clear HMA2 HF02 HBX2
      refine wp_region_free mixed (fun a0 d a W => ∃ (x27 x28 x29 x30 x31 x32 : Value), a = ((((((a0.put (some 27) x27).put (some 28) x28).put (some 29) x29).put (some 30) x30).put (some 31) x31).put (some 32) x32) ∧ Hid (RN6 w2 B g hb mb fo fc sb sc p S D E c b d x27 x28 x29 x30 x31 x32 W)) (by kernel_rfl) ⟨undef, undef, undef, undef, undef, undef, by simp only [Act.put, List.setIfInBounds_toArray, List.set_cons_zero, List.set_cons_succ], ?_⟩ ?_ ?_
      · exact ⟨fun h => no_way h, fun h => no_way h, fun h => no_way h, fun h => no_way h, fun h => no_way h, fun h => no_way h, fun _ => trivial, fun h => no_way h, fun h => no_way h, fun _ => HMA.out.drew, HBX.out, (Fm.refl _ _).trans (Fm.below (Below.refl _ _).drew) (fun q _ h => h), fun h => no_way h⟩
      · simp only [StepAll, and_true]
        refine ⟨?_, ?_, ?_, ?_, ?_, ?_, ?_⟩
        · intro d a W hI hd hdep
          obtain ⟨x27, x28, x29, x30, x31, x32, rfl, hF⟩ := hI
          clear hdep hd
          intro K hK
          simp only [Act.put, List.setIfInBounds_toArray, List.set_cons_zero, List.set_cons_succ]
          go_simp
          refine hK.out _ _ ⟨(.pointer (some ⟨g, 0, none⟩)), x28, x29, x30, x31, x32, by simp only [Act.put, List.setIfInBounds_toArray, List.set_cons_zero, List.set_cons_succ], ?_⟩
          exact ⟨fun _ => rfl, fun h => hF.out.f1 (by simpa using h), fun h => hF.out.f2 (by simpa using h), fun h => hF.out.f3 (by simpa using h), fun h => hF.out.f4 (by simpa using h), fun h => hF.out.f5 (by simpa using h), fun h => hF.out.f6 (by simpa using h), fun h => by have := hF.out.o6_3 (by simpa using h); simpa using this, fun h => by have := hF.out.o6_4 (by simpa using h); simpa using this, fun h => hF.out.ma (by simpa using h), hF.out.bx, hF.out.fm, fun h => hF.out.fin (by simpa using h)⟩
        · intro d a W hI hd hdep
          obtain ⟨x27, x28, x29, x30, x31, x32, rfl, hF⟩ := hI
          have hd0 : d 0 = true := dep_of hdep 0 (by kernel_rfl)
          obtain rfl := hF.out.f0 hd0
          clear hdep hd hd0
          intro K hK
          simp only [Act.put, List.setIfInBounds_toArray, List.set_cons_zero, List.set_cons_succ]
          go_simp
          refine hK.out _ _ ⟨(.pointer (some ⟨g, 0, none⟩)), (.pointer (some ⟨g, 0, none⟩)), x29, x30, x31, x32, by simp only [Act.put, List.setIfInBounds_toArray, List.set_cons_zero, List.set_cons_succ], ?_⟩
          exact ⟨fun h => hF.out.f0 (by simpa using h), fun _ => rfl, fun h => hF.out.f2 (by simpa using h), fun h => hF.out.f3 (by simpa using h), fun h => hF.out.f4 (by simpa using h), fun h => hF.out.f5 (by simpa using h), fun h => hF.out.f6 (by simpa using h), fun h => by have := hF.out.o6_3 (by simpa using h); simpa using this, fun h => by have := hF.out.o6_4 (by simpa using h); simpa using this, fun h => hF.out.ma (by simpa using h), hF.out.bx, hF.out.fm, fun h => hF.out.fin (by simpa using h)⟩
        · intro d a W hI hd hdep
          obtain ⟨x27, x28, x29, x30, x31, x32, rfl, hF⟩ := hI
          have hd1 : d 1 = true := dep_of hdep 1 (by kernel_rfl)
          obtain rfl := hF.out.f1 hd1
          clear hdep hd hd1
          intro K hK
          simp only [Act.put, List.setIfInBounds_toArray, List.set_cons_zero, List.set_cons_succ]
          go_simp
          refine hK.out _ _ ⟨x27, (.pointer (some ⟨g, 0, none⟩)), (.pointer (some ⟨g, 3, none⟩)), x30, x31, x32, by simp only [Act.put, List.setIfInBounds_toArray, List.set_cons_zero, List.set_cons_succ], ?_⟩
          exact ⟨fun h => hF.out.f0 (by simpa using h), fun h => hF.out.f1 (by simpa using h), fun _ => rfl, fun h => hF.out.f3 (by simpa using h), fun h => hF.out.f4 (by simpa using h), fun h => hF.out.f5 (by simpa using h), fun h => hF.out.f6 (by simpa using h), fun h => by have := hF.out.o6_3 (by simpa using h); simpa using this, fun h => by have := hF.out.o6_4 (by simpa using h); simpa using this, fun h => hF.out.ma (by simpa using h), hF.out.bx, hF.out.fm, fun h => hF.out.fin (by simpa using h)⟩
        · intro d a W hI hd hdep
          obtain ⟨x27, x28, x29, x30, x31, x32, rfl, hF⟩ := hI
          have hd2 : d 2 = true := dep_of hdep 2 (by kernel_rfl)
          obtain rfl := hF.out.f2 hd2
          have HN6 : Hid (d 6 = false) := no_later hF.out.o6_3 hd
          have ya := (hF.out.ma HN6.out).bx.cell (i := 3) (by omega)
          simp only [mv] at ya
          clear hdep hd hd2
          intro K hK
          simp only [Act.put, List.setIfInBounds_toArray, List.set_cons_zero, List.set_cons_succ]
          go_simp
          refine hK.out _ _ ⟨x27, x28, (.pointer (some ⟨g, 3, none⟩)), (.map (some mb)), x31, x32, by simp only [Act.put, List.setIfInBounds_toArray, List.set_cons_zero, List.set_cons_succ], ?_⟩
          exact ⟨fun h => hF.out.f0 (by simpa using h), fun h => hF.out.f1 (by simpa using h), fun h => hF.out.f2 (by simpa using h), fun _ => rfl, fun h => hF.out.f4 (by simpa using h), fun h => hF.out.f5 (by simpa using h), fun h => hF.out.f6 (by simpa using h), fun _ => by simp, fun h => by have := hF.out.o6_4 (by simpa using h); simpa using this, fun h => hF.out.ma (by simpa using h), hF.out.bx, hF.out.fm, fun h => hF.out.fin (by simpa using h)⟩
        · intro d a W hI hd hdep
          obtain ⟨x27, x28, x29, x30, x31, x32, rfl, hF⟩ := hI
          have HN6 : Hid (d 6 = false) := no_later hF.out.o6_4 hd
          have hbx := hF.out.bx
          have ya := hbx.1
          have yb := hbx.2.1
          have yc := hbx.2.2.1
          have yd := hbx.2.2.2
          clear hbx
          clear hdep hd
          intro K hK
          simp only [Act.put, List.setIfInBounds_toArray, List.set_cons_zero, List.set_cons_succ]
          go_simp
          refine hK.out _ _ ⟨x27, x28, x29, x30, (.agg #[.int .u64 (c.1.toNat : Int), .int .u64 (c.2.1.toNat : Int), .int .u64 (c.2.2.1.toNat : Int), .int .u64 (c.2.2.2.toNat : Int)]), x32, by simp only [Act.put, List.setIfInBounds_toArray, List.set_cons_zero, List.set_cons_succ], ?_⟩
          exact ⟨fun h => hF.out.f0 (by simpa using h), fun h => hF.out.f1 (by simpa using h), fun h => hF.out.f2 (by simpa using h), fun h => hF.out.f3 (by simpa using h), fun _ => rfl, fun h => hF.out.f5 (by simpa using h), fun h => hF.out.f6 (by simpa using h), fun h => by have := hF.out.o6_3 (by simpa using h); simpa using this, fun _ => by simp, fun h => hF.out.ma (by simpa using h), hF.out.bx, hF.out.fm, fun h => hF.out.fin (by simpa using h)⟩
        · intro d a W hI hd hdep
          obtain ⟨x27, x28, x29, x30, x31, x32, rfl, hF⟩ := hI
          clear hdep hd
          intro K hK
          simp only [Act.put, List.setIfInBounds_toArray, List.set_cons_zero, List.set_cons_succ]
          go_simp
          refine hK.out _ _ ⟨x27, x28, x29, x30, x31, (.int .i16 (S.length : Int)), by simp only [Act.put, List.setIfInBounds_toArray, List.set_cons_zero, List.set_cons_succ], ?_⟩
          exact ⟨fun h => hF.out.f0 (by simpa using h), fun h => hF.out.f1 (by simpa using h), fun h => hF.out.f2 (by simpa using h), fun h => hF.out.f3 (by simpa using h), fun h => hF.out.f4 (by simpa using h), fun _ => rfl, fun h => hF.out.f6 (by simpa using h), fun h => by have := hF.out.o6_3 (by simpa using h); simpa using this, fun h => by have := hF.out.o6_4 (by simpa using h); simpa using this, fun h => hF.out.ma (by simpa using h), hF.out.bx, hF.out.fm, fun h => hF.out.fin (by simpa using h)⟩
        · intro d a W hI hd hdep
          obtain ⟨x27, x28, x29, x30, x31, x32, rfl, hF⟩ := hI
          have hd3 : d 3 = true := dep_of hdep 3 (by kernel_rfl)
          have hd4 : d 4 = true := dep_of hdep 4 (by kernel_rfl)
          have hd5 : d 5 = true := dep_of hdep 5 (by kernel_rfl)
          obtain rfl := hF.out.f3 hd3
          obtain rfl := hF.out.f4 hd4
          obtain rfl := hF.out.f5 hd5
          have e6_3 := hd3
          have e6_4 := hd4
          have hma := hF.out.ma hd
          obtain ⟨W1x, hrun, hm1, hg1⟩ := hma.mp.update law74 Try.underlying78 (by have := HSZ.out; unfold maxLen; omega) HKL.out HVL.out
          have HM : Hid (Mh B g hb mb fo fc sb sc p S E c W1x ∧ Fm (Xs g mb sb) w2 W1x ∧ Bx W1x b c) := ⟨hma.put HPOS.out HKL.out HNM.out HE.out hm1 hg1, hF.out.fm.trans (Fm.grown1 hg1) (fun q _ h => Or.inr (Or.inl h)), hF.out.bx.grownB hg1 HBM.out⟩
          clear hma hm1 hg1
          clear hdep hd hd3 hd4 hd5
          intro K hK
          refine step_mapUpdate (mx := .map (some mb)) (xv := (.agg #[.int .u64 (c.1.toNat : Int), .int .u64 (c.2.1.toNat : Int), .int .u64 (c.2.2.1.toNat : Int), .int .u64 (c.2.2.2.toNat : Int)])) (yv := .int .i16 (S.length : Int)) (W1 := W1x) (by rfl) _ _ _ 78 (by rfl) (by simp only [Act.put, List.setIfInBounds_toArray, List.set_cons_zero, List.set_cons_succ]; rfl) (by simp only [Act.put, List.setIfInBounds_toArray, List.set_cons_zero, List.set_cons_succ]; rfl) (by simp only [Act.put, List.setIfInBounds_toArray, List.set_cons_zero, List.set_cons_succ]; rfl) (by exact hrun) ?_
          simp only [Act.put, List.setIfInBounds_toArray, List.set_cons_zero, List.set_cons_succ]
          refine hK.out _ _ ⟨x27, x28, x29, (.map (some mb)), (.agg #[.int .u64 (c.1.toNat : Int), .int .u64 (c.2.1.toNat : Int), .int .u64 (c.2.2.1.toNat : Int), .int .u64 (c.2.2.2.toNat : Int)]), (.int .i16 (S.length : Int)), by simp only [Act.put, List.setIfInBounds_toArray, List.set_cons_zero, List.set_cons_succ], ?_⟩
          exact ⟨fun h => hF.out.f0 (by simpa using h), fun h => hF.out.f1 (by simpa using h), fun h => hF.out.f2 (by simpa using h), fun h => hF.out.f3 (by simpa using h), fun h => hF.out.f4 (by simpa using h), fun h => hF.out.f5 (by simpa using h), fun _ => trivial, fun _ => by simpa using e6_3, fun _ => by simpa using e6_4, fun h => by simp at h, HM.out.2.2, HM.out.2.1, fun _ => HM.out.1⟩
      · intro d a W hI hall
        obtain ⟨x27, x28, x29, x30, x31, x32, rfl, hF⟩ := hI
        simp only [List.length_cons, List.length_nil] at hall
        obtain rfl := hF.out.f0 (hall 0 (by omega))
        obtain rfl := hF.out.f1 (hall 1 (by omega))
        obtain rfl := hF.out.f2 (hall 2 (by omega))
        obtain rfl := hF.out.f3 (hall 3 (by omega))
        obtain rfl := hF.out.f4 (hall 4 (by omega))
        obtain rfl := hF.out.f5 (hall 5 (by omega))
        have HMH : Hid (Mh B g hb mb fo fc sb sc p S E c W) := hF.out.fin (hall 6 (by omega))
        have HF1 : Hid (Fm (Xs g mb sb) w W) := HF0.out.trans hF.out.fm (fun q _ h => h)
        have HBX6 : Hid (Bx W b c) := hF.out.bx
        clear hF hall HF0 HMA
        obtain ⟨w2, rfl⟩ : ∃ q, q = W := ⟨_, rfl⟩
        simp only [Act.put, List.setIfInBounds_toArray, List.set_cons_zero, List.set_cons_succ]
        go_upto_region 7 with fail
        refine wp_region_free mixed (fun a0 d a W => ∃ (gb : Nat) (gr : Nat) (cr : Nat) (x33 x34 x35 x36 x37 x38 x39 x40 x41 x42 : Value), a = ((((((((((a0.put (some 33) x33).put (some 34) x34).put (some 35) x35).put (some 36) x36).put (some 37) x37).put (some 38) x38).put (some 39) x39).put (some 40) x40).put (some 41) x41).put (some 42) x42) ∧ Hid (RN7 w2 B g hb mb fo fc sb sc p S D E c b gb gr cr d x33 x34 x35 x36 x37 x38 x39 x40 x41 x42 W)) (by kernel_rfl) ⟨0, 0, 0, undef, undef, undef, undef, undef, undef, undef, undef, undef, undef, by simp only [Act.put, List.setIfInBounds_toArray, List.set_cons_zero, List.set_cons_succ], ?_⟩ ?_ ?_
        · exact ⟨fun h => no_way h, fun h => no_way h, fun h => no_way h, fun h => no_way h, fun h => no_way h, fun h => no_way h, fun h => no_way h, fun h => no_way h, fun h => no_way h, fun h => no_way h, fun _ => trivial, fun h => no_way h, fun h => no_way h, fun h => no_way h, (Fm.refl _ _).trans (Fm.below (Below.refl _ _).drew) (fun q _ h => h), HBX6.out, fun _ => HMH.out.drew, fun h => no_way h, fun h => no_way h, fun h => no_way h⟩
        · simp only [StepAll, and_true]
          refine ⟨?_, ?_, ?_, ?_, ?_, ?_, ?_, ?_, ?_, ?_, ?_⟩
          · intro d a W hI hd hdep
            obtain ⟨gb, gr, cr, x33, x34, x35, x36, x37, x38, x39, x40, x41, x42, rfl, hF⟩ := hI
            clear hdep hd
            intro K hK
            simp only [Act.put, List.setIfInBounds_toArray, List.set_cons_zero, List.set_cons_succ]
            go_simp
            refine hK.out _ _ ⟨gb, gr, cr, (.pointer (some ⟨g, 0, none⟩)), x34, x35, x36, x37, x38, x39, x40, x41, x42, by simp only [Act.put, List.setIfInBounds_toArray, List.set_cons_zero, List.set_cons_succ], ?_⟩
            exact ⟨fun _ => rfl, fun h => hF.out.f1 (by simpa using h), fun h => hF.out.f2 (by simpa using h), fun h => hF.out.f3 (by simpa using h), fun h => hF.out.f4 (by simpa using h), fun h => hF.out.f5 (by simpa using h), fun h => hF.out.f6 (by simpa using h), fun h => hF.out.f7 (by simpa using h), fun h => hF.out.f8 (by simpa using h), fun h => hF.out.f9 (by simpa using h), fun h => hF.out.f10 (by simpa using h), fun h => by have := hF.out.o7_4 (by simpa using h); simpa using this, fun h => by have := hF.out.o7_6 (by simpa using h); simpa using this, fun h => by have := hF.out.q10_7 (by simpa using h); simpa using this, hF.out.fm, hF.out.bx, fun h => hF.out.pm (by simpa using h), fun h h2 => hF.out.bs (by simpa using h) (by simpa using h2), fun h h2 => hF.out.th (by simpa using h) (by simpa using h2), fun h => hF.out.fin (by simpa using h)⟩
          · intro d a W hI hd hdep
            obtain ⟨gb, gr, cr, x33, x34, x35, x36, x37, x38, x39, x40, x41, x42, rfl, hF⟩ := hI
            clear hdep hd
            intro K hK
            simp only [Act.put, List.setIfInBounds_toArray, List.set_cons_zero, List.set_cons_succ]
            go_simp
            refine hK.out _ _ ⟨gb, gr, cr, x33, (.pointer (some ⟨g, 0, none⟩)), x35, x36, x37, x38, x39, x40, x41, x42, by simp only [Act.put, List.setIfInBounds_toArray, List.set_cons_zero, List.set_cons_succ], ?_⟩
            exact ⟨fun h => hF.out.f0 (by simpa using h), fun _ => rfl, fun h => hF.out.f2 (by simpa using h), fun h => hF.out.f3 (by simpa using h), fun h => hF.out.f4 (by simpa using h), fun h => hF.out.f5 (by simpa using h), fun h => hF.out.f6 (by simpa using h), fun h => hF.out.f7 (by simpa using h), fun h => hF.out.f8 (by simpa using h), fun h => hF.out.f9 (by simpa using h), fun h => hF.out.f10 (by simpa using h), fun h => by have := hF.out.o7_4 (by simpa using h); simpa using this, fun h => by have := hF.out.o7_6 (by simpa using h); simpa using this, fun h => by have := hF.out.q10_7 (by simpa using h); simpa using this, hF.out.fm, hF.out.bx, fun h => hF.out.pm (by simpa using h), fun h h2 => hF.out.bs (by simpa using h) (by simpa using h2), fun h h2 => hF.out.th (by simpa using h) (by simpa using h2), fun h => hF.out.fin (by simpa using h)⟩
          · intro d a W hI hd hdep
            obtain ⟨gb, gr, cr, x33, x34, x35, x36, x37, x38, x39, x40, x41, x42, rfl, hF⟩ := hI
            have hd1 : d 1 = true := dep_of hdep 1 (by kernel_rfl)
            obtain rfl := hF.out.f1 hd1
            clear hdep hd hd1
            intro K hK
            simp only [Act.put, List.setIfInBounds_toArray, List.set_cons_zero, List.set_cons_succ]
            go_simp
            refine hK.out _ _ ⟨gb, gr, cr, x33, (.pointer (some ⟨g, 0, none⟩)), (.pointer (some ⟨g, 0, none⟩)), x36, x37, x38, x39, x40, x41, x42, by simp only [Act.put, List.setIfInBounds_toArray, List.set_cons_zero, List.set_cons_succ], ?_⟩
            exact ⟨fun h => hF.out.f0 (by simpa using h), fun h => hF.out.f1 (by simpa using h), fun _ => rfl, fun h => hF.out.f3 (by simpa using h), fun h => hF.out.f4 (by simpa using h), fun h => hF.out.f5 (by simpa using h), fun h => hF.out.f6 (by simpa using h), fun h => hF.out.f7 (by simpa using h), fun h => hF.out.f8 (by simpa using h), fun h => hF.out.f9 (by simpa using h), fun h => hF.out.f10 (by simpa using h), fun h => by have := hF.out.o7_4 (by simpa using h); simpa using this, fun h => by have := hF.out.o7_6 (by simpa using h); simpa using this, fun h => by have := hF.out.q10_7 (by simpa using h); simpa using this, hF.out.fm, hF.out.bx, fun h => hF.out.pm (by simpa using h), fun h h2 => hF.out.bs (by simpa using h) (by simpa using h2), fun h h2 => hF.out.th (by simpa using h) (by simpa using h2), fun h => hF.out.fin (by simpa using h)⟩
          · intro d a W hI hd hdep
            obtain ⟨gb, gr, cr, x33, x34, x35, x36, x37, x38, x39, x40, x41, x42, rfl, hF⟩ := hI
            have hd2 : d 2 = true := dep_of hdep 2 (by kernel_rfl)
            obtain rfl := hF.out.f2 hd2
            clear hdep hd hd2
            intro K hK
            simp only [Act.put, List.setIfInBounds_toArray, List.set_cons_zero, List.set_cons_succ]
            go_simp
            refine hK.out _ _ ⟨gb, gr, cr, x33, x34, (.pointer (some ⟨g, 0, none⟩)), (.pointer (some ⟨g, 2, none⟩)), x37, x38, x39, x40, x41, x42, by simp only [Act.put, List.setIfInBounds_toArray, List.set_cons_zero, List.set_cons_succ], ?_⟩
            exact ⟨fun h => hF.out.f0 (by simpa using h), fun h => hF.out.f1 (by simpa using h), fun h => hF.out.f2 (by simpa using h), fun _ => rfl, fun h => hF.out.f4 (by simpa using h), fun h => hF.out.f5 (by simpa using h), fun h => hF.out.f6 (by simpa using h), fun h => hF.out.f7 (by simpa using h), fun h => hF.out.f8 (by simpa using h), fun h => hF.out.f9 (by simpa using h), fun h => hF.out.f10 (by simpa using h), fun h => by have := hF.out.o7_4 (by simpa using h); simpa using this, fun h => by have := hF.out.o7_6 (by simpa using h); simpa using this, fun h => by have := hF.out.q10_7 (by simpa using h); simpa using this, hF.out.fm, hF.out.bx, fun h => hF.out.pm (by simpa using h), fun h h2 => hF.out.bs (by simpa using h) (by simpa using h2), fun h h2 => hF.out.th (by simpa using h) (by simpa using h2), fun h => hF.out.fin (by simpa using h)⟩
          · intro d a W hI hd hdep
            obtain ⟨gb, gr, cr, x33, x34, x35, x36, x37, x38, x39, x40, x41, x42, rfl, hF⟩ := hI
            have hd3 : d 3 = true := dep_of hdep 3 (by kernel_rfl)
            obtain rfl := hF.out.f3 hd3
            have HN7 : Hid (d 7 = false) := no_later hF.out.o7_4 hd
            have ya := (hF.out.pm HN7.out).bx.cell (i := 2) (by omega)
            simp only [mv] at ya
            clear hdep hd hd3
            intro K hK
            simp only [Act.put, List.setIfInBounds_toArray, List.set_cons_zero, List.set_cons_succ]
            go_simp
            refine hK.out _ _ ⟨gb, gr, cr, x33, x34, x35, (.pointer (some ⟨g, 2, none⟩)), (.slice (some ⟨sb, 0, none⟩) S.length sc), x38, x39, x40, x41, x42, by simp only [Act.put, List.setIfInBounds_toArray, List.set_cons_zero, List.set_cons_succ], ?_⟩
            exact ⟨fun h => hF.out.f0 (by simpa using h), fun h => hF.out.f1 (by simpa using h), fun h => hF.out.f2 (by simpa using h), fun h => hF.out.f3 (by simpa using h), fun _ => rfl, fun h => hF.out.f5 (by simpa using h), fun h => hF.out.f6 (by simpa using h), fun h => hF.out.f7 (by simpa using h), fun h => hF.out.f8 (by simpa using h), fun h => hF.out.f9 (by simpa using h), fun h => hF.out.f10 (by simpa using h), fun _ => by simp, fun h => by have := hF.out.o7_6 (by simpa using h); simpa using this, fun h => by have := hF.out.q10_7 (by simpa using h); simpa using this, hF.out.fm, hF.out.bx, fun h => hF.out.pm (by simpa using h), fun h h2 => hF.out.bs (by simpa using h) (by simpa using h2), fun h h2 => hF.out.th (by simpa using h) (by simpa using h2), fun h => hF.out.fin (by simpa using h)⟩
          · intro d a W hI hd hdep
            obtain ⟨gb, gr, cr, x33, x34, x35, x36, x37, x38, x39, x40, x41, x42, rfl, hF⟩ := hI
            have hbx := hF.out.bx
            have ya := hbx.1
            have yb := hbx.2.1
            have yc := hbx.2.2.1
            have yd := hbx.2.2.2
            clear hbx
            clear hdep hd
            intro K hK
            simp only [Act.put, List.setIfInBounds_toArray, List.set_cons_zero, List.set_cons_succ]
            go_simp
            refine hK.out _ _ ⟨gb, gr, cr, x33, x34, x35, x36, x37, (.agg #[.int .u64 (c.1.toNat : Int), .int .u64 (c.2.1.toNat : Int), .int .u64 (c.2.2.1.toNat : Int), .int .u64 (c.2.2.2.toNat : Int)]), x39, x40, x41, x42, by simp only [Act.put, List.setIfInBounds_toArray, List.set_cons_zero, List.set_cons_succ], ?_⟩
            exact ⟨fun h => hF.out.f0 (by simpa using h), fun h => hF.out.f1 (by simpa using h), fun h => hF.out.f2 (by simpa using h), fun h => hF.out.f3 (by simpa using h), fun h => hF.out.f4 (by simpa using h), fun _ => rfl, fun h => hF.out.f6 (by simpa using h), fun h => hF.out.f7 (by simpa using h), fun h => hF.out.f8 (by simpa using h), fun h => hF.out.f9 (by simpa using h), fun h => hF.out.f10 (by simpa using h), fun h => by have := hF.out.o7_4 (by simpa using h); simpa using this, fun h => by have := hF.out.o7_6 (by simpa using h); simpa using this, fun h => by have := hF.out.q10_7 (by simpa using h); simpa using this, hF.out.fm, hF.out.bx, fun h => hF.out.pm (by simpa using h), fun h h2 => hF.out.bs (by simpa using h) (by simpa using h2), fun h h2 => hF.out.th (by simpa using h) (by simpa using h2), fun h => hF.out.fin (by simpa using h)⟩
          · intro d a W hI hd hdep
            obtain ⟨gb, gr, cr, x33, x34, x35, x36, x37, x38, x39, x40, x41, x42, rfl, hF⟩ := hI
            have hd5 : d 5 = true := dep_of hdep 5 (by kernel_rfl)
            obtain rfl := hF.out.f5 hd5
            have HN7 : Hid (d 7 = false) := no_later hF.out.o7_6 hd
            have HN10 : Hid (d 10 = false) := no_later hF.out.q10_7 HN7.out
            have hpm := hF.out.pm HN7.out
            clear hdep hd hd5
            intro K hK
            simp only [Act.put, List.setIfInBounds_toArray, List.set_cons_zero, List.set_cons_succ]
            go_simp
            refine hK.out _ _ ⟨W.heap.size, gr, cr, x33, x34, x35, x36, x37, (.agg #[.int .u64 (c.1.toNat : Int), .int .u64 (c.2.1.toNat : Int), .int .u64 (c.2.2.1.toNat : Int), .int .u64 (c.2.2.2.toNat : Int)]), (.slice (some ⟨W.heap.size, 0, none⟩) 1 1), x40, x41, x42, by simp only [Act.put, List.setIfInBounds_toArray, List.set_cons_zero, List.set_cons_succ], ?_⟩
            have B1 := (Below.refl W.heap.size W).alloc (Nat.le_refl _) (Obj.cells #[.int .u64 (c.1.toNat : Int), .int .u64 (c.2.1.toNat : Int), .int .u64 (c.2.2.1.toNat : Int), .int .u64 (c.2.2.2.toNat : Int)] 74)
            exact ⟨fun h => hF.out.f0 (by simpa using h), fun h => hF.out.f1 (by simpa using h), fun h => hF.out.f2 (by simpa using h), fun h => hF.out.f3 (by simpa using h), fun h => hF.out.f4 (by simpa using h), fun h => hF.out.f5 (by simpa using h), fun _ => rfl, fun h => hF.out.f7 (by simpa using h), fun h => hF.out.f8 (by simpa using h), fun h => hF.out.f9 (by simpa using h), fun h => hF.out.f10 (by simpa using h), fun h => by have := hF.out.o7_4 (by simpa using h); simpa using this, fun _ => by simp, fun h => by have := hF.out.q10_7 (by simpa using h); simpa using this, hF.out.fm.trans (Fm.below B1) (fun q _ h => h), hF.out.bx.next B1, fun _ => hpm.next B1, fun _ _ j u hj => by rw [cell_new W ([.int .u64 (c.1.toNat : Int), .int .u64 (c.2.1.toNat : Int), .int .u64 (c.2.2.1.toNat : Int), .int .u64 (c.2.2.2.toNat : Int)] : List Value) 74 j]; exact hj, fun h => by have := HN7.out; simp [this] at h, fun h => by have := HN10.out; simp [this] at h⟩
          · intro d a W hI hd hdep
            obtain ⟨gb, gr, cr, x33, x34, x35, x36, x37, x38, x39, x40, x41, x42, rfl, hF⟩ := hI
            have hd4 : d 4 = true := dep_of hdep 4 (by kernel_rfl)
            have hd6 : d 6 = true := dep_of hdep 6 (by kernel_rfl)
            obtain rfl := hF.out.f4 hd4
            obtain rfl := hF.out.f6 hd6
            have hpm := hF.out.pm hd
            have HN10 : Hid (d 10 = false) := no_later hF.out.q10_7 hd
            have e7_4 := hd4
            have e7_6 := hd6
            have hbk := hF.out.bs hd6 hd
            have hm := run_append_lies (P := Try.prog) W 77 77 B 74 i74 _ 4 32 Try.underlying77 H74.out.1 H74.out.2.1 H74.out.2.2.1 H74.out.2.2.2 rfl (by omega) (.slice (some ⟨sb, 0, none⟩) S.length sc) S.length (clc S) hpm.st ⟨gb, 0, none⟩ 1 1 [.int .u64 (c.1.toNat : Int), .int .u64 (c.2.1.toNat : Int), .int .u64 (c.2.2.1.toNat : Int), .int .u64 (c.2.2.2.toNat : Int)] rfl (fun j u hj => by rw [Addr.add_lit, Nat.zero_add]; exact hbk j u hj) (by intro u hu; simp at hu; rcases hu with rfl | rfl | rfl | rfl <;> rfl) (by omega) (by have := HSZ.out; unfold maxLen; omega) (by have := HSZ.out; omega) hpm.ge.2.2.2.2 W.heap.size rfl
            have hmm := hm.choose_spec.choose_spec.choose_spec
            generalize hm.choose_spec.choose_spec.choose = W1x at hmm
            generalize hm.choose_spec.choose = cr2 at hmm
            generalize hm.choose = gr2 at hmm
            have hrun := hmm.1
            have hgr := hpm.grow (gr := gr2) (cr := cr2) hmm.2.2.1 (by rw [clc_snoc]; exact hmm.2.1) (by have := hmm.2.2.2.1; simp [Value.ownBlock] at this; omega)
            have HM : Hid (W1x.rowIs g 80 4 (mv hb fo p.follow.length fc sb S.length sc mb) ∧ (Ma B g hb mb fo fc gr2 cr2 p (S ++ [c]) E (W1x.setCell ⟨g, 2, none⟩ (.slice (some ⟨gr2, 0, none⟩) (S.length + 1) cr2)) ∧ Fm (Xs g mb sb) w2 (W1x.setCell ⟨g, 2, none⟩ (.slice (some ⟨gr2, 0, none⟩) (S.length + 1) cr2)) ∧ (gr2 = sb ∨ w2.heap.size ≤ gr2)) ∧ Bx W1x b c ∧ Fm (Xs g mb sb) w2 W1x) := ⟨hgr.1, ⟨hgr.2.1, (hF.out.fm.trans (Fm.grown2 hmm.2.2.1) (fun q _ h => Or.inr (Or.inr h))).setX, hgr.2.2.imp id (fun h => Nat.le_trans hF.out.fm.size h)⟩, hF.out.bx.grownB hmm.2.2.1 HBS.out, hF.out.fm.trans (Fm.grown2 hmm.2.2.1) (fun q _ h => Or.inr (Or.inr h))⟩
            clear hmm hm hbk hpm hgr
            clear hdep hd hd4 hd6
            intro K hK
            refine step_call_append (sv := (.slice (some ⟨sb, 0, none⟩) S.length sc)) (xv := .slice (some ⟨gb, 0, none⟩) 1 1) (v := (.slice (some ⟨gr2, 0, none⟩) (S.length + 1) cr2)) (W1 := W1x) (by rfl) _ _ 77 (by rfl) (by simp only [Act.put, List.setIfInBounds_toArray, List.set_cons_zero, List.set_cons_succ]; rfl) (by simp only [Act.put, List.setIfInBounds_toArray, List.set_cons_zero, List.set_cons_succ]; rfl) (by exact hrun) ?_
            simp only [Act.put, List.setIfInBounds_toArray, List.set_cons_zero, List.set_cons_succ]
            refine hK.out _ _ ⟨gb, gr2, cr2, x33, x34, x35, x36, (.slice (some ⟨sb, 0, none⟩) S.length sc), x38, (.slice (some ⟨gb, 0, none⟩) 1 1), (.slice (some ⟨gr2, 0, none⟩) (S.length + 1) cr2), x41, x42, by simp only [Act.put, List.setIfInBounds_toArray, List.set_cons_zero, List.set_cons_succ], ?_⟩
            exact ⟨fun h => hF.out.f0 (by simpa using h), fun h => hF.out.f1 (by simpa using h), fun h => hF.out.f2 (by simpa using h), fun h => hF.out.f3 (by simpa using h), fun h => hF.out.f4 (by simpa using h), fun h => hF.out.f5 (by simpa using h), fun h => hF.out.f6 (by simpa using h), fun _ => rfl, fun h => hF.out.f8 (by simpa using h), fun h => hF.out.f9 (by simpa using h), fun h => hF.out.f10 (by simpa using h), fun _ => by simpa using e7_4, fun _ => by simpa using e7_6, fun _ => by simp, HM.out.2.2.2, HM.out.2.2.1, fun h => by simp at h, fun _ h => by simp at h, fun _ _ => ⟨HM.out.1, HM.out.2.1⟩, fun h => by have := HN10.out; simp [this] at h⟩
          · intro d a W hI hd hdep
            obtain ⟨gb, gr, cr, x33, x34, x35, x36, x37, x38, x39, x40, x41, x42, rfl, hF⟩ := hI
            have hd0 : d 0 = true := dep_of hdep 0 (by kernel_rfl)
            obtain rfl := hF.out.f0 hd0
            clear hdep hd hd0
            intro K hK
            simp only [Act.put, List.setIfInBounds_toArray, List.set_cons_zero, List.set_cons_succ]
            go_simp
            refine hK.out _ _ ⟨gb, gr, cr, (.pointer (some ⟨g, 0, none⟩)), x34, x35, x36, x37, x38, x39, x40, (.pointer (some ⟨g, 0, none⟩)), x42, by simp only [Act.put, List.setIfInBounds_toArray, List.set_cons_zero, List.set_cons_succ], ?_⟩
            exact ⟨fun h => hF.out.f0 (by simpa using h), fun h => hF.out.f1 (by simpa using h), fun h => hF.out.f2 (by simpa using h), fun h => hF.out.f3 (by simpa using h), fun h => hF.out.f4 (by simpa using h), fun h => hF.out.f5 (by simpa using h), fun h => hF.out.f6 (by simpa using h), fun h => hF.out.f7 (by simpa using h), fun _ => rfl, fun h => hF.out.f9 (by simpa using h), fun h => hF.out.f10 (by simpa using h), fun h => by have := hF.out.o7_4 (by simpa using h); simpa using this, fun h => by have := hF.out.o7_6 (by simpa using h); simpa using this, fun h => by have := hF.out.q10_7 (by simpa using h); simpa using this, hF.out.fm, hF.out.bx, fun h => hF.out.pm (by simpa using h), fun h h2 => hF.out.bs (by simpa using h) (by simpa using h2), fun h h2 => hF.out.th (by simpa using h) (by simpa using h2), fun h => hF.out.fin (by simpa using h)⟩
          · intro d a W hI hd hdep
            obtain ⟨gb, gr, cr, x33, x34, x35, x36, x37, x38, x39, x40, x41, x42, rfl, hF⟩ := hI
            have hd8 : d 8 = true := dep_of hdep 8 (by kernel_rfl)
            obtain rfl := hF.out.f8 hd8
            clear hdep hd hd8
            intro K hK
            simp only [Act.put, List.setIfInBounds_toArray, List.set_cons_zero, List.set_cons_succ]
            go_simp
            refine hK.out _ _ ⟨gb, gr, cr, x33, x34, x35, x36, x37, x38, x39, x40, (.pointer (some ⟨g, 0, none⟩)), (.pointer (some ⟨g, 2, none⟩)), by simp only [Act.put, List.setIfInBounds_toArray, List.set_cons_zero, List.set_cons_succ], ?_⟩
            exact ⟨fun h => hF.out.f0 (by simpa using h), fun h => hF.out.f1 (by simpa using h), fun h => hF.out.f2 (by simpa using h), fun h => hF.out.f3 (by simpa using h), fun h => hF.out.f4 (by simpa using h), fun h => hF.out.f5 (by simpa using h), fun h => hF.out.f6 (by simpa using h), fun h => hF.out.f7 (by simpa using h), fun h => hF.out.f8 (by simpa using h), fun _ => rfl, fun h => hF.out.f10 (by simpa using h), fun h => by have := hF.out.o7_4 (by simpa using h); simpa using this, fun h => by have := hF.out.o7_6 (by simpa using h); simpa using this, fun h => by have := hF.out.q10_7 (by simpa using h); simpa using this, hF.out.fm, hF.out.bx, fun h => hF.out.pm (by simpa using h), fun h h2 => hF.out.bs (by simpa using h) (by simpa using h2), fun h h2 => hF.out.th (by simpa using h) (by simpa using h2), fun h => hF.out.fin (by simpa using h)⟩
          · intro d a W hI hd hdep
            obtain ⟨gb, gr, cr, x33, x34, x35, x36, x37, x38, x39, x40, x41, x42, rfl, hF⟩ := hI
            have hd9 : d 9 = true := dep_of hdep 9 (by kernel_rfl)
            have hd7 : d 7 = true := dep_of hdep 7 (by kernel_rfl)
            obtain rfl := hF.out.f9 hd9
            obtain rfl := hF.out.f7 hd7
            have e10_7 := hd7
            have hth := hF.out.th hd7 hd
            have ya := hth.1.cell (i := 2) (by omega)
            simp only [mv] at ya
            have yb := hth.1.frozen 2
            have HTH : Hid _ := hth.2
            clear hth
            clear hdep hd hd9 hd7
            intro K hK
            simp only [Act.put, List.setIfInBounds_toArray, List.set_cons_zero, List.set_cons_succ]
            go_simp
            refine hK.out _ _ ⟨gb, gr, cr, x33, x34, x35, x36, x37, x38, x39, (.slice (some ⟨gr, 0, none⟩) (S.length + 1) cr), x41, (.pointer (some ⟨g, 2, none⟩)), by simp only [Act.put, List.setIfInBounds_toArray, List.set_cons_zero, List.set_cons_succ], ?_⟩
            exact ⟨fun h => hF.out.f0 (by simpa using h), fun h => hF.out.f1 (by simpa using h), fun h => hF.out.f2 (by simpa using h), fun h => hF.out.f3 (by simpa using h), fun h => hF.out.f4 (by simpa using h), fun h => hF.out.f5 (by simpa using h), fun h => hF.out.f6 (by simpa using h), fun h => hF.out.f7 (by simpa using h), fun h => hF.out.f8 (by simpa using h), fun h => hF.out.f9 (by simpa using h), fun _ => trivial, fun h => by have := hF.out.o7_4 (by simpa using h); simpa using this, fun h => by have := hF.out.o7_6 (by simpa using h); simpa using this, fun _ => by simpa using e10_7, HTH.out.2.1, hF.out.bx.otherB HBG.out, fun h => by have := e10_7; simp [this] at h, fun _ h => by have := e10_7; simp [this] at h, fun _ h => by simp at h, fun _ => HTH.out⟩
        · intro d a W hI hall
          obtain ⟨gb, gr, cr, x33, x34, x35, x36, x37, x38, x39, x40, x41, x42, rfl, hF⟩ := hI
          simp only [List.length_cons, List.length_nil] at hall
          obtain rfl := hF.out.f0 (hall 0 (by omega))
          obtain rfl := hF.out.f1 (hall 1 (by omega))
          obtain rfl := hF.out.f2 (hall 2 (by omega))
          obtain rfl := hF.out.f3 (hall 3 (by omega))
          obtain rfl := hF.out.f4 (hall 4 (by omega))
          obtain rfl := hF.out.f5 (hall 5 (by omega))
          obtain rfl := hF.out.f6 (hall 6 (by omega))
          obtain rfl := hF.out.f7 (hall 7 (by omega))
          obtain rfl := hF.out.f8 (hall 8 (by omega))
          obtain rfl := hF.out.f9 (hall 9 (by omega))
          have hfin := hF.out.fin (hall 10 (by omega))
          have HFIN : Hid (NumP B g hb mb fo fc sb p S c w W) := ⟨gr, cr, E, by rw [HADD.out]; exact hfin.1, HF1.out.trans hfin.2.1 (fun q _ h => h), hfin.2.2.imp id (fun h => Nat.le_trans HF1.out.size h)⟩
          clear hF hall hfin
          simp only [Act.put, List.setIfInBounds_toArray, List.set_cons_zero, List.set_cons_succ]
          go_wp2_with fail
          go_ret
          exact ⟨rfl, HFIN.out⟩
end Go.Proofs.Ytlmlkpdppkgenaa
