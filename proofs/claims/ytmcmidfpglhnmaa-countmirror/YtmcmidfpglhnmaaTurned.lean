/-
  The contract of cfg.turned.
-/
import Derived.Test.YtmcmidfpglhnmaaCheck
import Derived.Laws.StructEq
import Derived.ChangeKeysEq
import Derived.Deep.Cut
import Derived.Test.YtmcmidfpglhnmaaFree
namespace Go.Proofs.Ytmcmidfpglhnmaa
open Go.RowKit
open Cg


/-- Cell j of a row of symbols. -/
def sc (l : List Sy) (j : Nat) : Value := .int .i64 (if j % 2 = 0 then (l.getD (j / 2) (0, 0)).1 else (l.getD (j / 2) (0, 0)).2)
/-- The row while it is turned round: from behind, q are there. -/
def tc (l : List Sy) (q j : Nat) : Value := if l.length - q ≤ j / 2 then sc l.reverse j else .int .i64 0
theorem syms_of_row {w : World} {g n : Nat} {l : List Sy} (hn : l.length = n) (h : w.rowIs g 74 (n * 2) (sc l)) (hm : l.length ≤ 9223372036854775807) : Syms w (.slice (some ⟨g, 0, none⟩) n n) l := by
  refine ⟨some ⟨g, 0, none⟩, n, by rw [hn], ⟨hm, by omega⟩, Or.inr ⟨g, 0, rfl, h.lt, fun i hi => ?_⟩⟩
  have e0 := h.cell (i := i * 2) (by omega)
  have e1 := h.cell (i := i * 2 + 1) (by omega)
  have d0 : i * 2 / 2 = i := by omega
  have d1 : (i * 2 + 1) / 2 = i := by omega
  have m1 : (i * 2 + 1) % 2 = 1 := by omega
  have g0 : l.getD i (0, 0) = l[i] := by rw [List.getD_eq_getElem?_getD, List.getElem?_eq_getElem hi]; rfl
  simp only [sc, d0, d1, m1, g0, Nat.mul_mod_left, if_true] at e0 e1
  rw [if_neg (by omega)] at e1
  exact ⟨by rw [Nat.zero_add]; exact e0, by rw [Nat.zero_add]; exact e1⟩
theorem rev_at (l : List Sy) (q : Nat) (hq : q < l.length) : l.reverse.getD (l.length - 1 - q) (0, 0) = l[q] := by
  rw [List.getD_eq_getElem?_getD, List.getElem?_eq_getElem (by simp; omega)]
  simp only [Option.getD_some, List.getElem_reverse]
  congr 1; omega
theorem tc_step (l : List Sy) (q j : Nat) (hq : q < l.length) :
    tc l (q + 1) j = if j = (l.length - 1 - q) * 2 + 1 then .int .i64 l[q].2 else if j = (l.length - 1 - q) * 2 then .int .i64 l[q].1 else tc l q j := by
  by_cases h1 : j = (l.length - 1 - q) * 2 + 1
  · rw [if_pos h1]
    have e : j / 2 = l.length - 1 - q := by omega
    unfold tc sc; rw [if_pos (by omega), e, rev_at l q hq, if_neg (by omega)]
  · rw [if_neg h1]
    by_cases h2 : j = (l.length - 1 - q) * 2
    · rw [if_pos h2]
      have e : j / 2 = l.length - 1 - q := by omega
      unfold tc sc; rw [if_pos (by omega), e, rev_at l q hq, if_pos (by omega)]
    · rw [if_neg h2]; unfold tc
      by_cases h3 : l.length - q ≤ j / 2
      · rw [if_pos h3, if_pos (by omega)]
      · rw [if_neg h3, if_neg (by omega)]
theorem run_make44 (n : Nat) (h : n ≤ 8) (w : World) : (Instr.makeSlice 72 (.int .i64 (n : Int)) (.int .i64 (n : Int))).run Try.prog w = .ok (.slice (some ⟨w.heap.size, 0, none⟩) n n) (w.alloc (.cells (madeCells #[.int .i64 0, .int .i64 0] (n * 2)) 74)) := by
  obtain ⟨i, hi, hz, hs, hb⟩ := info_parts info74
  have hr := run_make (P := Try.prog) w 72 74 i _ Try.underlying72 hi hz .i64 .i64 n n (by omega) (Int.le_refl _) (by rw [hb]; omega) (by omega)
  simp only [Int.toNat_natCast, hs] at hr
  exact hr
theorem row_made44 (w : World) (n : Nat) (z0 z1 : Value) (t : TypeId) : (w.alloc (.cells (madeCells #[z0, z1] (n * 2)) t)).rowIs w.heap.size t (n * 2) (fun j => if j % 2 = 0 then z0 else z1) :=
  ⟨_, heap_alloc_new _ _, size_madeCells _ _, fun i hi => by
    have : i % 2 = 0 ∨ i % 2 = 1 := by omega
    rcases this with e | e <;> simp [madeCells, hi, e]⟩

set_option maxHeartbeats 3200000 in
set_option maxRecDepth 20000 in
theorem turned_any (v : Value) (l : List Sy) (w : World) (h : Syms w v l) (h8 : l.length ≤ 8) :
    Calls Try.prog 48 #[v] w fun e w' => ∃ g, e = .returned (.slice (some ⟨g, 0, none⟩) l.length l.length) ∧ w.heap.size ≤ g ∧ Syms w' (.slice (some ⟨g, 0, none⟩) l.length l.length) l.reverse ∧ Below w.heap.size w w' := by
  obtain ⟨ao, cap, rfl, hm, hcs⟩ := h
  obtain ⟨n, HN⟩ : ∃ n, Hid (l.length = n) := ⟨_, (rfl : l.length = l.length)⟩
  have hmk := run_make44 n (by rw [← HN.out]; exact h8)
  rw [HN.out] at hm ⊢
  have HR0 : Hid ((w.alloc (.cells (madeCells #[.int .i64 0, .int .i64 0] (n * 2)) 74)).rowIs w.heap.size 74 (n * 2) (tc l 0)) := by
    refine (row_made44 w n _ _ 74).congr fun i hi => ?_
    unfold tc; rw [if_neg (c := l.length - 0 ≤ i / 2) (by rw [HN.out]; omega)]; simp
  have HB0 : Hid (Below w.heap.size w (w.alloc (.cells (madeCells #[.int .i64 0, .int .i64 0] (n * 2)) 74))) := below_alloc _ _
  go_enter Try.func48, Try.ntmps48
  go_wp2_with fail
  clear hmk
  generalize w.alloc (.cells (madeCells #[.int .i64 0, .int .i64 0] (n * 2)) 74) = wb at HR0 HB0 ⊢
  go_loopw [11] (fun i wr => ∃ q : Nat, q ≤ n ∧ i = .int .i64 (q : Int) ∧ Hid (wr.rowIs w.heap.size 74 (n * 2) (tc l q)) ∧ Below w.heap.size w wr) (fun i _ => n - (intOf i).toNat)
  case atStart => exact ⟨0, by omega, rfl, HR0, HB0.out⟩
  case round =>
    obtain ⟨q, hq, rfl, HR, hbel⟩ := hrel
    clear HR0 HB0
    by_cases hlt : q < n
    · have hl : q < l.length := by rw [HN.out]; exact hlt
      obtain ⟨b, o, rfl, hb, hc⟩ := hcs.resolve_left (by intro e; subst e; simp at hl)
      obtain ⟨d0, d1⟩ := hc q hl
      have HT : Hid (∀ j, j < n * 2 → tc l (q + 1) j = if j = (n - 1 - q) * 2 + 1 then .int .i64 l[q].2 else if j = (n - 1 - q) * 2 then .int .i64 l[q].1 else tc l q j) := fun j _ => by
        rw [tc_step l q j hl, HN.out]
      generalize l[q].1 = s0 at d0 HT
      generalize l[q].2 = s1 at d1 HT
      replace d0 : wr.cell? ⟨b, o + q * 2, none⟩ = _ := (hbel.cell (p := ⟨b, o + q * 2, none⟩) hb).trans d0
      replace d1 : wr.cell? ⟨b, o + q * 2 + 1, none⟩ = _ := (hbel.cell (p := ⟨b, o + q * 2 + 1, none⟩) hb).trans d1
      have hk1 : (q : Int) < (n : Int) := by omega
      have HRA : Hid ((wr.alloc (Obj.cells #[.int .i64 s0, .int .i64 s1] 74)).rowIs w.heap.size 74 (n * 2) (tc l q)) := HR.out.alloc _
      have HBA : Hid (Below w.heap.size w (wr.alloc (Obj.cells #[.int .i64 s0, .int .i64 s1] 74))) := hbel.alloc hbel.size _
      have hin : (n : Int) - 1 - (q : Int) = ((n - 1 - q : Nat) : Int) := by omega
      have HS1 := HRA.out.set ((n - 1 - q) * 2) (.int .i64 s0)
      have f0 := HRA.out.frozen ((n - 1 - q) * 2)
      have f1 := HS1.frozen ((n - 1 - q) * 2 + 1)
      have g0 := HRA.out.cell (i := (n - 1 - q) * 2) (by omega)
      have g1 := HS1.cell (i := (n - 1 - q) * 2 + 1) (by omega)
      have HR2 : Hid ((((wr.alloc (Obj.cells #[.int .i64 s0, .int .i64 s1] 74)).setCell ⟨w.heap.size, (n - 1 - q) * 2, none⟩ (.int .i64 s0)).setCell ⟨w.heap.size, (n - 1 - q) * 2 + 1, none⟩ (.int .i64 s1)).rowIs w.heap.size 74 (n * 2) (tc l (q + 1))) :=
        (HS1.set ((n - 1 - q) * 2 + 1) (.int .i64 s1)).congr fun j hj => (HT.out j hj).symm
      have HB2 : Hid (Below w.heap.size w (((wr.alloc (Obj.cells #[.int .i64 s0, .int .i64 s1] 74)).setCell ⟨w.heap.size, (n - 1 - q) * 2, none⟩ (.int .i64 s0)).setCell ⟨w.heap.size, (n - 1 - q) * 2 + 1, none⟩ (.int .i64 s1))) := (HBA.out.setCell (by simp) _).setCell (by simp) _
      clear hcs hc HR hbel HS1 HRA HBA HT
      go_wp2_with fail
      go_roundw
      case rel => exact ⟨q + 1, by omega, by go_num, HR2, HB2.out⟩
      case measure => simp [intOf]; omega
    · have HSY : Hid (Syms wr (.slice (some ⟨w.heap.size, 0, none⟩) n n) l.reverse) := by
        refine syms_of_row (by simp [HN.out]) (HR.out.congr fun j _ => ?_) (by simp [HN.out]; omega)
        unfold tc; rw [if_pos (by rw [HN.out]; omega)]
      have HB2 : Hid (Below w.heap.size w wr) := hbel
      clear HR hbel
      go_wp2_with fail
      go_ret
      exact ⟨_, rfl, Nat.le_refl _, HSY.out, HB2.out⟩
end Go.Proofs.Ytmcmidfpglhnmaa
