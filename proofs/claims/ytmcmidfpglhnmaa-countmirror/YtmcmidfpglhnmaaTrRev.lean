/-
  The contract of slices.Reverse at numbers: a row of one's own, turned round.
-/
import Derived.Test.YtmcmidfpglhnmaaShelf
import Derived.Test.YtmcmidfpglhnmaaTrEq
import Derived.Deep.DrawnRows
import Derived.Laws.BytesArg
namespace Go.Proofs.Ytmcmidfpglhnmaa
open Go.RowKit
open Cg
open Go.Sort (putRow mapBlock Holds)

theorem rput_size {α : Type} [Inhabited α] (enc : α → Value) (w : World) (n g off : Nat) (d : Array α) : (putRow enc (Sort.ahead w n) g off d).heap.size = w.heap.size := by
  simp [putRow, mapBlock, Sort.ahead]
theorem rput_other {α : Type} [Inhabited α] (enc : α → Value) (w : World) (n g off : Nat) (d : Array α) (k : Nat) (hk : k ≠ g) : (putRow enc (Sort.ahead w n) g off d).heap[k]? = w.heap[k]? := by
  simp only [putRow, mapBlock, Sort.ahead]
  rw [Array.getElem?_modify, if_neg (Ne.symm hk)]
theorem rput_below {α : Type} [Inhabited α] (enc : α → Value) (w : World) (n g off B : Nat) (d : Array α) (h : B ≤ g) : Below B w (putRow enc (Sort.ahead w n) g off d) := by
  exact ⟨rfl, rfl, rfl, by rw [rput_size]; exact Nat.le_refl _, fun k hk => rput_other enc w n g off d k (by omega)⟩
theorem holds_ints {w : World} {base n : Nat} {v : Value} {l : List Int} (h : w.ownsRow base 3 1 v n (l.map (Value.int .i64))) (h0 : l ≠ []) : ∃ gv cap, v = .slice (some ⟨gv, 0, none⟩) l.length cap ∧ base ≤ gv ∧ Holds (fun b : Int => Value.int .i64 b) w gv 0 l.toArray := by
  have hln : l.length = n := by have := h.1; simpa using this
  have hpos : 0 < l.length := List.length_pos_iff.2 h0
  obtain ⟨hl, ⟨h1, h2⟩ | ⟨gv, cap, cur, hv, hg, hh, hnn, hc, hs, ht⟩⟩ := h
  · omega
  · refine ⟨gv, cap, by rw [hln]; exact hv, hg, fun j hj => ?_⟩
    have hj' : j < l.length := by simpa using hj
    have e : w.cell? ⟨gv, 0 + j, none⟩ = cur[j]? := by simp [World.cell?, hh]
    refine ⟨?_, by simp [World.frozen?, hh]⟩
    rw [e, getElem!_pos _ j hj]
    have h2 : (cur.toList.take (n * 1))[j]? = (l.map (Value.int .i64))[j]? := by rw [ht]
    rw [List.getElem?_take_of_lt (by omega)] at h2
    have h3 : (l.map (Value.int .i64))[j]? = some (.int .i64 l[j]) := by simp [List.getElem?_eq_getElem hj']
    rw [h3] at h2
    simpa using h2
set_option maxHeartbeats 4000000 in
theorem reverse_any (base : Nat) (a : Option Addr) (m c : Nat) (l : List Int) (w : World) (h : w.ownsRow base 3 1 (.slice a m c) l.length (l.map (Value.int .i64))) (hl : l.length ≤ 100000) :
    Calls Try.prog 25 #[.slice a m c] w fun e w' => e = .returned (.tuple #[]) ∧ Below base w w' ∧ Nms w' (.slice a m c) l.reverse := by
  by_cases h0 : l = []
  · subst h0
    have hm : m = 0 := by
      obtain ⟨_, ⟨h1, -⟩ | ⟨gv, cap, cur, hv, -⟩⟩ := h
      · simp only [Value.slice.injEq] at h1; exact h1.2.1
      · simp only [Value.slice.injEq, List.length_nil] at hv; exact hv.2.1
    subst hm
    have hr : Calls Try.prog 25 #[.slice a 0 c] w fun e w' => e = .returned (.tuple #[]) ∧ w' = w := AnyE.slices_Reverse_empty Try.revInt a c w
    refine hr.mono ?_
    rintro _ w' ⟨rfl, rfl⟩
    exact ⟨rfl, Below.refl _ _, a, c, rfl, by simp, Or.inl rfl⟩
  · obtain ⟨gv, cp, hv, hgv, hH⟩ := holds_ints h h0
    simp only [Value.slice.injEq] at hv
    obtain ⟨rfl, rfl, rfl⟩ := hv
    have hr : Calls Try.prog 25 #[.slice (some ⟨gv, 0, none⟩) l.length c] w fun e w' => e = .returned (.tuple #[]) ∧ ∃ n, w' = putRow (fun b : Int => Value.int .i64 b) (Sort.ahead w n) gv 0 l.reverse.toArray := AnyE.slices_Reverse Try.revInt (fun b : Int => Value.int .i64 b) (fun _ => rfl) gv 0 c l w hH (by omega)
    refine hr.mono ?_
    rintro _ w' ⟨rfl, n, hW⟩
    have hH3 : Holds (fun b : Int => Value.int .i64 b) w' gv 0 l.reverse.toArray := by
      rw [hW]; exact Sort.holds_putRow _ _ _ _ _ _ (Sort.holds_ahead _ _ _ _ _ _ hH) (by simp)
    have hpos : 0 < l.length := List.length_pos_iff.2 h0
    refine ⟨rfl, by rw [hW]; exact rput_below _ _ _ _ _ _ _ hgv, some ⟨gv, 0, none⟩, c, by simp, by simp; omega, Or.inr ⟨gv, 0, rfl, ?_, fun i hi => ?_⟩⟩
    · have h1 := (hH3 0 (by simpa using hpos)).1
      exact World.block_lt_of_cell? w' _ h1
    · have h1 := (hH3 i (by simpa using hi)).1
      rw [h1, getElem!_pos _ i (by simpa using hi)]
      simp
end Go.Proofs.Ytmcmidfpglhnmaa
