/-
  The contracts of ll.bitOf, ll.isProdOf, pushref.Col.
-/
import Derived.Test.YtldfiofgknmcgaaLlRows
namespace Go.Proofs.Ytldfiofgknmcgaa
open Go.RowKit
open Cg

set_option maxHeartbeats 1600000 in
set_option maxRecDepth 20000 in
theorem bitOf_any (T col : Nat) (n : Int) (pv : Value) (w : World) (hpv : ∃ ao m c, pv = .slice ao m c) :
    Calls Try.prog 72 #[.agg #[.int .i64 (T : Int), .int .i64 n, pv], .int .i64 (col : Int)] w fun e w' => e = .returned (.int .i64 (bc T col : Int)) ∧ Below w.heap.size w w' := by
  obtain ⟨ao, m, c, rfl⟩ := hpv
  by_cases h : col = T
  · have h1 : ((col : Int) == (T : Int)) = true := by simp [h]
    have h2 : bc T col = 63 := if_pos h
    rw [h2]
    clear h h2
    go_enter Try.func72, Try.ntmps72
    go_wp2_with fail
    go_ret
    exact ⟨by simp, below_alloc _ _⟩
  · have h1 : ((col : Int) == (T : Int)) = false := by simp; omega
    have h2 : bc T col = col := if_neg h
    rw [h2]
    clear h h2
    go_enter Try.func72, Try.ntmps72
    go_wp2_with fail
    go_ret
    exact ⟨by simp, below_alloc _ _⟩
set_option maxHeartbeats 1600000 in
set_option maxRecDepth 20000 in
theorem isProdOf_any (t n : Int) (pv : Value) (ps : List Pd) (non x : Int) (w : World) (hp : Pds w pv ps) :
    Calls Try.prog 67 #[.agg #[.int .i64 t, .int .i64 n, pv], .int .i64 non, .int .i64 x] w fun e w' => e = .returned (.bool (okP ps non x)) ∧ Below w.heap.size w w' := by
  obtain ⟨ao, c, rfl, hm, hcs⟩ := hp
  by_cases h0 : 0 ≤ x
  · have b0 : decide ((0 : Int) ≤ x) = true := by simpa using h0
    by_cases h1 : x < (ps.length : Int)
    · have b1 : decide (x < (ps.length : Int)) = true := by simpa using h1
      obtain ⟨k, rfl⟩ : ∃ k : Nat, x = (k : Int) := ⟨x.toNat, by omega⟩
      have hk : k < ps.length := by omega
      obtain ⟨b, o, rfl, hb, hc⟩ := hcs.resolve_left (by intro e; subst e; simp at hk)
      obtain ⟨c0, -⟩ := hc k hk
      have hz := below_alloc w (Obj.cells #[.int .i64 t, .int .i64 n, .slice (some ⟨b, o, none⟩) ps.length c] 24)
      have c1 : (w.alloc (Obj.cells #[.int .i64 t, .int .i64 n, .slice (some ⟨b, o, none⟩) ps.length c] 24)).cell? ⟨b, o + k * 2, none⟩ = some (.int .i64 ps[k].1) := (hz.cell (p := ⟨b, o + k * 2, none⟩) hb).trans c0
      have e1 : okP ps non (k : Int) = (ps[k].1 == non) := by
        have e : ps.getD k (0, []) = ps[k] := by rw [List.getD_eq_getElem?_getD, List.getElem?_eq_getElem hk]; rfl
        unfold okP; simp only [Int.toNat_natCast, e]; rw [show decide ((0 : Int) ≤ (k : Int)) = true from b0, b1]; simp; exact Bool.eq_iff_iff.2 (by simp)
      rw [e1]
      generalize ps[k].1 = h at c1
      have hk1 : (k : Int) < (ps.length : Int) := by omega
      clear hc hcs c0 e1 h0 h1 hz
      go_enter Try.func67, Try.ntmps67
      go_wp2_with fail
      go_ret
      exact ⟨by simp, below_alloc _ _⟩
    · have b1 : decide (x < (ps.length : Int)) = false := by simpa using h1
      have e1 : okP ps non x = false := by unfold okP; rw [b1]; simp
      rw [e1]
      clear e1 hcs h0 h1
      go_enter Try.func67, Try.ntmps67
      go_wp2_with fail
      go_ret
      exact ⟨by simp, below_alloc _ _⟩
  · have b0 : decide ((0 : Int) ≤ x) = false := by simpa using h0
    have e1 : okP ps non x = false := by unfold okP; rw [b0]; simp
    rw [e1]
    clear e1 hcs h0
    go_enter Try.func67, Try.ntmps67
    go_wp2_with fail
    go_ret
    exact ⟨by simp, below_alloc _ _⟩
end Go.Proofs.Ytldfiofgknmcgaa
