/-
  What a right grammar is, and blocks in memory; plainly.
-/
import Derived.Test.YtmcmidfpglhnmabFcRows
namespace Go.Proofs.Ytmcmidfpglhnmab
open Go.RowKit
open Cg

structure Rg (t : Int) (n : Nat) (ps : List Pd) : Prop where
  n1 : 1 ≤ n
  n2 : n ≤ 20
  t2 : t ≤ 30
  hd : ∀ q (hq : q < ps.length), ∃ m : Nat, ps[q].1 = (m : Int) ∧ ps[q].1.toNat = m ∧ m < n
  ok : ∀ q (hq : q < ps.length), OkL t n ps[q].2
  t0 : 0 ≤ t
  ln : ps.length ≤ 40
  lb : ∀ q (hq : q < ps.length), ps[q].2.length ≤ 8
theorem rg_of {t : Int} {n : Nat} {ps : List Pd} (h : chk t n ps = 0) : Rg t n ps := by
  obtain ⟨h0, h1, h2⟩ := chk_zero h
  have h3 := okTN_le h0
  refine ⟨by omega, by omega, by omega, fun q hq => ?_, fun q hq => okL_of (chkP_zero (h2 _ (List.getElem_mem hq))).2.2, by omega, h1, fun q hq => (chkP_zero (h2 _ (List.getElem_mem hq))).1⟩
  have h4 := okN_le (chkP_zero (h2 _ (List.getElem_mem hq))).2.1
  exact ⟨ps[q].1.toNat, by omega, rfl, by omega⟩
end Go.Proofs.Ytmcmidfpglhnmab
