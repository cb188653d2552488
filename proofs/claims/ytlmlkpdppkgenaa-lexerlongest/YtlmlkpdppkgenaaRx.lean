/-
  What an argument that is a regular expression is: a tree, its Kids one behind the other in memory, all the way down; and that it stays while a call makes memory of its own. No function is walked here.
-/
import Derived.Test.YtlmlkpdppkgenaaEqs
import Derived.Test.YtlmlkpdppkgenaaTree
import Derived.Deep.Slices
set_option maxRecDepth 20000
namespace Go.Proofs.Ytlmlkpdppkgenaa
open Go.ChangeShapes Go.WideShapes Go.ChangeAt Go.RowKit
open Cls Rex

/-- A value is that tree. -/
inductive Rx (w : World) (B : Nat) : Value → T → Prop where
  | mk (k : Int) (c : Cl) (ao : Option Addr) (cap : Nat) (kids : List T) (vals : Nat → Value) (hk : -9223372036854775808 ≤ k ∧ k ≤ 9223372036854775807) (hm : kids.length ≤ 9223372036854775807)
      (hc : kids = [] ∨ ∃ b o, ao = some ⟨b, o, none⟩ ∧ b < B ∧ ∀ i, i < kids.length → ∀ j, j < 6 → w.cell? ⟨b, o + i * 6 + j, none⟩ = (vals i).cells[j]?)
      (hr : ∀ i (hi : i < kids.length), Rx w B (vals i) kids[i]) :
      Rx w B (.agg #[.int .i64 k, .int .u64 (c.1.toNat : Int), .int .u64 (c.2.1.toNat : Int), .int .u64 (c.2.2.1.toNat : Int), .int .u64 (c.2.2.2.toNat : Int), .slice ao kids.length cap]) (.mk k c kids)
theorem Rx.next {w w' : World} {B : Nat} {v : Value} {t : T} (h : Rx w B v t) (hb : Below B w w') : Rx w' B v t := by
  induction h with
  | mk k c ao cap kids vals hk hm hc hr ih =>
    refine .mk k c ao cap kids vals hk hm ?_ ih
    rcases hc with h | ⟨b, o, h1, h2, h3⟩
    · exact Or.inl h
    · exact Or.inr ⟨b, o, h1, h2, fun i hi j hj => (hb.cell (p := ⟨b, o + i * 6 + j, none⟩) h2).trans (h3 i hi j hj)⟩
theorem Rx.wide {w : World} {B B' : Nat} {v : Value} {t : T} (h : Rx w B v t) (hB : B ≤ B') : Rx w B' v t := by
  induction h with
  | mk k c ao cap kids vals hk hm hc hr ih =>
    refine .mk k c ao cap kids vals hk hm ?_ ih
    rcases hc with h | ⟨b, o, h1, h2, h3⟩
    · exact Or.inl h
    · exact Or.inr ⟨b, o, h1, Nat.lt_of_lt_of_le h2 hB, h3⟩
/-- What such a value looks like. -/
theorem Rx.shape {w : World} {B : Nat} {v : Value} {t : T} (h : Rx w B v t) : ∃ (k : Int) (c : Cl) (ao : Option Addr) (cap : Nat) (kids : List T) (vals : Nat → Value), v = .agg #[.int .i64 k, .int .u64 (c.1.toNat : Int), .int .u64 (c.2.1.toNat : Int), .int .u64 (c.2.2.1.toNat : Int), .int .u64 (c.2.2.2.toNat : Int), .slice ao kids.length cap] ∧ t = .mk k c kids ∧ (-9223372036854775808 ≤ k ∧ k ≤ 9223372036854775807) ∧ kids.length ≤ 9223372036854775807 ∧ (kids = [] ∨ ∃ b o, ao = some ⟨b, o, none⟩ ∧ b < B ∧ ∀ i, i < kids.length → ∀ j, j < 6 → w.cell? ⟨b, o + i * 6 + j, none⟩ = (vals i).cells[j]?) ∧ ∀ i (hi : i < kids.length), Rx w B (vals i) kids[i] := by
  cases h with
  | mk k c ao cap kids vals hk hm hc hr => exact ⟨k, c, ao, cap, kids, vals, rfl, rfl, hk, hm, hc, hr⟩

variable {H : Type} {enc : TypeId × Value → H}
end Go.Proofs.Ytlmlkpdppkgenaa
