/-
  What pushref.rexAt is to do; and what a node that is not right is.
-/
import Derived.Test.YthloedfiomfnbaaChecks
import Derived.Test.YthloedfiomfnbaaInvs
import Derived.BigQuiet
namespace Go.Proofs.Ythloedfiomfnbaa
open Go.RowKit
open Cls Rex

/-- What rexAt is to do. -/
def RC (v : Value) (t : T) : Prop := ∀ (d n pn B : Nat) (w : World), Rx w B v t → d ≤ 31 → n ≤ 100 → B ≤ pn → B ≤ w.heap.size → w.heap[pn]? = some (.cells #[.int .i64 (n : Int)] 3) →
    Calls Try.prog 17 #[v, .int .i64 (d : Int), .pointer (some ⟨pn, 0, none⟩)] w fun e w' => e = .returned (.int .i64 ((chk t d n).1 : Int)) ∧ w'.heap[pn]? = some (.cells #[.int .i64 ((chk t d n).2 : Int)] 3) ∧ Below B w w' ∧ ∀ b, b < w.heap.size → b ≠ pn → w'.heap[b]? = w.heap[b]?
theorem node_of (k : Int) (c : Cl) (n : Nat) (kc : Nat) (hl : n = kc) {b3 hcb : Bool} (h3 : (k == 3) = b3) (hc : decide (c = empty) = hcb) (hk : 1 ≤ k ∧ k ≤ 6) (hkc : (k = 6 → kc = 1) ∧ (k = 4 → kc = 2) ∧ (k = 5 → kc = 2) ∧ (k ≠ 6 → k ≠ 4 → k ≠ 5 → kc = 0)) : isNode k c n = (b3 != hcb) := by
  unfold isNode kidCount
  have h3' : decide (k = 3) = b3 := by rw [← h3]; simp [BEq.beq]
  have hc' : decide (c ≠ empty) = !hcb := by rw [← hc]; simp
  rw [h3', hc']
  have : (decide ((n : Int) = if k = 1 ∨ k = 2 ∨ k = 3 then 0 else if k = 6 then 1 else if k = 4 ∨ k = 5 then 2 else -1)) = true := by
    rw [decide_eq_true_eq]
    split
    · omega
    · split
      · omega
      · split <;> omega
  rw [this]
  cases b3 <;> cases hcb <;> rfl
theorem node_len (k : Int) (c : Cl) (n : Nat) (kc : Nat) (hl : ¬ n = kc) (hkc : (k = 6 → kc = 1) ∧ (k = 4 → kc = 2) ∧ (k = 5 → kc = 2) ∧ (k ≠ 6 → k ≠ 4 → k ≠ 5 → kc = 0)) : isNode k c n = false := by
  unfold isNode kidCount
  have : (decide ((n : Int) = if k = 1 ∨ k = 2 ∨ k = 3 then 0 else if k = 6 then 1 else if k = 4 ∨ k = 5 then 2 else -1)) = false := by
    rw [decide_eq_false_iff_not]
    split
    · omega
    · split
      · omega
      · split <;> omega
  rw [this]; rfl
theorem node_out (k : Int) (c : Cl) (n : Nat) (h : k < 1 ∨ 6 < k) : isNode k c n = false := by
  unfold isNode kidCount
  have : (decide ((n : Int) = if k = 1 ∨ k = 2 ∨ k = 3 then 0 else if k = 6 then 1 else if k = 4 ∨ k = 5 then 2 else -1)) = false := by
    rw [decide_eq_false_iff_not]
    split
    · omega
    · split
      · omega
      · split <;> omega
  rw [this]; rfl
end Go.Proofs.Ythloedfiomfnbaa
