/-
  A region that draws its order, whose operations only read and whose callees leave what lay below the heap's end: one walk in the order of the text serves, whatever is held of the world. No function is walked here.
-/
import Derived.Test.YtlmlkpdppkgenaaEqs
import Derived.BigQuiet
namespace Go.Proofs.Ytlmlkpdppkgenaa
open Go.RowKit
open Cls

/-- A world of which S holds. -/
structure Kp (S : World → Prop) where
  W : World
  h : S W

theorem wp_region_kept {P : Program} {S : World → Prop} {id : Nat} {Q : Exit → Act → World → Prop} {a : Act} {w : World} {l : List Oper} (hm : P.follows .mixedOrders = true) (hB : Region.lexB .any l.toArray = true) (h0 : S w.drew)
    (h : wpQuiet P l.toArray (fun w' => ∃ p : Kp S, w' = p.W) (fun a' => ∀ w', (∃ p : Kp S, w' = p.W) → Q .normal a' w') l a) : (Code.region id l.toArray true).wp P Q a w :=
  wp_region_quiet (C := fun w' => ∃ p : Kp S, w' = p.W) hm hB ⟨⟨_, h0⟩, rfl⟩ (by simpa using h)

theorem Kp.calls {P : Program} {f : FuncId} {args : Array Value} {S : World → Prop} {v : Value} (p : Kp S) (hS : ∀ W W', S W → Below W.heap.size W W' → S W')
    (h : Calls P f args p.W fun e w' => e = .returned v ∧ Below p.W.heap.size p.W w') : Calls P f args p.W fun e w'' => e = .returned v ∧ ∃ q : Kp S, w'' = q.W :=
  h.mono fun _ w' ⟨h1, h2⟩ => ⟨h1, ⟨w', hS _ _ p.h h2⟩, rfl⟩
/-- Below the heap's end the world is as w was, and two blocks hold these classes. -/
def S2 (w : World) (b0 b1 : Nat) (c d : Cl) (W : World) : Prop := Below w.heap.size w W ∧ Bx W b0 c ∧ Bx W b1 d
theorem S2.next {w : World} {b0 b1 : Nat} {c d : Cl} (W W' : World) (h : S2 w b0 b1 c d W) (hb : Below W.heap.size W W') : S2 w b0 b1 c d W' := ⟨h.1.trans (hb.mono h.1.size), h.2.1.next hb, h.2.2.next hb⟩
theorem S2.drew {w : World} {b0 b1 : Nat} {c d : Cl} {W : World} (h : S2 w b0 b1 c d W) : S2 w b0 b1 c d W.drew := ⟨h.1.drew, h.2⟩
/-- .. and three. -/
def S3 (w : World) (b0 b1 b2 : Nat) (c d e : Cl) (W : World) : Prop := Below w.heap.size w W ∧ Bx W b0 c ∧ Bx W b1 d ∧ Bx W b2 e
theorem S3.next {w : World} {b0 b1 b2 : Nat} {c d e : Cl} (W W' : World) (h : S3 w b0 b1 b2 c d e W) (hb : Below W.heap.size W W') : S3 w b0 b1 b2 c d e W' := ⟨h.1.trans (hb.mono h.1.size), h.2.1.next hb, h.2.2.1.next hb, h.2.2.2.next hb⟩
theorem S3.drew {w : World} {b0 b1 b2 : Nat} {c d e : Cl} {W : World} (h : S3 w b0 b1 b2 c d e W) : S3 w b0 b1 b2 c d e W.drew := ⟨h.1.drew, h.2⟩
theorem mixed : Try.prog.follows .mixedOrders = true := by kernel_rfl
end Go.Proofs.Ytlmlkpdppkgenaa
