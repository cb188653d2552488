/-
  A region that draws its order, whose operations only read and whose callees leave what lay below the heap's end: one walk in the order of the text serves, whatever is held of the world. No function is walked here.
-/
import Derived.Test.YtpfehghicaaghaaWalks
import Derived.BigQuiet
namespace Go.Proofs.Ytpfehghicaaghaa
open Go.RowKit

/-- A world of which S holds. -/
structure Kp (S : World → Prop) where
  W : World
  h : S W

theorem wp_region_kept {P : Program} {S : World → Prop} {id : Nat} {Q : Exit → Act → World → Prop} {a : Act} {w : World} {l : List Oper} (hm : P.follows .mixedOrders = true) (hB : Region.lexB .any l.toArray = true) (h0 : S w.drew)
    (h : wpQuiet P l.toArray (fun w' => ∃ p : Kp S, w' = p.W) (fun a' => ∀ w', (∃ p : Kp S, w' = p.W) → Q .normal a' w') l a) : (Code.region id l.toArray true).wp P Q a w :=
  wp_region_quiet (C := fun w' => ∃ p : Kp S, w' = p.W) hm hB ⟨⟨_, h0⟩, rfl⟩ (by simpa using h)

theorem Kp.calls {P : Program} {f : FuncId} {args : Array Value} {S : World → Prop} {v : Value} (p : Kp S) (hS : ∀ W W', S W → Below W.heap.size W W' → S W')
    (h : Calls P f args p.W fun e w' => e = .returned v ∧ Below p.W.heap.size p.W w') : Calls P f args p.W fun e w'' => e = .returned v ∧ ∃ q : Kp S, w'' = q.W :=
  h.mono fun _ w' ⟨h1, h2⟩ => ⟨h1, ⟨w', hS _ _ p.h h2⟩, rfl⟩
theorem mixed : Try.prog.follows .mixedOrders = true := by kernel_rfl
/-- The same memory. -/
structure Sm (w W : World) : Prop where
  heap : W.heap = w.heap
  os : W.os = w.os
  tape : W.tape = w.tape
  output : W.output = w.output
theorem Sm.drew (w : World) : Sm w w.drew := ⟨rfl, rfl, rfl, rfl⟩
theorem Sm.cell {w W : World} (h : Sm w W) (a : Addr) : W.cell? a = w.cell? a := by simp [World.cell?, h.heap]
theorem Sm.frozen {w W : World} (h : Sm w W) (a : Addr) : W.frozen? a = w.frozen? a := by simp [World.frozen?, h.heap]
theorem Sm.below {w W : World} (h : Sm w W) (B : Nat) : Below B w W := ⟨h.os, h.tape, h.output, by rw [h.heap]; exact Nat.le_refl _, fun k _ => by rw [h.heap]⟩
/-- What lay there is as it was. -/
def Sb (w W : World) : Prop := Below w.heap.size w W
theorem Sb.next {w : World} (W W' : World) (h : Sb w W) (hb : Below W.heap.size W W') : Sb w W' := Below.trans h (hb.mono (Below.size h))
theorem Sb.refl (w : World) : Sb w w := Below.refl _ _
theorem Sb.drew (w : World) : Sb w w.drew := ⟨rfl, rfl, rfl, Nat.le_refl _, fun _ _ => rfl⟩
theorem no_way {p : Prop} (h : false = true) : p := by cases h
theorem dep_of {l : List Edge} {d : Nat → Bool} (h : ∀ e ∈ l, Region.binds .any e = true → d e.on = true) (j : Nat) (hj : l.any (fun e => Region.binds .any e && e.on == j) = true) : d j = true := by
  obtain ⟨e, he, h2⟩ := List.any_eq_true.1 hj
  simp only [Bool.and_eq_true, beq_iff_eq] at h2
  rw [← h2.2]; exact h e he h2.1
theorem no_later {d : Nat → Bool} {i j : Nat} (h : d j = true → d i = true) (hi : d i = false) : d j = false := by
  cases e : d j with
  | false => rfl
  | true => rw [h e] at hi; cases hi
end Go.Proofs.Ytpfehghicaaghaa
