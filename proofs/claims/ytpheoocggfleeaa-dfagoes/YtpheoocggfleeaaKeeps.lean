/-
  A region that draws its order, whose operations only read and whose callees leave what lay below the heap's end: one walk in the order of the text serves, whatever is held of the world. No function is walked here.
-/
import Derived.Test.YtpheoocggfleeaaRefs
import Derived.BigQuiet
namespace Go.Proofs.Ytpheoocggfleeaa
open Go.RowKit
open Dfa

/-- A world of which S holds. -/
structure Kp (S : World → Prop) where
  W : World
  h : S W

theorem wp_region_kept {P : Program} {S : World → Prop} {id : Nat} {Q : Exit → Act → World → Prop} {a : Act} {w : World} {l : List Oper} (hm : P.follows .mixedOrders = true) (hB : Region.lexB .any l.toArray = true) (h0 : S w.drew)
    (h : wpQuiet P l.toArray (fun w' => ∃ p : Kp S, w' = p.W) (fun a' => ∀ w', (∃ p : Kp S, w' = p.W) → Q .normal a' w') l a) : (Code.region id l.toArray true).wp P Q a w :=
  wp_region_quiet (C := fun w' => ∃ p : Kp S, w' = p.W) hm hB ⟨⟨_, h0⟩, rfl⟩ (by simpa using h)

theorem Kp.calls {P : Program} {f : FuncId} {args : Array Value} {S : World → Prop} {v : Value} (p : Kp S) (hS : ∀ W W', S W → Below W.heap.size W W' → S W')
    (h : Calls P f args p.W fun e w' => e = .returned v ∧ Below p.W.heap.size p.W w') : Calls P f args p.W fun e w'' => e = .returned v ∧ ∃ q : Kp S, w'' = q.W :=
  h.mono fun _ w' ⟨h1, h2⟩ => ⟨h1, ⟨w', hS _ _ p.h h2⟩, rfl⟩

/-- What was below the heap's end stays; the automaton lies in its box; the heap is no less. -/
structure Sx (w : World) (g : Nat) (rv tv : Value) (n m : Nat) (R : Nat → Nat → Int) (T : Nat → Int) (W : World) : Prop where
  below : Below w.heap.size w W
  rows : Rw W rv n R
  tags : Ts W tv m T
  c0 : W.cell? ⟨g, 0, none⟩ = some rv
  c1 : W.cell? ⟨g, 1, none⟩ = some tv
  lt : g < W.heap.size
theorem Sx.next {w : World} {g : Nat} {rv tv : Value} {n m : Nat} {R : Nat → Nat → Int} {T : Nat → Int} (W W' : World) (h : Sx w g rv tv n m R T W) (hb : Below W.heap.size W W') : Sx w g rv tv n m R T W' :=
  ⟨h.below.trans (hb.mono h.below.size), h.rows.below hb (Nat.le_refl _), h.tags.below hb (Nat.le_refl _), (hb.cell (p := ⟨g, 0, none⟩) h.lt).trans h.c0, (hb.cell (p := ⟨g, 1, none⟩) h.lt).trans h.c1, Nat.lt_of_lt_of_le h.lt hb.size⟩
theorem Sx.drew {w : World} {g : Nat} {rv tv : Value} {n m : Nat} {R : Nat → Nat → Int} {T : Nat → Int} {W : World} (h : Sx w g rv tv n m R T W) : Sx w g rv tv n m R T W.drew :=
  h.next W W.drew ⟨rfl, rfl, rfl, Nat.le_refl _, fun _ _ => rfl⟩
theorem Sx.box {w : World} {rv tv : Value} {n m : Nat} {R : Nat → Nat → Int} {T : Nat → Int} (hr : Rw w rv n R) (ht : Ts w tv m T) : Sx w w.heap.size rv tv n m R T (w.alloc (Obj.cells #[rv, tv] 25)) := by
  have B0 : Below w.heap.size w (w.alloc (Obj.cells #[rv, tv] 25)) := (Below.refl _ _).alloc (Nat.le_refl _) _
  exact ⟨B0, hr.below B0 (Nat.le_refl _), ht.below B0 (Nat.le_refl _), by simp, by simp, by simp⟩
theorem mixed : Try.prog.follows .mixedOrders = true := by kernel_rfl
end Go.Proofs.Ytpheoocggfleeaa
