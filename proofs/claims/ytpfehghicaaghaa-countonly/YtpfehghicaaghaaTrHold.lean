/-
  What stays while a tree is walked through: blocks of other types than numbers and walks; appending in drawn regions. No function is walked here.
-/
import Derived.Test.YtpfehghicaaghaaTrMay
import Derived.Test.YtpfehghicaaghaaFcChain
import Derived.Test.YtpfehghicaaghaaFcRows
import Derived.Test.YtpfehghicaaghaaFree
import Derived.Deep.AppendLies
namespace Go.Proofs.Ytpfehghicaaghaa
open Go.RowKit
open Cg

theorem tcell_blk {w : World} {g : Nat} {cs : Array Value} {t : TypeId} {fr : Nat × Nat} (h : w.heap[g]? = some (.cells cs t fr)) (i : Nat) : w.cell? ⟨g, i, none⟩ = cs[i]? := by
  unfold World.cell?
  simp only [h]
  rfl
theorem tfrozen_blk {w : World} {g : Nat} {cs : Array Value} {t : TypeId} (h : w.heap[g]? = some (.cells cs t)) (i : Nat) : w.frozen? ⟨g, i, none⟩ = false := by
  simp [World.frozen?, h]
theorem tbox_next {w w' : World} {k : Nat} {o : Obj} (h : w.heap[k]? = some o) (hb : Below w.heap.size w w') : w'.heap[k]? = some o := (hb.block k (heap_lt3 h)).trans h
theorem tblock_store {w : World} {g i : Nat} {cs : Array Value} {t : TypeId} {fr : Nat × Nat} (h : w.heap[g]? = some (.cells cs t fr)) (v : Value) : (w.setCell ⟨g, i, none⟩ v).heap[g]? = some (.cells (cs.setIfInBounds i v) t fr) := by
  simp [World.setCell, Array.getElem?_modify, h]
theorem town_keep {w w' : World} {B : Nat} {e : TypeId} {size : Nat} {v : Value} {n : Nat} {xs : List Value} (h : w.ownsRow B e size v n xs) (hb : ∀ b, v.ownBlock = some b → w'.heap[b]? = w.heap[b]?) : w'.ownsRow B e size v n xs := by
  refine ⟨h.1, h.2.imp id ?_⟩
  rintro ⟨g, cap, cur, rfl, h1, h2, h3⟩
  exact ⟨g, cap, cur, rfl, h1, (hb g rfl).trans h2, h3⟩
/-- A row's block has the row's type. -/
theorem own_blk {w : World} {B : Nat} {e : TypeId} {size : Nat} {v : Value} {n : Nat} {xs : List Value} (h : w.ownsRow B e size v n xs) {b : Nat} (hb : v.ownBlock = some b) : ∃ cur, w.heap[b]? = some (.cells cur e (0, 0)) := by
  rcases h.2 with ⟨rfl, _⟩ | ⟨g, cap, cur, rfl, h1, h2, h3⟩
  · simp [Value.ownBlock] at hb
  · simp [Value.ownBlock] at hb; subst hb; exact ⟨cur, h2⟩
theorem tstep_call_append {P : Program} {ops : Array Oper} {o : Oper} {a : Act} {K : Act → World → Prop} {Q : Exit → Act → World → Prop} {E : Prop} {W W1 : World} {v sv xv : Value} (hgd : o.guard = none) (s x : Operand) (t : TypeId) (ho : o.op = .call { callee := .builtin .append, args := #[s, x], argTypes := #[t, t] })
    (hs : a.eval s = sv) (hx : a.eval x = xv) (hr : (Builtin.append_ #[t, t] o.type #[sv, xv]).run P W = .ok v W1) (h : K (a.put o.dst v) W1) : if Region.wanted o (yielded ops a.tmps) = true then Oper.wp P o a W K Q else E := by
  have hw : Region.wanted o (yielded ops a.tmps) = true := by simp [Region.wanted, hgd]
  rw [if_pos hw]
  unfold Oper.wp
  simp [execOp, ho, resolve, invoke, builtin, hs, hx, hr, Result.andThen]
  exact h
theorem tgb_alloc {w w' : World} {r : Option Nat} (h : w.grownBy w' r) (o : Obj) : w.grownBy (w'.alloc o) r :=
  ⟨h.os, h.tape, h.output, Nat.le_trans h.size (by simp), fun k hk hn => by
    have := h.block k hk hn
    have h2 := h.size
    simp only [World.alloc]
    rw [Array.getElem?_push_lt (by omega)]
    rw [← this, Array.getElem?_eq_getElem (by omega)]⟩
theorem tgb_then {w w' w'' : World} {r : Option Nat} (h : w.grownBy w' r) (k : w'.grownBy w'' r) : w.grownBy w'' r :=
  ⟨k.os.trans h.os, k.tape.trans h.tape, k.output.trans h.output, Nat.le_trans h.size k.size, fun i hi hn => (k.block i (Nat.lt_of_lt_of_le hi h.size) hn).trans (h.block i hi hn)⟩
theorem tgb_old {w w' : World} {r : Option Nat} (h : w.grownBy w' r) {p : Addr} (hp : p.block < w.heap.size) (hn : some p.block ≠ r) : w'.cell? p = w.cell? p := World.cell?_of_block (h.block _ hp hn)
theorem tgb_drew {w w' : World} {r : Option Nat} (h : w.grownBy w' r) : w.grownBy w'.drew r := ⟨h.os, h.tape, h.output, h.size, h.block⟩

/-- Blocks of the types that Z has not stay. -/
def Fy (Z : Nat → Prop) (W W' : World) : Prop := W.heap.size ≤ W'.heap.size ∧ ∀ (b : Nat) (cs : Array Value) (t : TypeId) (fr : Nat × Nat), W.heap[b]? = some (.cells cs t fr) → ¬ Z t → W'.heap[b]? = some (.cells cs t fr)
theorem Fy.refl (Z : Nat → Prop) (W : World) : Fy Z W W := ⟨Nat.le_refl _, fun _ _ _ _ h _ => h⟩
theorem Fy.trans {Z : Nat → Prop} {W W' W'' : World} (h : Fy Z W W') (k : Fy Z W' W'') : Fy Z W W'' := ⟨Nat.le_trans h.1 k.1, fun b cs t fr h1 h2 => k.2 b cs t fr (h.2 b cs t fr h1 h2) h2⟩
theorem Fy.of {Z : Nat → Prop} {W W' : World} (h : Below W.heap.size W W') : Fy Z W W' := ⟨h.size, fun b _ _ _ h1 _ => (h.block b (heap_lt3 h1)).trans h1⟩
theorem Fy.set {Z : Nat → Prop} {W : World} {q i : Nat} {cs : Array Value} {t : TypeId} {fr : Nat × Nat} (h : W.heap[q]? = some (.cells cs t fr)) (hz : Z t) (v : Value) : Fy Z W (W.setCell ⟨q, i, none⟩ v) :=
  ⟨by simp [World.setCell], fun b cs' t' fr' h1 h2 => by
    by_cases e : b = q
    · subst e; rw [h] at h1; simp only [Option.some.injEq, Obj.cells.injEq] at h1; obtain ⟨-, rfl, -⟩ := h1; exact absurd hz h2
    · rw [Below.heap_setCell _ _ _ _ (by simpa using e)]; exact h1⟩
theorem Fy.grown {Z : Nat → Prop} {W W' : World} {B : Nat} {e : TypeId} {size : Nat} {v : Value} {n : Nat} {xs : List Value} (ho : W.ownsRow B e size v n xs) (hz : Z e) (h : W.grownBy W' v.ownBlock) : Fy Z W W' :=
  ⟨h.size, fun b cs t fr h1 h2 => by
    refine (h.block b (heap_lt3 h1) fun e' => ?_).trans h1
    obtain ⟨cur, hc⟩ := own_blk ho e'.symm
    rw [hc] at h1
    simp only [Option.some.injEq, Obj.cells.injEq] at h1
    obtain ⟨-, rfl, -⟩ := h1
    exact h2 hz⟩
def Z37 (t : Nat) : Prop := t = 3 ∨ t = 107
theorem Bx.of_blk {w : World} {g : Nat} {p k : Int} {a : Option Addr} {n c : Nat} (h : w.heap[g]? = some (.cells #[.int .i64 p, .int .i64 k, .slice a n c] 32)) : Bx w g p k a n c :=
  ⟨heap_lt3 h, tcell_blk h 0, tcell_blk h 1, tcell_blk h 2⟩
theorem B2.of_blk {w : World} {g : Nat} {x y : Int} {ty : Nat} (h : w.heap[g]? = some (.cells #[.int .i64 x, .int .i64 y] ty)) : B2 w g x y :=
  ⟨heap_lt3 h, tcell_blk h 0, tcell_blk h 1⟩
theorem Wk.ne {w0 : World} {q : Nat} {t n : Int} {pv : Value} {nn : Nat} {wv : Value} {ws : List Int} {W : World} (h : Wk w0 q t n pv nn wv ws W) : some q ≠ wv.ownBlock := fun e => by
  obtain ⟨cur, hc⟩ := own_blk h.own e.symm
  have := h.blk
  rw [hc] at this
  simp at this
/-- The number of nodes is written. -/
theorem Wk.set {w0 : World} {q : Nat} {t n : Int} {pv : Value} {nn : Nat} {wv : Value} {ws : List Int} {W : World} (h : Wk w0 q t n pv nn wv ws W) (m : Nat) : Wk w0 q t n pv m wv ws (W.setCell ⟨q, 3, none⟩ (.int .i64 (m : Int))) := by
  refine ⟨by simpa using tblock_store (i := 3) h.blk (.int .i64 (m : Int)), town_keep h.own fun b hb => ?_, h.ge, h.bel.setCell h.ge _⟩
  exact Below.heap_setCell _ _ _ _ (by intro e; simp at e; subst e; exact h.ne hb.symm)
/-- The word grows. -/
theorem Wk.grow {w0 : World} {q : Nat} {t n : Int} {pv : Value} {nn : Nat} {wv : Value} {ws : List Int} {W V : World} {x : Int} {rv : Value} (h : Wk w0 q t n pv nn wv ws W) (hg : W.grownBy V wv.ownBlock) (ho : V.ownsRow w0.heap.size 3 1 rv (ws.length + 1) (ws.map (Value.int .i64) ++ [.int .i64 x])) :
    Wk w0 q t n pv nn rv (ws ++ [x]) (V.setCell ⟨q, 4, none⟩ rv) ∧ Fy Z37 W (V.setCell ⟨q, 4, none⟩ rv) := by
  have hq : V.heap[q]? = _ := (hg.block q (heap_lt3 h.blk) h.ne).trans h.blk
  have hne : ∀ b, rv.ownBlock = some b → b ≠ q := fun b hb e => by
    subst e
    obtain ⟨cur, hc⟩ := own_blk ho hb
    rw [hc] at hq
    simp at hq
  have hbv : Below w0.heap.size w0 V := h.bel.trans ⟨hg.os, hg.tape, hg.output, hg.size, fun k hk => hg.block k (by have := h.bel.size; omega) fun e => by have := own_ge h.own k e.symm; omega⟩
  refine ⟨⟨by simpa using tblock_store (i := 4) hq rv, ?_, h.ge, hbv.setCell h.ge _⟩, ?_⟩
  · rw [List.length_append, List.map_append]
    exact town_keep ho fun b hb => Below.heap_setCell _ _ _ _ (by simpa using hne b hb)
  · exact (Fy.grown h.own (Or.inl rfl) hg).trans (Fy.set hq (Or.inr rfl) rv)
/-- What through leaves. -/
def ThP (w0 : World) (q : Nat) (t n : Int) (pv : Value) (r : Nat × Nat × List Int) (W W' : World) : Prop := (∃ wv, Wk w0 q t n pv r.2.1 wv r.2.2 W') ∧ Fy Z37 W W'
end Go.Proofs.Ytpfehghicaaghaa
