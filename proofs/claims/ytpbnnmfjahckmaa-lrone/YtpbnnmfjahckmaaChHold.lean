/-
  What a chart holds in memory; the contracts of count.plus and chart.of.
-/
import Derived.Test.YtpbnnmfjahckmaaChOpen
import Derived.Test.YtpbnnmfjahckmaaTrBlk
namespace Go.Proofs.Ytpbnnmfjahckmaa
open Go.RowKit
open Cg

/-- The cells of a table of nonterminals. -/
def nf (N : TbN) (c : Nat) : Value := .int .u8 ((N ((c / 441 : Nat) : Int) (c % 441 / 21) (c % 21) : Nat) : Int)
/-- .. of a production's. -/
def bf (B : Nat → Nat → Nat → Nat) (c : Nat) : Value := .int .u8 ((B (c / 441) (c % 441 / 21) (c % 21) : Nat) : Int)
theorem at_cell {a i j : Nat} (hi : i < 21) (hj : j < 21) : (a * 441 + i * 21 + j) / 441 = a ∧ (a * 441 + i * 21 + j) % 441 / 21 = i ∧ (a * 441 + i * 21 + j) % 21 = j := by omega
theorem cell_at {c c' : Nat} : c = c' ↔ c / 441 = c' / 441 ∧ c % 441 / 21 = c' % 441 / 21 ∧ c % 21 = c' % 21 := by omega
def lf (op : Bool) (ws : List Int) : Int → Nat → Nat → Bool := if op then leafO ws else leafC ws
theorem lf_tri (op : Bool) (ws : List Int) : TrL (lf op ws) := by unfold lf; cases op; exact leafC_tri ws; exact leafO_tri ws
/-- Where a chart lies. -/
structure Lay where
  q : Nat
  bn : Nat
  bb : Nat
  bs : Nat → Nat
/-- A chart in memory. -/
structure Ch (w0 : World) (y : Lay) (t : Int) (n : Nat) (pv wv : Value) (ps : List Pd) (ws : List Int) (op : Bool) (N : TbN) (B : Nat → Nat → Nat → Nat → Nat) (W : World) : Prop where
  bel : Below w0.heap.size w0 W
  box : W.heap[y.q]? = some (.cells #[.int .i64 t, .int .i64 (n : Int), pv, wv, .bool op, .slice (some ⟨y.bn, 0, none⟩) n n, .slice (some ⟨y.bb, 0, none⟩) ps.length ps.length] 121)
  nons : W.rowIs y.bn 125 (n * 441) (nf N)
  bods : W.rowIs y.bb 118 ps.length (fun p => .slice (some ⟨y.bs p, 0, none⟩) ((ps.getD p (0, [])).2.length + 1) ((ps.getD p (0, [])).2.length + 1))
  body : ∀ p, p < ps.length → W.rowIs (y.bs p) 125 (((ps.getD p (0, [])).2.length + 1) * 441) (bf (B p))
  oq : w0.heap.size ≤ y.q
  on : w0.heap.size ≤ y.bn
  ob : w0.heap.size ≤ y.bb
  os : ∀ p, p < ps.length → w0.heap.size ≤ y.bs p
  qn : y.q ≠ y.bn
  qb : y.q ≠ y.bb
  nb : y.bn ≠ y.bb
  qs : ∀ p, p < ps.length → y.bs p ≠ y.q ∧ y.bs p ≠ y.bn ∧ y.bs p ≠ y.bb
  ss : ∀ p p', p < ps.length → p' < ps.length → y.bs p = y.bs p' → p = p'
/-- What is right of a chart's grammar and word. -/
structure Rc (w0 : World) (t : Int) (n : Nat) (pv wv : Value) (ps : List Pd) (ws : List Int) : Prop where
  pds : Pds w0 pv ps
  wrd : Ints w0 wv ws
  okl : ∀ p ∈ ps, OkL t n p.2 ∧ 0 ≤ p.1 ∧ p.1 < (n : Int)
  pl : ps.length ≤ 40
  bl : ∀ p ∈ ps, p.2.length ≤ 8
  nl : 0 < n ∧ n ≤ 20
  wl : ws.length ≤ 20
theorem Ch.ps_lt {w0 : World} {y : Lay} {t : Int} {n : Nat} {pv wv : Value} {ps : List Pd} {ws : List Int} {op : Bool} {N : TbN} {B : Nat → Nat → Nat → Nat → Nat} {W : World} (h : Ch w0 y t n pv wv ps ws op N B W) : y.q < W.heap.size ∧ y.bn < W.heap.size ∧ y.bb < W.heap.size := ⟨heap_lt3 h.box, h.nons.lt, h.bods.lt⟩
theorem Ch.next {w0 : World} {y : Lay} {t : Int} {n : Nat} {pv wv : Value} {ps : List Pd} {ws : List Int} {op : Bool} {N : TbN} {B : Nat → Nat → Nat → Nat → Nat} {W W' : World} (h : Ch w0 y t n pv wv ps ws op N B W) (hb : Below W.heap.size W W') : Ch w0 y t n pv wv ps ws op N B W' :=
  ⟨h.bel.trans (hb.mono h.bel.size), (hb.block _ (heap_lt3 h.box)).trans h.box, h.nons.of_block (hb.block _ h.nons.lt), h.bods.of_block (hb.block _ h.bods.lt), fun p hp => (h.body p hp).of_block (hb.block _ (h.body p hp).lt), h.oq, h.on, h.ob, h.os, h.qn, h.qb, h.nb, h.qs, h.ss⟩
theorem Ch.bcell {w0 : World} {y : Lay} {t : Int} {n : Nat} {pv wv : Value} {ps : List Pd} {ws : List Int} {op : Bool} {N : TbN} {B : Nat → Nat → Nat → Nat → Nat} {W : World} (h : Ch w0 y t n pv wv ps ws op N B W) (i : Nat) : W.cell? ⟨y.q, i, none⟩ = (#[.int .i64 t, .int .i64 (n : Int), pv, wv, .bool op, .slice (some ⟨y.bn, 0, none⟩) n n, .slice (some ⟨y.bb, 0, none⟩) ps.length ps.length] : Array Value)[i]? := tcell_blk h.box i
theorem Ch.ncell {w0 : World} {y : Lay} {t : Int} {n : Nat} {pv wv : Value} {ps : List Pd} {ws : List Int} {op : Bool} {N : TbN} {B : Nat → Nat → Nat → Nat → Nat} {W : World} (h : Ch w0 y t n pv wv ps ws op N B W) {a i j : Nat} (ha : a < n) (hi : i < 21) (hj : j < 21) : W.cell? ⟨y.bn, a * 441 + i * 21 + j, none⟩ = some (.int .u8 ((N (a : Int) i j : Nat) : Int)) := by
  have := h.nons.cell (i := a * 441 + i * 21 + j) (by omega)
  rw [this]
  obtain ⟨e1, e2, e3⟩ := at_cell (a := a) hi hj
  unfold nf; rw [e1, e2, e3]
theorem Ch.scell {w0 : World} {y : Lay} {t : Int} {n : Nat} {pv wv : Value} {ps : List Pd} {ws : List Int} {op : Bool} {N : TbN} {B : Nat → Nat → Nat → Nat → Nat} {W : World} (h : Ch w0 y t n pv wv ps ws op N B W) {p k i j : Nat} (hp : p < ps.length) (hk : k < (ps.getD p (0, [])).2.length + 1) (hi : i < 21) (hj : j < 21) : W.cell? ⟨y.bs p, k * 441 + i * 21 + j, none⟩ = some (.int .u8 ((B p k i j : Nat) : Int)) := by
  have := (h.body p hp).cell (i := k * 441 + i * 21 + j) (by omega)
  rw [this]
  obtain ⟨e1, e2, e3⟩ := at_cell (a := k) hi hj
  unfold bf; rw [e1, e2, e3]

set_option maxHeartbeats 1600000 in
set_option maxRecDepth 20000 in
theorem plus_any (a b : Nat) (ha : a ≤ 4) (hb : b ≤ 4) (w : World) :
    Calls Try.prog 90 #[.int .u8 (a : Int), .int .u8 (b : Int)] w fun e w' => e = .returned (.int .u8 ((min 2 (a + b) : Nat) : Int)) ∧ Below w.heap.size w w' := by
  obtain ⟨r, HR⟩ : ∃ r, Hid (((min 2 (a + b) : Nat) : Int) = r) := ⟨_, (rfl : _ = _)⟩
  rw [HR.out]
  have h1 : IntKind.u8.wrap ((a : Int) + (b : Int)) = (a : Int) + (b : Int) := by simp [IntKind.wrap, IntKind.bits, IntKind.signed]; omega
  go_enter Try.func90, Try.ntmps90
  go_wp2_with fail
  all_goals go_ret
  all_goals refine ⟨?_, Below.refl _ _⟩
  all_goals rw [← HR.out]
  all_goals first | (congr 3; omega) | (rw [h1]; congr 3; omega) | (show Ending.returned (Value.int IntKind.u8 _) = _; congr 2; omega)
end Go.Proofs.Ytpbnnmfjahckmaa
