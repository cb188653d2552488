/-
  What small.oneOfEach holds in memory: a row more, a tag more. No function is walked here.
-/
import Derived.Test.YtlgcggfenljdnaaMnHold
namespace Go.Proofs.Ytlgcggfenljdnaa
open Go.RowKit
open Go.Maps
open Dfa

variable {R : Nat → Nat → Int} {T K : Nat → Int} {n : Nat} {w : World} {rv tv : Value} {gm gM gw kr kt q j k : Nat} {F : Nat → Nat → Int} {met : List Nat} {D : DataW Unit} {mV rV tV : Value} {W W' : World}
theorem Oc.rowed {gr cr : Nat} (h : Oc w rv tv n R K gm gM k (k * 256 + 256) F met D mV rV tV W) (t : Ot w T gm gM k met mV rV tV W) (hk : k < met.length) (hkc : k < cn F (k * 256)) (cur : ∀ b, b < 256 → Nm K met (R (met.getD k 0) b) (F k b)) (hB : Below w.heap.size w W')
    (e : ∀ a, a < W.heap.size → rV.ownBlock ≠ some a → W'.heap[a]? = W.heap[a]?) (ho : W'.ownsRow (w.heap.size + 2) 42 256 (.slice (some ⟨gr, 0, none⟩) (k + 1) cr) (k + 1) (rcl (fun j => j) F (k + 1))) (hgr : rV.ownBlock = some gr ∨ W.heap.size ≤ gr) :
    W'.rowIs gM 25 2 (fun i => if i = 0 then rV else tV) ∧ Oc w rv tv n R K gm gM (k + 1) ((k + 1) * 256) F met D mV (.slice (some ⟨gr, 0, none⟩) (k + 1) cr) tV (W'.setCell ⟨gM, 0, none⟩ (.slice (some ⟨gr, 0, none⟩) (k + 1) cr)) ∧ Ot w T gm gM k met mV (.slice (some ⟨gr, 0, none⟩) (k + 1) cr) tV (W'.setCell ⟨gM, 0, none⟩ (.slice (some ⟨gr, 0, none⟩) (k + 1) cr)) := by
  have o1 := h.o1
  have o2 := h.o2
  have l1 := h.rs.lt
  have l2 := h.mb.lt
  have ro : ∀ a, rV.ownBlock = some a → w.heap.size + 2 ≤ a := fun a ha => (h.ro.lt a ha).1
  have hgM : gr ≠ gM ∧ gr ≠ gm := by
    rcases hgr with y | y
    · exact ⟨(h.nr gr y).2, (h.nr gr y).1⟩
    · exact ⟨by omega, by omega⟩
  have hmV : mV.ownBlock ≠ some gr := by
    rcases hgr with y | y
    · exact fun x => (h.nm gr x).2.2 y
    · exact fun x => by have := (h.me.lt gr x).2; omega
  have htV : tV.ownBlock ≠ some gr := by
    rcases hgr with y | y
    · exact fun x => (t.nt gr x).2.2.2 y
    · exact fun x => by have := (t.to.lt gr x).2; omega
  have hmb : W'.rowIs gM 25 2 (fun i => if i = 0 then rV else tV) := h.mb.of_block (e gM l2 (fun x => (h.nr gM x).2 rfl))
  have e2 : ∀ a, a ≠ gM → (W'.setCell ⟨gM, 0, none⟩ (.slice (some ⟨gr, 0, none⟩) (k + 1) cr)).heap[a]? = W'.heap[a]? := fun a ha => Below.heap_setCell _ _ _ _ ha
  have e3 : ∀ a, a < W.heap.size → rV.ownBlock ≠ some a → a ≠ gM → (W'.setCell ⟨gM, 0, none⟩ (.slice (some ⟨gr, 0, none⟩) (k + 1) cr)).heap[a]? = W.heap[a]? := fun a ha h1 h2 => (e2 a h2).trans (e a ha h1)
  have b0 := e3 w.heap.size (by omega) (fun x => by have := ro _ x; omega) (by omega)
  refine ⟨hmb, ⟨hB.setCell (by simp; omega) _, (cell_same b0 0).trans h.c0, (cell_same b0 1).trans h.c1, h.rs.of_block (e3 _ l1 (fun x => by have := ro _ x; omega) (by omega)), map_same40 h.mp (e3 gm (by omega) (fun x => (h.nr gm x).1 rfl) (by omega)), h.mi, (hmb.set 0 _).congr fun i hi => ?_, own_same ho fun a ha => e2 a (by simp [Value.ownBlock] at ha; omega), own_same h.me fun a ha => e3 a (h.me.lt a ha).2 (h.nm a ha).2.2 (h.nm a ha).2.1, fun a ha => ⟨(h.nm a ha).1, (h.nm a ha).2.1, fun x => by simp [Value.ownBlock] at x; subst x; exact hmV ha⟩, fun a ha => by simp [Value.ownBlock] at ha; subst ha; exact ⟨hgM.2, hgM.1⟩, h.o1, h.o2, h.mt, fun r b hr hb => ?_, by omega, ?_, ?_, fun i hi => ?_⟩, ⟨own_same t.to fun a ha => e3 a (t.to.lt a ha).2 (t.nt a ha).2.2.2 (t.nt a ha).2.1, fun a ha => ⟨(t.nt a ha).1, (t.nt a ha).2.1, (t.nt a ha).2.2.1, fun x => by simp [Value.ownBlock] at x; subst x; exact htV ha⟩⟩⟩
  · have : i = 0 ∨ i = 1 := by omega
    rcases this with rfl | rfl <;> simp
  · by_cases e5 : r = k
    · subst e5; exact cur b hb
    · exact h.rows r b (by omega) hb
  · rw [show (k + 1) * 256 = k * 256 + 256 by omega]; exact h.cnt
  · rw [show (k + 1) * 256 = k * 256 + 256 by omega]; exact h.first
  · by_cases e5 : i = k
    · subst e5; exact hkc
    · exact h.mets i (by omega)
theorem Oc.tset {u : Value} (h : Oc w rv tv n R K gm gM kr q F met D mV rV tV W) : Oc w rv tv n R K gm gM kr q F met D mV rV u (W.setCell ⟨gM, 1, none⟩ u) := by
  have o1 := h.o1
  have o2 := h.o2
  have e : ∀ a, a ≠ gM → (W.setCell ⟨gM, 1, none⟩ u).heap[a]? = W.heap[a]? := fun a ha => Below.heap_setCell _ _ _ _ ha
  refine ⟨h.below.setCell (by simp; omega) _, (cell_same (e _ (by omega)) 0).trans h.c0, (cell_same (e _ (by omega)) 1).trans h.c1, h.rs.of_block (e _ (by omega)), map_same40 h.mp (e _ (by omega)), h.mi, (h.mb.set 1 u).congr fun i hi => ?_, own_same h.ro fun a ha => e a (h.nr a ha).2, own_same h.me fun a ha => e a (h.nm a ha).2.1, h.nm, h.nr, h.o1, h.o2, h.mt, h.rows, h.krl, h.cnt, h.first, h.mets⟩
  have : i = 0 ∨ i = 1 := by omega
  rcases this with rfl | rfl <;> simp
/-- The tags have grown, and their place is not yet written. -/
structure Oh (w : World) (T : Nat → Int) (gm gM kt : Nat) (met : List Nat) (mV rV : Value) (gr cr : Nat) (W : World) : Prop where
  to : W.ownsRow (w.heap.size + 2) 3 1 (.slice (some ⟨gr, 0, none⟩) (kt + 1) cr) (kt + 1) (tl (kt + 1) (fun r => T (met.getD r 0)))
  nt : gr ≠ gm ∧ gr ≠ gM ∧ mV.ownBlock ≠ some gr ∧ rV.ownBlock ≠ some gr
theorem Oc.tagged {gr cr : Nat} (h : Oc w rv tv n R K gm gM (k + 1) q F met D mV rV tV W) (t : Ot w T gm gM k met mV rV tV W) (hg : W.grownBy W' tV.ownBlock)
    (ho : W'.ownsRow (w.heap.size + 2) 3 1 (.slice (some ⟨gr, 0, none⟩) (k + 1) cr) (k + 1) (tl k (fun r => T (met.getD r 0)) ++ [.int .i64 (T (met.getD k 0))])) (hgr : tV.ownBlock = some gr ∨ gr = W.heap.size) :
    Oc w rv tv n R K gm gM (k + 1) q F met D mV rV tV W' ∧ Oh w T gm gM k met mV rV gr cr W' := by
  have o1 := h.o1
  have o2 := h.o2
  have l1 := h.rs.lt
  have l2 := h.mb.lt
  have to : ∀ a, tV.ownBlock = some a → w.heap.size + 2 ≤ a := fun a ha => (t.to.lt a ha).1
  refine ⟨h.frame (h.below.grown hg h.below.size (fun a ha => by have := to a ha; omega)) (fun a => tV.ownBlock = some a) (fun a ha hx => hg.block a ha (fun x => hx x.symm)) (fun x => by have := to _ x; omega) (fun x => by have := to _ x; omega) (fun x => (t.nt _ x).1 rfl) (fun x => (t.nt _ x).2.1 rfl) (fun a ha x => (t.nt a x).2.2.2 ha) (fun a ha x => (t.nt a x).2.2.1 ha), ⟨by rw [tl_succ]; exact ho, ?_⟩⟩
  rcases hgr with y | y
  · exact t.nt gr y
  · exact ⟨by omega, by omega, fun x => by have := (h.me.lt gr x).2; omega, fun x => by have := (h.ro.lt gr x).2; omega⟩
theorem Oh.put {gr cr : Nat} (h : Oc w rv tv n R K gm gM (k + 1) q F met D mV rV tV W) (t : Oh w T gm gM k met mV rV gr cr W) : Oc w rv tv n R K gm gM (k + 1) q F met D mV rV (.slice (some ⟨gr, 0, none⟩) (k + 1) cr) (W.setCell ⟨gM, 1, none⟩ (.slice (some ⟨gr, 0, none⟩) (k + 1) cr)) ∧ Ot w T gm gM (k + 1) met mV rV (.slice (some ⟨gr, 0, none⟩) (k + 1) cr) (W.setCell ⟨gM, 1, none⟩ (.slice (some ⟨gr, 0, none⟩) (k + 1) cr)) :=
  ⟨h.tset, ⟨own_same t.to fun a ha => Below.heap_setCell _ _ _ _ (by simp [Value.ownBlock] at ha; subst ha; exact t.nt.2.1), fun a ha => by simp [Value.ownBlock] at ha; subst ha; exact t.nt⟩⟩
end Go.Proofs.Ytlgcggfenljdnaa
