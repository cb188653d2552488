/-
  A mark is set in a Posn in the making; what a rule adds, plainly. No function is walked here.
-/
import Derived.Test.YtlmlkpdppkgenaaPmNode2
namespace Go.Proofs.Ytlmlkpdppkgenaa
open Go.RowKit
open Cls Po Rex

section
variable {base gp : Nat} {v V v1 V1 : Nat → Value} {p p1 : P} {m : Nat} {w W : World}
theorem Pm.lastAt (h : Pm base gp v V p W) {i : Nat} (hi : i < p.last.length) : ∃ g cap, v 4 = .slice (some ⟨g, 0, none⟩) p.last.length cap ∧ g < W.heap.size ∧ (∃ z, W.cell? ⟨g, i, none⟩ = some (.bool z)) ∧ W.frozen? ⟨g, i, none⟩ = false := by
  have ho : W.ownsRow base 4 1 (v 4) p.last.length (p.last.map Value.bool) := h.own 4 (by omega)
  obtain ⟨g, cap, hv, hb, hl⟩ := ho.form (by omega)
  refine ⟨g, cap, hv, hl, ?_, ?_⟩
  · rw [hv] at ho
    have := ho.cells (g := g) rfl i (.bool p.last[i]) (by rw [List.getElem?_map, List.getElem?_eq_getElem hi]; rfl)
    rw [Addr.add_lit, Nat.zero_add] at this
    exact ⟨_, this⟩
  · rcases ho.2 with ⟨h1, h2⟩ | ⟨g', cap', cur, hv', hg, hh, r⟩
    · omega
    · rw [hv] at hv'
      cases hv'
      simp [World.frozen?, hh]
/-- A mark is set. -/
theorem Pm.mark (h : Pm base gp v V p W) {i g cap : Nat} (hi : i < p.last.length) (hv : v 4 = .slice (some ⟨g, 0, none⟩) p.last.length cap) :
    Pm base gp v V ⟨p.cls, p.rules, p.first, p.follow, p.last.set i true, p.empty⟩ (W.setCell ⟨g, i, none⟩ (.bool true)) := by
  have hl := h.lt
  have ho : W.ownsRow base 4 1 (v 4) p.last.length (p.last.map Value.bool) := h.own 4 (by omega)
  have hg : base ≤ g ∧ g < W.heap.size := ho.lt g (by rw [hv]; rfl)
  have hgv : (v 4).ownBlock = some g := by rw [hv]; rfl
  have hk : ∀ q, q ≠ g → (W.setCell ⟨g, i, none⟩ (.bool true)).heap[q]? = W.heap[q]? := fun q hq => Below.heap_setCell _ _ _ _ hq
  have hsz : (W.setCell ⟨g, i, none⟩ (.bool true)).heap.size = W.heap.size := by simp [World.setCell]
  refine ⟨h.box.of_block (hk _ (by omega)), fun f hf => ?_, fun j hj => own_keep (h.inn j hj) fun q hq => hk q (fun e => h.d2 4 j (by omega) hj g hgv (e ▸ hq)), h.d1, h.d2, h.d3, h.lt, by rw [hsz]; exact h.sz⟩
  by_cases e : f = 4
  · subst e
    show World.ownsRow _ base 4 1 (v 4) (p.last.set i true).length ((p.last.set i true).map Value.bool)
    rw [hv] at ho ⊢
    rw [List.length_set, List.map_set]
    exact own_set ho hi
  · have hkeep := own_keep (h.own f hf) (w' := W.setCell ⟨g, i, none⟩ (.bool true)) fun q hq => hk q (fun e2 => h.d1 4 f (by omega) hf (fun x => e x.symm) g hgv (e2 ▸ hq))
    match f, hf, e with
    | 0, _, _ => exact hkeep
    | 1, _, _ => exact hkeep
    | 2, _, _ => exact hkeep
    | 3, _, _ => exact hkeep
    | 5, _, _ => exact hkeep
theorem St.mark (h : St base gp v V m w p1 v1 V1 W) {i g cap : Nat} (hi : i < p1.last.length) (hv : v1 4 = .slice (some ⟨g, 0, none⟩) p1.last.length cap) :
    St base gp v V m w ⟨p1.cls, p1.rules, p1.first, p1.follow, p1.last.set i true, p1.empty⟩ v1 V1 (W.setCell ⟨g, i, none⟩ (.bool true)) :=
  ⟨h.pm.mark hi hv, ⟨h.fm.os, h.fm.tape, h.fm.output, by simp [World.setCell]; exact h.fm.size, fun q hq hn => (Below.heap_setCell _ _ _ _ (fun e => by
    have ho : Own gp v1 V1 p1.follow.length g := Or.inr (Or.inl ⟨4, by omega, by rw [hv]; rfl⟩)
    subst e
    exact (h.ow _ ho).elim hn (fun h2 => by omega))).trans (h.fm.blk q hq hn)⟩, h.ow⟩
end
namespace Pm
def markL (l : List Int) (b : List Bool) : List Bool := l.foldl (fun b x => b.set x.toNat true) b
theorem markL_length (l : List Int) : ∀ b, (markL l b).length = b.length := by
  induction l with
  | nil => intro b; rfl
  | cons x l ih => intro b; show (markL l (b.set x.toNat true)).length = _; rw [ih]; simp
theorem markL_take (l : List Int) (b : List Bool) (k : Nat) (hk : k < l.length) : markL (l.take (k + 1)) b = (markL (l.take k) b).set l[k].toNat true := by
  unfold markL; rw [List.take_succ_eq_append_getElem hk, List.foldl_append]; rfl
/-- A rule is added. -/
def ruleX (p : Po.P) (ru : Int) (x : Rex.E) : Po.P :=
  ⟨(layX x ⟨p.cls, p.follow⟩).2.cls, p.rules ++ List.replicate ((layX x ⟨p.cls, p.follow⟩).2.cls.length - p.cls.length) ru, p.first ++ (layX x ⟨p.cls, p.follow⟩).1.first, (layX x ⟨p.cls, p.follow⟩).2.fol,
    markL (layX x ⟨p.cls, p.follow⟩).1.last (p.last ++ List.replicate ((layX x ⟨p.cls, p.follow⟩).2.cls.length - p.cls.length) false), p.empty ++ [(layX x ⟨p.cls, p.follow⟩).1.empty]⟩
def rulesX : List Rex.E → Nat → Po.P → Po.P
  | [], _, p => p
  | x :: l, i, p => rulesX l (i + 1) (ruleX p (i : Int) x)
/-- There is room for m more nodes, in rules that follow. -/
structure Rdr (p : Po.P) (n : Nat) : Prop where
  r : Rdy p n
  fi : p.first.length + n ≤ 3000
  em : p.empty.length + n ≤ 3000
theorem Rdr.less {p : Po.P} {n m : Nat} (h : Rdr p n) (hm : m ≤ n) : Rdr p m := ⟨h.r.less hm, by have := h.fi; omega, by have := h.em; omega⟩
theorem Rdr.next {p : Po.P} {n : Nat} {ru : Int} (x : Rex.E) (h : Rdr p (x.nodes + n)) : Rdr (ruleX p ru x) n := by
  have h1 := h.r.next (ru := ru) x
  have hg := layX_good x ⟨p.cls, p.follow⟩ h.r.ok
  have h2 := hg.fl
  have h3 := h.fi
  have h4 := h.em
  have h5 := x.nodes_pos
  refine ⟨⟨h1.ok, h1.ru, ?_, h1.room, h1.fine, ?_, ?_⟩, ?_, ?_⟩
  · show (markL _ _).length = _
    rw [markL_length]; exact h1.la
  · simp only [ruleX, List.length_append]; omega
  · simp only [ruleX, List.length_append, List.length_cons, List.length_nil]; omega
  · simp only [ruleX, List.length_append]; omega
  · simp only [ruleX, List.length_append, List.length_cons, List.length_nil]; omega
end Pm
end Go.Proofs.Ytlmlkpdppkgenaa
