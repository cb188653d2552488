/-
  A Posn in the making: six rows of one's own in a box, and the lists of what may come behind. No function is walked here.
-/
import Derived.Test.YtlmlkpdppkgenaaPoOpens
import Derived.Test.YtlmlkpdppkgenaaPmMath
import Derived.Deep.AppendLies
import Derived.Deep.OwnRows
namespace Go.Proofs.Ytlmlkpdppkgenaa
open Go.RowKit
open Cls Po

def ety : Nat → Nat
  | 0 => 42
  | 1 => 3
  | 2 => 3
  | 3 => 23
  | _ => 4
def esz : Nat → Nat
  | 0 => 4
  | _ => 1
def lenP (p : P) : Nat → Nat
  | 0 => p.cls.length
  | 1 => p.rules.length
  | 2 => p.first.length
  | 3 => p.follow.length
  | 4 => p.last.length
  | _ => p.empty.length
/-- The cells of classes. -/
def clc (l : List Cl) : List Value := l.flatMap fun c => [.int .u64 (c.1.toNat : Int), .int .u64 (c.2.1.toNat : Int), .int .u64 (c.2.2.1.toNat : Int), .int .u64 (c.2.2.2.toNat : Int)]
def celP (V : Nat → Value) (p : P) : Nat → List Value
  | 0 => clc p.cls
  | 1 => p.rules.map (Value.int .i64)
  | 2 => p.first.map (Value.int .i64)
  | 3 => (List.range p.follow.length).map V
  | 4 => p.last.map Value.bool
  | _ => p.empty.map Value.bool
/-- A Posn in the making. -/
structure Pm (base gp : Nat) (v V : Nat → Value) (p : P) (W : World) : Prop where
  box : W.rowIs gp 27 6 v
  own : ∀ f, f < 6 → W.ownsRow base (ety f) (esz f) (v f) (lenP p f) (celP V p f)
  inn : ∀ i, i < p.follow.length → W.ownsRow base 3 1 (V i) (p.follow.getD i []).length ((p.follow.getD i []).map (Value.int .i64))
  d1 : ∀ f g, f < 6 → g < 6 → f ≠ g → ∀ q, (v f).ownBlock = some q → (v g).ownBlock ≠ some q
  d2 : ∀ f i, f < 6 → i < p.follow.length → ∀ q, (v f).ownBlock = some q → (V i).ownBlock ≠ some q
  d3 : ∀ i j, i < p.follow.length → j < p.follow.length → i ≠ j → ∀ q, (V i).ownBlock = some q → (V j).ownBlock ≠ some q
  lt : gp < base
  sz : base ≤ W.heap.size
/-- The blocks of a Posn in the making. -/
def Own (gp : Nat) (v V : Nat → Value) (m q : Nat) : Prop := q = gp ∨ (∃ f, f < 6 ∧ (v f).ownBlock = some q) ∨ ∃ i, i < m ∧ (V i).ownBlock = some q
/-- All but these blocks stay. -/
structure Fm (X : Nat → Prop) (W W' : World) : Prop where
  os : W'.os = W.os
  tape : W'.tape = W.tape
  output : W'.output = W.output
  size : W.heap.size ≤ W'.heap.size
  blk : ∀ k, k < W.heap.size → ¬ X k → W'.heap[k]? = W.heap[k]?
theorem Fm.refl (X : Nat → Prop) (W : World) : Fm X W W := ⟨rfl, rfl, rfl, Nat.le_refl _, fun _ _ _ => rfl⟩
theorem Fm.trans {X Y : Nat → Prop} {W W' W'' : World} (h : Fm X W W') (k : Fm Y W' W'') (hy : ∀ q, q < W.heap.size → Y q → X q) : Fm X W W'' :=
  ⟨k.os.trans h.os, k.tape.trans h.tape, k.output.trans h.output, Nat.le_trans h.size k.size, fun q h1 h2 => (k.blk q (Nat.lt_of_lt_of_le h1 h.size) (fun y => h2 (hy q h1 y))).trans (h.blk q h1 h2)⟩
theorem Fm.below {X : Nat → Prop} {W W' : World} (h : Below W.heap.size W W') : Fm X W W' := ⟨h.os, h.tape, h.output, h.size, fun k hk _ => h.block k hk⟩
def upd (v : Nat → Value) (f : Nat) (x : Value) (g : Nat) : Value := if g = f then x else v g
theorem own_keep {w w' : World} {base e size n : Nat} {v : Value} {xs : List Value} (h : w.ownsRow base e size v n xs) (hs : ∀ k, v.ownBlock = some k → w'.heap[k]? = w.heap[k]?) : w'.ownsRow base e size v n xs := by
  obtain ⟨h1, h2 | ⟨g, cap, cur, hv, hg, hh, r⟩⟩ := h
  · exact ⟨h1, Or.inl h2⟩
  · subst hv
    exact ⟨h1, Or.inr ⟨g, cap, cur, rfl, hg, (hs g rfl).trans hh, r⟩⟩
section
variable {base gp : Nat} {v V : Nat → Value} {p p' : P} {W W' : World}
theorem Pm.next (h : Pm base gp v V p W) (hb : Below W.heap.size W W') : Pm base gp v V p W' :=
  ⟨h.box.of_block (hb.block _ h.box.lt), fun f hf => own_keep (h.own f hf) fun k hk => hb.block k ((h.own f hf).lt k hk).2, fun i hi => own_keep (h.inn i hi) fun k hk => hb.block k ((h.inn i hi).lt k hk).2, h.d1, h.d2, h.d3, h.lt, Nat.le_trans h.sz hb.size⟩
theorem Pm.drew (h : Pm base gp v V p W) : Pm base gp v V p W.drew := h.next (Below.refl _ _).drew
/-- Where no block of its own has changed it stays. -/
theorem Pm.keep (h : Pm base gp v V p W) (hs : W.heap.size ≤ W'.heap.size) (e : ∀ q, Own gp v V p.follow.length q → W'.heap[q]? = W.heap[q]?) : Pm base gp v V p W' :=
  ⟨h.box.of_block (e _ (Or.inl rfl)), fun f hf => own_keep (h.own f hf) fun k hk => e k (Or.inr (Or.inl ⟨f, hf, hk⟩)), fun i hi => own_keep (h.inn i hi) fun k hk => e k (Or.inr (Or.inr ⟨i, hi, hk⟩)), h.d1, h.d2, h.d3, h.lt, Nat.le_trans h.sz hs⟩
/-- A row of it has grown, and is put into the box: not that of the lists. -/
theorem Pm.grow (h : Pm base gp v V p W) {f : Nat} (hf : f < 6) (hf3 : f ≠ 3) {W1 : World} {s : Value} (hg : W.grownBy W1 (v f).ownBlock) (ho : W1.ownsRow base (ety f) (esz f) s (lenP p' f) (celP V p' f))
    (hq : ∀ q, s.ownBlock = some q → (v f).ownBlock = some q ∨ W.heap.size ≤ q) (hfo : p'.follow = p.follow) (hot : ∀ g, g < 6 → g ≠ f → lenP p' g = lenP p g ∧ celP V p' g = celP V p g) :
    W1.rowIs gp 27 6 v ∧ Pm base gp (upd v f s) V p' (W1.setCell ⟨gp, f, none⟩ s) ∧ Fm (Own gp v V p.follow.length) W (W1.setCell ⟨gp, f, none⟩ s) ∧ ∀ q, Own gp (upd v f s) V p'.follow.length q → Own gp v V p.follow.length q ∨ W.heap.size ≤ q := by
  have hl := h.lt
  have e1 : ∀ k, k < W.heap.size → (v f).ownBlock ≠ some k → W1.heap[k]? = W.heap[k]? := fun k hk hk2 => hg.block k hk fun x => hk2 x.symm
  have hgp : (v f).ownBlock ≠ some gp := fun x => by have := ((h.own f hf).lt gp x).1; omega
  have hbx : W1.rowIs gp 27 6 v := h.box.of_block (e1 gp h.box.lt hgp)
  have e2 : ∀ k, k ≠ gp → (W1.setCell ⟨gp, f, none⟩ s).heap[k]? = W1.heap[k]? := fun k hk => Below.heap_setCell _ _ _ _ hk
  have e3 : ∀ k, k < W.heap.size → base ≤ k → (v f).ownBlock ≠ some k → (W1.setCell ⟨gp, f, none⟩ s).heap[k]? = W.heap[k]? := fun k hk hb hk2 => (e2 k (by omega)).trans (e1 k hk hk2)
  refine ⟨hbx, ⟨(hbx.set f s).congr fun j _ => rfl, fun g hg6 => ?_, fun i hi => ?_, fun a b ha hb hab q => ?_, fun a i ha hi q => ?_, fun i j hi hj hij q => ?_, h.lt, by simp only [World.setCell, Array.size_modify]; exact Nat.le_trans h.sz hg.size⟩, ⟨hg.os, hg.tape, hg.output, by simp only [World.setCell, Array.size_modify]; exact hg.size, fun k hk hn => (e2 k fun x => hn (Or.inl x)).trans (e1 k hk fun x => hn (Or.inr (Or.inl ⟨f, hf, x⟩)))⟩, fun q hq2 => ?_⟩
  · unfold upd
    by_cases e : g = f
    · subst e; rw [if_pos rfl]
      exact own_keep ho fun k hk => e2 k (by have := (ho.lt k hk).1; omega)
    · rw [if_neg e, (hot g hg6 e).1, (hot g hg6 e).2]
      exact own_keep (h.own g hg6) fun k hk => e3 k ((h.own g hg6).lt k hk).2 ((h.own g hg6).lt k hk).1 (h.d1 g f hg6 hf e k hk)
  · rw [hfo] at hi ⊢
    exact own_keep (h.inn i hi) fun k hk => e3 k ((h.inn i hi).lt k hk).2 ((h.inn i hi).lt k hk).1 (fun x => h.d2 f i hf hi k x hk)
  · unfold upd
    by_cases ea : a = f
    · have eb : b ≠ f := by omega
      rw [if_pos ea, if_neg eb]
      intro hs hb2
      rcases hq q hs with hh | hh
      · exact h.d1 f b hf hb (by omega) q hh hb2
      · have := ((h.own b hb).lt q hb2).2; omega
    · by_cases eb : b = f
      · rw [if_neg ea, if_pos eb]
        intro ha2 hs
        rcases hq q hs with hh | hh
        · exact h.d1 a f ha hf ea q ha2 hh
        · have := ((h.own a ha).lt q ha2).2; omega
      · rw [if_neg ea, if_neg eb]; exact h.d1 a b ha hb hab q
  · rw [hfo] at hi
    unfold upd
    by_cases ea : a = f
    · rw [if_pos ea]
      intro hs hv2
      rcases hq q hs with hh | hh
      · exact h.d2 f i hf hi q hh hv2
      · have := ((h.inn i hi).lt q hv2).2; omega
    · rw [if_neg ea]; exact h.d2 a i ha hi q
  · rw [hfo] at hi hj
    exact h.d3 i j hi hj hij q
  · rw [hfo] at hq2
    rcases hq2 with rfl | ⟨g, hg6, hg2⟩ | ⟨i, hi, hv2⟩
    · exact Or.inl (Or.inl rfl)
    · unfold upd at hg2
      by_cases e : g = f
      · rw [if_pos e] at hg2
        rcases hq q hg2 with hh | hh
        · exact Or.inl (Or.inr (Or.inl ⟨f, hf, hh⟩))
        · exact Or.inr hh
      · rw [if_neg e] at hg2
        exact Or.inl (Or.inr (Or.inl ⟨g, hg6, hg2⟩))
    · exact Or.inl (Or.inr (Or.inr ⟨i, hi, hv2⟩))
/-- The row of the lists has grown by an empty one, and is put into the box. -/
theorem Pm.growF (h : Pm base gp v V p W) {W1 : World} {s : Value} (hg : W.grownBy W1 (v 3).ownBlock) (hp : p'.follow = p.follow ++ [[]]) (ho : W1.ownsRow base 23 1 s (p.follow.length + 1) ((List.range p.follow.length).map V ++ [.slice none 0 0]))
    (hq : ∀ q, s.ownBlock = some q → (v 3).ownBlock = some q ∨ W.heap.size ≤ q) (hot : ∀ g, g < 6 → g ≠ 3 → lenP p' g = lenP p g ∧ ∀ U, celP U p' g = celP V p g) :
    W1.rowIs gp 27 6 v ∧ Pm base gp (upd v 3 s) (upd V p.follow.length (.slice none 0 0)) p' (W1.setCell ⟨gp, 3, none⟩ s) ∧ Fm (Own gp v V p.follow.length) W (W1.setCell ⟨gp, 3, none⟩ s) ∧ ∀ q, Own gp (upd v 3 s) (upd V p.follow.length (.slice none 0 0)) p'.follow.length q → Own gp v V p.follow.length q ∨ W.heap.size ≤ q := by
  have hl := h.lt
  have hfl : p'.follow.length = p.follow.length + 1 := by rw [hp]; simp
  have hf : (3 : Nat) < 6 := by omega
  have e1 : ∀ k, k < W.heap.size → (v 3).ownBlock ≠ some k → W1.heap[k]? = W.heap[k]? := fun k hk hk2 => hg.block k hk fun x => hk2 x.symm
  have hgp : (v 3).ownBlock ≠ some gp := fun x => by have := ((h.own 3 hf).lt gp x).1; omega
  have hbx : W1.rowIs gp 27 6 v := h.box.of_block (e1 gp h.box.lt hgp)
  have e2 : ∀ k, k ≠ gp → (W1.setCell ⟨gp, 3, none⟩ s).heap[k]? = W1.heap[k]? := fun k hk => Below.heap_setCell _ _ _ _ hk
  have e3 : ∀ k, k < W.heap.size → base ≤ k → (v 3).ownBlock ≠ some k → (W1.setCell ⟨gp, 3, none⟩ s).heap[k]? = W.heap[k]? := fun k hk hb hk2 => (e2 k (by omega)).trans (e1 k hk hk2)
  have hu : ∀ i, i < p.follow.length → upd V p.follow.length (.slice none 0 0) i = V i := fun i hi => by unfold upd; rw [if_neg (by omega)]
  have hun : ∀ i q, (upd V p.follow.length (.slice none 0 0) i).ownBlock = some q → i < p'.follow.length → i < p.follow.length ∧ (V i).ownBlock = some q := fun i q hq2 hi => by
    unfold upd at hq2
    by_cases e : i = p.follow.length
    · rw [if_pos e] at hq2; simp [Value.ownBlock] at hq2
    · rw [if_neg e] at hq2; exact ⟨by omega, hq2⟩
  refine ⟨hbx, ⟨(hbx.set 3 s).congr fun j _ => rfl, fun g hg6 => ?_, fun i hi => ?_, fun a b ha hb hab q => ?_, fun a i ha hi q => ?_, fun i j hi hj hij q => ?_, h.lt, by simp only [World.setCell, Array.size_modify]; exact Nat.le_trans h.sz hg.size⟩, ⟨hg.os, hg.tape, hg.output, by simp only [World.setCell, Array.size_modify]; exact hg.size, fun k hk hn => (e2 k fun x => hn (Or.inl x)).trans (e1 k hk fun x => hn (Or.inr (Or.inl ⟨3, hf, x⟩)))⟩, fun q hq2 => ?_⟩
  · by_cases e : g = 3
    · subst e
      have hc : celP (upd V p.follow.length (.slice none 0 0)) p' 3 = (List.range p.follow.length).map V ++ [.slice none 0 0] := by
        show (List.range p'.follow.length).map _ = _
        rw [hfl, List.range_succ, List.map_append]
        congr 1
        · exact List.map_congr_left fun i hi => hu i (by simpa using hi)
        · simp [upd]
      rw [hc]
      show (W1.setCell ⟨gp, 3, none⟩ s).ownsRow base 23 1 (upd v 3 s 3) p'.follow.length _
      rw [hfl]
      unfold upd; rw [if_pos rfl]
      exact own_keep ho fun k hk => e2 k (by have := (ho.lt k hk).1; omega)
    · rw [(hot g hg6 e).1, (hot g hg6 e).2]
      unfold upd; rw [if_neg e]
      exact own_keep (h.own g hg6) fun k hk => e3 k ((h.own g hg6).lt k hk).2 ((h.own g hg6).lt k hk).1 (h.d1 g 3 hg6 hf e k hk)
  · rw [hfl] at hi
    by_cases e : i = p.follow.length
    · subst e
      have : p'.follow.getD p.follow.length [] = [] := by rw [hp, List.getD_eq_getElem?_getD, List.getElem?_append_right (Nat.le_refl _)]; simp
      rw [this]
      unfold upd; rw [if_pos rfl]
      exact World.ownsRow_nil _ _ _ _
    · have hi2 : i < p.follow.length := by omega
      have : p'.follow.getD i [] = p.follow.getD i [] := by rw [hp, List.getD_eq_getElem?_getD, List.getD_eq_getElem?_getD, List.getElem?_append_left hi2]
      rw [this, hu i hi2]
      exact own_keep (h.inn i hi2) fun k hk => e3 k ((h.inn i hi2).lt k hk).2 ((h.inn i hi2).lt k hk).1 (fun x => h.d2 3 i hf hi2 k x hk)
  · unfold upd
    by_cases ea : a = 3
    · have eb : b ≠ 3 := by omega
      rw [if_pos ea, if_neg eb]
      intro hs hb2
      rcases hq q hs with hh | hh
      · exact h.d1 3 b hf hb (by omega) q hh hb2
      · have := ((h.own b hb).lt q hb2).2; omega
    · by_cases eb : b = 3
      · rw [if_neg ea, if_pos eb]
        intro ha2 hs
        rcases hq q hs with hh | hh
        · exact h.d1 a 3 ha hf ea q ha2 hh
        · have := ((h.own a ha).lt q ha2).2; omega
      · rw [if_neg ea, if_neg eb]; exact h.d1 a b ha hb hab q
  · intro hs hv2
    obtain ⟨hi2, hv3⟩ := hun i q hv2 hi
    unfold upd at hs
    by_cases ea : a = 3
    · rw [if_pos ea] at hs
      rcases hq q hs with hh | hh
      · exact h.d2 3 i hf hi2 q hh hv3
      · have := ((h.inn i hi2).lt q hv3).2; omega
    · rw [if_neg ea] at hs; exact h.d2 a i ha hi2 q hs hv3
  · intro hs hv2
    obtain ⟨hi2, hv3⟩ := hun i q hs hi
    obtain ⟨hj2, hv4⟩ := hun j q hv2 hj
    exact h.d3 i j hi2 hj2 hij q hv3 hv4
  · rcases hq2 with rfl | ⟨g, hg6, hg2⟩ | ⟨i, hi, hv2⟩
    · exact Or.inl (Or.inl rfl)
    · unfold upd at hg2
      by_cases e : g = 3
      · rw [if_pos e] at hg2
        rcases hq q hg2 with hh | hh
        · exact Or.inl (Or.inr (Or.inl ⟨3, hf, hh⟩))
        · exact Or.inr hh
      · rw [if_neg e] at hg2
        exact Or.inl (Or.inr (Or.inl ⟨g, hg6, hg2⟩))
    · obtain ⟨hi2, hv3⟩ := hun i q hv2 hi
      exact Or.inl (Or.inr (Or.inr ⟨i, hi2, hv3⟩))
end
end Go.Proofs.Ytlmlkpdppkgenaa
