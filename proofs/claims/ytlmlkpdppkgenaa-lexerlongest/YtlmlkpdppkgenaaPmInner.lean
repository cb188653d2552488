/-
  A Posn in the making: one of the lists of what may come behind is put anew. No function is walked here.
-/
import Derived.Test.YtlmlkpdppkgenaaPmHold
namespace Go.Proofs.Ytlmlkpdppkgenaa
open Go.RowKit
open Cls Po

/-- A cell of a row of one's own is put anew. -/
theorem own_set {w : World} {base e g cap n i : Nat} {xs : List Value} {s : Value} (h : w.ownsRow base e 1 (.slice (some ⟨g, 0, none⟩) n cap) n xs) (_hi : i < n) :
    (w.setCell ⟨g, i, none⟩ s).ownsRow base e 1 (.slice (some ⟨g, 0, none⟩) n cap) n (xs.set i s) := by
  obtain ⟨h1, h2 | ⟨g', cap', cur, hv, hg, hh, hn, hc, hz, ht⟩⟩ := h
  · cases h2.1
  · cases hv
    refine ⟨by simp [h1], Or.inr ⟨g, cap, cur.setIfInBounds i s, rfl, hg, ?_, hn, hc, by simp [hz], ?_⟩⟩
    · simp [World.setCell, Array.getElem?_modify, hh]
    · rw [Array.toList_setIfInBounds, List.take_set, ht]
theorem grownBy_trans {w w' w'' : World} {o o' : Option Nat} (h : w.grownBy w' o) (k : w'.grownBy w'' o') (ho : ∀ q, o' = some q → o = some q ∨ w.heap.size ≤ q) : w.grownBy w'' o :=
  ⟨k.os.trans h.os, k.tape.trans h.tape, k.output.trans h.output, Nat.le_trans h.size k.size, fun q hq hne => (k.block q (Nat.lt_of_lt_of_le hq h.size) (fun e => (ho q e.symm).elim (fun x => hne x.symm) (fun x => by omega))).trans (h.block q hq hne)⟩
section
variable {base gp : Nat} {v V : Nat → Value} {p : P} {W : World}
/-- Where the lists lie. -/
theorem Pm.lists (h : Pm base gp v V p W) {i : Nat} (hi : i < p.follow.length) : ∃ g cap, v 3 = .slice (some ⟨g, 0, none⟩) p.follow.length cap ∧ base ≤ g ∧ g < W.heap.size ∧ W.cell? ⟨g, i, none⟩ = some (V i) ∧ W.frozen? ⟨g, i, none⟩ = false := by
  have ho : W.ownsRow base 23 1 (v 3) p.follow.length ((List.range p.follow.length).map V) := h.own 3 (by omega)
  obtain ⟨g, cap, hv, hb, hl⟩ := ho.form (by omega)
  refine ⟨g, cap, hv, hb, hl, ?_, ?_⟩
  · rw [hv] at ho
    rw [ho.cellAt i (by omega)]
    simp [hi]
  · obtain ⟨_, h2 | ⟨g', cap', cur, hv', _, hh, _⟩⟩ := ho
    · rw [hv] at h2; cases h2.1
    · rw [hv] at hv'; cases hv'
      simp [World.frozen?, hh]
/-- One of the lists is put anew. -/
theorem Pm.inner (h : Pm base gp v V p W) {i : Nat} (hi : i < p.follow.length) {W1 : World} {s : Value} {L : List Int} {g cap : Nat} (hv : v 3 = .slice (some ⟨g, 0, none⟩) p.follow.length cap) (hg : W.grownBy W1 (V i).ownBlock) (ho : W1.ownsRow base 3 1 s L.length (L.map (Value.int .i64)))
    (hq : ∀ q, s.ownBlock = some q → (V i).ownBlock = some q ∨ W.heap.size ≤ q) :
    W1.heap[g]? = W.heap[g]? ∧ Pm base gp v (upd V i s) ⟨p.cls, p.rules, p.first, p.follow.set i L, p.last, p.empty⟩ (W1.setCell ⟨g, i, none⟩ s) ∧ Fm (Own gp v V p.follow.length) W (W1.setCell ⟨g, i, none⟩ s) ∧ ∀ q, Own gp v (upd V i s) (p.follow.set i L).length q → Own gp v V p.follow.length q ∨ W.heap.size ≤ q := by
  have hl := h.lt
  have e1 : ∀ k, k < W.heap.size → (V i).ownBlock ≠ some k → W1.heap[k]? = W.heap[k]? := fun k hk hk2 => hg.block k hk fun x => hk2 x.symm
  have hob : (v 3).ownBlock = some g := by rw [hv]; rfl
  have hgl := (h.own 3 (by omega)).lt g hob
  have hgi : (V i).ownBlock ≠ some g := h.d2 3 i (by omega) hi g hob
  have hgp : (V i).ownBlock ≠ some gp := fun x => by have := ((h.inn i hi).lt gp x).1; omega
  have e2 : ∀ k, k ≠ g → (W1.setCell ⟨g, i, none⟩ s).heap[k]? = W1.heap[k]? := fun k hk => Below.heap_setCell _ _ _ _ hk
  have e3 : ∀ k, k < W.heap.size → k ≠ g → (V i).ownBlock ≠ some k → (W1.setCell ⟨g, i, none⟩ s).heap[k]? = W.heap[k]? := fun k hk hb hk2 => (e2 k hb).trans (e1 k hk hk2)
  have hsg : ∀ q, s.ownBlock = some q → q ≠ g := fun q hs => by
    rcases hq q hs with hh | hh
    · exact fun e => hgi (by rw [← e]; exact hh)
    · omega
  have hun : ∀ j q, j < p.follow.length → (upd V i s j).ownBlock = some q → (V j).ownBlock = some q ∨ (j = i ∧ W.heap.size ≤ q) := fun j q hj hq2 => by
    unfold upd at hq2
    by_cases e : j = i
    · rw [if_pos e] at hq2
      rcases hq q hq2 with hh | hh
      · exact Or.inl (by rw [e]; exact hh)
      · exact Or.inr ⟨e, hh⟩
    · rw [if_neg e] at hq2; exact Or.inl hq2
  refine ⟨e1 g hgl.2 hgi, ⟨h.box.of_block (e3 gp h.box.lt (by omega) hgp), fun f hf => ?_, fun j hj => ?_, h.d1, fun f j hf hj q hs hv2 => ?_, fun j k hj hk hjk q hs hv2 => ?_, h.lt, by simp only [World.setCell, Array.size_modify]; exact Nat.le_trans h.sz hg.size⟩, ⟨hg.os, hg.tape, hg.output, by simp only [World.setCell, Array.size_modify]; exact hg.size, fun k hk hn => e3 k hk (fun x => hn (Or.inr (Or.inl ⟨3, by omega, by rw [x]; exact hob⟩))) fun x => hn (Or.inr (Or.inr ⟨i, hi, x⟩))⟩, fun q hq2 => ?_⟩
  · by_cases e : f = 3
    · subst e
      have ho3 : W1.ownsRow base 23 1 (v 3) p.follow.length ((List.range p.follow.length).map V) := own_keep (h.own 3 (by omega)) fun k hk => by
        rw [hob] at hk; cases hk
        exact e1 g hgl.2 hgi
      rw [hv] at ho3
      have h4 := own_set (s := s) ho3 hi
      have hc : celP (upd V i s) ⟨p.cls, p.rules, p.first, p.follow.set i L, p.last, p.empty⟩ 3 = ((List.range p.follow.length).map V).set i s := by
        show (List.range (p.follow.set i L).length).map _ = _
        rw [List.length_set]
        apply List.ext_getElem (by simp)
        intro j h1 h2
        simp only [List.length_map, List.length_range] at h1
        rw [List.getElem_set]
        simp only [List.getElem_map, List.getElem_range, upd]
        by_cases e : j = i
        · rw [if_pos e, if_pos e.symm]
        · rw [if_neg e, if_neg (fun x => e x.symm)]
      rw [hc, hv]
      show World.ownsRow _ base 23 1 _ (p.follow.set i L).length _
      rw [List.length_set]
      exact h4
    · have hc : celP (upd V i s) ⟨p.cls, p.rules, p.first, p.follow.set i L, p.last, p.empty⟩ f = celP V p f ∧ lenP ⟨p.cls, p.rules, p.first, p.follow.set i L, p.last, p.empty⟩ f = lenP p f := by
        match f, e with
        | 0, _ => exact ⟨rfl, rfl⟩
        | 1, _ => exact ⟨rfl, rfl⟩
        | 2, _ => exact ⟨rfl, rfl⟩
        | 3, e => exact absurd rfl e
        | 4, _ => exact ⟨rfl, rfl⟩
        | _ + 5, _ => exact ⟨rfl, rfl⟩
      rw [hc.1, hc.2]
      exact own_keep (h.own f hf) fun k hk => e3 k ((h.own f hf).lt k hk).2 (fun x => h.d1 f 3 hf (by omega) e k hk (by rw [x]; exact hob)) (h.d2 f i hf hi k hk)
  · simp only [List.length_set] at hj
    by_cases e : j = i
    · subst e
      have : (p.follow.set j L).getD j [] = L := by simp [List.getD_eq_getElem?_getD, hi]
      show World.ownsRow _ base 3 1 _ ((p.follow.set j L).getD j []).length (((p.follow.set j L).getD j []).map _)
      rw [this]
      unfold upd; rw [if_pos rfl]
      exact own_keep ho fun k hk => e2 k (hsg k hk)
    · have : (p.follow.set i L).getD j [] = p.follow.getD j [] := by rw [List.getD_eq_getElem?_getD, List.getD_eq_getElem?_getD, List.getElem?_set_ne (fun x => e x.symm)]
      show World.ownsRow _ base 3 1 _ ((p.follow.set i L).getD j []).length (((p.follow.set i L).getD j []).map _)
      rw [this]
      unfold upd; rw [if_neg e]
      exact own_keep (h.inn j hj) fun k hk => e3 k ((h.inn j hj).lt k hk).2 (fun x => h.d2 3 j (by omega) hj g hob (by rw [← x]; exact hk)) (h.d3 j i hj hi e k hk)
  · simp only [List.length_set] at hj
    rcases hun j q hj hv2 with hh | hh
    · exact h.d2 f j hf hj q hs hh
    · have := ((h.own f hf).lt q hs).2; omega
  · simp only [List.length_set] at hj hk
    rcases hun j q hj hs with hh | hh <;> rcases hun k q hk hv2 with hh2 | hh2
    · exact h.d3 j k hj hk hjk q hh hh2
    · have := ((h.inn j hj).lt q hh).2; omega
    · have := ((h.inn k hk).lt q hh2).2; omega
    · omega
  · simp only [List.length_set] at hq2
    rcases hq2 with hh | hh | ⟨j, hj, hv2⟩
    · exact Or.inl (Or.inl hh)
    · exact Or.inl (Or.inr (Or.inl hh))
    · rcases hun j q hj hv2 with hh | hh
      · exact Or.inl (Or.inr (Or.inr ⟨j, hj, hh⟩))
      · exact Or.inr hh.2
end
end Go.Proofs.Ytlmlkpdppkgenaa
