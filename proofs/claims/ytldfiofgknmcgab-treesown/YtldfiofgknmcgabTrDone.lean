/-
  A row of trees of one's own: what is there after one more, after the last ones were cut off, and a tree made of them. No function is walked here.
-/
import Derived.Test.YtldfiofgknmcgabTrApp
import Derived.Test.YtldfiofgknmcgabTrBack
namespace Go.Proofs.Ytldfiofgknmcgab
open Go.RowKit
open Cg

def tcs (vs : List Value) : List Value := vs.flatMap fun v => v.cells.toList
theorem tcs_append (a b : List Value) : tcs (a ++ b) = tcs a ++ tcs b := by simp [tcs]
def Th (v : Value) : Prop := ∃ p k a n c, v = .agg #[.int .i64 p, .int .i64 k, .slice a n c]
theorem Tx.th {w : World} {P : Nat → Prop} {v : Value} {t : T} (h : Tx w P v t) : Th v := by
  obtain ⟨p, k, ao, cap, kids, vals, rfl, -⟩ := h.shape
  exact ⟨_, _, _, _, _, rfl⟩
theorem tcs_len : ∀ {vs : List Value}, (∀ v ∈ vs, Th v) → (tcs vs).length = vs.length * 3
  | [], _ => rfl
  | v :: vs, h => by
    obtain ⟨p, k, a, n, c, rfl⟩ := h v (by simp)
    have := tcs_len (vs := vs) fun u hu => h u (by simp [hu])
    simp only [tcs, List.flatMap_cons, List.length_append, List.length_cons] at this ⊢
    rw [this]; simp [Value.cells]; omega
theorem tcs_at : ∀ {vs : List Value}, (∀ v ∈ vs, Th v) → ∀ i (hi : i < vs.length) j, j < 3 → (tcs vs)[i * 3 + j]? = vs[i].cells[j]?
  | v :: vs, h, 0, hi, j, hj => by
    obtain ⟨p, k, a, n, c, rfl⟩ := h v (by simp)
    simp only [tcs, List.flatMap_cons, List.getElem_cons_zero]
    rw [List.getElem?_append_left (by simp [Value.cells]; omega)]
    simp
  | v :: vs, h, i + 1, hi, j, hj => by
    have h2 := tcs_at (vs := vs) (fun u hu => h u (by simp [hu])) i (by simpa using hi) j hj
    obtain ⟨p, k, a, n, c, e⟩ := h v (by simp)
    simp only [tcs, List.flatMap_cons, List.getElem_cons_succ] at h2 ⊢
    have e3 : v.cells.toList.length = 3 := by rw [e]; simp [Value.cells]
    rw [List.getElem?_append_right (by rw [e3]; omega), e3, show (i + 1) * 3 + j - 3 = i * 3 + j by omega]
    exact h2
theorem tcs_one {vs : List Value} (h : ∀ v ∈ vs, Th v) : ∀ u ∈ tcs vs, u.oneCell' = true := by
  intro u hu
  simp only [tcs, List.mem_flatMap] at hu
  obtain ⟨v, hv, hu⟩ := hu
  obtain ⟨p, k, a, n, c, rfl⟩ := h v hv
  simp [Value.cells] at hu
  rcases hu with rfl | rfl | rfl <;> rfl
theorem tcs_take : ∀ {vs : List Value}, (∀ v ∈ vs, Th v) → ∀ f, tcs (vs.take f) = (tcs vs).take (f * 3)
  | [], _, f => by simp [tcs]
  | v :: vs, h, 0 => by simp [tcs]
  | v :: vs, h, f + 1 => by
    have h2 := tcs_take (vs := vs) (fun u hu => h u (by simp [hu])) f
    obtain ⟨p, k, a, n, c, e⟩ := h v (by simp)
    have e3 : v.cells.toList.length = 3 := by rw [e]; simp [Value.cells]
    simp only [List.take_succ_cons, tcs, List.flatMap_cons] at h2 ⊢
    rw [h2, List.take_append, e3, show (f + 1) * 3 - 3 = f * 3 by omega, List.take_of_length_le (l := v.cells.toList) (by rw [e3]; omega)]
/-- The blocks that trees in the making may lie in. -/
def Pw (w0 : World) (dv : Value) (b : Nat) : Prop := w0.heap.size ≤ b ∧ some b ≠ dv.ownBlock
/-- A row of trees of one's own. -/
structure Dt (w0 : World) (dv : Value) (vs : List Value) (st : List T) (W : World) : Prop where
  own : W.ownsRow w0.heap.size 27 3 dv vs.length (tcs vs)
  len : vs.length = st.length
  tx : ∀ i (h : i < vs.length) (h' : i < st.length), Tx W (Pw w0 dv) vs[i] st[i]
  bel : Below w0.heap.size w0 W
theorem Dt.th {w0 : World} {dv : Value} {vs : List Value} {st : List T} {W : World} (h : Dt w0 dv vs st W) : ∀ v ∈ vs, Th v := fun v hv => by
  obtain ⟨i, hi, rfl⟩ := List.mem_iff_getElem.1 hv
  exact (h.tx i hi (by rw [← h.len]; exact hi)).th
theorem Dt.next {w0 : World} {dv : Value} {vs : List Value} {st : List T} {W W' : World} (h : Dt w0 dv vs st W) (hb : Below W.heap.size W W') : Dt w0 dv vs st W' := ⟨own_below h.own hb, h.len, fun i a b => (h.tx i a b).bel hb, h.bel.trans (hb.mono h.bel.size)⟩
theorem Dt.nil (w0 : World) {W : World} (h : Below w0.heap.size w0 W) : Dt w0 (.slice none 0 0) [] [] W := ⟨World.ownsRow_nil _ _ _ _, rfl, fun _ h => absurd h (Nat.not_lt_zero _), h⟩
/-- One more. -/
theorem Dt.push {w0 : World} {dv rv v : Value} {vs : List Value} {st : List T} {W V : World} {t : T} (h : Dt w0 dv vs st W) (hg : W.grownBy V dv.ownBlock) (ho : V.ownsRow w0.heap.size 27 3 rv (vs.length + 1) (tcs vs ++ v.cells.toList)) (hor : rv.ownBlock = dv.ownBlock ∨ rv.ownBlock = some W.heap.size) (hv : Tx W (Pw w0 dv) v t) : Dt w0 rv (vs ++ [v]) (st ++ [t]) V := by
  have hbv : Below w0.heap.size w0 V := h.bel.trans ⟨hg.os, hg.tape, hg.output, hg.size, fun k hk => hg.block k (by have := h.bel.size; omega) fun e => by have := own_ge h.own k e.symm; omega⟩
  have mv : ∀ {u : Value} {s : T}, Tx W (Pw w0 dv) u s → Tx V (Pw w0 rv) u s := fun {u s} hx => by
    have hx2 : Tx W (fun b => Pw w0 dv b ∧ b < W.heap.size) u s := hx.mono fun b hb hp => ⟨hp, hb⟩
    refine (hx2.next (w' := V) (fun b hb hp => hg.block b hb hp.1.2) hg.size).mono fun b _ hp => ⟨hp.1.1, fun e => ?_⟩
    rcases hor with h1 | h1
    · exact hp.1.2 (e.trans h1)
    · rw [h1] at e; simp at e; have := hp.2; omega
  refine ⟨?_, by simp [h.len], fun i a b => ?_, hbv⟩
  · rw [List.length_append, tcs_append]
    simpa [tcs] using ho
  · by_cases hi : i < vs.length
    · rw [List.getElem_append_left hi, List.getElem_append_left (by rw [← h.len]; exact hi)]
      exact mv (h.tx i hi _)
    · have e1 : i = vs.length := by simp at a; omega
      subst e1
      rw [List.getElem_append_right (Nat.le_refl _)]
      have e2 : (st ++ [t])[vs.length]'b = t := by
        rw [List.getElem_append_right (by rw [h.len]; exact Nat.le_refl _)]; simp
      rw [e2]
      simpa using mv hv
/-- The last ones are cut off. -/
theorem Dt.cut {w0 : World} {a : Option Addr} {n c : Nat} {vs : List Value} {st : List T} {W : World} (h : Dt w0 (.slice a n c) vs st W) (f : Nat) (hf : f ≤ st.length) : Dt w0 (.slice a f c) (vs.take f) (st.take f) W := by
  have hl := h.len
  have e1 : (vs.take f).length = f := by rw [List.length_take]; omega
  refine ⟨?_, by simp [hl], fun i x y => ?_, h.bel⟩
  · rw [e1, tcs_take h.th]
    obtain ⟨h1, ⟨h2, h3⟩ | ⟨g, cap, cur, hv, hg, hh, hn, hc, hs, ht⟩⟩ := h.own
    · simp only [Value.slice.injEq] at h2
      obtain ⟨rfl, rfl, rfl⟩ := h2
      have : f = 0 := by omega
      subst this
      exact ⟨by simp, Or.inl ⟨rfl, rfl⟩⟩
    · simp only [Value.slice.injEq] at hv
      obtain ⟨rfl, rfl, rfl⟩ := hv
      refine ⟨by rw [List.length_take, h1]; omega, Or.inr ⟨g, c, cur, rfl, hg, hh, by omega, hc, hs, ?_⟩⟩
      rw [← ht, List.take_take, Nat.min_eq_left (by omega)]
  · have hx : i < f := by rw [e1] at x; exact x
    have := h.tx i (by omega) (by omega)
    rw [List.getElem_take, List.getElem_take]
    exact this.mono fun b _ hp => ⟨hp.1, fun e => hp.2 (by cases a <;> exact e)⟩
/-- The row seen as the Kids of one. -/
theorem Dt.view {w0 : World} {a : Option Addr} {n c : Nat} {vs : List Value} {st : List T} {W : World} (h : Dt w0 (.slice a n c) vs st W) (hm : st.length ≤ 9223372036854775807) : n = st.length ∧ n ≤ c ∧ Tx W (fun _ => True) (.agg #[.int .i64 0, .int .i64 0, .slice a n c]) (.mk 0 0 st) := by
  have hl := h.len
  have hth := h.th
  obtain ⟨h1, ⟨h2, h3⟩ | ⟨g, cap, cur, hv, hg, hh, hn, hc, hs, ht⟩⟩ := h.own
  · simp only [Value.slice.injEq] at h2
    obtain ⟨rfl, rfl, rfl⟩ := h2
    have : st = [] := List.length_eq_zero_iff.1 (by omega)
    subst this
    exact ⟨rfl, Nat.le_refl _, .mk 0 0 none 0 [] (fun _ => undef) (by simp) (Or.inl rfl) (fun i hi => absurd hi (Nat.not_lt_zero _))⟩
  · simp only [Value.slice.injEq] at hv
    obtain ⟨rfl, rfl, rfl⟩ := hv
    refine ⟨hl, hn, ?_⟩
    have hx := Tx.mk (w := W) (P := fun _ => True) 0 0 (some ⟨g, 0, none⟩) c st (fun i => vs.getD i undef) hm (Or.inr ⟨g, 0, rfl, trivial, heap_lt3 hh, fun i hi j hj => ?_⟩) (fun i hi => ?_)
    · rw [← hl] at hx; exact hx
    · have hi' : i < vs.length := by omega
      have e1 : W.cell? ⟨g, 0 + i * 3 + j, none⟩ = cur[i * 3 + j]? := by simp [World.cell?, hh]
      have e2 : vs.getD i undef = vs[i] := by rw [List.getD_eq_getElem?_getD, List.getElem?_eq_getElem hi']; rfl
      rw [e1, e2, ← tcs_at hth i hi' j hj, ← ht, List.getElem?_take_of_lt (by omega)]; simp
    · have hi' : i < vs.length := by omega
      have e2 : vs.getD i undef = vs[i] := by rw [List.getD_eq_getElem?_getD, List.getElem?_eq_getElem hi']; rfl
      rw [e2]
      exact (h.tx i hi' hi).mono fun _ _ _ => trivial
/-- The last ones, as another slice. -/
theorem Dt.oth {w0 : World} {a : Option Addr} {n c : Nat} {vs : List Value} {st : List T} {W : World} (h : Dt w0 (.slice a n c) vs st W) (f : Nat) (hf : f < st.length) : ∃ g, a = some ⟨g, 0, none⟩ ∧ Oth W (some ⟨g, f * 3, none⟩) (st.length - f) (c - f) (tcs (vs.drop f)) := by
  have hl := h.len
  have hth := h.th
  obtain ⟨h1, ⟨h2, h3⟩ | ⟨g, cap, cur, hv, hg, hh, hn, hc, hs, ht⟩⟩ := h.own
  · omega
  · simp only [Value.slice.injEq] at hv
    obtain ⟨rfl, rfl, rfl⟩ := hv
    refine ⟨g, rfl, fun e => (by cases e), fun _ => ⟨g, f * 3, rfl, fun j u hu => ?_⟩⟩
    have e1 : W.cell? ⟨g, f * 3 + j, none⟩ = cur[f * 3 + j]? := by simp [World.cell?, hh]
    have e3 : tcs (vs.drop f) = (tcs vs).drop (f * 3) := by
      have h5 : tcs vs = tcs (vs.take f) ++ tcs (vs.drop f) := by rw [← tcs_append, List.take_append_drop]
      have h6 := tcs_take hth f
      have h7 : (tcs (vs.take f)).length = f * 3 := by rw [h6, List.length_take, tcs_len hth]; omega
      rw [h5, ← h7]; exact List.drop_left.symm
    rw [e3, List.getElem?_drop] at hu
    have h8 := (List.getElem?_eq_some_iff.1 hu).1
    rw [tcs_len hth] at h8
    rw [e1, ← hu, ← ht, List.getElem?_take_of_lt (by omega)]; simp
/-- A tree of a row of Kids. -/
theorem tx_of_own {W : World} {B : Nat} {P : Nat → Prop} {ka : Option Addr} {m kc : Nat} {vs : List Value} {ks : List T} (p : Int) (ho : W.ownsRow B 27 3 (.slice ka m kc) vs.length (tcs vs)) (hl : vs.length = ks.length) (hm : ks.length ≤ 9223372036854775807) (ht : ∀ i (h : i < vs.length) (h' : i < ks.length), Tx W P vs[i] ks[i]) (hP : ∀ b, B ≤ b → b < W.heap.size → P b) : Tx W P (.agg #[.int .i64 p, .int .i64 0, .slice ka m kc]) (.mk p 0 ks) := by
  have hth : ∀ v ∈ vs, Th v := fun v hv => by
    obtain ⟨i, hi, rfl⟩ := List.mem_iff_getElem.1 hv
    exact (ht i hi (by rw [← hl]; exact hi)).th
  obtain ⟨h1, ⟨h2, h3⟩ | ⟨g, cap, cur, hv, hg, hh, hn, hc, hs, htk⟩⟩ := ho
  · simp only [Value.slice.injEq] at h2
    obtain ⟨rfl, rfl, rfl⟩ := h2
    have : ks = [] := List.length_eq_zero_iff.1 (by omega)
    subst this
    exact .mk p 0 none 0 [] (fun _ => undef) (by simp) (Or.inl rfl) (fun i hi => absurd hi (Nat.not_lt_zero _))
  · simp only [Value.slice.injEq] at hv
    obtain ⟨rfl, rfl, rfl⟩ := hv
    have hx := Tx.mk (w := W) (P := P) p 0 (some ⟨g, 0, none⟩) kc ks (fun i => vs.getD i undef) hm (Or.inr ⟨g, 0, rfl, hP g hg (heap_lt3 hh), heap_lt3 hh, fun i hi j hj => ?_⟩) (fun i hi => ?_)
    · rw [← hl] at hx; exact hx
    · have hi' : i < vs.length := by omega
      have e1 : W.cell? ⟨g, 0 + i * 3 + j, none⟩ = cur[i * 3 + j]? := by simp [World.cell?, hh]
      have e2 : vs.getD i undef = vs[i] := by rw [List.getD_eq_getElem?_getD, List.getElem?_eq_getElem hi']; rfl
      rw [e1, e2, ← tcs_at hth i hi' j hj, ← htk, List.getElem?_take_of_lt (by omega)]; simp
    · have hi' : i < vs.length := by omega
      have e2 : vs.getD i undef = vs[i] := by rw [List.getD_eq_getElem?_getD, List.getElem?_eq_getElem hi']; rfl
      rw [e2]; exact ht i hi' hi
end Go.Proofs.Ytldfiofgknmcgab
