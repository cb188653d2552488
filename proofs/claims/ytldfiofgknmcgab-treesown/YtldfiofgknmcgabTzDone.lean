/-
  Rows of trees whose Kids lie in whole rows of their own, the room behind them too. No function is walked here.
-/
import Derived.Test.YtldfiofgknmcgabTrDone2
namespace Go.Proofs.Ytldfiofgknmcgab
open Go.RowKit
open Cg

/-- The Kids of a tree are a whole row in a block of which P holds. -/
def Rm1 (W : World) (P : Nat → Prop) (v : Value) : Prop := ∃ p k ao n cap, v = .agg #[.int .i64 p, .int .i64 k, .slice ao n cap] ∧ ((ao = none ∧ n = 0 ∧ cap = 0) ∨ ∃ b cur, ao = some ⟨b, 0, none⟩ ∧ P b ∧ (n ≤ cap ∧ cap ≤ 9223372036854775807) ∧ W.heap[b]? = some (.cells cur 27) ∧ cur.size = cap * 3)
/-- .. and so are those of each of its Kids. -/
def Rm2 (W : World) (P : Nat → Prop) (v : Value) : Prop := Rm1 W P v ∧ ∀ p k b n cap, v = .agg #[.int .i64 p, .int .i64 k, .slice (some ⟨b, 0, none⟩) n cap] → ∀ i, i < n → ∃ u, Rm1 W (fun q => P q ∧ q ≠ b) u ∧ ∀ j, j < 3 → W.cell? ⟨b, i * 3 + j, none⟩ = u.cells[j]?
theorem Rm1.next {W W' : World} {P : Nat → Prop} {v : Value} (h : Rm1 W P v) (hb : ∀ b, b < W.heap.size → P b → W'.heap[b]? = W.heap[b]?) : Rm1 W' P v := by
  obtain ⟨p, k, ao, n, cap, h1, h2 | ⟨b, cur, h2, h3, h4, h5, h6⟩⟩ := h
  · exact ⟨p, k, ao, n, cap, h1, Or.inl h2⟩
  · exact ⟨p, k, ao, n, cap, h1, Or.inr ⟨b, cur, h2, h3, h4, (hb b (heap_lt3 h5) h3).trans h5, h6⟩⟩
theorem Rm1.mono {W : World} {P Q : Nat → Prop} {v : Value} (h : Rm1 W P v) (hb : ∀ b, b < W.heap.size → P b → Q b) : Rm1 W Q v := by
  obtain ⟨p, k, ao, n, cap, h1, h2 | ⟨b, cur, h2, h3, h4, h5, h6⟩⟩ := h
  · exact ⟨p, k, ao, n, cap, h1, Or.inl h2⟩
  · exact ⟨p, k, ao, n, cap, h1, Or.inr ⟨b, cur, h2, hb b (heap_lt3 h5) h3, h4, h5, h6⟩⟩
theorem Rm1.block {W : World} {P : Nat → Prop} {p k : Int} {b n cap : Nat} (h : Rm1 W P (.agg #[.int .i64 p, .int .i64 k, .slice (some ⟨b, 0, none⟩) n cap])) : P b ∧ b < W.heap.size := by
  obtain ⟨p', k', ao, n', cap', h1, h2 | ⟨b', cur, h2, h3, h4, h5, h6⟩⟩ := h
  · simp at h1; rw [h2.1] at h1; simp at h1
  · simp only [Value.agg.injEq, Array.mk.injEq, List.cons.injEq, Value.int.injEq, Value.slice.injEq, true_and, and_true] at h1
    obtain ⟨-, -, e, -, -⟩ := h1
    rw [h2] at e
    simp only [Option.some.injEq, Addr.mk.injEq, and_true] at e
    subst e
    exact ⟨h3, heap_lt3 h5⟩
theorem Rm2.next {W W' : World} {P : Nat → Prop} {v : Value} (h : Rm2 W P v) (hb : ∀ b, b < W.heap.size → P b → W'.heap[b]? = W.heap[b]?) : Rm2 W' P v := by
  refine ⟨h.1.next hb, fun p k b n cap e i hi => ?_⟩
  obtain ⟨u, h1, h2⟩ := h.2 p k b n cap e i hi
  have hp := h.1
  rw [e] at hp
  exact ⟨u, h1.next (fun q hq hp => hb q hq hp.1), fun j hj => (cell_same (hb b hp.block.2 hp.block.1)).trans (h2 j hj)⟩
theorem Rm2.mono {W : World} {P Q : Nat → Prop} {v : Value} (h : Rm2 W P v) (hb : ∀ b, b < W.heap.size → P b → Q b) : Rm2 W Q v := by
  refine ⟨h.1.mono hb, fun p k b n cap e i hi => ?_⟩
  obtain ⟨u, h1, h2⟩ := h.2 p k b n cap e i hi
  exact ⟨u, h1.mono (fun q hq hp => ⟨hb q hq hp.1, hp.2⟩), h2⟩
structure Tz (W : World) (P : Nat → Prop) (v : Value) (t : T) : Prop where
  tx : Tx W P v t
  rm : Rm2 W P v
theorem Tz.next {w w' : World} {P : Nat → Prop} {v : Value} {t : T} (h : Tz w P v t) (hb : ∀ b, b < w.heap.size → P b → w'.heap[b]? = w.heap[b]?) (hs : w.heap.size ≤ w'.heap.size) : Tz w' P v t := ⟨h.tx.next hb hs, h.rm.next hb⟩
theorem Tz.mono {w : World} {P Q : Nat → Prop} {v : Value} {t : T} (h : Tz w P v t) (hb : ∀ b, b < w.heap.size → P b → Q b) : Tz w Q v t := ⟨h.tx.mono hb, h.rm.mono hb⟩
theorem Tz.bel {w w' : World} {P : Nat → Prop} {v : Value} {t : T} (h : Tz w P v t) (hb : Below w.heap.size w w') : Tz w' P v t := h.next (fun b hl _ => hb.block b hl) hb.size
theorem tz_leaf (W : World) (P : Nat → Prop) (p k : Int) : Tz W P (.agg #[.int .i64 p, .int .i64 k, .slice none 0 0]) (.mk p k []) := by
  refine ⟨.mk p k none 0 [] (fun _ => undef) (by simp) (Or.inl rfl) (fun i hi => absurd hi (Nat.not_lt_zero _)), ⟨p, k, none, 0, 0, rfl, Or.inl ⟨rfl, rfl, rfl⟩⟩, fun p' k' b n cap e i hi => ?_⟩
  simp at e
/-- A row of such trees of one's own. -/
structure Dz (w0 : World) (dv : Value) (vs : List Value) (st : List T) (W : World) : Prop where
  dt : Dt w0 dv vs st W
  rm : ∀ i (h : i < vs.length), Rm2 W (Pw w0 dv) vs[i]
theorem Dz.bel {w0 : World} {dv : Value} {vs : List Value} {st : List T} {W : World} (h : Dz w0 dv vs st W) : Below w0.heap.size w0 W := h.dt.bel
theorem Dz.next {w0 : World} {dv : Value} {vs : List Value} {st : List T} {W W' : World} (h : Dz w0 dv vs st W) (hb : Below W.heap.size W W') : Dz w0 dv vs st W' := ⟨h.dt.next hb, fun i a => (h.rm i a).next fun b hl _ => hb.block b hl⟩
theorem Dz.nil (w0 : World) {W : World} (h : Below w0.heap.size w0 W) : Dz w0 (.slice none 0 0) [] [] W := ⟨Dt.nil w0 h, fun _ h => absurd h (Nat.not_lt_zero _)⟩
theorem Dz.view {w0 : World} {a : Option Addr} {n c : Nat} {vs : List Value} {st : List T} {W : World} (h : Dz w0 (.slice a n c) vs st W) (hm : st.length ≤ 9223372036854775807) : n = st.length ∧ n ≤ c ∧ Tx W (fun _ => True) (.agg #[.int .i64 0, .int .i64 0, .slice a n c]) (.mk 0 0 st) := h.dt.view hm
theorem Dz.push {w0 : World} {dv rv v : Value} {vs : List Value} {st : List T} {W V : World} {t : T} (h : Dz w0 dv vs st W) (hg : W.grownBy V dv.ownBlock) (ho : V.ownsRow w0.heap.size 27 3 rv (vs.length + 1) (tcs vs ++ v.cells.toList)) (hor : rv.ownBlock = dv.ownBlock ∨ rv.ownBlock = some W.heap.size) (hv : Tz W (Pw w0 dv) v t) : Dz w0 rv (vs ++ [v]) (st ++ [t]) V := by
  refine ⟨h.dt.push hg ho hor hv.tx, fun i a => ?_⟩
  have mv : ∀ {u : Value}, Rm2 W (Pw w0 dv) u → Rm2 V (Pw w0 rv) u := fun {u} hx => by
    have hx2 : Rm2 W (fun b => Pw w0 dv b ∧ b < W.heap.size) u := hx.mono fun b hb hp => ⟨hp, hb⟩
    refine (hx2.next (W' := V) (fun b hb hp => hg.block b hb hp.1.2)).mono fun b _ hp => ⟨hp.1.1, fun e => ?_⟩
    rcases hor with h1 | h1
    · exact hp.1.2 (e.trans h1)
    · rw [h1] at e; simp at e; have := hp.2; omega
  by_cases hi : i < vs.length
  · rw [List.getElem_append_left hi]
    exact mv (h.rm i hi)
  · have e1 : i = vs.length := by simp at a; omega
    subst e1
    rw [List.getElem_append_right (Nat.le_refl _)]
    simpa using mv hv.rm
theorem Dz.app2 {w0 : World} {a : Option Addr} {m c : Nat} {vs : List Value} {st : List T} {W : World} {gb : Nat} {p k : Int} {ka : Option Addr} {kn kc : Nat} {t : T} (h : Dz w0 (.slice a m c) vs st W) (hblk : W.heap[gb]? = some (.cells #[.int .i64 p, .int .i64 k, .slice ka kn kc] 27)) (hx : Tz W (Pw w0 (.slice a m c)) (.agg #[.int .i64 p, .int .i64 k, .slice ka kn kc]) t) (hlen : st.length + 1 ≤ 1000000) :
    ∃ ra rm rc V, (Builtin.append_ #[25, 25] 25 #[.slice a m c, .slice (some ⟨gb, 0, none⟩) 1 1]).run Try.prog W = .ok (.slice ra rm rc) V ∧ Dz w0 (.slice ra rm rc) (vs ++ [.agg #[.int .i64 p, .int .i64 k, .slice ka kn kc]]) (st ++ [t]) V := by
  obtain ⟨i1, hi1, hy0, hy1, hy2⟩ := info_parts info27
  have hl := h.dt.len
  obtain ⟨ra, rc, V, k1, k2, k3, k4⟩ := append_any (W := W) (base := w0.heap.size) 25 27 i1 _ 3 40 Try.underlying25 hi1 hy0 hy1 hy2 rfl (by decide) (.slice a m c) vs.length (tcs vs) h.dt.own (some ⟨gb, 0, none⟩) 1 1 [.int .i64 p, .int .i64 k, .slice ka kn kc] rfl ⟨fun e => (by cases e), fun _ => ⟨gb, 0, rfl, fun j u hu => by
    have hj := (List.getElem?_eq_some_iff.1 hu).1
    simp at hj
    have e1 : W.cell? ⟨gb, 0 + j, none⟩ = #[Value.int .i64 p, .int .i64 k, .slice ka kn kc][j]? := by simp [World.cell?, hblk]
    rw [e1, ← hu]; simp⟩⟩ (by intro u hu; simp at hu; rcases hu with rfl | rfl | rfl <;> rfl) (by omega) (by omega) h.bel.size
  exact ⟨ra, _, rc, V, k1, h.push k3 (by simpa [Value.cells] using k2) k4 hx⟩
theorem Dz.cut {w0 : World} {a : Option Addr} {n c : Nat} {vs : List Value} {st : List T} {W : World} (h : Dz w0 (.slice a n c) vs st W) (f : Nat) (hf : f ≤ st.length) : Dz w0 (.slice a f c) (vs.take f) (st.take f) W := by
  refine ⟨h.dt.cut f hf, fun i x => ?_⟩
  have hx : i < vs.length := by rw [List.length_take] at x; omega
  rw [List.getElem_take]
  exact (h.rm i hx).mono fun b _ hp => ⟨hp.1, fun e => hp.2 (by cases a <;> exact e)⟩
theorem Dz.last {w0 : World} {a : Option Addr} {m c : Nat} {vs : List Value} {st : List T} {W : World} (h : Dz w0 (.slice a m c) vs st W) (lo k : Nat) (hk : lo + k = st.length) (hlen : st.length ≤ 1000000) (xo : Option Addr) (mc : Nat) (hxo : (c = lo ∧ xo = a ∧ mc = 0) ∨ (c ≠ lo ∧ xo = a.map (fun x => x.add (lo * 3)) ∧ mc = c - lo)) :
    ∃ ka kn kc V, (Builtin.append_ #[25, 25] 25 #[.slice none 0 0, .slice xo k mc]).run Try.prog W = .ok (.slice ka kn kc) V ∧ V.ownsRow W.heap.size 27 3 (.slice ka kn kc) (vs.drop lo).length (tcs (vs.drop lo)) ∧ Below W.heap.size W V := h.dt.last lo k hk hlen xo mc hxo
theorem Dz.node {w0 : World} {a : Option Addr} {m c : Nat} {vs : List Value} {st : List T} {W V : World} (h : Dz w0 (.slice a m c) vs st W) (lo : Nat) (hlen : st.length ≤ 1000000) {ka : Option Addr} {kn kc : Nat} (ho : V.ownsRow W.heap.size 27 3 (.slice ka kn kc) (vs.drop lo).length (tcs (vs.drop lo))) (hb : Below W.heap.size W V) (p : Int) :
    Tz V (Pw w0 (.slice a lo c)) (.agg #[.int .i64 p, .int .i64 0, .slice ka kn kc]) (.mk p 0 (st.drop lo)) := by
  have hP : ∀ b, W.heap.size ≤ b → Pw w0 (.slice a lo c) b := fun b hb1 => ⟨by have := h.dt.bel.size; omega, fun e => by
    have e2 : Value.ownBlock (.slice a m c) = some b := by cases a <;> exact e.symm
    have := (h.dt.own.lt b e2).2
    omega⟩
  have hth : ∀ v ∈ vs.drop lo, Th v := fun v hv => h.dt.th v (List.mem_of_mem_drop hv)
  refine ⟨h.dt.node lo hlen ho hb p, ?_⟩
  obtain ⟨h1, ⟨h2, h3⟩ | ⟨g, cap, cur, hv, hg, hh, hn, hc, hs, htk⟩⟩ := ho
  · simp only [Value.slice.injEq] at h2
    obtain ⟨rfl, rfl, rfl⟩ := h2
    exact (tz_leaf V _ p 0).rm
  · simp only [Value.slice.injEq] at hv
    obtain ⟨rfl, rfl, rfl⟩ := hv
    refine ⟨⟨p, 0, _, _, kc, rfl, Or.inr ⟨g, cur, rfl, hP g hg, ⟨hn, by unfold maxLen at hc; omega⟩, hh, hs⟩⟩, fun p' k' b n' cap' e i hi => ?_⟩
    simp only [Value.agg.injEq, Array.mk.injEq, List.cons.injEq, Value.int.injEq, Value.slice.injEq, Option.some.injEq, Addr.mk.injEq, true_and, and_true] at e
    obtain ⟨-, -, rfl, rfl, rfl⟩ := e
    have hi2 : lo + i < vs.length := by rw [List.length_drop] at hi; omega
    refine ⟨(vs.drop lo)[i], ?_, fun j hj => ?_⟩
    · rw [List.getElem_drop]
      have h8 : Rm1 W (fun q => Pw w0 (.slice a m c) q ∧ q < W.heap.size) vs[lo + i] := (h.rm (lo + i) hi2).1.mono fun q hq hp => ⟨hp, hq⟩
      exact (h8.next fun b hl _ => hb.block b hl).mono fun b _ hp => ⟨⟨hp.1.1, fun e => hp.1.2 (by cases a <;> exact e)⟩, by have := hp.2; omega⟩
    · have e1 : V.cell? ⟨g, i * 3 + j, none⟩ = cur[i * 3 + j]? := by simp [World.cell?, hh]
      rw [e1, ← tcs_at hth i hi j hj, ← htk, List.getElem?_take_of_lt (by omega)]; simp
theorem Dz.at {w0 : World} {a : Option Addr} {m c : Nat} {vs : List Value} {st : List T} {W : World} (h : Dz w0 (.slice a m c) vs st W) (i : Nat) (hi : i < st.length) : ∃ g p k a' n' c', a = some ⟨g, 0, none⟩ ∧ g < W.heap.size ∧ W.cell? ⟨g, i * 3, none⟩ = some (.int .i64 p) ∧ W.cell? ⟨g, i * 3 + 1, none⟩ = some (.int .i64 k) ∧ W.cell? ⟨g, i * 3 + 2, none⟩ = some (.slice a' n' c') ∧ p = (st[i]).p ∧ Tz W (Pw w0 (.slice a m c)) (.agg #[.int .i64 p, .int .i64 k, .slice a' n' c']) st[i] := by
  have hl := h.dt.len
  have hth := h.dt.th
  have hrm := h.rm
  have htx := h.dt.tx
  obtain ⟨h1, ⟨h2, h3⟩ | ⟨g, cap, cur, hv, hg, hh, hn, hc, hs, ht⟩⟩ := h.dt.own
  · omega
  · simp only [Value.slice.injEq] at hv
    obtain ⟨rfl, rfl, rfl⟩ := hv
    have hi' : i < vs.length := by omega
    have hx := htx i hi' hi
    have hr := hrm i hi'
    obtain ⟨p, k, ao, cap, kids, vals, e1, e2, -⟩ := hx.shape
    have key : ∀ j, j < 3 → W.cell? ⟨g, i * 3 + j, none⟩ = (Value.agg #[.int .i64 p, .int .i64 k, .slice ao kids.length cap]).cells[j]? := fun j hj => by
      have e3 : W.cell? ⟨g, i * 3 + j, none⟩ = cur[i * 3 + j]? := by simp [World.cell?, hh]
      rw [e3, ← e1, ← tcs_at hth i hi' j hj, ← ht, List.getElem?_take_of_lt (by omega)]; simp
    rw [e1] at hx hr
    exact ⟨g, p, k, ao, kids.length, cap, rfl, heap_lt3 hh, key 0 (by omega), key 1 (by omega), key 2 (by omega), by rw [e2]; rfl, hx, hr⟩
end Go.Proofs.Ytldfiofgknmcgab
