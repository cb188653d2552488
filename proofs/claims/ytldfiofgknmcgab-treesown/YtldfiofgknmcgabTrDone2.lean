/-
  append at rows of trees: one more; the last ones as Kids of their own; the node made of them. No function is walked here.
-/
import Derived.Test.YtldfiofgknmcgabTrDone
namespace Go.Proofs.Ytldfiofgknmcgab
open Go.RowKit
open Cg

theorem Dt.app2 {w0 : World} {a : Option Addr} {m c : Nat} {vs : List Value} {st : List T} {W : World} {gb : Nat} {p k : Int} {ka : Option Addr} {kn kc : Nat} {t : T} (h : Dt w0 (.slice a m c) vs st W) (hblk : W.heap[gb]? = some (.cells #[.int .i64 p, .int .i64 k, .slice ka kn kc] 27)) (hx : Tx W (Pw w0 (.slice a m c)) (.agg #[.int .i64 p, .int .i64 k, .slice ka kn kc]) t) (hlen : st.length + 1 ≤ 1000000) :
    ∃ ra rm rc V, (Builtin.append_ #[25, 25] 25 #[.slice a m c, .slice (some ⟨gb, 0, none⟩) 1 1]).run Try.prog W = .ok (.slice ra rm rc) V ∧ Dt w0 (.slice ra rm rc) (vs ++ [.agg #[.int .i64 p, .int .i64 k, .slice ka kn kc]]) (st ++ [t]) V := by
  obtain ⟨i1, hi1, hy0, hy1, hy2⟩ := info_parts info27
  have hl := h.len
  obtain ⟨ra, rc, V, k1, k2, k3, k4⟩ := append_any (W := W) (base := w0.heap.size) 25 27 i1 _ 3 40 Try.underlying25 hi1 hy0 hy1 hy2 rfl (by decide) (.slice a m c) vs.length (tcs vs) h.own (some ⟨gb, 0, none⟩) 1 1 [.int .i64 p, .int .i64 k, .slice ka kn kc] rfl ⟨fun e => (by cases e), fun _ => ⟨gb, 0, rfl, fun j u hu => by
    have hj := (List.getElem?_eq_some_iff.1 hu).1
    simp at hj
    have e1 : W.cell? ⟨gb, 0 + j, none⟩ = #[Value.int .i64 p, .int .i64 k, .slice ka kn kc][j]? := by simp [World.cell?, hblk]
    rw [e1, ← hu]; simp⟩⟩ (by intro u hu; simp at hu; rcases hu with rfl | rfl | rfl <;> rfl) (by omega) (by omega) h.bel.size
  exact ⟨ra, _, rc, V, k1, h.push k3 (by simpa [Value.cells] using k2) k4 hx⟩
theorem Dt.last {w0 : World} {a : Option Addr} {m c : Nat} {vs : List Value} {st : List T} {W : World} (h : Dt w0 (.slice a m c) vs st W) (lo k : Nat) (hk : lo + k = st.length) (hlen : st.length ≤ 1000000) (xo : Option Addr) (mc : Nat) (hxo : (c = lo ∧ xo = a ∧ mc = 0) ∨ (c ≠ lo ∧ xo = a.map (fun x => x.add (lo * 3)) ∧ mc = c - lo)) :
    ∃ ka kn kc V, (Builtin.append_ #[25, 25] 25 #[.slice none 0 0, .slice xo k mc]).run Try.prog W = .ok (.slice ka kn kc) V ∧ V.ownsRow W.heap.size 27 3 (.slice ka kn kc) (vs.drop lo).length (tcs (vs.drop lo)) ∧ Below W.heap.size W V := by
  obtain ⟨i1, hi1, hy0, hy1, hy2⟩ := info_parts info27
  have hl := h.len
  have hdl : (vs.drop lo).length = k := by rw [List.length_drop]; omega
  have hth : ∀ v ∈ vs.drop lo, Th v := fun v hv => h.th v (List.mem_of_mem_drop hv)
  have hoth : Oth W xo k mc (tcs (vs.drop lo)) := by
    by_cases h0 : k = 0
    · subst h0
      have e : vs.drop lo = [] := List.length_eq_zero_iff.1 hdl
      rw [e]
      refine ⟨fun hn => ⟨rfl, ?_⟩, fun hne => absurd rfl hne⟩
      rcases hxo with ⟨-, -, h3⟩ | ⟨h1, h2, h3⟩
      · exact h3
      · rw [hn] at h2
        have ha : a = none := by cases a with | none => rfl | some x => simp at h2
        subst ha
        rcases h.own.2 with ⟨e1, e2⟩ | ⟨g, cap, cur, e1, -⟩
        · simp at e1; omega
        · simp at e1
    · obtain ⟨g, rfl, h2⟩ := h.oth lo (by omega)
      have hcn : c ≠ lo := by
        rcases h.own.2 with ⟨e1, e2⟩ | ⟨g2, cap, cur, e1, -, -, hn, -⟩
        · simp at e1
        · simp only [Value.slice.injEq] at e1
          obtain ⟨-, -, rfl⟩ := e1
          omega
      rcases hxo with ⟨h1, -, -⟩ | ⟨-, h3, h4⟩
      · exact absurd h1 hcn
      · subst h3 h4
        simp only [Option.map_some, Addr.add_lit, Nat.zero_add]
        rw [show st.length - lo = k by omega] at h2
        exact h2
  obtain ⟨ra, rc, V, k1, k2, k3, k4⟩ := append_any (W := W) (base := W.heap.size) 25 27 i1 _ 3 40 Try.underlying25 hi1 hy0 hy1 hy2 rfl (by decide) (.slice none 0 0) 0 [] (World.ownsRow_nil _ _ _ _) xo k mc (tcs (vs.drop lo)) (by rw [tcs_len hth, hdl]) hoth (tcs_one hth) (by omega) (by omega) (Nat.le_refl _)
  refine ⟨ra, _, rc, V, k1, ?_, ⟨k3.os, k3.tape, k3.output, k3.size, fun j hj => k3.block j hj (by simp [Value.ownBlock])⟩⟩
  rw [hdl]
  simpa using k2
theorem Dt.node {w0 : World} {a : Option Addr} {m c : Nat} {vs : List Value} {st : List T} {W V : World} (h : Dt w0 (.slice a m c) vs st W) (lo : Nat) (hlen : st.length ≤ 1000000) {ka : Option Addr} {kn kc : Nat} (ho : V.ownsRow W.heap.size 27 3 (.slice ka kn kc) (vs.drop lo).length (tcs (vs.drop lo))) (hb : Below W.heap.size W V) (p : Int) :
    Tx V (Pw w0 (.slice a lo c)) (.agg #[.int .i64 p, .int .i64 0, .slice ka kn kc]) (.mk p 0 (st.drop lo)) := by
  have hl := h.len
  refine tx_of_own p ho (by simp [hl]) (by simp; omega) (fun i x y => ?_) fun b hb1 hb2 => ⟨by have := h.bel.size; omega, fun e => ?_⟩
  · rw [List.getElem_drop, List.getElem_drop]
    rw [List.length_drop] at x y
    exact ((h.tx (lo + i) (by omega) (by omega)).bel hb).mono fun b _ hp => ⟨hp.1, fun e => hp.2 (by cases a <;> exact e)⟩
  · have e2 : Value.ownBlock (.slice a m c) = some b := by cases a <;> exact e.symm
    have := (h.own.lt b e2).2
    omega
/-- One of them, with its cells. -/
theorem Dt.at {w0 : World} {a : Option Addr} {m c : Nat} {vs : List Value} {st : List T} {W : World} (h : Dt w0 (.slice a m c) vs st W) (i : Nat) (hi : i < st.length) : ∃ g p k a' n' c', a = some ⟨g, 0, none⟩ ∧ g < W.heap.size ∧ W.cell? ⟨g, i * 3, none⟩ = some (.int .i64 p) ∧ W.cell? ⟨g, i * 3 + 1, none⟩ = some (.int .i64 k) ∧ W.cell? ⟨g, i * 3 + 2, none⟩ = some (.slice a' n' c') ∧ p = (st[i]).p ∧ Tx W (Pw w0 (.slice a m c)) (.agg #[.int .i64 p, .int .i64 k, .slice a' n' c']) st[i] := by
  have hl := h.len
  have hth := h.th
  obtain ⟨h1, ⟨h2, h3⟩ | ⟨g, cap, cur, hv, hg, hh, hn, hc, hs, ht⟩⟩ := h.own
  · omega
  · simp only [Value.slice.injEq] at hv
    obtain ⟨rfl, rfl, rfl⟩ := hv
    have hi' : i < vs.length := by omega
    have hx := h.tx i hi' hi
    obtain ⟨p, k, ao, cap, kids, vals, e1, e2, -⟩ := hx.shape
    have key : ∀ j, j < 3 → W.cell? ⟨g, i * 3 + j, none⟩ = (Value.agg #[.int .i64 p, .int .i64 k, .slice ao kids.length cap]).cells[j]? := fun j hj => by
      have e3 : W.cell? ⟨g, i * 3 + j, none⟩ = cur[i * 3 + j]? := by simp [World.cell?, hh]
      rw [e3, ← e1, ← tcs_at hth i hi' j hj, ← ht, List.getElem?_take_of_lt (by omega)]; simp
    rw [e1] at hx
    exact ⟨g, p, k, ao, kids.length, cap, rfl, heap_lt3 hh, key 0 (by omega), key 1 (by omega), key 2 (by omega), by rw [e2]; rfl, hx⟩
end Go.Proofs.Ytldfiofgknmcgab
