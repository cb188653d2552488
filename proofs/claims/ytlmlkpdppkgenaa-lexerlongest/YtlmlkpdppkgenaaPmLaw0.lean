/-
  Make's answer, as laws want it: an error with an empty Posn, or a right Posn.
-/
import Derived.Test.YtlmlkpdppkgenaaPmMake
import Derived.Test.YtlmlkpdppkgenaaWGl
namespace Go.Proofs.Ytlmlkpdppkgenaa
open Go.RowKit
open Cls Po Rex

section
variable {base gp : Nat} {v V u : Nat → Value} {p : P} {w : World}
theorem Pm.congr (h : Pm base gp v V p w) (e : ∀ f, f < 6 → u f = v f) : Pm base gp u V p w :=
  ⟨h.box.congr fun i hi => (e i hi).symm, fun f hf => by rw [e f hf]; exact h.own f hf, h.inn, fun f g hf hg hn q hq => by rw [e f hf] at hq; rw [e g hg]; exact h.d1 f g hf hg hn q hq, fun f i hf hi q hq => by rw [e f hf] at hq; exact h.d2 f i hf hi q hq, h.d3, h.lt, h.sz⟩
theorem bls_of_own {v : Value} {l : List Bool} (h : w.ownsRow base 4 1 v l.length (l.map Value.bool)) (hm : l.length ≤ 9223372036854775807) : Bls w v l := by
  obtain ⟨hl, ⟨h1, h2⟩ | ⟨g, cap, cur, hv, hg, hh, hn, hc, hs, ht⟩⟩ := h
  · exact ⟨none, 0, by rw [h1, h2], hm, Or.inl (List.length_eq_zero_iff.1 h2)⟩
  · refine ⟨some ⟨g, 0, none⟩, cap, hv, hm, Or.inr ⟨g, 0, rfl, (Array.getElem?_eq_some_iff.1 hh).1, fun i hi => ?_⟩⟩
    have e : w.cell? ⟨g, 0 + i, none⟩ = cur[i]? := by simp [World.cell?, hh]
    rw [e]
    have h2 : (cur.toList.take (l.length * 1))[i]? = (l.map Value.bool)[i]? := by rw [ht]
    rw [List.getElem?_take_of_lt (by omega)] at h2
    have h3 : (l.map Value.bool)[i]? = some (.bool l[i]) := by simp [List.getElem?_eq_getElem hi]
    rw [← h3, ← h2]; simp
theorem clc_at (l : List Cl) (i : Nat) (hi : i < l.length) : (clc l)[i * 4]? = some (.int .u64 (l[i].1.toNat : Int)) ∧ (clc l)[i * 4 + 1]? = some (.int .u64 (l[i].2.1.toNat : Int)) ∧ (clc l)[i * 4 + 2]? = some (.int .u64 (l[i].2.2.1.toNat : Int)) ∧ (clc l)[i * 4 + 3]? = some (.int .u64 (l[i].2.2.2.toNat : Int)) := by
  induction l generalizing i with
  | nil => simp at hi
  | cons c l ih =>
    cases i with
    | zero => exact ⟨rfl, rfl, rfl, rfl⟩
    | succ i =>
      obtain ⟨h0, h1, h2, h3⟩ := ih i (by simpa using hi)
      have e : ∀ j, (clc (c :: l))[(i + 1) * 4 + j]? = (clc l)[i * 4 + j]? := fun j => by
        rw [show (i + 1) * 4 + j = i * 4 + j + 1 + 1 + 1 + 1 by omega]; rfl
      exact ⟨(e 0).trans h0, (e 1).trans h1, (e 2).trans h2, (e 3).trans h3⟩
theorem cs_of_own {v : Value} {l : List Cl} (h : w.ownsRow base 42 4 v l.length (clc l)) (hm : l.length ≤ 9223372036854775807) : Cs w v l := by
  obtain ⟨hl, ⟨h1, h2⟩ | ⟨g, cap, cur, hv, hg, hh, hn, hc, hs, ht⟩⟩ := h
  · exact ⟨none, 0, by rw [h1, h2], hm, Or.inl (List.length_eq_zero_iff.1 h2)⟩
  · refine ⟨some ⟨g, 0, none⟩, cap, hv, hm, Or.inr ⟨g, 0, rfl, (Array.getElem?_eq_some_iff.1 hh).1, fun i hi j hj => ?_⟩⟩
    obtain ⟨f0, f1, f2, f3⟩ := clc_at l i hi
    have e : ∀ j, j < 4 → w.cell? ⟨g, 0 + i * 4 + j, none⟩ = (clc l)[i * 4 + j]? := fun j hj => by
      have e1 : w.cell? ⟨g, 0 + i * 4 + j, none⟩ = cur[i * 4 + j]? := by simp [World.cell?, hh]
      rw [e1, ← ht, List.getElem?_take_of_lt (by omega)]; simp
    have : j = 0 ∨ j = 1 ∨ j = 2 ∨ j = 3 := by omega
    rcases this with rfl | rfl | rfl | rfl
    · exact (e 0 (by omega)).trans f0
    · exact (e 1 (by omega)).trans f1
    · exact (e 2 (by omega)).trans f2
    · exact (e 3 (by omega)).trans f3
/-- A Posn that is made is one. -/
theorem Pm.pn (h : Pm base gp v V p w) (hl : ∀ f, f < 6 → lenP p f ≤ 100000) (hf : ∀ l ∈ p.follow, l.length ≤ 100000) : Pn w (v 0) (v 1) (v 2) (v 3) (v 4) (v 5) p := by
  have l0 := hl 0 (by omega)
  have l1 := hl 1 (by omega)
  have l2 := hl 2 (by omega)
  have l3 := hl 3 (by omega)
  have l4 := hl 4 (by omega)
  have l5 := hl 5 (by omega)
  simp only [lenP] at l0 l1 l2 l3 l4 l5
  refine ⟨cs_of_own (h.own 0 (by omega)) (by omega), ints_of_own (h.own 1 (by omega)) (by omega), ints_of_own (h.own 2 (by omega)) (by omega), ?_, bls_of_own (h.own 4 (by omega)) (by omega), bls_of_own (h.own 5 (by omega)) (by omega)⟩
  have ho : w.ownsRow base 23 1 (v 3) p.follow.length ((List.range p.follow.length).map V) := h.own 3 (by omega)
  by_cases e : p.follow = []
  · rcases ho.2 with ⟨h1, h2⟩ | ⟨g, cap, cur, h1, -⟩
    · exact ⟨none, 0, by rw [h1, h2], by omega, Or.inl e⟩
    · exact ⟨_, cap, h1, by omega, Or.inl e⟩
  · have hp : 0 < p.follow.length := List.length_pos_iff.2 e
    obtain ⟨g, cap, hv, -, hg, -, -⟩ := h.lists hp
    refine ⟨some ⟨g, 0, none⟩, cap, hv, by omega, Or.inr ⟨g, 0, rfl, hg, fun i hi => ?_⟩⟩
    obtain ⟨g', cap', hv', -, -, hc, -⟩ := h.lists hi
    rw [hv] at hv'
    cases hv'
    refine ⟨V i, by rw [Nat.zero_add]; exact hc, ?_⟩
    have := h.inn i hi
    rw [List.getD_eq_getElem?_getD, List.getElem?_eq_getElem hi] at this
    exact ints_of_own this (by have := hf _ (List.getElem_mem hi); show p.follow[i].length ≤ _; omega)
end
/-- What Make tells. -/
def mkAns (ts : List T) (xs : List Rex.E) : Int := if mkErr ts = 0 then (if 200 < (Pm.rulesX xs 0 Pm.p00).cls.length then 2 else 0) else (mkErr ts : Int)
theorem mkAns_fine {ts : List T} {xs : List Rex.E} (h : mkAns ts xs = 0) : mkErr ts = 0 ∧ (Pm.rulesX xs 0 Pm.p00).cls.length ≤ 200 := by
  unfold mkAns at h
  split at h
  · split at h
    · omega
    · exact ⟨by assumption, by omega⟩
  · omega
theorem mkErr_len {ts : List T} (h : mkErr ts = 0) : 1 ≤ ts.length ∧ ts.length ≤ 20 ∧ Pm.errL ts = 0 := by
  unfold mkErr at h
  split at h
  · omega
  · rename_i h1; exact ⟨by omega, by omega, h⟩
theorem PMake_err (v : Value) (ts : List T) (xs : List Rex.E) (w : World) (ht : Rxs w w.heap.size v ts) (hx : mkErr ts = 0 → Pm.Rts ts xs) (hk : mkAns ts xs ≠ 0) :
    Calls Try.prog 37 #[v] w fun e w' => e = .returned (.tuple #[.agg #[.slice none 0 0, .slice none 0 0, .slice none 0 0, .slice none 0 0, .slice none 0 0, .slice none 0 0], .int .i64 (mkAns ts xs)]) ∧ Below w.heap.size w w' := by
  by_cases h0 : mkErr ts = 0
  · have h1 : 200 < (Pm.rulesX xs 0 Pm.p00).cls.length := by
      unfold mkAns at hk; rw [if_pos h0] at hk
      by_cases h : 200 < (Pm.rulesX xs 0 Pm.p00).cls.length
      · exact h
      · rw [if_neg h] at hk; exact absurd rfl hk
    have e : mkAns ts xs = 2 := by unfold mkAns; rw [if_pos h0, if_pos h1]
    rw [e]
    exact (PMake_ok v ts xs w ht h0 (hx h0)).mono fun e w' h => h.1 h1
  · have e : mkAns ts xs = (mkErr ts : Int) := by unfold mkAns; rw [if_neg h0]
    rw [e]
    exact PMake_bad v ts w ht h0
/-- A Posn of one's own. -/
structure PF (w : World) (P0 : P) (a : Nat → Option Addr) (m d : Nat → Nat) (V : Nat → Value) (w' : World) : Prop where
  bl : Below w.heap.size w w'
  ex : ∃ base gp, w.heap.size < gp ∧ Pm base gp (fun f => .slice (a f) (m f) (d f)) V P0 w'
  pn : Pn w' (.slice (a 0) (m 0) (d 0)) (.slice (a 1) (m 1) (d 1)) (.slice (a 2) (m 2) (d 2)) (.slice (a 3) (m 3) (d 3)) (.slice (a 4) (m 4) (d 4)) (.slice (a 5) (m 5) (d 5)) P0
theorem pos_small {xs : List Rex.E} (hx : ∀ x ∈ xs, x.nodes ≤ 100) (hl : xs.length ≤ 20) : (∀ f, f < 6 → lenP (Pm.rulesX xs 0 Pm.p00) f ≤ 100000) ∧ ∀ l ∈ (Pm.rulesX xs 0 Pm.p00).follow, l.length ≤ 100000 := by
  have h := Pm.rdr_take hx hl xs.length (Nat.le_refl _)
  rw [List.take_length] at h
  have h1 := h.r.room; have h2 := h.r.ok; have h3 := h.r.ru; have h4 := h.r.la; have h5 := h.r.fi; have h6 := h.r.em
  unfold Pm.Ok at h2
  simp only at h2
  refine ⟨fun f hf => ?_, fun l hl => by have := (h.r.fine l hl).2; omega⟩
  have : f = 0 ∨ f = 1 ∨ f = 2 ∨ f = 3 ∨ f = 4 ∨ f = 5 := by omega
  rcases this with rfl | rfl | rfl | rfl | rfl | rfl <;> simp only [lenP] <;> omega
theorem PMake_fine (v : Value) (ts : List T) (xs : List Rex.E) (w : World) (ht : Rxs w w.heap.size v ts) (hx : Pm.Rts ts xs) (hk : mkAns ts xs = 0) :
    Calls Try.prog 37 #[v] w fun e w' => ∃ a m d V, e = .returned (.tuple #[.agg #[.slice (a 0) (m 0) (d 0), .slice (a 1) (m 1) (d 1), .slice (a 2) (m 2) (d 2), .slice (a 3) (m 3) (d 3), .slice (a 4) (m 4) (d 4), .slice (a 5) (m 5) (d 5)], .int .i64 0]) ∧ PF w (Pm.rulesX xs 0 Pm.p00) a m d V w' := by
  obtain ⟨h0, h1⟩ := mkAns_fine hk
  refine (PMake_ok v ts xs w ht h0 hx).mono fun e w' h => ?_
  obtain ⟨u, V, rfl, hb, base, gp, hg, hp⟩ := h.2 h1
  have hform : ∀ f, ∃ z : Option Addr × Nat × Nat, f < 6 → u f = .slice z.1 z.2.1 z.2.2 := fun f => by
    by_cases hf : f < 6
    · obtain ⟨a, m, c, e⟩ := own_form (hp.own f hf)
      exact ⟨(a, m, c), fun _ => e⟩
    · exact ⟨(none, 0, 0), fun h => absurd h hf⟩
  have hp2 : Pm base gp (fun f => .slice (Classical.choose (hform f)).1 (Classical.choose (hform f)).2.1 (Classical.choose (hform f)).2.2) V (Pm.rulesX xs 0 Pm.p00) w' := hp.congr fun f hf => (Classical.choose_spec (hform f) hf).symm
  have hsm := pos_small hx.few (by rw [hx.len]; exact (mkErr_len h0).2.1)
  refine ⟨fun f => (Classical.choose (hform f)).1, fun f => (Classical.choose (hform f)).2.1, fun f => (Classical.choose (hform f)).2.2, V, ?_, hb, ⟨base, gp, hg, hp2⟩, hp2.pn hsm.1 hsm.2⟩
  rw [Classical.choose_spec (hform 0) (by omega), Classical.choose_spec (hform 1) (by omega), Classical.choose_spec (hform 2) (by omega), Classical.choose_spec (hform 3) (by omega), Classical.choose_spec (hform 4) (by omega), Classical.choose_spec (hform 5) (by omega)]
end Go.Proofs.Ytlmlkpdppkgenaa
