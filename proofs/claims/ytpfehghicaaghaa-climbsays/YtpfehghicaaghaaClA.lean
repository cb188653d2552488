/-
  Rows of what is ahead of a climber, and of events, in memory. No function is walked here. The contracts of climb's lowest calls: copied, asItWas, broken, Begin. The contract of climb.isTodo.
-/
import Derived.Test.YtpfehghicaaghaaTrA
import Derived.Test.YtpfehghicaaghaaGrM
import Derived.Maps.AppendAt
import Derived.Laws.AppendOwnNone
import Derived.Test.YtpfehghicaaghaaWkA
import Derived.Deep.QuietTactic
namespace Go.Proofs.Ytpfehghicaaghaa
open Go.ChangeShapes Go.WideShapes Go.ChangeAt Go.RowKit
open Cg

theorem kcells49 : Try.prog.cellsOf 49 = 4 := by kernel_rfl
theorem kcells41 : Try.prog.cellsOf 41 = 1 := by kernel_rfl
theorem kcells43 : Try.prog.cellsOf 43 = 4 := by kernel_rfl
theorem kcells26 : Try.prog.cellsOf 26 = 1 := by kernel_rfl
theorem kcells4 : Try.prog.cellsOf 4 = 1 := by kernel_rfl
theorem kcells66 : Try.prog.cellsOf 66 = 2 := by kernel_rfl
theorem info49 : (Try.prog.info? 49).map (fun i => (i.zero, i.size, i.bytes)) = some (some (.agg #[.bool false, .int .i64 0, .int .i64 0, .int .i64 0]), 4, 32) := by kernel_rfl
theorem info66 : (Try.prog.info? 66).map (fun i => (i.zero, i.size, i.bytes)) = some (some (.agg #[.int .i64 0, .int .i64 0]), 2, 16) := by kernel_rfl

/-- A value is a slice of what is ahead, in the order of memory. -/
def Tds (w : World) (v : Value) (l : List Td) : Prop :=
  ∃ ao cap, v = .slice ao l.length cap ∧ (l.length ≤ 9223372036854775807 ∧ l.length ≤ cap ∧ (ao = none → cap = 0)) ∧ (l = [] ∨ ∃ b o, ao = some ⟨b, o, none⟩ ∧ b < w.heap.size ∧ ∀ i (hi : i < l.length), w.cell? ⟨b, o + i * 4, none⟩ = some (.bool l[i].1) ∧ w.cell? ⟨b, o + i * 4 + 1, none⟩ = some (.int .i64 l[i].2.1) ∧ w.cell? ⟨b, o + i * 4 + 2, none⟩ = some (.int .i64 l[i].2.2.1) ∧ w.cell? ⟨b, o + i * 4 + 3, none⟩ = some (.int .i64 l[i].2.2.2))
theorem Tds.below {w w' : World} {v : Value} {l : List Td} (h : Tds w v l) (hb : Below w.heap.size w w') : Tds w' v l := by
  obtain ⟨ao, cap, hv, hm, h | ⟨b, o, h1, h2, h3⟩⟩ := h
  · exact ⟨ao, cap, hv, hm, Or.inl h⟩
  · exact ⟨ao, cap, hv, hm, Or.inr ⟨b, o, h1, Nat.lt_of_lt_of_le h2 hb.size, fun i hi => ⟨(hb.cell (p := ⟨b, o + i * 4, none⟩) h2).trans (h3 i hi).1, (hb.cell (p := ⟨b, o + i * 4 + 1, none⟩) h2).trans (h3 i hi).2.1, (hb.cell (p := ⟨b, o + i * 4 + 2, none⟩) h2).trans (h3 i hi).2.2.1, (hb.cell (p := ⟨b, o + i * 4 + 3, none⟩) h2).trans (h3 i hi).2.2.2⟩⟩⟩
theorem tds_nil (w : World) : Tds w (.slice none 0 0) [] := ⟨none, 0, rfl, by simp, Or.inl rfl⟩
def tcd (l : List Td) : List Value := l.flatMap fun x => [.bool x.1, .int .i64 x.2.1, .int .i64 x.2.2.1, .int .i64 x.2.2.2]
theorem tcd_append (a b : List Td) : tcd (a ++ b) = tcd a ++ tcd b := by simp [tcd]
theorem tcd_length (a : List Td) : (tcd a).length = a.length * 4 := by
  induction a with
  | nil => rfl
  | cons e l ih => simp only [tcd, List.flatMap_cons, List.length_append, List.length_cons, List.length_nil] at ih ⊢; omega
theorem tcd_at : ∀ (l : List Td) i (hi : i < l.length), (tcd l)[i * 4]? = some (.bool l[i].1) ∧ (tcd l)[i * 4 + 1]? = some (.int .i64 l[i].2.1) ∧ (tcd l)[i * 4 + 2]? = some (.int .i64 l[i].2.2.1) ∧ (tcd l)[i * 4 + 3]? = some (.int .i64 l[i].2.2.2)
  | e :: l, 0, hi => ⟨rfl, rfl, rfl, rfl⟩
  | e :: l, i + 1, hi => by
    have := tcd_at l i (by simpa using hi)
    rw [show (i + 1) * 4 = i * 4 + 4 by omega]
    simpa [tcd] using this
theorem tcd_one (l : List Td) : ∀ u ∈ tcd l, u.oneCell' = true := by
  intro u hu
  simp only [tcd, List.mem_flatMap, List.mem_cons, List.not_mem_nil, or_false] at hu
  obtain ⟨e, -, rfl | rfl | rfl | rfl⟩ := hu <;> rfl
theorem tcd_take : ∀ (l : List Td) (f : Nat), tcd (l.take f) = (tcd l).take (f * 4)
  | [], f => by simp [tcd]
  | e :: l, 0 => by simp [tcd]
  | e :: l, f + 1 => by
    have := tcd_take l f
    rw [show (f + 1) * 4 = f * 4 + 4 by omega]
    simp only [tcd, List.take_succ_cons, List.flatMap_cons] at this ⊢
    rw [this]; rfl
theorem tcd_key {w : World} {base g c : Nat} {n : Nat} {l : List Td} (h : w.ownsRow base 49 4 (.slice (some ⟨g, 0, none⟩) n c) n (tcd l)) : ∀ j, j < n * 4 → w.cell? ⟨g, 0 + j, none⟩ = (tcd l)[j]? := by
  obtain ⟨hl, ⟨h1, h2⟩ | ⟨g', cap, cur, hv, hg, hh, hn, hc, hs, ht⟩⟩ := h
  · simp at h1
  · simp only [Value.slice.injEq, Option.some.injEq, Addr.mk.injEq] at hv
    obtain ⟨⟨rfl, -, -⟩, -, rfl⟩ := hv
    intro j hj
    have e : w.cell? ⟨g, 0 + j, none⟩ = cur[j]? := by simp [World.cell?, hh]
    rw [e]
    have h2 : (cur.toList.take (n * 4))[j]? = (tcd l)[j]? := by rw [ht]
    rw [List.getElem?_take_of_lt hj] at h2
    rw [← h2]; simp
theorem tds_of_own {w : World} {base : Nat} {v : Value} {l : List Td} (h : w.ownsRow base 49 4 v l.length (tcd l)) (hm : l.length ≤ 9223372036854775807) : Tds w v l := by
  have hk := h
  obtain ⟨hl, ⟨h1, h2⟩ | ⟨g, cap, cur, hv, hg, hh, hn, hc, hs, ht⟩⟩ := h
  · exact ⟨none, 0, by rw [h1, h2], ⟨hm, by omega, fun _ => rfl⟩, Or.inl (List.length_eq_zero_iff.1 h2)⟩
  · subst hv
    have key := tcd_key hk
    refine ⟨some ⟨g, 0, none⟩, cap, rfl, ⟨hm, hn, fun e => by simp at e⟩, Or.inr ⟨g, 0, rfl, heap_lt3 hh, fun i hi => ?_⟩⟩
    have h3 := tcd_at l i hi
    exact ⟨(key (i * 4) (by omega)).trans h3.1, (key (i * 4 + 1) (by omega)).trans h3.2.1, (key (i * 4 + 2) (by omega)).trans h3.2.2.1, (key (i * 4 + 3) (by omega)).trans h3.2.2.2⟩

/-- A value is a slice of these events. -/
def Evs (w : World) (v : Value) (l : List Ev) : Prop :=
  ∃ ao cap, v = .slice ao l.length cap ∧ l.length ≤ 9223372036854775807 ∧ (l = [] ∨ ∃ b o, ao = some ⟨b, o, none⟩ ∧ b < w.heap.size ∧ ∀ i (hi : i < l.length), w.cell? ⟨b, o + i * 2, none⟩ = some (.int .i64 l[i].1) ∧ w.cell? ⟨b, o + i * 2 + 1, none⟩ = some (.int .i64 l[i].2))
theorem Evs.below {w w' : World} {v : Value} {l : List Ev} (h : Evs w v l) (hb : Below w.heap.size w w') : Evs w' v l := by
  obtain ⟨ao, cap, hv, hm, h | ⟨b, o, h1, h2, h3⟩⟩ := h
  · exact ⟨ao, cap, hv, hm, Or.inl h⟩
  · exact ⟨ao, cap, hv, hm, Or.inr ⟨b, o, h1, Nat.lt_of_lt_of_le h2 hb.size, fun i hi => ⟨(hb.cell (p := ⟨b, o + i * 2, none⟩) h2).trans (h3 i hi).1, (hb.cell (p := ⟨b, o + i * 2 + 1, none⟩) h2).trans (h3 i hi).2⟩⟩⟩
theorem evs_nil (w : World) : Evs w (.slice none 0 0) [] := ⟨none, 0, rfl, by simp, Or.inl rfl⟩
def ecs (l : List Ev) : List Value := l.flatMap fun e => [.int .i64 e.1, .int .i64 e.2]
theorem ecs_append (a b : List Ev) : ecs (a ++ b) = ecs a ++ ecs b := by simp [ecs]
theorem ecs_length (a : List Ev) : (ecs a).length = a.length * 2 := by
  induction a with
  | nil => rfl
  | cons e l ih => simp only [ecs, List.flatMap_cons, List.length_append, List.length_cons, List.length_nil] at ih ⊢; omega
theorem ecs_at : ∀ (l : List Ev) i (hi : i < l.length), (ecs l)[i * 2]? = some (.int .i64 l[i].1) ∧ (ecs l)[i * 2 + 1]? = some (.int .i64 l[i].2)
  | e :: l, 0, hi => ⟨rfl, rfl⟩
  | e :: l, i + 1, hi => by
    have := ecs_at l i (by simpa using hi)
    rw [show (i + 1) * 2 = i * 2 + 2 by omega]
    simpa [ecs] using this
theorem ecs_one (l : List Ev) : ∀ u ∈ ecs l, u.oneCell' = true := by
  intro u hu
  simp only [ecs, List.mem_flatMap, List.mem_cons, List.not_mem_nil, or_false] at hu
  obtain ⟨e, -, rfl | rfl⟩ := hu <;> rfl
theorem evs_of_own {w : World} {base : Nat} {v : Value} {l : List Ev} (h : w.ownsRow base 66 2 v l.length (ecs l)) (hm : l.length ≤ 9223372036854775807) : Evs w v l := by
  obtain ⟨hl, ⟨h1, h2⟩ | ⟨g, cap, cur, hv, hg, hh, hn, hc, hs, ht⟩⟩ := h
  · exact ⟨none, 0, by rw [h1, h2], hm, Or.inl (List.length_eq_zero_iff.1 h2)⟩
  · have key : ∀ j, j < l.length * 2 → w.cell? ⟨g, 0 + j, none⟩ = (ecs l)[j]? := fun j hj => by
      have e : w.cell? ⟨g, 0 + j, none⟩ = cur[j]? := by simp [World.cell?, hh]
      rw [e]
      have h2 : (cur.toList.take (l.length * 2))[j]? = (ecs l)[j]? := by rw [ht]
      rw [List.getElem?_take_of_lt hj] at h2
      rw [← h2]; simp
    refine ⟨some ⟨g, 0, none⟩, cap, hv, hm, Or.inr ⟨g, 0, rfl, heap_lt3 hh, fun i hi => ?_⟩⟩
    have h3 := ecs_at l i hi
    exact ⟨(key (i * 2) (by omega)).trans h3.1, (key (i * 2 + 1) (by omega)).trans h3.2⟩

/-- The cells of another slice: none, or these. -/
def Oth (W : World) (xo : Option Addr) (m mc : Nat) (ys : List Value) : Prop := (xo = none → m = 0 ∧ mc = 0) ∧ (ys ≠ [] → ∃ b o, xo = some ⟨b, o, none⟩ ∧ ∀ j u, ys[j]? = some u → W.cell? ⟨b, o + j, none⟩ = some u)
theorem grown_refl (W : World) (q : Option Nat) : W.grownBy W q := ⟨rfl, rfl, rfl, Nat.le_refl _, fun _ _ _ => rfl⟩
theorem append_any {W : World} {base : Nat} (t e : TypeId) (i : TypeInfo) (z : Value) (size bytes : Nat) (ht : Try.prog.underlying t = some (.slice e)) (hi : Try.prog.info? e = some i) (hz : i.zero = some z) (hsize : i.size = size) (hby : i.bytes = bytes) (hzs : z.cells.size = size) (hsz : 0 < size)
    (v : Value) (n : Nat) (xs : List Value) (hown : W.ownsRow base e size v n xs) (xo : Option Addr) (m mc : Nat) (ys : List Value) (hl : ys.length = m * size) (hoth : Oth W xo m mc ys) (h1 : ∀ u ∈ ys, u.oneCell' = true) (hsm : n + m ≤ 9223372036854775807) (hbytes : (n + m) * bytes ≤ 140737488355328) (hb : base ≤ W.heap.size) :
    ∃ ra rc W', (Builtin.append_ #[t, t] t #[v, .slice xo m mc]).run Try.prog W = .ok (.slice ra (n + m) rc) W' ∧ W'.ownsRow base e size (.slice ra (n + m) rc) (n + m) (xs ++ ys) ∧ W.grownBy W' v.ownBlock ∧ (Value.ownBlock (.slice ra (n + m) rc) = v.ownBlock ∨ Value.ownBlock (.slice ra (n + m) rc) = some W.heap.size) := by
  have shape : ∀ {v' : Value} {W' : World} {k : Nat} {us : List Value}, W'.ownsRow base e size v' k us → ∃ ra rc, v' = .slice ra k rc := fun {v' W' k us} h => by
    rcases h.2 with ⟨rfl, rfl⟩ | ⟨g, cap, cur, rfl, -⟩
    · exact ⟨_, _, rfl⟩
    · exact ⟨_, _, rfl⟩
  cases xo with
  | none =>
    obtain ⟨rfl, rfl⟩ := hoth.1 rfl
    obtain ⟨ra, rc, rfl⟩ := shape hown
    have hy : ys = [] := List.length_eq_zero_iff.1 (by rw [hl]; simp)
    subst hy
    exact ⟨ra, rc, W, run_append_owned_none (P := Try.prog) (w := W) base t t e i size ht hi _ n xs hown, by simpa using hown, grown_refl _ _, Or.inl rfl⟩
  | some ad =>
    obtain ⟨v', W', k1, k2, k3, -, k5⟩ := run_append_own_at (P := Try.prog) W base t t e i z size bytes ht hi hz hsize hby hzs hsz v n xs hown ad m mc ys hl (fun j u hu => by
      have hne : ys ≠ [] := fun e => by subst e; simp at hu
      obtain ⟨b, o, e1, e2⟩ := hoth.2 hne
      simp only [Option.some.injEq] at e1
      subst e1
      rw [Addr.add_lit]; exact e2 j u hu) h1 (by unfold maxLen; omega) hbytes hb
    obtain ⟨ra, rc, rfl⟩ := shape k2
    exact ⟨ra, rc, W', k1, k2, k3, k5⟩
theorem Oth.own {W : World} {base : Nat} {e : TypeId} {size : Nat} {xo : Option Addr} {m mc : Nat} {ys : List Value} (h : W.ownsRow base e size (.slice xo m mc) m ys) : Oth W xo m mc ys := by
  obtain ⟨hl, ⟨h1, h2⟩ | ⟨g, cap, cur, hv, hg, hh, hn, hc, hs, ht⟩⟩ := h
  · simp only [Value.slice.injEq] at h1
    refine ⟨fun _ => ⟨h1.2.1, h1.2.2⟩, fun hne => absurd (List.length_eq_zero_iff.1 (by rw [hl, h2]; simp)) hne⟩
  · simp only [Value.slice.injEq] at hv
    obtain ⟨rfl, -, rfl⟩ := hv
    refine ⟨fun h => (by cases h), fun _ => ⟨g, 0, rfl, fun j u hu => ?_⟩⟩
    have e1 : W.cell? ⟨g, 0 + j, none⟩ = cur[j]? := by simp [World.cell?, hh]
    have hj : j < m * size := by rw [← hl]; exact (List.getElem?_eq_some_iff.1 hu).1
    rw [e1, ← hu, ← ht, List.getElem?_take_of_lt hj]; simp
theorem Oth.tds {W : World} {ao : Option Addr} {cap : Nat} {l : List Td} (h : Tds W (.slice ao l.length cap) l) : Oth W ao l.length cap (tcd l) := by
  obtain ⟨a, c, e, ⟨h1, h2, h3⟩, h4⟩ := h
  simp only [Value.slice.injEq] at e
  obtain ⟨rfl, -, rfl⟩ := e
  refine ⟨fun e => ⟨by have := h3 e; omega, h3 e⟩, fun hne => ?_⟩
  have hl : l ≠ [] := fun e => by subst e; exact hne rfl
  obtain ⟨b, o, rfl, h5, h6⟩ := h4.resolve_left hl
  refine ⟨b, o, rfl, fun j u hu => ?_⟩
  have hj : j < l.length * 4 := by rw [← tcd_length]; exact (List.getElem?_eq_some_iff.1 hu).1
  have ha := tcd_at l (j / 4) (by omega)
  have hb := h6 (j / 4) (by omega)
  have hq : j = j / 4 * 4 + j % 4 := by omega
  rcases (show j % 4 = 0 ∨ j % 4 = 1 ∨ j % 4 = 2 ∨ j % 4 = 3 by omega) with e | e | e | e
  · rw [e] at hq; rw [hq, Nat.add_zero] at hu ⊢; rw [ha.1] at hu; rw [← hu]; exact hb.1
  · rw [e] at hq; rw [hq] at hu ⊢; rw [ha.2.1] at hu; rw [← hu]; exact hb.2.1
  · rw [e] at hq; rw [hq] at hu ⊢; rw [ha.2.2.1] at hu; rw [← hu]; exact hb.2.2.1
  · rw [e] at hq; rw [hq] at hu ⊢; rw [ha.2.2.2] at hu; rw [← hu]; exact hb.2.2.2
def Z49 (t : Nat) : Prop := t = 49
def Z66 (t : Nat) : Prop := t = 66
/-- A row of one's own of what is ahead. -/
structure Dq (w0 : World) (lv : Value) (l : List Td) (W : World) : Prop where
  own : W.ownsRow w0.heap.size 49 4 lv l.length (tcd l)
  bel : Below w0.heap.size w0 W
theorem Dq.next {w0 : World} {lv : Value} {l : List Td} {W W' : World} (h : Dq w0 lv l W) (hb : Below W.heap.size W W') : Dq w0 lv l W' := ⟨own_below h.own hb, h.bel.trans (hb.mono h.bel.size)⟩
theorem Dq.nil (w0 : World) {W : World} (h : Below w0.heap.size w0 W) : Dq w0 (.slice none 0 0) [] W := ⟨World.ownsRow_nil _ _ _ _, h⟩
theorem Dq.grow {w0 : World} {lv : Value} {l : List Td} {W V : World} {x : Td} {rv : Value} {o : Obj} (h : Dq w0 lv l W) (hg : (W.alloc o).grownBy V lv.ownBlock) (ho : V.ownsRow w0.heap.size 49 4 rv (l.length + 1) (tcd l ++ [.bool x.1, .int .i64 x.2.1, .int .i64 x.2.2.1, .int .i64 x.2.2.2])) : Dq w0 rv (l ++ [x]) V ∧ Fy Z49 W V := by
  have h' := h.next (below_alloc W o)
  have hbv : Below w0.heap.size w0 V := h'.bel.trans ⟨hg.os, hg.tape, hg.output, hg.size, fun k hk => hg.block k (by have := h'.bel.size; omega) fun e => by have := own_ge h'.own k e.symm; omega⟩
  refine ⟨⟨?_, hbv⟩, (Fy.of (below_alloc W o)).trans (Fy.grown h'.own rfl hg)⟩
  rw [List.length_append, tcd_append]
  exact ho
/-- A row of events of one's own. -/
structure Dn (w0 : World) (lv : Value) (l : List Ev) (W : World) : Prop where
  own : W.ownsRow w0.heap.size 66 2 lv l.length (ecs l)
  bel : Below w0.heap.size w0 W
theorem Dn.next {w0 : World} {lv : Value} {l : List Ev} {W W' : World} (h : Dn w0 lv l W) (hb : Below W.heap.size W W') : Dn w0 lv l W' := ⟨own_below h.own hb, h.bel.trans (hb.mono h.bel.size)⟩
theorem Dn.nil (w0 : World) {W : World} (h : Below w0.heap.size w0 W) : Dn w0 (.slice none 0 0) [] W := ⟨World.ownsRow_nil _ _ _ _, h⟩
theorem Dn.grow {w0 : World} {lv : Value} {l : List Ev} {W V : World} {x : Ev} {rv : Value} {o : Obj} (h : Dn w0 lv l W) (hg : (W.alloc o).grownBy V lv.ownBlock) (ho : V.ownsRow w0.heap.size 66 2 rv (l.length + 1) (ecs l ++ [.int .i64 x.1, .int .i64 x.2])) : Dn w0 rv (l ++ [x]) V ∧ Fy Z66 W V := by
  have h' := h.next (below_alloc W o)
  have hbv : Below w0.heap.size w0 V := h'.bel.trans ⟨hg.os, hg.tape, hg.output, hg.size, fun k hk => hg.block k (by have := h'.bel.size; omega) fun e => by have := own_ge h'.own k e.symm; omega⟩
  refine ⟨⟨?_, hbv⟩, (Fy.of (below_alloc W o)).trans (Fy.grown h'.own rfl hg)⟩
  rw [List.length_append, ecs_append]
  exact ho
/-- The last one is cut off. -/
theorem own_cut {W : World} {B : Nat} {a : Option Addr} {n c : Nat} {l : List Td} {x : Td} (h : W.ownsRow B 49 4 (.slice a (n + 1) c) (n + 1) (tcd (l ++ [x]))) (hn : l.length = n) : W.ownsRow B 49 4 (.slice a n c) n (tcd l) := by
  obtain ⟨h1, ⟨h2, h3⟩ | ⟨g, cap, cur, hv, hg, hh, hn', hc, hs, ht⟩⟩ := h
  · omega
  · simp only [Value.slice.injEq] at hv
    obtain ⟨rfl, -, rfl⟩ := hv
    refine ⟨by rw [tcd_length]; omega, Or.inr ⟨g, c, cur, rfl, hg, hh, by omega, hc, hs, ?_⟩⟩
    have e : tcd l = (tcd (l ++ [x])).take (n * 4) := by rw [← tcd_take, ← hn, List.take_left]
    rw [e, ← ht, List.take_take, Nat.min_eq_left (by omega)]
variable {H : Type} {enc : TypeId × Value → H}
set_option maxRecDepth 20000 in
theorem open_tds_cells {W : World} {fuel : Nat} {cs : List Value} {y : DataW H × List MemPlace} (hf : DataW.trod enc Try.prog W 0 (fun _ => true) true fuel 41 cs = some y) : ∃ v l, cs = [v] ∧ Tds W v l := by
  have hf0 := hf
  rcases Go.Deep.open_slice Try.underlying41 hf0 with ⟨hcs, -⟩ | ⟨a', len', cap', m, n, D, Pl, hcs0, -⟩
  · exact ⟨_, [], hcs, none, 0, rfl, by simp, Or.inl rfl⟩
  · obtain ⟨ao, n, cap, rfl, hm, h⟩ := open_seq Try.underlying41 kcells49 (by omega) hf
    simp only [List.cons.injEq, Value.slice.injEq, and_true] at hcs0
    obtain ⟨rfl, -, -⟩ := hcs0
    rcases h with h | ⟨b, o, h1, h2, h3⟩
    · exact ⟨_, [], rfl, some a', cap, by rw [h]; rfl, by simp, Or.inl rfl⟩
    · obtain ⟨l, g1, g2⟩ := list_of n (fun i (z : Td) => W.cell? ⟨b, o + i * 4, none⟩ = some (.bool z.1) ∧ W.cell? ⟨b, o + i * 4 + 1, none⟩ = some (.int .i64 z.2.1) ∧ W.cell? ⟨b, o + i * 4 + 2, none⟩ = some (.int .i64 z.2.2.1) ∧ W.cell? ⟨b, o + i * 4 + 3, none⟩ = some (.int .i64 z.2.2.2)) fun i hi => by
        obtain ⟨fu, cs', y', k1, k2, k3⟩ := h3 i hi
        obtain ⟨xs, n', hn, _, hl, hxl, hf'⟩ := DataW.trod_struct Try.underlying49 k3
        match cs', k2 with
        | [x0, x1, x2, x3], _ =>
          match xs, hxl with
          | [y0, y1, y2], _ =>
            have f0 := hf' 0 _ rfl
            have f1 := hf' 1 _ rfl
            have f2 := hf' 2 _ rfl
            simp [kcells3, kcells4, kcells47] at f0 f1 f2
            obtain ⟨z0, e0, _⟩ := DataW.trod_bool Try.underlying4 f0
            obtain ⟨z1, e1, _, _⟩ := DataW.trod_int Try.underlying3 f1
            obtain ⟨ys, m', hm', _, hl2, hyl, hf2⟩ := DataW.trod_struct Try.underlying47 f2
            match ys, hyl with
            | [u0, u1], _ =>
              have g0 := hf2 0 _ rfl
              have g1 := hf2 1 _ rfl
              simp [kcells3] at g0 g1
              obtain ⟨z2, e2, _, _⟩ := DataW.trod_int Try.underlying3 g0
              obtain ⟨z3, e3, _, _⟩ := DataW.trod_int Try.underlying3 g1
              simp at e0 e1 e2 e3
              subst e0 e1 e2 e3
              exact ⟨(z0, z1, z2, z3), by simpa using k1 0 (by omega), by simpa using k1 1 (by omega), by simpa using k1 2 (by omega), by simpa using k1 3 (by omega)⟩
      exact ⟨_, l, rfl, some a', cap, by rw [g1], by simp; omega, Or.inr ⟨b, o, h1, h2, g2⟩⟩
end Go.Proofs.Ytpfehghicaaghaa

namespace Go.Proofs.Ytpfehghicaaghaa
open Go.RowKit
open Cg

theorem wpList_append_run {P : Program} {ops : Array Oper} {rest : List Oper} {o : Oper} {a : Act} {Q : Exit → Act → World → Prop} {W W1 : World} {v : Value} (hgd : o.guard = none) (s x : Operand) (t : TypeId)
    (ho : o.op = .call { callee := .builtin .append, args := #[s, x], argTypes := #[t, t] }) (sv xv : Value)
    (hs : a.eval s = sv) (hx : a.eval x = xv) (hr : (Builtin.append_ #[t, t] o.type #[sv, xv]).run P W = .ok v W1) (h : wpList P ops Q rest (a.put o.dst v) W1) : wpList P ops Q (o :: rest) a W :=
  wpList_plain hgd fun _ hK => by
    unfold Oper.wp execOp
    simp only [ho, resolve, invoke, builtin, Sem.run_bind, Sem.run_pure, Result.andThen_ok, List.map_toArray, List.map_cons, List.map_nil, hs, hx, hr]
    exact hK _ _ h
theorem grown_nil {w V : World} (hg : w.grownBy V (Value.ownBlock (.slice none 0 0))) : Below w.heap.size w V :=
  ⟨hg.os, hg.tape, hg.output, hg.size, fun k hk => hg.block k hk fun e => by simp [Value.ownBlock] at e⟩
def set4 (W : World) (g : Nat) (x y z u : Value) : World := (((W.setCell ⟨g, 0, none⟩ x).setCell ⟨g, 1, none⟩ y).setCell ⟨g, 2, none⟩ z).setCell ⟨g, 3, none⟩ u
theorem set4_eq (W : World) (g : Nat) (x y z u : Value) : set4 W g x y z u = (((W.setCell ⟨g, 0, none⟩ x).setCell ⟨g, 1, none⟩ y).setCell ⟨g, 2, none⟩ z).setCell ⟨g, 3, none⟩ u := rfl
theorem set4_blk {W : World} {g : Nat} {ty : TypeId} {a b c d : Value} (h : W.heap[g]? = some (.cells #[a, b, c, d] ty)) (x y z u : Value) : (set4 W g x y z u).heap[g]? = some (.cells #[x, y, z, u] ty) := by
  have h1 := tblock_store (i := 0) h x
  have h2 := tblock_store (i := 1) h1 y
  have h3 := tblock_store (i := 2) h2 z
  have h4 := tblock_store (i := 3) h3 u
  rw [set4_eq]
  simpa using h4
theorem set4_bel {w W : World} {g : Nat} {x y z u : Value} {B : Nat} (h : Below B w W) (hg : B ≤ g) : Below B w (set4 W g x y z u) := (((h.setCell hg x).setCell hg y).setCell hg z).setCell hg u
theorem set4_other {W : World} {g k : Nat} {x y z u : Value} (hk : k ≠ g) : (set4 W g x y z u).heap[k]? = W.heap[k]? := by
  unfold set4
  rw [Below.heap_setCell _ _ _ _ (by simpa using hk), Below.heap_setCell _ _ _ _ (by simpa using hk), Below.heap_setCell _ _ _ _ (by simpa using hk), Below.heap_setCell _ _ _ _ (by simpa using hk)]
theorem bel_set {w W : World} {B g : Nat} (h : Below B w W) (hg : B ≤ g) (i : Nat) (v : Value) : Below B w (W.setCell ⟨g, i, none⟩ v) := h.setCell hg v
theorem own_new {W : World} {B g n : Nat} {e size : Nat} {cur : Array Value} (h : W.heap[g]? = some (.cells cur e (0, 0))) (hg : B ≤ g) (hn : n ≤ 1000000) (hs : cur.size = n * size) : W.ownsRow B e size (.slice (some ⟨g, 0, none⟩) n n) n cur.toList :=
  ⟨by simpa using hs, Or.inr ⟨g, n, cur, rfl, hg, h, Nat.le_refl _, by unfold maxLen; omega, hs, List.take_of_length_le (by simp [hs])⟩⟩
theorem own_less {w : World} {base base' e size n : Nat} {v : Value} {xs : List Value} (h : w.ownsRow base e size v n xs) (hb : base' ≤ base) : w.ownsRow base' e size v n xs :=
  ⟨h.1, h.2.imp id fun ⟨g, cap, cur, h1, h2, h3⟩ => ⟨g, cap, cur, h1, Nat.le_trans hb h2, h3⟩⟩
theorem own_ne {w : World} {base e size n g : Nat} {v : Value} {xs : List Value} (h : w.ownsRow base e size v n xs) (hg : g < base) : ∀ b, v.ownBlock = some b → b ≠ g := fun b hb e => by have := own_ge h b hb; omega
set_option maxHeartbeats 1600000 in
set_option maxRecDepth 20000 in
theorem copied_any (v : Value) (l : List Td) (w : World) (h : Tds w v l) (hl : l.length ≤ 4398046511104) :
    Calls Try.prog 76 #[v] w fun e w' => ∃ ra rn rc, e = .returned (.slice ra rn rc) ∧ Dq w (.slice ra rn rc) l w' := by
  have H0 := h
  obtain ⟨ao, cap, rfl, hm, -⟩ := h
  obtain ⟨i1, hi1, hy0, hy1, hy2⟩ := info_parts info49
  obtain ⟨ra, rc, V, k1, k2, k3, -⟩ := append_any (W := w) (base := w.heap.size) 41 49 i1 _ 4 32 Try.underlying41 hi1 hy0 hy1 hy2 rfl (by decide) (.slice none 0 0) 0 [] (World.ownsRow_nil _ _ _ _) ao l.length cap (tcd l) (tcd_length l) (Oth.tds H0) (tcd_one l) (by omega) (by omega) (Nat.le_refl _)
  have HFIN : Hid (Dq w (.slice ra l.length rc) l V) := by
    rw [Nat.zero_add, List.nil_append] at k2
    exact ⟨k2, grown_nil k3⟩
  have k1' : (Builtin.append_ #[41, 41] 41 #[.slice none 0 0, .slice ao l.length cap]).run Try.prog w = .ok (.slice ra l.length rc) V := by rw [k1, Nat.zero_add]
  clear k2 k3 k1 H0 hi1 hy0 hy1 hy2
  go_enter Try.func76, Try.ntmps76
  go_wp2_with (at_builtin; refine wpList_append_run rfl _ _ 41 rfl _ _ rfl rfl k1' ?_)
  go_ret
  exact ⟨_, _, _, rfl, HFIN.out⟩
set_option maxHeartbeats 3200000 in
set_option maxRecDepth 20000 in
theorem asItWas_any (v : Value) (l : List Td) (sn ov : Int) (dn : Bool) (w : World) (h : Tds w v l) (hl : l.length ≤ 4398046511104) :
    Calls Try.prog 47 #[.agg #[v, .int .i64 sn, .int .i64 ov, .bool dn]] w fun e w' => ∃ ra rn rc, e = .returned (.agg #[.slice ra rn rc, .int .i64 sn, .int .i64 ov, .bool dn]) ∧ Dq w (.slice ra rn rc) l w' := by
  have H0 : Hid (Tds w v l) := h
  obtain ⟨ao, cap, rfl, hm, -⟩ := h
  have B2 := (below_alloc w (Obj.cells #[.slice ao l.length cap, .int .i64 sn, .int .i64 ov, .bool dn] 43)).trans ((below_alloc _ (Obj.cells #[.slice none 0 0, .int .i64 0, .int .i64 0, .bool false] 43)).mono (by simp))
  have BN := heap_alloc2_new w (Obj.cells #[.slice ao l.length cap, .int .i64 sn, .int .i64 ov, .bool dn] 43) (Obj.cells #[.slice none 0 0, .int .i64 0, .int .i64 0, .bool false] 43)
  have BG : ((w.alloc (Obj.cells #[.slice ao l.length cap, .int .i64 sn, .int .i64 ov, .bool dn] 43)).alloc (Obj.cells #[.slice none 0 0, .int .i64 0, .int .i64 0, .bool false] 43)).heap[w.heap.size]? = some (.cells #[.slice ao l.length cap, .int .i64 sn, .int .i64 ov, .bool dn] 43) := ((below_alloc _ _).block _ (by simp)).trans (heap_alloc_new _ _)
  have HS : Hid (((w.alloc (Obj.cells #[.slice ao l.length cap, .int .i64 sn, .int .i64 ov, .bool dn] 43)).alloc (Obj.cells #[.slice none 0 0, .int .i64 0, .int .i64 0, .bool false] 43)).heap.size = w.heap.size + 2) := by show _ = _; simp
  have hcall := copied_any _ l ((w.alloc (Obj.cells #[.slice ao l.length cap, .int .i64 sn, .int .i64 ov, .bool dn] 43)).alloc (Obj.cells #[.slice none 0 0, .int .i64 0, .int .i64 0, .bool false] 43)) (H0.out.below B2) hl
  have q0 := tcell_blk BG 0
  have q1 := tcell_blk BG 1
  have q2 := tcell_blk BG 2
  have q3 := tcell_blk BG 3
  simp only [List.getElem?_toArray, List.getElem?_cons_zero, List.getElem?_cons_succ] at q0 q1 q2 q3
  go_enter Try.func47, Try.ntmps47
  go_upto_region 1 with fail
  obtain ⟨w2, HW2⟩ : ∃ w2, Hid ((w.alloc (Obj.cells #[.slice ao l.length cap, .int .i64 sn, .int .i64 ov, .bool dn] 43)).alloc (Obj.cells #[.slice none 0 0, .int .i64 0, .int .i64 0, .bool false] 43) = w2) := ⟨_, rfl⟩
  have HB2 : Hid (Below w.heap.size w w2 ∧ w2.heap[w.heap.size + 1]? = some (.cells #[.slice none 0 0, .int .i64 0, .int .i64 0, .bool false] 43) ∧ w2.heap[w.heap.size]? = some (.cells #[.slice ao l.length cap, .int .i64 sn, .int .i64 ov, .bool dn] 43) ∧ w2.heap.size = w.heap.size + 2) := by rw [← HW2.out]; exact ⟨B2, BN, BG, HS.out⟩
  rw [HW2.out] at hcall q0 q1 q2 q3 ⊢
  clear B2 BN BG HW2 HS
  obtain ⟨g, HG⟩ : ∃ g, Hid (w.heap.size = g) := ⟨_, (rfl : w.heap.size = w.heap.size)⟩
  rw [HG.out] at HB2 q0 q1 q2 q3 ⊢
  go_wp2_with fail
  refine hcall.mono ?_
  rintro _ w3 ⟨ra, rn, rc, rfl, hd⟩
  have HD : Hid (Dq w2 (.slice ra rn rc) l w3) := hd
  have b0 := (hd.bel.block g (by have := HB2.out.2.2.2; omega)).trans HB2.out.2.2.1
  have b1 := (hd.bel.block (g + 1) (by have := HB2.out.2.2.2; omega)).trans HB2.out.2.1
  clear hd hcall q0 q1 q2 q3
  have p0 := tfrozen_blk b0 0
  have q0 := tcell_blk b0 0
  simp only [List.getElem?_toArray, List.getElem?_cons_zero] at q0
  go_upto_region 2 with fail
  have c0 := tblock_store (i := 0) b0 (.slice ra rn rc)
  have c1 : (w3.setCell ⟨g, 0, none⟩ (.slice ra rn rc)).heap[g + 1]? = _ := (Below.heap_setCell _ _ _ _ (by simp)).trans b1
  simp only [List.setIfInBounds_toArray, List.set_cons_zero] at c0
  have HB4 : Hid (Below g w2 (w3.setCell ⟨g, 0, none⟩ (.slice ra rn rc))) := by show Below g w2 _; exact bel_set (HD.out.bel.mono (by have := HB2.out.2.2.2; omega)) (Nat.le_refl g) _ _
  have HO4 : Hid ((w3.setCell ⟨g, 0, none⟩ (.slice ra rn rc)).ownsRow w2.heap.size 49 4 (.slice ra rn rc) l.length (tcd l)) := town_keep HD.out.own fun b hb => Below.heap_setCell _ _ _ _ (by simpa using own_ne HD.out.own (g := g) (by have := HB2.out.2.2.2; omega) b hb)
  generalize w3.setCell ⟨g, 0, none⟩ (.slice ra rn rc) = w4 at c0 c1 HB4 HO4 ⊢
  clear q0 p0 b0 b1
  have q0 := tcell_blk c0 0
  have q1 := tcell_blk c0 1
  have q2 := tcell_blk c0 2
  have q3 := tcell_blk c0 3
  have p0 := tcell_blk c1 0
  have p1 := tcell_blk c1 1
  have p2 := tcell_blk c1 2
  have p3 := tcell_blk c1 3
  have f0 := tfrozen_blk c1 0
  have f1 := tfrozen_blk c1 1
  have f2 := tfrozen_blk c1 2
  have f3 := tfrozen_blk c1 3
  simp only [List.getElem?_toArray, List.getElem?_cons_zero, List.getElem?_cons_succ] at q0 q1 q2 q3 p0 p1 p2 p3
  go_wp2_with fail
  rw [← set4_eq]
  have z := set4_blk c1 (.slice ra rn rc) (.int .i64 sn) (.int .i64 ov) (.bool dn)
  have z0 := tcell_blk z 0
  have z1 := tcell_blk z 1
  have z2 := tcell_blk z 2
  have z3 := tcell_blk z 3
  simp only [List.getElem?_toArray, List.getElem?_cons_zero, List.getElem?_cons_succ] at z0 z1 z2 z3
  have HFIN : Hid (Dq w (.slice ra rn rc) l (set4 w4 (g + 1) (.slice ra rn rc) (.int .i64 sn) (.int .i64 ov) (.bool dn))) := by
    refine ⟨?_, ?_⟩
    · have := town_keep (w' := set4 w4 (g + 1) (.slice ra rn rc) (.int .i64 sn) (.int .i64 ov) (.bool dn)) HO4.out fun b hb => set4_other (own_ne HO4.out (by have := HB2.out.2.2.2; omega) b hb)
      exact own_less this (by have := HB2.out.2.2.2; have := HG.out; omega)
    · have := HB4.out
      rw [← HG.out] at this ⊢
      exact set4_bel ((by rw [HG.out]; exact HB2.out.1 : Below w.heap.size w w2).trans this) (by omega)
  exact bodyPost_ret (v := .agg #[.slice ra rn rc, .int .i64 sn, .int .i64 ov, .bool dn]) (by simp [results, Try.results47, go_sem, z0, z1, z2, z3]) rfl ⟨_, _, _, rfl, HFIN.out⟩
set_option maxHeartbeats 3200000 in
set_option maxRecDepth 20000 in
theorem broken_any (v : Value) (hv : ∃ a n c, v = .slice a n c) (sn ov er : Int) (dn : Bool) (w : World) :
    Calls Try.prog 50 #[.agg #[v, .int .i64 sn, .int .i64 ov, .bool dn], .int .i64 er] w fun e w' => e = .returned (.agg #[.slice none 0 0, .int .i64 sn, .int .i64 er, .bool false]) ∧ Below w.heap.size w w' := by
  obtain ⟨ao, m, cap, rfl⟩ := hv
  have B2 := (below_alloc w (Obj.cells #[.slice ao m cap, .int .i64 sn, .int .i64 ov, .bool dn] 43)).trans ((below_alloc _ (Obj.cells #[.slice none 0 0, .int .i64 0, .int .i64 0, .bool false] 43)).mono (by simp))
  have BN := heap_alloc2_new w (Obj.cells #[.slice ao m cap, .int .i64 sn, .int .i64 ov, .bool dn] 43) (Obj.cells #[.slice none 0 0, .int .i64 0, .int .i64 0, .bool false] 43)
  have BG : ((w.alloc (Obj.cells #[.slice ao m cap, .int .i64 sn, .int .i64 ov, .bool dn] 43)).alloc (Obj.cells #[.slice none 0 0, .int .i64 0, .int .i64 0, .bool false] 43)).heap[w.heap.size]? = some (.cells #[.slice ao m cap, .int .i64 sn, .int .i64 ov, .bool dn] 43) := ((below_alloc _ _).block _ (by simp)).trans (heap_alloc_new _ _)
  go_enter Try.func50, Try.ntmps50
  go_upto_region 1 with fail
  generalize ((w.alloc (Obj.cells #[.slice ao m cap, .int .i64 sn, .int .i64 ov, .bool dn] 43)).alloc (Obj.cells #[.slice none 0 0, .int .i64 0, .int .i64 0, .bool false] 43)) = w2 at B2 BN BG ⊢
  obtain ⟨g, HG⟩ : ∃ g, Hid (w.heap.size = g) := ⟨_, (rfl : w.heap.size = w.heap.size)⟩
  have HB2 : Hid (Below w.heap.size w w2) := B2
  clear B2
  rw [HG.out] at BN BG ⊢
  have q1 := tcell_blk BG 1
  have p0 := tcell_blk BN 0
  have p1 := tcell_blk BN 1
  have p2 := tcell_blk BN 2
  have p3 := tcell_blk BN 3
  have f0 := tfrozen_blk BN 0
  have f1 := tfrozen_blk BN 1
  have f2 := tfrozen_blk BN 2
  have f3 := tfrozen_blk BN 3
  simp only [List.getElem?_toArray, List.getElem?_cons_zero, List.getElem?_cons_succ] at q1 p0 p1 p2 p3
  go_wp2_with fail
  rw [← set4_eq]
  have z := set4_blk BN (.slice none 0 0) (.int .i64 sn) (.int .i64 er) (.bool false)
  have z0 := tcell_blk z 0
  have z1 := tcell_blk z 1
  have z2 := tcell_blk z 2
  have z3 := tcell_blk z 3
  simp only [List.getElem?_toArray, List.getElem?_cons_zero, List.getElem?_cons_succ] at z0 z1 z2 z3
  have HFIN : Hid (Below w.heap.size w (set4 w2 (g + 1) (.slice none 0 0) (.int .i64 sn) (.int .i64 er) (.bool false))) := by
    refine set4_bel HB2.out ?_
    have := HG.out
    omega
  exact bodyPost_ret (v := .agg #[.slice none 0 0, .int .i64 sn, .int .i64 er, .bool false]) (by simp [results, Try.results50, go_sem, z0, z1, z2, z3]) rfl ⟨rfl, HFIN.out⟩
set_option maxHeartbeats 3200000 in
set_option maxRecDepth 20000 in
theorem Begin_any (w : World) :
    Calls Try.prog 17 #[] w fun e w' => ∃ ra rn rc, e = .returned (.agg #[.slice ra rn rc, .int .i64 0, .int .i64 0, .bool false]) ∧ Dq w (.slice ra rn rc) [symT (2, 0)] w' := by
  have BN := heap_alloc_new w (Obj.cells #[.slice none 0 0, .int .i64 0, .int .i64 0, .bool false] 43)
  have B1 := below_alloc w (Obj.cells #[.slice none 0 0, .int .i64 0, .int .i64 0, .bool false] 43)
  go_enter Try.func17, Try.ntmps17
  go_upto_region 1 with fail
  have HS1 : Hid ((w.alloc (Obj.cells #[.slice none 0 0, .int .i64 0, .int .i64 0, .bool false] 43)).heap.size = w.heap.size + 1) := by show _ = _; simp
  generalize (w.alloc (Obj.cells #[.slice none 0 0, .int .i64 0, .int .i64 0, .bool false] 43)) = w1 at BN B1 HS1 ⊢
  obtain ⟨g, HG⟩ : ∃ g, Hid (w.heap.size = g) := ⟨_, (rfl : w.heap.size = w.heap.size)⟩
  have HB1 : Hid (Below w.heap.size w w1) := B1
  clear B1
  rw [HG.out] at BN HS1 ⊢
  have c1 := tbox_next BN (below_alloc w1 (Obj.cells #[.bool false, .int .i64 0, .int .i64 2, .int .i64 0] 49))
  have HN := heap_alloc_new w1 (Obj.cells #[.bool false, .int .i64 0, .int .i64 2, .int .i64 0] 49)
  have p0 := tcell_blk c1 0
  have p1 := tcell_blk c1 1
  have p2 := tcell_blk c1 2
  have p3 := tcell_blk c1 3
  have f0 := tfrozen_blk c1 0
  have f1 := tfrozen_blk c1 1
  have f2 := tfrozen_blk c1 2
  have f3 := tfrozen_blk c1 3
  simp only [List.getElem?_toArray, List.getElem?_cons_zero, List.getElem?_cons_succ] at p0 p1 p2 p3
  go_wp2_with fail
  rw [← set4_eq]
  have z := set4_blk c1 (.slice (some ⟨w1.heap.size, 0, none⟩) 1 1) (.int .i64 0) (.int .i64 0) (.bool false)
  have z0 := tcell_blk z 0
  have z1 := tcell_blk z 1
  have z2 := tcell_blk z 2
  have z3 := tcell_blk z 3
  simp only [List.getElem?_toArray, List.getElem?_cons_zero, List.getElem?_cons_succ] at z0 z1 z2 z3
  have HFIN : Hid (Dq w (.slice (some ⟨w1.heap.size, 0, none⟩) 1 1) [symT (2, 0)] (set4 (w1.alloc (Obj.cells #[.bool false, .int .i64 0, .int .i64 2, .int .i64 0] 49)) g (.slice (some ⟨w1.heap.size, 0, none⟩) 1 1) (.int .i64 0) (.int .i64 0) (.bool false))) := by
    have hs := HS1.out
    have hg := HG.out
    refine ⟨?_, set4_bel (HB1.out.trans ((below_alloc _ _).mono (by omega))) (by omega)⟩
    have h2 := own_new (B := w.heap.size) (n := 1) (size := 4) ((set4_other (g := g) (x := .slice (some ⟨w1.heap.size, 0, none⟩) 1 1) (y := .int .i64 0) (z := .int .i64 0) (u := .bool false) (by omega : w1.heap.size ≠ g)).trans HN) (by omega) (by omega) rfl
    exact h2
  exact bodyPost_ret (v := .agg #[.slice (some ⟨w1.heap.size, 0, none⟩) 1 1, .int .i64 0, .int .i64 0, .bool false]) (by simp [results, Try.results17, go_sem, z0, z1, z2, z3]) rfl ⟨_, _, _, rfl, HFIN.out⟩
end Go.Proofs.Ytpfehghicaaghaa

namespace Go.Proofs.Ytpfehghicaaghaa
open Go.RowKit
open Cg

/-- May this be ahead? -/
def okT (t n : Int) (ps : List Pd) (x : Td) : Bool := if x.1 = true then isPr ps x.2.1 && decide (x.2.2 = (0, 0)) else decide (x.2.1 = 0) && okSy t n x.2.2
def tdv (x : Td) : Value := .agg #[.bool x.1, .int .i64 x.2.1, .int .i64 x.2.2.1, .int .i64 x.2.2.2]
set_option maxHeartbeats 3200000 in
set_option maxRecDepth 20000 in
theorem isTodo_any (t n : Int) (pv : Value) (ps : List Pd) (x : Td) (w : World) (hp : Pds w pv ps) :
    Calls Try.prog 95 #[.agg #[.int .i64 t, .int .i64 n, pv], tdv x] w fun e w' => e = .returned (.bool (okT t n ps x)) ∧ Below w.heap.size w w' := by
  obtain ⟨ao, c, rfl, hm, -⟩ := hp
  obtain ⟨cl, q, a, b⟩ := x
  unfold tdv
  simp only
  have HB2 : Hid (Below w.heap.size w ((w.alloc (Obj.cells #[.int .i64 t, .int .i64 n, .slice ao ps.length c] 24)).alloc (Obj.cells #[.bool cl, .int .i64 q, .int .i64 a, .int .i64 b] 49))) := below_alloc2 _ _ _
  obtain ⟨r, HR⟩ : ∃ r, Hid (okT t n ps (cl, q, a, b) = r) := ⟨_, (rfl : okT t n ps (cl, q, a, b) = _)⟩
  rw [HR.out]
  cases cl with
  | true =>
    by_cases h0 : 0 ≤ q
    · have b0 : decide ((0 : Int) ≤ q) = true := by simpa using h0
      by_cases h1 : q < (ps.length : Int)
      · have b1 : decide (q < (ps.length : Int)) = true := by simpa using h1
        have HR2 : Hid ((decide (a = 0) && decide (b = 0)) = r) := by
          show _ = _
          rw [← HR.out]; unfold okT isPr; simp [h0, h1]
        clear HR
        by_cases ha : a = 0
        · subst ha
          by_cases hb : b = 0
          · obtain rfl : r = true := by rw [← HR2.out]; simp [hb]
            subst hb
            go_enter Try.func95, Try.ntmps95
            go_wp2_with fail
            go_ret
            exact ⟨by simp, HB2.out⟩
          · obtain rfl : r = false := by rw [← HR2.out]; simp [hb]
            have hb' : (b == 0) = false := by simpa using hb
            go_enter Try.func95, Try.ntmps95
            go_wp2_with fail
            go_ret
            exact ⟨by simp, HB2.out⟩
        · obtain rfl : r = false := by rw [← HR2.out]; simp [ha]
          have ha' : (a == 0) = false := by simpa using ha
          go_enter Try.func95, Try.ntmps95
          go_wp2_with fail
          go_ret
          exact ⟨by simp, HB2.out⟩
      · obtain rfl : r = false := by rw [← HR.out]; unfold okT isPr; simp [h1]
        have b1 : decide (q < (ps.length : Int)) = false := by simpa using h1
        clear HR
        go_enter Try.func95, Try.ntmps95
        go_wp2_with fail
        go_ret
        exact ⟨by simp, HB2.out⟩
    · obtain rfl : r = false := by rw [← HR.out]; unfold okT isPr; simp [h0]
      have b0 : decide ((0 : Int) ≤ q) = false := by simpa using h0
      clear HR
      go_enter Try.func95, Try.ntmps95
      go_wp2_with fail
      go_ret
      exact ⟨by simp, HB2.out⟩
  | false =>
    by_cases h0 : q = 0
    · subst h0
      obtain rfl : okSy t n (a, b) = r := by rw [← HR.out]; unfold okT; simp
      have hcall := isSym_any t n ao ps.length c a b ((w.alloc (Obj.cells #[.int .i64 t, .int .i64 n, .slice ao ps.length c] 24)).alloc (Obj.cells #[.bool false, .int .i64 0, .int .i64 a, .int .i64 b] 49))
      clear HR
      go_enter Try.func95, Try.ntmps95
      go_wp2_with fail
      refine hcall.mono ?_
      rintro _ w3 ⟨rfl, hb3⟩
      have HB3 : Hid (Below w.heap.size w w3) := HB2.out.trans (hb3.mono HB2.out.size)
      clear hb3 hcall HB2
      go_wp2_with fail
      go_ret
      exact ⟨rfl, HB3.out⟩
    · obtain rfl : r = false := by rw [← HR.out]; unfold okT; simp [h0]
      have b0 : (q == 0) = false := by simpa using h0
      clear HR
      go_enter Try.func95, Try.ntmps95
      go_wp2_with fail
      go_ret
      exact ⟨by simp, HB2.out⟩
end Go.Proofs.Ytpfehghicaaghaa
