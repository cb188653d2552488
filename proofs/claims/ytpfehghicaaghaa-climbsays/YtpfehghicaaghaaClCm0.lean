/-
  What is ahead in memory, whichever end comes first; and the contract of pushref.Climb's closure.
-/
import Derived.Test.YtpfehghicaaghaaClE
namespace Go.Proofs.Ytpfehghicaaghaa
open Go.RowKit
open Cg

/-- A slice of what is ahead, of a row's block. -/
def Tdb (w : World) (v : Value) (l : List Td) : Prop :=
  ∃ ao cap, v = .slice ao l.length cap ∧ (l.length ≤ cap ∧ cap ≤ 9223372036854775807 ∧ (ao = none → cap = 0)) ∧ (ao = none ∨ ∃ b o cs, ao = some ⟨b, o, none⟩ ∧ w.heap[b]? = some (.cells cs 49) ∧ ∀ i (hi : i < l.length), cs[o + i * 4]? = some (.bool l[i].1) ∧ cs[o + i * 4 + 1]? = some (.int .i64 l[i].2.1) ∧ cs[o + i * 4 + 2]? = some (.int .i64 l[i].2.2.1) ∧ cs[o + i * 4 + 3]? = some (.int .i64 l[i].2.2.2))
theorem Tdb.fy {w w' : World} {v : Value} {l : List Td} (h : Tdb w v l) (hf : Fy Z66 w w') : Tdb w' v l := by
  obtain ⟨ao, cap, hv, hm, h | ⟨b, o, cs, h1, h2, h3⟩⟩ := h
  · exact ⟨ao, cap, hv, hm, Or.inl h⟩
  · exact ⟨ao, cap, hv, hm, Or.inr ⟨b, o, cs, h1, hf.2 _ _ _ _ h2 (by unfold Z66; decide), h3⟩⟩
theorem Tdb.below {w w' : World} {v : Value} {l : List Td} (h : Tdb w v l) (hb : Below w.heap.size w w') : Tdb w' v l := h.fy (Fy.of hb)
theorem Tdb.tds {w : World} {v : Value} {l : List Td} (h : Tdb w v l) : Tds w v l := by
  obtain ⟨ao, cap, hv, ⟨h1, h2, h3⟩, h | ⟨b, o, cs, h4, h5, h6⟩⟩ := h
  · refine ⟨ao, cap, hv, ⟨by omega, h1, h3⟩, Or.inl ?_⟩
    have := h3 h
    exact List.length_eq_zero_iff.1 (by omega)
  · refine ⟨ao, cap, hv, ⟨by omega, h1, h3⟩, Or.inr ⟨b, o, h4, heap_lt3 h5, fun i hi => ?_⟩⟩
    obtain ⟨c0, c1, c2, c3⟩ := h6 i hi
    exact ⟨(tcell_blk h5 _).trans c0, (tcell_blk h5 _).trans c1, (tcell_blk h5 _).trans c2, (tcell_blk h5 _).trans c3⟩
theorem Tdb.own {w : World} {base : Nat} {v : Value} {l : List Td} (h : w.ownsRow base 49 4 v l.length (tcd l)) : Tdb w v l := by
  have hk := h
  obtain ⟨hl, ⟨h1, h2⟩ | ⟨g, cap, cur, hv, hg, hh, hn, hc, hs, ht⟩⟩ := h
  · exact ⟨none, 0, by rw [h1, h2], ⟨by omega, by omega, fun _ => rfl⟩, Or.inl rfl⟩
  · subst hv
    have key := tcd_key hk
    refine ⟨some ⟨g, 0, none⟩, cap, rfl, ⟨hn, by unfold maxLen at hc; omega, fun e => by simp at e⟩, Or.inr ⟨g, 0, cur, rfl, hh, fun i hi => ?_⟩⟩
    have h3 := tcd_at l i hi
    have kk : ∀ j, j < l.length * 4 → cur[0 + j]? = (tcd l)[j]? := fun j hj => by
      have := key j hj
      simpa [World.cell?, hh] using this
    exact ⟨(kk (i * 4) (by omega)).trans h3.1, (kk (i * 4 + 1) (by omega)).trans h3.2.1, (kk (i * 4 + 2) (by omega)).trans h3.2.2.1, (kk (i * 4 + 3) (by omega)).trans h3.2.2.2⟩
/-- What is next. -/
theorem Tdb.top {w : World} {ao : Option Addr} {n c : Nat} {x : Td} {r : List Td} (h : Tdb w (.slice ao n c) (x :: r)) : ∃ b o, ao = some ⟨b, o, none⟩ ∧ n = r.length + 1 ∧ n ≤ c ∧ c ≤ 9223372036854775807 ∧ b < w.heap.size ∧ w.cell? ⟨b, o, none⟩ = some (.bool x.1) ∧ w.cell? ⟨b, o + 1, none⟩ = some (.int .i64 x.2.1) ∧ w.cell? ⟨b, o + 2, none⟩ = some (.int .i64 x.2.2.1) ∧ w.cell? ⟨b, o + 3, none⟩ = some (.int .i64 x.2.2.2) := by
  obtain ⟨a, cap, hv, ⟨h1, h2, h3⟩, h | ⟨b, o, cs, h4, h5, h6⟩⟩ := h
  · have := h3 h; simp at h1; omega
  · simp only [Value.slice.injEq] at hv
    obtain ⟨rfl, rfl, rfl⟩ := hv
    obtain ⟨c0, c1, c2, c3⟩ := h6 0 (by simp)
    refine ⟨b, o, h4, by simp, h1, h2, heap_lt3 h5, ?_, ?_, ?_, ?_⟩
    · have := (tcell_blk h5 _).trans c0; simpa using this
    · have := (tcell_blk h5 _).trans c1; simpa using this
    · have := (tcell_blk h5 _).trans c2; simpa using this
    · have := (tcell_blk h5 _).trans c3; simpa using this
/-- What is left when the next one goes. -/
theorem Tdb.tail {w : World} {b o n c : Nat} {x : Td} {r : List Td} (h : Tdb w (.slice (some ⟨b, o, none⟩) n c) (x :: r)) : (c ≠ 1 → Tdb w (.slice (some ⟨b, o + 4, none⟩) r.length (c - 1)) r) ∧ (c = 1 → Tdb w (.slice (some ⟨b, o, none⟩) r.length 0) r) := by
  obtain ⟨a, cap, hv, ⟨h1, h2, h3⟩, h | ⟨b', o', cs, h4, h5, h6⟩⟩ := h
  · have := h3 h; simp at h1; omega
  · simp only [Value.slice.injEq] at hv
    obtain ⟨rfl, rfl, rfl⟩ := hv
    simp only [Option.some.injEq, Addr.mk.injEq] at h4
    obtain ⟨rfl, rfl, -⟩ := h4
    simp only [List.length_cons] at h1
    refine ⟨fun hc => ⟨_, _, rfl, ⟨by omega, by omega, fun e => by simp at e⟩, Or.inr ⟨b, o + 4, cs, rfl, h5, fun i hi => ?_⟩⟩, fun hc => ?_⟩
    · obtain ⟨c0, c1, c2, c3⟩ := h6 (i + 1) (by simpa using hi)
      simp only [List.getElem_cons_succ] at c0 c1 c2 c3
      rw [show o + (i + 1) * 4 = o + 4 + i * 4 by omega] at c0 c1 c2 c3
      exact ⟨c0, c1, c2, c3⟩
    · have hr : r = [] := List.length_eq_zero_iff.1 (by omega)
      subst hr
      exact ⟨some ⟨b, o, none⟩, 0, rfl, ⟨Nat.le_refl _, by omega, fun e => by simp at e⟩, Or.inr ⟨b, o, cs, rfl, h5, fun i hi => absurd hi (Nat.not_lt_zero _)⟩⟩
set_option maxHeartbeats 3200000 in
set_option maxRecDepth 20000 in
theorem over_any (er : Int) (k : Nat) (tv : Value) (sn ov : Int) (dn : Bool) (w : World) (h : w.heap[k]? = some (.cells #[tv, .int .i64 sn, .int .i64 ov, .bool dn] 43)) :
    Calls Try.prog 79 #[.int .i64 er, .pointer (some ⟨k, 0, none⟩)] w fun e w' => e = .returned (.tuple #[.agg #[.slice none 0 0, .int .i64 sn, .int .i64 er, .bool false], .slice none 0 0, .int .i64 er]) ∧ Below w.heap.size w w' := by
  have B1 := below_alloc w (Obj.cells #[.slice none 0 0, .int .i64 0, .int .i64 0, .bool false] 43)
  have BN := heap_alloc_new w (Obj.cells #[.slice none 0 0, .int .i64 0, .int .i64 0, .bool false] 43)
  have BK := tbox_next h B1
  go_enter Try.func79, Try.ntmps79
  go_upto_region 1 with fail
  generalize w.alloc (Obj.cells #[.slice none 0 0, .int .i64 0, .int .i64 0, .bool false] 43) = w2 at B1 BN BK ⊢
  obtain ⟨g, HG⟩ : ∃ g, Hid (w.heap.size = g) := ⟨_, (rfl : w.heap.size = w.heap.size)⟩
  have HB2 : Hid (Below w.heap.size w w2) := B1
  clear B1 h
  rw [HG.out] at BN ⊢
  have q1 := tcell_blk BK 1
  have p0 := tcell_blk BN 0
  have p1 := tcell_blk BN 1
  have p2 := tcell_blk BN 2
  have p3 := tcell_blk BN 3
  have f0 := tfrozen_blk BN 0
  have f1 := tfrozen_blk BN 1
  have f2 := tfrozen_blk BN 2
  have f3 := tfrozen_blk BN 3
  simp only [List.getElem?_toArray, List.getElem?_cons_zero, List.getElem?_cons_succ] at q1 p0 p1 p2 p3
  go_wp2_with fail
  rw [← set4_eq]
  have z := set4_blk BN (.slice none 0 0) (.int .i64 sn) (.int .i64 er) (.bool false)
  have z0 := tcell_blk z 0
  have z1 := tcell_blk z 1
  have z2 := tcell_blk z 2
  have z3 := tcell_blk z 3
  simp only [List.getElem?_toArray, List.getElem?_cons_zero, List.getElem?_cons_succ] at z0 z1 z2 z3
  have HFIN : Hid (Below w.heap.size w (set4 w2 g (.slice none 0 0) (.int .i64 sn) (.int .i64 er) (.bool false))) := by
    refine set4_bel HB2.out ?_
    have := HG.out
    omega
  exact bodyPost_ret (v := .tuple #[.agg #[.slice none 0 0, .int .i64 sn, .int .i64 er, .bool false], .slice none 0 0, .int .i64 er]) (by simp [results, Try.results79, go_sem, z0, z1, z2, z3]) rfl ⟨rfl, HFIN.out⟩
end Go.Proofs.Ytpfehghicaaghaa
