/-
  What a grammar is that is handed in: lists of productions, of symbols, of numbers. No function is walked here.
-/
import Derived.Test.YtpfehghicaaghaaRows
import Derived.Test.YtpfehghicaaghaaMath
import Derived.WalkKit
import Derived.ProofKit
import Derived.OpenShut
import Derived.Carry
import Derived.Below
import Derived.Deep.Slices
import Derived.Deep.Strs
import Derived.WalkSmall
import Derived.Deep.AppendLies
import Derived.Deep.OwnRows
import Derived.Deep.QuietTactic
import Derived.BigQuiet
import Derived.OwnWalk
namespace Go.Proofs.Ytpfehghicaaghaa
open Go.ChangeShapes Go.WideShapes Go.ChangeAt Go.RowKit
open Cg

theorem kcells3 : Try.prog.cellsOf 3 = 1 := by kernel_rfl
theorem kcells47 : Try.prog.cellsOf 47 = 2 := by kernel_rfl
theorem kcells88 : Try.prog.cellsOf 88 = 2 := by kernel_rfl
theorem kcells85 : Try.prog.cellsOf 85 = 1 := by kernel_rfl
theorem kcells22 : Try.prog.cellsOf 22 = 1 := by kernel_rfl
theorem kcells24 : Try.prog.cellsOf 24 = 3 := by kernel_rfl
theorem info3 : (Try.prog.info? 3).map (fun i => (i.zero, i.size, i.bytes)) = some (some (.int .i64 0), 1, 8) := by kernel_rfl
theorem info47 : (Try.prog.info? 47).map (fun i => (i.zero, i.size, i.bytes)) = some (some (.agg #[.int .i64 0, .int .i64 0]), 2, 16) := by kernel_rfl
theorem info88 : (Try.prog.info? 88).map (fun i => (i.zero, i.size, i.bytes)) = some (some (.agg #[.int .i64 0, .slice none 0 0]), 2, 32) := by kernel_rfl

/-- A value is a slice that holds these numbers. -/
def Ints (w : World) (v : Value) (l : List Int) : Prop :=
  ∃ ao cap, v = .slice ao l.length cap ∧ l.length ≤ 9223372036854775807 ∧ (l = [] ∨ ∃ b o, ao = some ⟨b, o, none⟩ ∧ b < w.heap.size ∧ ∀ i (hi : i < l.length), w.cell? ⟨b, o + i, none⟩ = some (.int .i64 l[i]))
/-- .. these symbols. -/
def Syms (w : World) (v : Value) (l : List Sy) : Prop :=
  ∃ ao cap, v = .slice ao l.length cap ∧ (l.length ≤ 9223372036854775807 ∧ l.length ≤ cap) ∧ (l = [] ∨ ∃ b o, ao = some ⟨b, o, none⟩ ∧ b < w.heap.size ∧ ∀ i (hi : i < l.length), w.cell? ⟨b, o + i * 2, none⟩ = some (.int .i64 l[i].1) ∧ w.cell? ⟨b, o + i * 2 + 1, none⟩ = some (.int .i64 l[i].2))
/-- .. these productions. -/
def Pds (w : World) (v : Value) (l : List Pd) : Prop :=
  ∃ ao cap, v = .slice ao l.length cap ∧ l.length ≤ 9223372036854775807 ∧ (l = [] ∨ ∃ b o, ao = some ⟨b, o, none⟩ ∧ b < w.heap.size ∧ ∀ i (hi : i < l.length), w.cell? ⟨b, o + i * 2, none⟩ = some (.int .i64 l[i].1) ∧ ∃ u, w.cell? ⟨b, o + i * 2 + 1, none⟩ = some u ∧ Syms w u l[i].2)
theorem Ints.below {w w' : World} {v : Value} {l : List Int} (h : Ints w v l) (hb : Below w.heap.size w w') : Ints w' v l := by
  obtain ⟨ao, cap, hv, hm, h | ⟨b, o, h1, h2, h3⟩⟩ := h
  · exact ⟨ao, cap, hv, hm, Or.inl h⟩
  · exact ⟨ao, cap, hv, hm, Or.inr ⟨b, o, h1, Nat.lt_of_lt_of_le h2 hb.size, fun i hi => (hb.cell (p := ⟨b, o + i, none⟩) h2).trans (h3 i hi)⟩⟩
theorem Syms.below {w w' : World} {v : Value} {l : List Sy} (h : Syms w v l) (hb : Below w.heap.size w w') : Syms w' v l := by
  obtain ⟨ao, cap, hv, hm, h | ⟨b, o, h1, h2, h3⟩⟩ := h
  · exact ⟨ao, cap, hv, hm, Or.inl h⟩
  · exact ⟨ao, cap, hv, hm, Or.inr ⟨b, o, h1, Nat.lt_of_lt_of_le h2 hb.size, fun i hi => ⟨(hb.cell (p := ⟨b, o + i * 2, none⟩) h2).trans (h3 i hi).1, (hb.cell (p := ⟨b, o + i * 2 + 1, none⟩) h2).trans (h3 i hi).2⟩⟩⟩
theorem Pds.below {w w' : World} {v : Value} {l : List Pd} (h : Pds w v l) (hb : Below w.heap.size w w') : Pds w' v l := by
  obtain ⟨ao, cap, hv, hm, h | ⟨b, o, h1, h2, h3⟩⟩ := h
  · exact ⟨ao, cap, hv, hm, Or.inl h⟩
  · refine ⟨ao, cap, hv, hm, Or.inr ⟨b, o, h1, Nat.lt_of_lt_of_le h2 hb.size, fun i hi => ?_⟩⟩
    obtain ⟨g0, u, g1, g2⟩ := h3 i hi
    exact ⟨(hb.cell (p := ⟨b, o + i * 2, none⟩) h2).trans g0, u, (hb.cell (p := ⟨b, o + i * 2 + 1, none⟩) h2).trans g1, g2.below hb⟩
theorem syms_nil (w : World) : Syms w (.slice none 0 0) [] := ⟨none, 0, rfl, by simp, Or.inl rfl⟩
theorem pds_nil (w : World) : Pds w (.slice none 0 0) [] := ⟨none, 0, rfl, by simp, Or.inl rfl⟩
theorem ints_nil (w : World) : Ints w (.slice none 0 0) [] := ⟨none, 0, rfl, by simp, Or.inl rfl⟩
theorem ints_of_own {w : World} {base : Nat} {v : Value} {l : List Int} (h : w.ownsRow base 3 1 v l.length (l.map (Value.int .i64))) (hm : l.length ≤ 9223372036854775807) : Ints w v l := by
  obtain ⟨hl, ⟨h1, h2⟩ | ⟨g, cap, cur, hv, hg, hh, hn, hc, hs, ht⟩⟩ := h
  · exact ⟨none, 0, by rw [h1, h2], hm, Or.inl (List.length_eq_zero_iff.1 h2)⟩
  · refine ⟨some ⟨g, 0, none⟩, cap, hv, hm, Or.inr ⟨g, 0, rfl, ?_, fun i hi => ?_⟩⟩
    · rcases Nat.lt_or_ge g w.heap.size with h' | h'
      · exact h'
      · simp [Array.getElem?_eq_none h'] at hh
    · have e : w.cell? ⟨g, 0 + i, none⟩ = cur[i]? := by simp [World.cell?, hh]
      rw [e]
      have h2 : (cur.toList.take (l.length * 1))[i]? = (l.map (Value.int .i64))[i]? := by rw [ht]
      rw [List.getElem?_take_of_lt (by omega)] at h2
      have h3 : (l.map (Value.int .i64))[i]? = some (.int .i64 l[i]) := by simp [List.getElem?_eq_getElem hi]
      rw [← h3, ← h2]; simp

theorem own_ge {w : World} {base e size n : Nat} {v : Value} {xs : List Value} (h : w.ownsRow base e size v n xs) : ∀ k, v.ownBlock = some k → base ≤ k := by
  intro k hk
  rcases h.2 with ⟨rfl, _⟩ | ⟨g, cap, cur, rfl, hg, _⟩
  · simp [Value.ownBlock] at hk
  · simp [Value.ownBlock] at hk; omega
theorem own_below {w w' : World} {base e size n : Nat} {v : Value} {xs : List Value} (h : w.ownsRow base e size v n xs) (hb : Below w.heap.size w w') : w'.ownsRow base e size v n xs := by
  obtain ⟨h1, h2 | ⟨g, cap, cur, hv, hg, hh, h3⟩⟩ := h
  · exact ⟨h1, Or.inl h2⟩
  · refine ⟨h1, Or.inr ⟨g, cap, cur, hv, hg, ?_, h3⟩⟩
    have hlt : g < w.heap.size := by
      rcases Nat.lt_or_ge g w.heap.size with h' | h'
      · exact h'
      · rw [Array.getElem?_eq_none h'] at hh; cases hh
    rw [hb.block g hlt]; exact hh
theorem own_form {w : World} {base e size n : Nat} {v : Value} {xs : List Value} (h : w.ownsRow base e size v n xs) : ∃ ao m c, v = .slice ao m c := by
  rcases h.2 with ⟨hv, _⟩ | ⟨g, cap, cur, hv, _⟩
  · exact ⟨_, _, _, hv⟩
  · exact ⟨_, _, _, hv⟩
/-- It lies in memory that is no elder. -/
def Fr (B : Nat) (v : Value) : Prop := ∀ k, v.ownBlock = some k → B ≤ k
theorem Fr.less {B C : Nat} {v : Value} (h : Fr B v) (hc : C ≤ B) : Fr C v := fun k hk => Nat.le_trans hc (h k hk)
theorem fr_nil (B : Nat) : Fr B (.slice none 0 0) := fun k hk => by simp [Value.ownBlock] at hk

/-- A grammar's box. -/
structure Gb (w0 : World) (g : Nat) (t n : Int) (pv : Value) (ps : List Pd) (w : World) : Prop where
  below : Below w0.heap.size w0 w
  lt : g < w.heap.size
  ge : w0.heap.size ≤ g
  c0 : w.cell? ⟨g, 0, none⟩ = some (.int .i64 t)
  c1 : w.cell? ⟨g, 1, none⟩ = some (.int .i64 n)
  c2 : w.cell? ⟨g, 2, none⟩ = some pv
  pds : Pds w pv ps
theorem Gb.next {w0 : World} {g : Nat} {t n : Int} {pv : Value} {ps : List Pd} {w : World} (h : Gb w0 g t n pv ps w) {w' : World} (hb : Below w.heap.size w w') : Gb w0 g t n pv ps w' :=
  ⟨h.below.trans (hb.mono h.below.size), Nat.lt_of_lt_of_le h.lt hb.size, h.ge, (hb.cell (p := ⟨g, 0, none⟩) h.lt).trans h.c0, (hb.cell (p := ⟨g, 1, none⟩) h.lt).trans h.c1, (hb.cell (p := ⟨g, 2, none⟩) h.lt).trans h.c2, h.pds.below hb⟩
theorem below_alloc (w : World) (o : Obj) : Below w.heap.size w (w.alloc o) := (Below.refl _ _).alloc (Nat.le_refl _) o
theorem cell_new (w : World) (cs : Array Value) (t i : Nat) : (w.alloc (Obj.cells cs t)).cell? ⟨w.heap.size, i, none⟩ = cs[i]? := by
  have e := heap_alloc_new w (Obj.cells cs t)
  unfold World.cell?
  simp only [e]
  rfl
theorem Gb.box {w : World} {pv : Value} {ps : List Pd} (h : Pds w pv ps) (t n : Int) : Gb w w.heap.size t n pv ps (w.alloc (Obj.cells #[.int .i64 t, .int .i64 n, pv] 24)) :=
  ⟨below_alloc _ _, by simp, Nat.le_refl _, cell_new w _ 24 0, cell_new w _ 24 1, cell_new w _ 24 2, h.below (below_alloc _ _)⟩

variable {H : Type} {enc : TypeId × Value → H}
theorem open_seq {W : World} {fuel : Nat} {t e : TypeId} {k : Nat} (hu : Try.prog.underlying t = some (.slice e)) (hk : Try.prog.cellsOf e = k) (hk0 : 0 < k) {cs : List Value} {y : DataW H × List MemPlace} (hf : DataW.trod enc Try.prog W 0 (fun _ => true) true fuel t cs = some y) :
    ∃ ao n cap, cs = [.slice ao n cap] ∧ (n ≤ 9223372036854775807 ∧ n ≤ cap) ∧ (n = 0 ∨ ∃ b o, ao = some ⟨b, o, none⟩ ∧ b < W.heap.size ∧ ∀ i, i < n → ∃ fuel' cs' y', (∀ j, j < k → W.cell? ⟨b, o + i * k + j, none⟩ = cs'[j]?) ∧ cs'.length = k ∧ DataW.trod enc Try.prog W 0 (fun _ => true) true fuel' e cs' = some y') := by
  rcases Go.Deep.open_slice hu hf with ⟨hcs, hx⟩ | ⟨a', len', cap', m, n, D, Pl, hcs, hb, hl, hm, hmm, hx, hel⟩
  · exact ⟨none, 0, 0, hcs, ⟨by omega, by omega⟩, Or.inl rfl⟩
  · simp only [if_true] at hmm
    subst hmm
    rw [hk] at hel
    refine ⟨some a', len', m, hcs, ⟨by unfold maxLen at hm; omega, by omega⟩, ?_⟩
    by_cases h0 : len' = 0
    · exact Or.inl h0
    · right
      have hE : ∀ i, i < len' → ∃ cs', (∀ j, j < k → W.cell? ((a'.add (i * k)).add j) = cs'[j]?) ∧ cs'.length = k ∧ ∃ fuel' y', DataW.trod enc Try.prog W 0 (fun _ => true) true fuel' e cs' = some y' := fun i hi => by
        obtain ⟨cs', hc, ht⟩ := hel i (by omega)
        obtain ⟨_, hlen, hat⟩ := World.cells?_some hc
        exact ⟨cs', fun j hj => hat j (by omega), hlen, _, _, ht⟩
      obtain ⟨b, off, spot⟩ := a'
      obtain ⟨c0, g1, g2, -⟩ := hE 0 (by omega)
      have hc0 : W.cell? ((Addr.add ⟨b, off, spot⟩ (0 * k)).add 0) = some c0[0] := by rw [g1 0 hk0]; exact List.getElem?_eq_getElem (by omega)
      have hspot : spot = none := by simpa [Addr.add] using World.cell?_spot hc0
      subst hspot
      have e : ∀ i j, ((⟨b, off, none⟩ : Addr).add (i * k)).add j = ⟨b, off + i * k + j, none⟩ := fun i j => by rw [Go.WideShapes.add_plain, Go.WideShapes.add_plain]
      refine ⟨b, off, rfl, ?_, fun i hi => ?_⟩
      · rcases Nat.lt_or_ge b W.heap.size with h' | h'
        · exact h'
        · rw [e] at hc0
          simp [World.cell?, Array.getElem?_eq_none h'] at hc0
      · obtain ⟨cs', h1, h2, fu, y', h3⟩ := hE i hi
        exact ⟨fu, cs', y', fun j hj => by rw [← e]; exact h1 j hj, h2, h3⟩
/-- From a choice for each place to a list. -/
theorem list_of {α : Type} (n : Nat) (R : Nat → α → Prop) (h : ∀ i, i < n → ∃ a, R i a) : ∃ l : List α, l.length = n ∧ ∀ i (hi : i < l.length), R i l[i] := by
  induction n with
  | zero => exact ⟨[], rfl, fun i hi => absurd hi (Nat.not_lt_zero _)⟩
  | succ n ih =>
    obtain ⟨l, h1, h2⟩ := ih fun i hi => h i (by omega)
    obtain ⟨a, ha⟩ := h n (by omega)
    refine ⟨l ++ [a], by simp [h1], fun i hi => ?_⟩
    by_cases e : i < l.length
    · rw [List.getElem_append_left e]; exact h2 i e
    · have : i = l.length := by simp at hi; omega
      subst this
      rw [List.getElem_append_right (Nat.le_refl _)]
      simp only [Nat.sub_self, List.getElem_cons_zero]
      rw [h1]; exact ha
set_option maxRecDepth 20000 in
theorem open_syms {W : World} {fuel : Nat} {cs : List Value} {y : DataW H × List MemPlace} (hf : DataW.trod enc Try.prog W 0 (fun _ => true) true fuel 85 cs = some y) : ∃ v l, cs = [v] ∧ Syms W v l := by
  obtain ⟨ao, n, cap, rfl, hm, h⟩ := open_seq Try.underlying85 kcells47 (by omega) hf
  rcases h with h | ⟨b, o, h1, h2, h3⟩
  · exact ⟨_, [], rfl, ao, cap, by rw [h]; rfl, by simp, Or.inl rfl⟩
  · obtain ⟨l, g1, g2⟩ := list_of n (fun i (z : Sy) => W.cell? ⟨b, o + i * 2, none⟩ = some (.int .i64 z.1) ∧ W.cell? ⟨b, o + i * 2 + 1, none⟩ = some (.int .i64 z.2)) fun i hi => by
      obtain ⟨fu, cs', y', k1, k2, k3⟩ := h3 i hi
      obtain ⟨xs, n', hn, _, hl, hxl, hf'⟩ := DataW.trod_struct Try.underlying47 k3
      match cs', k2 with
      | [x0, x1], _ =>
        match xs, hxl with
        | [y0, y1], _ =>
          have f0 := hf' 0 _ rfl
          have f1 := hf' 1 _ rfl
          simp [kcells3] at f0 f1
          obtain ⟨z0, e0, _, _⟩ := DataW.trod_int Try.underlying3 f0
          obtain ⟨z1, e1, _, _⟩ := DataW.trod_int Try.underlying3 f1
          simp at e0 e1
          subst e0 e1
          exact ⟨(z0, z1), by simpa using k1 0 (by omega), by simpa using k1 1 (by omega)⟩
    exact ⟨_, l, rfl, ao, cap, by rw [g1], by omega, Or.inr ⟨b, o, h1, h2, g2⟩⟩
set_option maxRecDepth 20000 in
theorem open_pds {W : World} {fuel : Nat} {cs : List Value} {y : DataW H × List MemPlace} (hf : DataW.trod enc Try.prog W 0 (fun _ => true) true fuel 22 cs = some y) : ∃ v l, cs = [v] ∧ Pds W v l := by
  obtain ⟨ao, n, cap, rfl, hm, h⟩ := open_seq Try.underlying22 kcells88 (by omega) hf
  rcases h with h | ⟨b, o, h1, h2, h3⟩
  · exact ⟨_, [], rfl, ao, cap, by rw [h]; rfl, by simp, Or.inl rfl⟩
  · obtain ⟨l, g1, g2⟩ := list_of n (fun i (z : Pd) => W.cell? ⟨b, o + i * 2, none⟩ = some (.int .i64 z.1) ∧ ∃ u, W.cell? ⟨b, o + i * 2 + 1, none⟩ = some u ∧ Syms W u z.2) fun i hi => by
      obtain ⟨fu, cs', y', k1, k2, k3⟩ := h3 i hi
      obtain ⟨xs, n', hn, _, hl, hxl, hf'⟩ := DataW.trod_struct Try.underlying88 k3
      match cs', k2 with
      | [x0, x1], _ =>
        match xs, hxl with
        | [y0, y1], _ =>
          have f0 := hf' 0 _ rfl
          have f1 := hf' 1 _ rfl
          simp [kcells3, kcells85] at f0 f1
          obtain ⟨z0, e0, _, _⟩ := DataW.trod_int Try.underlying3 f0
          obtain ⟨u, l1, e1, g1⟩ := open_syms f1
          simp at e0 e1
          subst e0 e1
          exact ⟨(z0, l1), by simpa using k1 0 (by omega), x1, by simpa using k1 1 (by omega), g1⟩
    exact ⟨_, l, rfl, ao, cap, by rw [g1], by omega, Or.inr ⟨b, o, h1, h2, g2⟩⟩
set_option maxRecDepth 20000 in
theorem open_gram {W : World} {r : Reach} {b0 : Nat} {v : Value} {d : DataW H} {p : List MemPlace} (hv : Value.okWide Try.prog W r b0 24 v) (h : DataW.Trod enc Try.prog W 0 (fun _ => true) true 24 v d p) :
    ∃ t n pv ps, v = .agg #[.int .i64 t, .int .i64 n, pv] ∧ Pds W pv ps := by
  obtain ⟨cs, rfl, hsz⟩ := okWide_struct Try.underlying24 hv
  obtain ⟨fuel, hf⟩ := h
  obtain ⟨xs, n, hn, _, hl, hxl, hf⟩ := DataW.trod_struct Try.underlying24 hf
  rw [kcells24] at hl
  simp only [Value.cells] at hl hf
  obtain ⟨L⟩ := cs
  simp only at hl hf
  match L, hl with
  | [x0, x1, x2], _ =>
    match xs, hxl with
    | [y0, y1, y2], _ =>
      have f0 := hf 0 _ rfl
      have f1 := hf 1 _ rfl
      have f2 := hf 2 _ rfl
      simp [kcells3, kcells22] at f0 f1 f2
      obtain ⟨z0, e0, _, _⟩ := DataW.trod_int Try.underlying3 f0
      obtain ⟨z1, e1, _, _⟩ := DataW.trod_int Try.underlying3 f1
      obtain ⟨pv, ps, e2, g2⟩ := open_pds f2
      simp at e0 e1 e2
      subst e0 e1 e2
      exact ⟨_, _, _, _, rfl, g2⟩
end Go.Proofs.Ytpfehghicaaghaa
