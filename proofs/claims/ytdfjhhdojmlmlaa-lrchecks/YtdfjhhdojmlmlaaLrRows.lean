/-
  Rows of rows in memory; a table that is handed in. No function is walked here.
-/
import Derived.Test.YtdfjhhdojmlmlaaLrMath
import Derived.Test.YtdfjhhdojmlmlaaOpens
namespace Go.Proofs.Ytdfjhhdojmlmlaa
open Go.ChangeShapes Go.WideShapes Go.ChangeAt Go.RowKit
open Cg

theorem kcells34 : Try.prog.cellsOf 34 = 1 := by kernel_rfl
theorem kcells36 : Try.prog.cellsOf 36 = 1 := by kernel_rfl
theorem kcells38 : Try.prog.cellsOf 38 = 2 := by kernel_rfl
theorem kcells25 : Try.prog.cellsOf 25 = 1 := by kernel_rfl
theorem kcells26 : Try.prog.cellsOf 26 = 1 := by kernel_rfl
theorem kcells28 : Try.prog.cellsOf 28 = 2 := by kernel_rfl
/-- A value is a slice that holds these rows of numbers. -/
def Rws (w : World) (v : Value) (l : List (List Int)) : Prop :=
  ∃ ao cap, v = .slice ao l.length cap ∧ l.length ≤ 9223372036854775807 ∧ (l = [] ∨ ∃ b o, ao = some ⟨b, o, none⟩ ∧ b < w.heap.size ∧ ∀ i (hi : i < l.length), ∃ u, w.cell? ⟨b, o + i, none⟩ = some u ∧ Ints w u l[i])
/-- .. these rows of acts (two numbers each). -/
def Ars (w : World) (v : Value) (l : List (List Sy)) : Prop :=
  ∃ ao cap, v = .slice ao l.length cap ∧ l.length ≤ 9223372036854775807 ∧ (l = [] ∨ ∃ b o, ao = some ⟨b, o, none⟩ ∧ b < w.heap.size ∧ ∀ i (hi : i < l.length), ∃ u, w.cell? ⟨b, o + i, none⟩ = some u ∧ Syms w u l[i])
theorem Rws.below {w w' : World} {v : Value} {l : List (List Int)} (h : Rws w v l) (hb : Below w.heap.size w w') : Rws w' v l := by
  obtain ⟨ao, cap, hv, hm, h | ⟨b, o, h1, h2, h3⟩⟩ := h
  · exact ⟨ao, cap, hv, hm, Or.inl h⟩
  · refine ⟨ao, cap, hv, hm, Or.inr ⟨b, o, h1, Nat.lt_of_lt_of_le h2 hb.size, fun i hi => ?_⟩⟩
    obtain ⟨u, g1, g2⟩ := h3 i hi
    exact ⟨u, (hb.cell (p := ⟨b, o + i, none⟩) h2).trans g1, g2.below hb⟩
theorem Ars.below {w w' : World} {v : Value} {l : List (List Sy)} (h : Ars w v l) (hb : Below w.heap.size w w') : Ars w' v l := by
  obtain ⟨ao, cap, hv, hm, h | ⟨b, o, h1, h2, h3⟩⟩ := h
  · exact ⟨ao, cap, hv, hm, Or.inl h⟩
  · refine ⟨ao, cap, hv, hm, Or.inr ⟨b, o, h1, Nat.lt_of_lt_of_le h2 hb.size, fun i hi => ?_⟩⟩
    obtain ⟨u, g1, g2⟩ := h3 i hi
    exact ⟨u, (hb.cell (p := ⟨b, o + i, none⟩) h2).trans g1, g2.below hb⟩
/-- A grammar's box and a table's. -/
structure Tb (w0 : World) (g q : Nat) (t n : Int) (pv : Value) (ps : List Pd) (av gv : Value) (w : World) : Prop where
  gb : Gb w0 g t n pv ps w
  lt : q < w.heap.size
  d0 : w.cell? ⟨q, 0, none⟩ = some av
  d1 : w.cell? ⟨q, 1, none⟩ = some gv
theorem Tb.next {w0 : World} {g q : Nat} {t n : Int} {pv : Value} {ps : List Pd} {av gv : Value} {w : World} (h : Tb w0 g q t n pv ps av gv w) {w' : World} (hb : Below w.heap.size w w') : Tb w0 g q t n pv ps av gv w' :=
  ⟨h.gb.next hb, Nat.lt_of_lt_of_le h.lt hb.size, (hb.cell (p := ⟨q, 0, none⟩) h.lt).trans h.d0, (hb.cell (p := ⟨q, 1, none⟩) h.lt).trans h.d1⟩
theorem Tb.box {w : World} {pv : Value} {ps : List Pd} (h : Pds w pv ps) (t n : Int) (av gv : Value) : Tb w w.heap.size (w.heap.size + 1) t n pv ps av gv ((w.alloc (Obj.cells #[.int .i64 t, .int .i64 n, pv] 24)).alloc (Obj.cells #[av, gv] 28)) := by
  have h1 := Gb.box h t n
  have e : (w.alloc (Obj.cells #[.int .i64 t, .int .i64 n, pv] 24)).heap.size = w.heap.size + 1 := by simp
  refine ⟨h1.next (below_alloc _ _), by simp, ?_, ?_⟩
  · rw [← e]; exact cell_new _ _ 28 0
  · rw [← e]; exact cell_new _ _ 28 1

variable {H : Type} {enc : TypeId × Value → H}
set_option maxRecDepth 20000 in
theorem open_acts {W : World} {fuel : Nat} {cs : List Value} {y : DataW H × List MemPlace} (hf : DataW.trod enc Try.prog W 0 (fun _ => true) true fuel 34 cs = some y) : ∃ v l, cs = [v] ∧ Syms W v l := by
  obtain ⟨ao, n, cap, rfl, hm, h⟩ := open_seq Try.underlying34 kcells38 (by omega) hf
  rcases h with h | ⟨b, o, h1, h2, h3⟩
  · exact ⟨_, [], rfl, ao, cap, by rw [h]; rfl, by simp, Or.inl rfl⟩
  · obtain ⟨l, g1, g2⟩ := list_of n (fun i (z : Sy) => W.cell? ⟨b, o + i * 2, none⟩ = some (.int .i64 z.1) ∧ W.cell? ⟨b, o + i * 2 + 1, none⟩ = some (.int .i64 z.2)) fun i hi => by
      obtain ⟨fu, cs', y', k1, k2, k3⟩ := h3 i hi
      obtain ⟨xs, n', hn, _, hl, hxl, hf'⟩ := DataW.trod_struct Try.underlying38 k3
      match cs', k2 with
      | [x0, x1], _ =>
        match xs, hxl with
        | [y0, y1], _ =>
          have f0 := hf' 0 _ rfl
          have f1 := hf' 1 _ rfl
          simp [kcells3] at f0 f1
          obtain ⟨z0, e0, _, _⟩ := DataW.trod_int Try.underlying3 f0
          obtain ⟨z1, e1, _, _⟩ := DataW.trod_int Try.underlying3 f1
          simp at e0 e1
          subst e0 e1
          exact ⟨(z0, z1), by simpa using k1 0 (by omega), by simpa using k1 1 (by omega)⟩
    exact ⟨_, l, rfl, ao, cap, by rw [g1], by omega, Or.inr ⟨b, o, h1, h2, g2⟩⟩
set_option maxRecDepth 20000 in
theorem open_ints {W : World} {fuel : Nat} {cs : List Value} {y : DataW H × List MemPlace} (hf : DataW.trod enc Try.prog W 0 (fun _ => true) true fuel 36 cs = some y) : ∃ v l, cs = [v] ∧ Ints W v l := by
  obtain ⟨ao, n, cap, rfl, hm, h⟩ := open_seq Try.underlying36 kcells3 (by omega) hf
  rcases h with h | ⟨b, o, h1, h2, h3⟩
  · exact ⟨_, [], rfl, ao, cap, by rw [h]; rfl, by simp, Or.inl rfl⟩
  · obtain ⟨l, g1, g2⟩ := list_of n (fun i (z : Int) => W.cell? ⟨b, o + i, none⟩ = some (.int .i64 z)) fun i hi => by
      obtain ⟨fu, cs', y', k1, k2, k3⟩ := h3 i hi
      obtain ⟨z0, e0, _, _⟩ := DataW.trod_int Try.underlying3 k3
      subst e0
      exact ⟨z0, by simpa using k1 0 (by omega)⟩
    exact ⟨_, l, rfl, ao, cap, by rw [g1], by omega, Or.inr ⟨b, o, h1, h2, g2⟩⟩
set_option maxRecDepth 20000 in
theorem open_rws {W : World} {fuel : Nat} {cs : List Value} {y : DataW H × List MemPlace} (hf : DataW.trod enc Try.prog W 0 (fun _ => true) true fuel 26 cs = some y) : ∃ v l, cs = [v] ∧ Rws W v l := by
  obtain ⟨ao, n, cap, rfl, hm, h⟩ := open_seq Try.underlying26 kcells36 (by omega) hf
  rcases h with h | ⟨b, o, h1, h2, h3⟩
  · exact ⟨_, [], rfl, ao, cap, by rw [h]; rfl, by simp, Or.inl rfl⟩
  · obtain ⟨l, g1, g2⟩ := list_of n (fun i (z : List Int) => ∃ u, W.cell? ⟨b, o + i, none⟩ = some u ∧ Ints W u z) fun i hi => by
      obtain ⟨fu, cs', y', k1, k2, k3⟩ := h3 i hi
      obtain ⟨u, l1, e1, g1⟩ := open_ints k3
      subst e1
      exact ⟨l1, u, by simpa using k1 0 (by omega), g1⟩
    exact ⟨_, l, rfl, ao, cap, by rw [g1], by omega, Or.inr ⟨b, o, h1, h2, g2⟩⟩
set_option maxRecDepth 20000 in
theorem open_ars {W : World} {fuel : Nat} {cs : List Value} {y : DataW H × List MemPlace} (hf : DataW.trod enc Try.prog W 0 (fun _ => true) true fuel 25 cs = some y) : ∃ v l, cs = [v] ∧ Ars W v l := by
  obtain ⟨ao, n, cap, rfl, hm, h⟩ := open_seq Try.underlying25 kcells34 (by omega) hf
  rcases h with h | ⟨b, o, h1, h2, h3⟩
  · exact ⟨_, [], rfl, ao, cap, by rw [h]; rfl, by simp, Or.inl rfl⟩
  · obtain ⟨l, g1, g2⟩ := list_of n (fun i (z : List Sy) => ∃ u, W.cell? ⟨b, o + i, none⟩ = some u ∧ Syms W u z) fun i hi => by
      obtain ⟨fu, cs', y', k1, k2, k3⟩ := h3 i hi
      obtain ⟨u, l1, e1, g1⟩ := open_acts k3
      subst e1
      exact ⟨l1, u, by simpa using k1 0 (by omega), g1⟩
    exact ⟨_, l, rfl, ao, cap, by rw [g1], by omega, Or.inr ⟨b, o, h1, h2, g2⟩⟩
set_option maxRecDepth 20000 in
theorem open_table {W : World} {r : Reach} {b0 : Nat} {v : Value} {d : DataW H} {p : List MemPlace} (hv : Value.okWide Try.prog W r b0 28 v) (h : DataW.Trod enc Try.prog W 0 (fun _ => true) true 28 v d p) :
    ∃ av gv al gs, v = .agg #[av, gv] ∧ Ars W av al ∧ Rws W gv gs := by
  obtain ⟨cs, rfl, hsz⟩ := okWide_struct Try.underlying28 hv
  obtain ⟨fuel, hf⟩ := h
  obtain ⟨xs, n, hn, _, hl, hxl, hf⟩ := DataW.trod_struct Try.underlying28 hf
  rw [kcells28] at hl
  simp only [Value.cells] at hl hf
  obtain ⟨L⟩ := cs
  simp only at hl hf
  match L, hl with
  | [x0, x1], _ =>
    match xs, hxl with
    | [y0, y1], _ =>
      have f0 := hf 0 _ rfl
      have f1 := hf 1 _ rfl
      simp [kcells25, kcells26] at f0 f1
      obtain ⟨av, al, e0, g0⟩ := open_ars f0
      obtain ⟨gv, gs, e1, g1⟩ := open_rws f1
      simp at e0 e1
      subst e0 e1
      exact ⟨_, _, _, _, rfl, g0, g1⟩
end Go.Proofs.Ytdfjhhdojmlmlaa
