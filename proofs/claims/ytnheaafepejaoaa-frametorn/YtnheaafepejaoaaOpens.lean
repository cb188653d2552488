/-
  What an argument of each of this seat's types is: a frame, an inbox, a slice of frames, a slice of numbers; and that it is no longer than its bulk. No function is walked here.
-/
import Derived.Test.YtnheaafepejaoaaRows
import Derived.Test.YtnheaafepejaoaaMath
import Derived.WalkKit
import Derived.ProofKit
import Derived.OpenShut
import Derived.Carry
import Derived.Below
import Derived.Deep.Slices
import Derived.Deep.Strs
import Derived.Lib.SmallJoins
namespace Go.Proofs.Ytnheaafepejaoaa
open Go.ChangeShapes Go.WideShapes Go.ChangeAt Go.RowKit
open Frm

theorem cells23 : Try.prog.cellsOf 23 = 3 := by kernel_rfl
theorem cells31 : Try.prog.cellsOf 31 = 2 := by kernel_rfl
theorem cells3 : Try.prog.cellsOf 3 = 1 := by kernel_rfl
theorem cells24 : Try.prog.cellsOf 24 = 1 := by kernel_rfl
theorem cells9 : Try.prog.cellsOf 9 = 1 := by kernel_rfl

variable {H : Type} {enc : TypeId × Value → H}

theorem open_frame {W : World} {base b0 : Nat} {spare : Nat → Bool} {held : Bool} {r : Reach} {v : Value} {d : DataW H} {p : List MemPlace} (hv : Value.okWide Try.prog W r b0 23 v) (h : DataW.Trod enc Try.prog W base spare held 23 v d p) :
    ∃ (k wh : Int) (b : ByteArray), v = .agg #[.int .i64 k, .int .i64 wh, .string b] := by
  obtain ⟨c0, c1, c2, y0, y1, y2, m, rfl, rfl, rfl, h0, h1, h2⟩ := Go.Joins.open_agg3 Try.underlying23 (by kernel_rfl) cells23 hv h
  obtain ⟨k, e0, _, _⟩ := DataW.trod_int Try.underlying3 h0
  obtain ⟨wh, e1, _, _⟩ := DataW.trod_int Try.underlying3 h1
  obtain ⟨b, e2, _, _⟩ := DataW.trod_string Try.underlying9 h2
  simp at e0 e1 e2
  subst e0 e1 e2
  exact ⟨k, wh, b, rfl⟩
theorem open_inbox {W : World} {base b0 : Nat} {spare : Nat → Bool} {held : Bool} {r : Reach} {v : Value} {d : DataW H} {p : List MemPlace} (hv : Value.okWide Try.prog W r b0 31 v) (h : DataW.Trod enc Try.prog W base spare held 31 v d p) :
    ∃ (b : ByteArray) (k : Int), v = .agg #[.string b, .int .i64 k] ∧ b.size ≤ Rows.uptoBulk d := by
  obtain ⟨c0, c1, y0, y1, m, rfl, rfl, rfl, h0, h1⟩ := Go.Joins.open_agg2 Try.underlying31 (by kernel_rfl) cells31 hv h
  obtain ⟨b, e0, x0, _⟩ := DataW.trod_string Try.underlying9 h0
  obtain ⟨k, e1, x1, _⟩ := DataW.trod_int Try.underlying24 h1
  simp at e0 e1
  subst e0 e1 x0 x1
  refine ⟨b, k, rfl, ?_⟩
  have e : b.data.toList.length = b.size := by rw [Array.length_toList]; rfl
  simp only [Rows.uptoBulk, Rows.uptoBulkAll]
  omega

/-- A value is a slice that holds these frames. -/
def Frs (w : World) (v : Value) (fs : List Fr) : Prop :=
  ∃ ao cap, v = .slice ao fs.length cap ∧ fs.length ≤ 9223372036854775807 ∧ (fs = [] ∨ ∃ b o, ao = some ⟨b, o, none⟩ ∧ b < w.heap.size ∧
    ∀ i (hi : i < fs.length), w.cell? ⟨b, o + i * 3, none⟩ = some (.int .i64 fs[i].kind) ∧ w.cell? ⟨b, o + i * 3 + 1, none⟩ = some (.int .i64 fs[i].who) ∧ w.cell? ⟨b, o + i * 3 + 2, none⟩ = some (.string fs[i].body))
theorem Frs.below {w w' : World} {v : Value} {fs : List Fr} (h : Frs w v fs) {B : Nat} (hb : Below B w w') (hB : w.heap.size ≤ B) : Frs w' v fs := by
  obtain ⟨ao, cap, hv, hm, h | ⟨b, o, h1, h2, h3⟩⟩ := h
  · exact ⟨ao, cap, hv, hm, Or.inl h⟩
  · exact ⟨ao, cap, hv, hm, Or.inr ⟨b, o, h1, Nat.lt_of_lt_of_le h2 hb.size, fun i hi => ⟨(hb.cell (p := ⟨b, o + i * 3, none⟩) (by simp; omega)).trans (h3 i hi).1, (hb.cell (p := ⟨b, o + i * 3 + 1, none⟩) (by simp; omega)).trans (h3 i hi).2.1, (hb.cell (p := ⟨b, o + i * 3 + 2, none⟩) (by simp; omega)).trans (h3 i hi).2.2⟩⟩⟩
theorem frs_nil (w : World) : Frs w (.slice none 0 0) [] := ⟨none, 0, rfl, by simp, Or.inl rfl⟩
/-- A frame's cells. -/
def fc (f : Fr) : List Value := [.int .i64 f.kind, .int .i64 f.who, .string f.body]
def fcs (fs : List Fr) : List Value := fs.flatMap fc
theorem fcs_length (fs : List Fr) : (fcs fs).length = fs.length * 3 := by
  induction fs with
  | nil => rfl
  | cons f fs ih => simp only [fcs, List.flatMap_cons, List.length_append, List.length_cons] at ih ⊢; rw [ih]; simp [fc]; omega
theorem fcs_append (fs gs : List Fr) : fcs (fs ++ gs) = fcs fs ++ fcs gs := by simp [fcs]
theorem fcs_at (fs : List Fr) (i : Nat) (hi : i < fs.length) : (fcs fs)[i * 3]? = some (.int .i64 fs[i].kind) ∧ (fcs fs)[i * 3 + 1]? = some (.int .i64 fs[i].who) ∧ (fcs fs)[i * 3 + 2]? = some (.string fs[i].body) := by
  have e : fs = fs.take i ++ fs[i] :: fs.drop (i + 1) := by rw [List.getElem_cons_drop, List.take_append_drop]
  have hl : (fcs (fs.take i)).length = i * 3 := by rw [fcs_length, List.length_take]; rw [Nat.min_eq_left (by omega)]
  have hc : ∀ j, j < 3 → (fcs fs)[i * 3 + j]? = (fc fs[i])[j]? := fun j hj => by
    conv => lhs; rw [e]
    rw [fcs_append, List.getElem?_append_right (by omega), hl, Nat.add_sub_cancel_left]
    show (fc fs[i] ++ fcs (fs.drop (i + 1)))[j]? = _
    rw [List.getElem?_append_left (by simp [fc]; omega)]
  exact ⟨hc 0 (by omega), hc 1 (by omega), hc 2 (by omega)⟩
/-- Every frame's cell is one cell. -/
theorem fcs_one (fs : List Fr) : ∀ u ∈ fcs fs, u.oneCell' = true := by
  intro u hu
  simp only [fcs, List.mem_flatMap, fc] at hu
  obtain ⟨f, _, hu⟩ := hu
  simp at hu
  rcases hu with rfl | rfl | rfl <;> rfl
theorem frs_of_own {w : World} {base : Nat} {v : Value} {fs : List Fr} (h : w.ownsRow base 23 3 v fs.length (fcs fs)) (hm : fs.length ≤ 9223372036854775807) : Frs w v fs := by
  obtain ⟨hl, ⟨h1, h2⟩ | ⟨g, cap, cur, hv, hg, hh, hn, hc, hs, ht⟩⟩ := h
  · exact ⟨none, 0, by rw [h1, h2], hm, Or.inl (List.length_eq_zero_iff.1 h2)⟩
  · refine ⟨some ⟨g, 0, none⟩, cap, hv, hm, Or.inr ⟨g, 0, rfl, ?_, fun i hi => ?_⟩⟩
    · rcases Nat.lt_or_ge g w.heap.size with h' | h'
      · exact h'
      · simp [Array.getElem?_eq_none h'] at hh
    · obtain ⟨f0, f1, f2⟩ := fcs_at fs i hi
      have e : ∀ j, j < 3 → w.cell? ⟨g, 0 + i * 3 + j, none⟩ = (fcs fs)[i * 3 + j]? := fun j hj => by
        have e1 : w.cell? ⟨g, 0 + i * 3 + j, none⟩ = cur[i * 3 + j]? := by simp [World.cell?, hh]
        rw [e1, ← ht, List.getElem?_take_of_lt (by omega)]; simp
      exact ⟨(e 0 (by omega)).trans f0, (e 1 (by omega)).trans f1, (e 2 (by omega)).trans f2⟩

/-- A value is a slice that holds these numbers. -/
def Ints (w : World) (v : Value) (zs : List Int) : Prop :=
  ∃ ao cap, v = .slice ao zs.length cap ∧ zs.length ≤ 9223372036854775807 ∧ (∀ z ∈ zs, -9223372036854775808 ≤ z ∧ z ≤ 9223372036854775807) ∧ (zs = [] ∨ ∃ b o, ao = some ⟨b, o, none⟩ ∧ b < w.heap.size ∧ ∀ i, i < zs.length → w.cell? ⟨b, o + i, none⟩ = some (.int .i64 (zs.getD i 0)))
theorem Ints.below {w w' : World} {v : Value} {zs : List Int} (h : Ints w v zs) {B : Nat} (hb : Below B w w') (hB : w.heap.size ≤ B) : Ints w' v zs := by
  obtain ⟨ao, cap, hv, hm, hw, h | ⟨b, o, h1, h2, h3⟩⟩ := h
  · exact ⟨ao, cap, hv, hm, hw, Or.inl h⟩
  · exact ⟨ao, cap, hv, hm, hw, Or.inr ⟨b, o, h1, Nat.lt_of_lt_of_le h2 hb.size, fun i hi => (hb.cell (p := ⟨b, o + i, none⟩) (by simp; omega)).trans (h3 i hi)⟩⟩

theorem bulk_length (l : List (DataW H)) : l.length ≤ Rows.uptoBulkAll l := by
  induction l with
  | nil => simp [Rows.uptoBulkAll]
  | cons x r ih =>
    have : 1 ≤ Rows.uptoBulk x := by
      cases x with
      | lit l => cases l <;> simp [Rows.uptoBulk]
      | nil => simp [Rows.uptoBulk]
      | ptr d => simp [Rows.uptoBulk]
      | slice elems spare => simp [Rows.uptoBulk]
      | agg parts => simp [Rows.uptoBulk]
      | iface t d => simp [Rows.uptoBulk]
      | map entries => simp [Rows.uptoBulk]
      | held h => simp [Rows.uptoBulk]
    simp only [Rows.uptoBulkAll, List.length_cons]; omega

theorem open_frs {W : World} {v : Value} {d : DataW H} {p : List MemPlace} {r : Reach} {b0 : Nat} (hv : Value.okWide Try.prog W r b0 32 v) (h : DataW.Trod enc Try.prog W 0 (fun _ => true) true 32 v d p) :
    ∃ fs : List Fr, Frs W v fs ∧ fs.length ≤ Rows.uptoBulk d := by
  obtain ⟨a, len, cap, rfl⟩ := okWide_slice Try.underlying32 hv
  obtain ⟨fuel, hf⟩ := h
  rcases Go.Deep.open_slice Try.underlying32 hf with ⟨hcs, hx⟩ | ⟨a', len', cap', m, n, D, Pl, hcs, hb, hl, hm, hmm, hx, hel⟩
  · simp [Value.cells] at hcs
    obtain ⟨rfl, rfl, rfl⟩ := hcs
    exact ⟨[], frs_nil W, by simp⟩
  · simp [Value.cells] at hcs
    obtain ⟨rfl, rfl, rfl⟩ := hcs
    simp only [if_true] at hmm
    subst hmm
    rw [cells23] at hel hx
    have hE : ∀ i, i < len → ∃ f : Fr, W.cell? ((a'.add (i * 3)).add 0) = some (.int .i64 f.kind) ∧ W.cell? ((a'.add (i * 3)).add 1) = some (.int .i64 f.who) ∧ W.cell? ((a'.add (i * 3)).add 2) = some (.string f.body) := by
      intro i hi
      obtain ⟨cs', hc, ht⟩ := hel i (by omega)
      obtain ⟨_, hlen, hat⟩ := World.cells?_some hc
      obtain ⟨y0, y1, y2, n', _, _, t0, t1, t2⟩ := Go.Deep.trod_struct3 Try.underlying23 ht
      simp only [cells3, cells9] at t0 t1 t2
      obtain ⟨k, e0, _, _⟩ := DataW.trod_int Try.underlying3 t0
      obtain ⟨wh, e1, _, _⟩ := DataW.trod_int Try.underlying3 t1
      obtain ⟨b, e2, _, _⟩ := DataW.trod_string Try.underlying9 t2
      match cs', hlen with
      | [x0, x1, x2], _ =>
        simp at e0 e1 e2
        subst e0 e1 e2
        exact ⟨⟨k, wh, b⟩, hat 0 (by omega), hat 1 (by omega), hat 2 (by omega)⟩
    haveI : Inhabited Fr := ⟨⟨0, 0, ByteArray.empty⟩⟩
    obtain ⟨F, hF⟩ := Go.Deep.choose_lt hE
    have hlen : ((List.range len).map F).length = len := by simp
    refine ⟨(List.range len).map F, ⟨some a', _, by rw [hlen], by rw [hlen]; unfold maxLen at hm; omega, ?_⟩, ?_⟩
    · by_cases h0 : len = 0
      · left; subst h0; simp
      · right
        obtain ⟨b, off, spot⟩ := a'
        have hspot : spot = none := by simpa [Addr.add] using World.cell?_spot (hF 0 (by omega)).1
        subst hspot
        have e : ∀ i j, ((⟨b, off, none⟩ : Addr).add (i * 3)).add j = ⟨b, off + i * 3 + j, none⟩ := fun i j => by rw [Go.WideShapes.add_plain, Go.WideShapes.add_plain]
        refine ⟨b, off, rfl, ?_, fun i hi => ?_⟩
        · rcases Nat.lt_or_ge b W.heap.size with h' | h'
          · exact h'
          · have := (hF 0 (by omega)).1
            rw [e] at this
            simp [World.cell?, Array.getElem?_eq_none h'] at this
        · rw [hlen] at hi
          have := hF i hi
          rw [e, e, e] at this
          simpa using this
    · have hd : d = .slice ((List.range len).map D) ((List.range (m - len)).map fun j => D (len + j)) := (Prod.ext_iff.1 hx).1
      rw [hd, hlen]
      have := bulk_length ((List.range len).map D)
      simp only [Rows.uptoBulk]
      simp only [List.length_map, List.length_range] at this
      omega
theorem open_nums {W : World} {v : Value} {d : DataW H} {p : List MemPlace} {r : Reach} {b0 : Nat} (hv : Value.okWide Try.prog W r b0 39 v) (h : DataW.Trod enc Try.prog W 0 (fun _ => true) true 39 v d p) :
    ∃ zs : List Int, Ints W v zs ∧ zs.length ≤ Rows.uptoBulk d := by
  obtain ⟨a, len, cap, rfl⟩ := okWide_slice Try.underlying39 hv
  obtain ⟨fuel, hf⟩ := h
  rcases open_ints Try.underlying39 Try.underlying3 cells3 hf with ⟨hcs, hx⟩ | ⟨a', len', cap', zs, hcs, hb, hl, hm, hz, hx, hcell, hwf⟩
  · simp [Value.cells] at hcs
    obtain ⟨rfl, rfl, rfl⟩ := hcs
    exact ⟨[], ⟨none, 0, rfl, by simp, by simp, Or.inl rfl⟩, by simp⟩
  · simp [Value.cells] at hcs
    obtain ⟨rfl, rfl, rfl⟩ := hcs
    simp only [if_true] at hz
    have hlen : (zs.take len).length = len := by simp; omega
    refine ⟨zs.take len, ⟨some a', cap, by rw [hlen], by rw [hlen]; unfold maxLen at hm; omega, fun z hz' => ?_, ?_⟩, ?_⟩
    · have := hwf z (List.mem_of_mem_take hz')
      simpa [Lit.wf, IntKind.min, IntKind.max, IntKind.signed, IntKind.bits] using this
    · by_cases h0 : len = 0
      · left; subst h0; simp
      · right
        obtain ⟨b, off, spot⟩ := a'
        have hspot : spot = none := by simpa [Addr.add] using World.cell?_spot (hcell 0 (by omega))
        subst hspot
        have hplain : ∀ j, j < zs.length → W.cell? ⟨b, off + j, none⟩ = some (.int .i64 (zs.getD j 0)) := fun j hj => by rw [← Go.WideShapes.add_plain]; exact hcell j hj
        refine ⟨b, off, rfl, ?_, fun i hi => ?_⟩
        · rcases Nat.lt_or_ge b W.heap.size with h' | h'
          · exact h'
          · have := hplain 0 (by omega)
            simp [World.cell?, Array.getElem?_eq_none h'] at this
        · rw [hlen] at hi
          rw [hplain i (by omega)]
          simp [List.getD, List.getElem?_take_of_lt hi]
    · have hd : d = .slice (lits .i64 (zs.take len)) (lits .i64 (zs.drop len)) := (Prod.ext_iff.1 hx).1
      rw [hd]
      have := bulk_length (H := H) (lits .i64 (zs.take len))
      simp only [Rows.uptoBulk]
      have e : (lits (H := H) .i64 (zs.take len)).length = (zs.take len).length := by simp [lits]
      omega
end Go.Proofs.Ytnheaafepejaoaa
