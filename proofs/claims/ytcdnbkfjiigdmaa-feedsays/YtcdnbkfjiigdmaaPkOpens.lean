/-
  What a packed automaton is that is handed in: 256 numbers of columns, rows of numbers, tags. No function is walked here.
-/
import Derived.Test.YtcdnbkfjiigdmaaStates
import Derived.Test.YtcdnbkfjiigdmaaPkMath
namespace Go.Proofs.Ytcdnbkfjiigdmaa
open Go.ChangeShapes Go.WideShapes Go.ChangeAt Go.RowKit
open Dfa

theorem cells22 : Try.prog.cellsOf 22 = 256 := by kernel_rfl
theorem cells23 : Try.prog.cellsOf 23 = 1 := by kernel_rfl
theorem cells24 : Try.prog.cellsOf 24 = 1 := by kernel_rfl
theorem cells26 : Try.prog.cellsOf 26 = 258 := by kernel_rfl
theorem cells5 : Try.prog.cellsOf 5 = 1 := by kernel_rfl
theorem size22 : (Try.prog.info? 22).map (·.size) = some 256 := by kernel_rfl
theorem size26 : (Try.prog.info? 26).map (·.size) = some 258 := by kernel_rfl

variable {H : Type} {enc : TypeId × Value → H}
/-- A value is a slice that holds these lists of numbers. -/
def Nx (w : World) (v : Value) (n : Nat) (L : Nat → Nat) (X : Nat → Nat → Int) : Prop :=
  ∃ ao cap, v = .slice ao n cap ∧ n ≤ 9223372036854775807 ∧ (n = 0 ∨ ∃ b o, ao = some ⟨b, o, none⟩ ∧ b < w.heap.size ∧ ∀ i, i < n → ∃ u, w.cell? ⟨b, o + i, none⟩ = some u ∧ Ts w u (L i) (X i))
theorem Nx.below {w w' : World} {v : Value} {n : Nat} {L : Nat → Nat} {X : Nat → Nat → Int} (h : Nx w v n L X) {B : Nat} (hb : Below B w w') (hB : w.heap.size ≤ B) : Nx w' v n L X := by
  obtain ⟨ao, cap, hv, hm, h | ⟨b, o, h1, h2, h3⟩⟩ := h
  · exact ⟨ao, cap, hv, hm, Or.inl h⟩
  · refine ⟨ao, cap, hv, hm, Or.inr ⟨b, o, h1, Nat.lt_of_lt_of_le h2 hb.size, fun i hi => ?_⟩⟩
    obtain ⟨u, g1, g2⟩ := h3 i hi
    exact ⟨u, (hb.cell (p := ⟨b, o + i, none⟩) (by simp; omega)).trans g1, g2.below hb hB⟩
/-- The cells of the numbers of columns; those of all of it. -/
def ol (O : Nat → Nat) : List Value := (List.range 256).map fun j => Value.int .u8 (O j : Int)
def pl (O : Nat → Nat) (nv tv : Value) : List Value := ol O ++ [nv, tv]
theorem ol_length (O : Nat → Nat) : (ol O).length = 256 := by simp [ol]
theorem pl_length (O : Nat → Nat) (nv tv : Value) : (pl O nv tv).length = 258 := by simp [pl, ol_length]
theorem ol_at (O : Nat → Nat) (j : Nat) (hj : j < 256) : (ol O)[j]? = some (.int .u8 (O j : Int)) := by simp [ol, hj]
theorem pl_of (O : Nat → Nat) (nv tv : Value) (j : Nat) (hj : j < 256) : (pl O nv tv)[j]? = some (.int .u8 (O j : Int)) := by
  rw [pl, List.getElem?_append_left (by rw [ol_length]; exact hj), ol_at O j hj]
theorem pl_next (O : Nat → Nat) (nv tv : Value) : (pl O nv tv)[256]? = some nv := by
  rw [pl, List.getElem?_append_right (by rw [ol_length]; omega), ol_length]; rfl
theorem pl_tags (O : Nat → Nat) (nv tv : Value) : (pl O nv tv)[257]? = some tv := by
  rw [pl, List.getElem?_append_right (by rw [ol_length]; omega), ol_length]; rfl
theorem cell_of_block (w : World) (l : List Value) (t : TypeId) (j : Nat) : (w.alloc (.cells l.toArray t)).cell? ⟨w.heap.size, j, none⟩ = l[j]? := by
  rw [cell_of_row _ _ j l.toArray t (0, 0) (heap_alloc_last w _)]
  simp
theorem range_block (w : World) (l : List Value) (t : TypeId) : (w.alloc (.cells l.toArray t)).rangeAt w.heap.size 0 l := fun j v hv => by
  rw [Nat.zero_add, cell_of_block]; exact hv

theorem open_of {W : World} {m : Nat} {cs : List Value} {y : DataW H × List MemPlace} (h : DataW.trod enc Try.prog W 0 (fun _ => true) true m 22 cs = some y) : ∃ O : Nat → Nat, (∀ j, O j < 256) ∧ cs = ol O := by
  obtain ⟨xs, k, _, _, hl, hn, hf⟩ := DataW.trod_array Try.underlying22 h
  rw [cells22] at hl
  simp only [cells5] at hf
  have hE : ∀ j, ∃ z : Nat, z < 256 ∧ (j < 256 → cs[j]? = some (.int .u8 (z : Int))) := by
    intro j
    by_cases hj : j < 256
    · have h0 := hf j (by omega)
      rw [List.getElem?_eq_getElem (by omega)] at h0
      obtain ⟨z, e0, _, hw⟩ := DataW.trod_int Try.underlying5 h0
      have hz : 0 ≤ z ∧ z ≤ 255 := by simpa [Lit.wf, IntKind.min, IntKind.max, IntKind.signed, IntKind.bits] using hw
      refine ⟨z.toNat, by omega, fun _ => ?_⟩
      have e1 : ((cs.drop (j * 1)).take 1)[0]? = some (.int .u8 z) := by rw [e0]; rfl
      rw [show ((z.toNat : Nat) : Int) = z by omega]
      simpa [List.getElem?_take, List.getElem?_drop] using e1
    · exact ⟨0, by omega, fun h => absurd h hj⟩
  obtain ⟨F, hF⟩ := Classical.axiomOfChoice hE
  refine ⟨F, fun j => (hF j).1, List.ext_getElem? fun j => ?_⟩
  by_cases hj : j < 256
  · rw [(hF j).2 hj, ol_at F j hj]
  · rw [List.getElem?_eq_none (by omega), List.getElem?_eq_none (by rw [ol_length]; omega)]
theorem open_next {W : World} {fuel : Nat} {v : List Value} {y : DataW H × List MemPlace} (hf : DataW.trod enc Try.prog W 0 (fun _ => true) true fuel 23 v = some y) :
    ∃ nv n L X, v = [nv] ∧ Nx W nv n L X := by
  rcases Go.Deep.open_slice Try.underlying23 hf with ⟨hcs, hx⟩ | ⟨a', n, cap', m, k, D, Pl, hcs, hb, hl, hm, hmm, hx, hel⟩
  · exact ⟨_, 0, fun _ => 0, fun _ _ => 0, hcs, none, 0, rfl, by omega, Or.inl rfl⟩
  · simp only [if_true] at hmm
    subst hmm
    rw [cells24] at hel
    have hE : ∀ i, ∃ q : (Nat × (Nat → Int)), i < n → ∃ u, W.cell? ((a'.add (i * 1)).add 0) = some u ∧ Ts W u q.1 q.2 := by
      intro i
      by_cases hi : i < n
      · obtain ⟨cs', hc, ht⟩ := hel i (by omega)
        obtain ⟨_, hlen, hat⟩ := World.cells?_some hc
        obtain ⟨u, rfl⟩ : ∃ u, cs' = [u] := by
          match cs', hlen with
          | [u], _ => exact ⟨u, rfl⟩
        obtain ⟨a1, n1, cap1, rfl⟩ : ∃ a n cap, u = .slice a n cap := by
          rcases Go.Deep.open_slice Try.underlying24 ht with ⟨hcs, hx⟩ | ⟨a', len', cap', m, k, D, Pl, hcs, _⟩
          · simp at hcs; exact ⟨_, _, _, hcs⟩
          · simp at hcs; exact ⟨_, _, _, hcs⟩
        obtain ⟨T, hT⟩ := open_tags a1 n1 cap1 rfl ht
        exact ⟨(n1, T), fun _ => ⟨_, by rw [hat 0 (by simp)]; rfl, hT⟩⟩
      · exact ⟨(0, fun _ => 0), fun h => absurd h hi⟩
    obtain ⟨F, hF⟩ := Classical.axiomOfChoice hE
    refine ⟨_, n, fun i => (F i).1, fun i => (F i).2, hcs, some a', _, rfl, by unfold maxLen at hm; omega, ?_⟩
    by_cases h0 : n = 0
    · left; exact h0
    · right
      obtain ⟨b, off, spot⟩ := a'
      obtain ⟨u0, c0, -⟩ := hF 0 (by omega)
      have hspot : spot = none := by simpa [Addr.add] using World.cell?_spot c0
      subst hspot
      have e : ∀ i, ((⟨b, off, none⟩ : Addr).add (i * 1)).add 0 = ⟨b, off + i, none⟩ := fun i => by rw [Go.WideShapes.add_plain, Go.WideShapes.add_plain]; simp
      refine ⟨b, off, rfl, ?_, fun i hi => ?_⟩
      · rcases Nat.lt_or_ge b W.heap.size with h' | h'
        · exact h'
        · rw [e] at c0
          simp [World.cell?, Array.getElem?_eq_none h'] at c0
      · obtain ⟨u, g1, g2⟩ := hF i hi
        rw [e] at g1
        exact ⟨u, g1, g2⟩
set_option maxRecDepth 20000 in
theorem open_packed {W : World} {r : Reach} {b0 : Nat} {v : Value} {d : DataW H} {p : List MemPlace} (hv : Value.okWide Try.prog W r b0 26 v) (h : DataW.Trod enc Try.prog W 0 (fun _ => true) true 26 v d p) :
    ∃ O nv tv n m L X T, v = .agg (pl O nv tv).toArray ∧ (∀ j, O j < 256) ∧ Nx W nv n L X ∧ Ts W tv m T := by
  obtain ⟨cs, rfl, hsz⟩ := okWide_struct Try.underlying26 hv
  obtain ⟨fuel, hf⟩ := h
  obtain ⟨y0, y1, y2, n, -, hl, h0, h1, h2⟩ := Go.Deep.trod_struct3 Try.underlying26 hf
  rw [cells26] at hl
  simp only [Value.cells] at hl h0 h1 h2
  obtain ⟨l⟩ := cs
  simp only at hl h0 h1 h2
  simp only [cells22, cells23, cells24] at h0 h1 h2
  obtain ⟨O, hO, e0⟩ := open_of h0
  obtain ⟨nv, n, L, X, e1, hN⟩ := open_next h1
  obtain ⟨tv, e2⟩ : ∃ tv, (l.drop 257).take 1 = [tv] := ⟨l[257], by rw [List.drop_eq_getElem_cons (by omega)]; rfl⟩
  have h2' : DataW.trod enc Try.prog W 0 (fun _ => true) true _ 24 ((l.drop 257).take 1) = some y2 := h2
  rw [e2] at h2'
  obtain ⟨a1, n1, cap1, rfl⟩ : ∃ a n cap, tv = .slice a n cap := by
    rcases Go.Deep.open_slice Try.underlying24 h2' with ⟨hcs, hx⟩ | ⟨a', len', cap', m, k, D, Pl, hcs, _⟩
    · simp at hcs; exact ⟨_, _, _, hcs⟩
    · simp at hcs; exact ⟨_, _, _, hcs⟩
  obtain ⟨T, hT⟩ := open_tags a1 n1 cap1 rfl h2'
  refine ⟨O, nv, _, n, n1, L, X, T, ?_, hO, hN, hT⟩
  have e0' : l.take 256 = ol O := by simpa using e0
  have e1' : (l.drop 256).take 1 = [nv] := e1
  have : l = l.take 256 ++ ((l.drop 256).take 1 ++ (l.drop 257).take 1) := by
    apply List.ext_getElem?
    intro j
    rw [List.getElem?_append, List.length_take]
    split
    · rw [List.getElem?_take_of_lt (by omega)]
    · rw [List.getElem?_append]
      simp only [List.length_take, List.length_drop]
      split
      · rw [List.getElem?_take_of_lt (by omega), List.getElem?_drop]; congr 1; omega
      · by_cases hj : j < 258
        · rw [List.getElem?_take_of_lt (by omega), List.getElem?_drop]; congr 1; omega
        · rw [List.getElem?_eq_none (by omega), List.getElem?_eq_none (by simp; omega)]
  rw [this, e0', e1', e2]
  rfl
end Go.Proofs.Ytcdnbkfjiigdmaa
