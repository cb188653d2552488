/-
  What an argument of each of this seat's types is: a class, a slice of classes; and that it is no longer than its bulk; and what '==' says of two classes. No function is walked here.
-/
import Derived.Test.YtgoejdakmbpcmaaRows
import Derived.Test.YtgoejdakmbpcmaaMath
import Derived.WalkKit
import Derived.ProofKit
import Derived.OpenShut
import Derived.Carry
import Derived.Below
import Derived.Deep.Slices
import Derived.Deep.Strs
import Derived.Laws.StructEq
import Derived.ChangeKeysEq
import Derived.OwnWalk
namespace Go.Proofs.Ytgoejdakmbpcmaa
open Go.ChangeShapes Go.WideShapes Go.ChangeAt Go.RowKit
open Cls

theorem cells24 : Try.prog.cellsOf 24 = 4 := by kernel_rfl
theorem cells22 : Try.prog.cellsOf 22 = 1 := by kernel_rfl
theorem bytes24 : Try.prog.bytesOf 24 = 32 := by kernel_rfl

/-! ### Two classes held against each other -/
theorem wd_ne {a b : Wd} (h : a ≠ b) : ¬ ((a.toNat : Int) = (b.toNat : Int)) := fun e => h (BitVec.eq_of_toNat_eq (by omega))
theorem info22 : (Try.prog.info? 22).map (fun i => (i.zero, i.size, i.bytes)) = some (some (.int .u64 0), 1, 8) := by kernel_rfl
theorem eql24 (c d : Cl) (w : World) : (binOp .eql 24 (.agg #[.int .u64 (c.1.toNat : Int), .int .u64 (c.2.1.toNat : Int), .int .u64 (c.2.2.1.toNat : Int), .int .u64 (c.2.2.2.toNat : Int)]) (.agg #[.int .u64 (d.1.toNat : Int), .int .u64 (d.2.1.toNat : Int), .int .u64 (d.2.2.1.toNat : Int), .int .u64 (d.2.2.2.toNat : Int)])).run Try.prog w = .ok (.bool (decide (c = d))) w := by
  obtain ⟨i, hi, _, _, _⟩ := info_parts info22
  have u22 := Try.underlying22
  rw [run_eql_struct, show (10000 : Nat) = 9999 + 1 from rfl, run_equalIn_array w 9999 _ _ Try.underlying24 hi]
  simp only [cells22]
  obtain ⟨c0, c1, c2, c3⟩ := c
  obtain ⟨d0, d1, d2, d3⟩ := d
  by_cases h0 : c0 = d0
  · subst h0
    by_cases h1 : c1 = d1
    · subst h1
      by_cases h2 : c2 = d2
      · subst h2
        by_cases h3 : c3 = d3
        · subst h3
          simp [Op.eqItems, List.range_succ, go_sem, u22]
        · have := wd_ne h3
          simp [Op.eqItems, List.range_succ, go_sem, u22, this, h3]
      · have := wd_ne h2
        simp [Op.eqItems, List.range_succ, go_sem, u22, this, h2]
    · have := wd_ne h1
      simp [Op.eqItems, List.range_succ, go_sem, u22, this, h1]
  · have := wd_ne h0
    simp [Op.eqItems, List.range_succ, go_sem, u22, this, h0]

variable {H : Type} {enc : TypeId × Value → H}

theorem okWide_array {P : Program} {w : World} {r : Reach} {base n : Nat} {t e : TypeId} {v : Value} (ht : P.underlying t = some (.array n e)) (h : Value.okWide P w r base t v) : ∃ cs, v = .agg cs ∧ cs.size = P.cellsOf t := by
  simp only [Value.okWide, ht] at h
  obtain ⟨cs, h1, h2, _⟩ := h
  exact ⟨cs, h1, h2⟩

theorem open_word {W : World} {base m : Nat} {spare : Nat → Bool} {held : Bool} {x : Value} {y : DataW H × List MemPlace} (h : DataW.trod enc Try.prog W base spare held m 22 [x] = some y) : ∃ a : Wd, x = .int .u64 (a.toNat : Int) := by
  obtain ⟨z, e0, _, hw⟩ := DataW.trod_int Try.underlying22 h
  simp at e0
  subst e0
  have h2 : 0 ≤ z ∧ z ≤ 18446744073709551615 := by simpa [Lit.wf, IntKind.min, IntKind.max, IntKind.signed, IntKind.bits] using hw
  refine ⟨BitVec.ofNat 64 z.toNat, ?_⟩
  have : (BitVec.ofNat 64 z.toNat).toNat = z.toNat := by rw [BitVec.toNat_ofNat]; omega
  rw [this]
  have : (z.toNat : Int) = z := by omega
  rw [this]
/-- Four cells that read as a class. -/
theorem open_cells {W : World} {base m : Nat} {spare : Nat → Bool} {held : Bool} {cs : List Value} {y : DataW H × List MemPlace} (h : DataW.trod enc Try.prog W base spare held m 24 cs = some y) :
    ∃ c : Cl, cs = [.int .u64 (c.1.toNat : Int), .int .u64 (c.2.1.toNat : Int), .int .u64 (c.2.2.1.toNat : Int), .int .u64 (c.2.2.2.toNat : Int)] := by
  obtain ⟨xs, k, _, _, hl, hn, hf⟩ := DataW.trod_array Try.underlying24 h
  rw [cells24] at hl
  simp only [cells22] at hf
  match cs, hl with
  | [x0, x1, x2, x3], _ =>
    match xs, hn with
    | [y0, y1, y2, y3], _ =>
      have h0 := hf 0 (by omega)
      have h1 := hf 1 (by omega)
      have h2 := hf 2 (by omega)
      have h3 := hf 3 (by omega)
      simp at h0 h1 h2 h3
      obtain ⟨a0, rfl⟩ := open_word h0
      obtain ⟨a1, rfl⟩ := open_word h1
      obtain ⟨a2, rfl⟩ := open_word h2
      obtain ⟨a3, rfl⟩ := open_word h3
      exact ⟨(a0, a1, a2, a3), rfl⟩
theorem open_class {W : World} {base b0 : Nat} {spare : Nat → Bool} {held : Bool} {r : Reach} {v : Value} {d : DataW H} {p : List MemPlace} (hv : Value.okWide Try.prog W r b0 24 v) (h : DataW.Trod enc Try.prog W base spare held 24 v d p) :
    ∃ c : Cl, v = .agg #[.int .u64 (c.1.toNat : Int), .int .u64 (c.2.1.toNat : Int), .int .u64 (c.2.2.1.toNat : Int), .int .u64 (c.2.2.2.toNat : Int)] := by
  obtain ⟨cs, rfl, hsz⟩ := okWide_array Try.underlying24 hv
  obtain ⟨fuel, hf⟩ := h
  obtain ⟨c, hc⟩ := open_cells hf
  refine ⟨c, ?_⟩
  have : cs = #[.int .u64 (c.1.toNat : Int), .int .u64 (c.2.1.toNat : Int), .int .u64 (c.2.2.1.toNat : Int), .int .u64 (c.2.2.2.toNat : Int)] := by
    apply Array.toList_inj.1
    simpa [Value.cells] using hc
  rw [this]

/-- A value is a slice that holds these classes. -/
def Cs (w : World) (v : Value) (l : List Cl) : Prop :=
  ∃ ao cap, v = .slice ao l.length cap ∧ l.length ≤ 9223372036854775807 ∧ (l = [] ∨ ∃ b o, ao = some ⟨b, o, none⟩ ∧ b < w.heap.size ∧
    ∀ i (hi : i < l.length) j, j < 4 → w.cell? ⟨b, o + i * 4 + j, none⟩ = some (.int .u64 ((wd l[i] j).toNat : Int)))
theorem Cs.below {w w' : World} {v : Value} {l : List Cl} (h : Cs w v l) {B : Nat} (hb : Below B w w') (hB : w.heap.size ≤ B) : Cs w' v l := by
  obtain ⟨ao, cap, hv, hm, h | ⟨b, o, h1, h2, h3⟩⟩ := h
  · exact ⟨ao, cap, hv, hm, Or.inl h⟩
  · exact ⟨ao, cap, hv, hm, Or.inr ⟨b, o, h1, Nat.lt_of_lt_of_le h2 hb.size, fun i hi j hj => (hb.cell (p := ⟨b, o + i * 4 + j, none⟩) (by simp; omega)).trans (h3 i hi j hj)⟩⟩
theorem cs_nil (w : World) : Cs w (.slice none 0 0) [] := ⟨none, 0, rfl, by simp, Or.inl rfl⟩

theorem bulk_length (l : List (DataW H)) : l.length ≤ Rows.uptoBulkAll l := by
  induction l with
  | nil => simp [Rows.uptoBulkAll]
  | cons x r ih =>
    have : 1 ≤ Rows.uptoBulk x := by
      cases x with
      | lit l => cases l <;> simp [Rows.uptoBulk]
      | nil => simp [Rows.uptoBulk]
      | ptr d => simp [Rows.uptoBulk]
      | slice elems spare => simp [Rows.uptoBulk]
      | agg parts => simp [Rows.uptoBulk]
      | iface t d => simp [Rows.uptoBulk]
      | map entries => simp [Rows.uptoBulk]
      | held h => simp [Rows.uptoBulk]
    simp only [Rows.uptoBulkAll, List.length_cons]; omega

theorem open_cls_wide {W : World} {v : Value} {d : DataW H} {p : List MemPlace} {r : Reach} {b0 : Nat} (hv : Value.okWide Try.prog W r b0 36 v) (h : DataW.Trod enc Try.prog W 0 (fun _ => true) true 36 v d p) :
    ∃ l : List Cl, Cs W v l ∧ (l = [] ∨ ∃ el sp, d = .slice el sp ∧ el.length = l.length) := by
  obtain ⟨a, len, cap, rfl⟩ := okWide_slice Try.underlying36 hv
  obtain ⟨fuel, hf⟩ := h
  rcases Go.Deep.open_slice Try.underlying36 hf with ⟨hcs, hx⟩ | ⟨a', len', cap', m, n, D, Pl, hcs, hb, hl, hm, hmm, hx, hel⟩
  · simp [Value.cells] at hcs
    obtain ⟨rfl, rfl, rfl⟩ := hcs
    exact ⟨[], cs_nil W, Or.inl rfl⟩
  · simp [Value.cells] at hcs
    obtain ⟨rfl, rfl, rfl⟩ := hcs
    simp only [if_true] at hmm
    subst hmm
    rw [cells24] at hel hx
    have hE : ∀ i, i < len → ∃ c : Cl, ∀ j, j < 4 → W.cell? ((a'.add (i * 4)).add j) = some (.int .u64 ((wd c j).toNat : Int)) := by
      intro i hi
      obtain ⟨cs', hc, ht⟩ := hel i (by omega)
      obtain ⟨_, hlen, hat⟩ := World.cells?_some hc
      obtain ⟨c, rfl⟩ := open_cells ht
      refine ⟨c, fun j hj => ?_⟩
      have hj' := hat j (by first | omega | (simp; omega))
      rw [hj']
      have : j = 0 ∨ j = 1 ∨ j = 2 ∨ j = 3 := by omega
      rcases this with rfl | rfl | rfl | rfl <;> rfl
    obtain ⟨F, hF⟩ := Go.Deep.choose_lt hE
    have hlen : ((List.range len).map F).length = len := by simp
    refine ⟨(List.range len).map F, ⟨some a', _, by rw [hlen], by rw [hlen]; unfold maxLen at hm; omega, ?_⟩, ?_⟩
    · by_cases h0 : len = 0
      · left; subst h0; simp
      · right
        obtain ⟨b, off, spot⟩ := a'
        have hspot : spot = none := by simpa [Addr.add] using World.cell?_spot (hF 0 (by omega) 0 (by omega))
        subst hspot
        have e : ∀ i j, ((⟨b, off, none⟩ : Addr).add (i * 4)).add j = ⟨b, off + i * 4 + j, none⟩ := fun i j => by rw [Go.WideShapes.add_plain, Go.WideShapes.add_plain]
        refine ⟨b, off, rfl, ?_, fun i hi j hj => ?_⟩
        · rcases Nat.lt_or_ge b W.heap.size with h' | h'
          · exact h'
          · have := hF 0 (by omega) 0 (by omega)
            rw [e] at this
            simp [World.cell?, Array.getElem?_eq_none h'] at this
        · rw [hlen] at hi
          have := hF i hi j hj
          rw [e] at this
          simpa using this
    · right
      have hd : d = .slice ((List.range len).map D) ((List.range (m - len)).map fun j => D (len + j)) := (Prod.ext_iff.1 hx).1
      exact ⟨_, _, hd, by simp⟩
theorem open_cls {W : World} {v : Value} {d : DataW H} {p : List MemPlace} {r : Reach} {b0 : Nat} (hv : Value.okWide Try.prog W r b0 36 v) (h : DataW.Trod enc Try.prog W 0 (fun _ => true) true 36 v d p) :
    ∃ l : List Cl, Cs W v l ∧ l.length ≤ Rows.uptoBulk d := by
  obtain ⟨l, h1, h2 | ⟨el, sp, rfl, h2⟩⟩ := open_cls_wide hv h
  · exact ⟨l, h1, by rw [h2]; simp⟩
  · refine ⟨l, h1, ?_⟩
    have := bulk_length el
    simp only [Rows.uptoBulk]
    omega
end Go.Proofs.Ytgoejdakmbpcmaa
