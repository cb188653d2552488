/-
  The contract of slices.Clone at numbers, of a slice that is not nil. The contract of the document's own answer: pushref.Wide. The contracts of slices.Equal at numbers and at rows, and of pushlaw.SameDfa. The contract of small.columnOf: where a byte leads from each state. Rows of one's own, one behind the other: a table that grows by columns. No function is walked here. The contract of small.addColumn: each row of the table has one number more. The mathematics of columns, numbered by the least byte that has them; columns as keys of a map. No function is walked here. Stores of many cells at once: what is there behind them. No function is walked here. What small.Pack holds in memory while it goes through the bytes. No function is walked here.
-/
import Derived.Test.YtlmlkpdppkgenaaWKa
import Derived.Deep.OwnRows
import Derived.Lib.SliceRun
import Derived.Deep.AppendLies
import Derived.Great.BuildSlice
import Derived.ChangeKeysEq
import Derived.Maps.OwnSet
import Derived.Maps.Own
import Derived.DeepKeys4
namespace Go.Proofs.Ytlmlkpdppkgenaa.Pk
open Go.RowKit
open Dfa

theorem info3 : (Try.prog.info? 3).map (fun i => (i.zero, i.size, i.bytes)) = some (some (.int .i64 0), 1, 8) := by kernel_rfl
theorem cells_of_own {w : World} {base n : Nat} {v : Value} {xs : List Value} (h : w.ownsRow base 3 1 v n xs) (h0 : 0 < n) : ∃ g cap, v = .slice (some ⟨g, 0, none⟩) n cap ∧ base ≤ g ∧ g < w.heap.size ∧ ∀ i u, xs[i]? = some u → w.cell? ⟨g, i, none⟩ = some u := by
  obtain ⟨hl, ⟨h1, h2⟩ | ⟨g, cap, cur, hv, hg, hh, hn, hc, hs, ht⟩⟩ := h
  · omega
  · refine ⟨g, cap, hv, hg, ?_, fun i u hu => ?_⟩
    · rcases Nat.lt_or_ge g w.heap.size with h' | h'
      · exact h'
      · simp [Array.getElem?_eq_none h'] at hh
    · have e : w.cell? ⟨g, i, none⟩ = cur[i]? := by simp [World.cell?, hh]
      rw [e]
      have hi : i < xs.length := (List.getElem?_eq_some_iff.1 hu).1
      have h2 : (cur.toList.take (n * 1))[i]? = xs[i]? := by rw [ht]
      rw [List.getElem?_take_of_lt (by omega), hu] at h2
      simpa using h2
def tl (n : Nat) (T : Nat → Int) : List Value := (List.range n).map fun i => Value.int .i64 (T i)
theorem tl_at (n : Nat) (T : Nat → Int) (j : Nat) (hj : j < n) : (tl n T)[j]? = some (.int .i64 (T j)) := by simp [tl, hj]

set_option maxHeartbeats 1600000 in
set_option maxRecDepth 20000 in
theorem clone_any (tv : Value) (n : Nat) (T : Nat → Int) (w : World) (ht : Ts w tv n T) (h0 : 0 < n) (hn : n ≤ 200) :
    Calls Try.prog 47 #[tv] w fun e w' => ∃ g cap, e = .returned (.slice (some ⟨g, 0, none⟩) n cap) ∧ w.heap.size ≤ g ∧ g < w'.heap.size ∧ (∀ i, i < n → w'.cell? ⟨g, i, none⟩ = some (.int .i64 (T i))) ∧ Below w.heap.size w w' := by
  obtain ⟨ao, cap, rfl, hm, hwf, hcs⟩ := ht
  obtain ⟨b, o, rfl, hb, hc⟩ := hcs.resolve_left (by omega)
  clear hcs hwf
  have HC : Hid (∀ j u, (tl n T)[j]? = some u → w.cell? ⟨b, o + j, none⟩ = some u) := fun j u hu => by
    have hj : j < n := by have := (List.getElem?_eq_some_iff.1 hu).1; simpa [tl] using this
    rw [tl_at n T j hj] at hu
    rw [hc j hj, hu]
  have HL : Hid ((tl n T).length = n * 1 ∧ ∀ u ∈ tl n T, u.oneCell' = true) := by
    refine ⟨by simp [tl], fun u hu => ?_⟩
    simp only [tl, List.mem_map] at hu
    obtain ⟨j, _, rfl⟩ := hu
    rfl
  have HT : Hid (∀ j, j < n → (tl n T)[j]? = some (.int .i64 (T j))) := fun j hj => tl_at n T j hj
  obtain ⟨xs, HX⟩ : ∃ xs, Hid (tl n T = xs) := ⟨_, (rfl : tl n T = tl n T)⟩
  rw [HX.out] at HC HL HT
  clear hc HX
  obtain ⟨i3, hi3, hz3, hs3, hb3⟩ := info_parts info3
  have H3 : Hid (Try.prog.info? 3 = some i3 ∧ i3.zero = some (.int .i64 0) ∧ i3.size = 1 ∧ i3.bytes = 8) := ⟨hi3, hz3, hs3, hb3⟩
  clear hi3 hz3 hs3 hb3
  have q23 : ∀ (w : World) (a : Option Addr) (n c n' c' : Nat), (binOp .eql 23 (.slice a n c) (.slice none n' c')).run Try.prog w = .ok (.bool a.isNone) w := fun w a n c n' c' => Go.Lib.run_eql_slice_nil w _ _ a n c n' c' Try.underlying23
  go_enter Try.func47, Try.ntmps47
  go_wp2_with (at_builtin; refine wpList_append_own _ rfl _ _ 23 rfl w.heap.size 3 i3 (.int .i64 0) 1 8 Try.underlying23 H3.out.1 H3.out.2.1 H3.out.2.2.1 H3.out.2.2.2 rfl (by omega) _ _ _ rfl (World.ownsRow_made w #[] 0 (Nat.le_refl _) (Nat.zero_le _) (by simp)) ⟨b, o, none⟩ n cap xs rfl ?qc1 ?qc2 ?qc3 ?qc4 ?qc5 ?qc6 ?_)
  case qc1 => exact HL.out.1
  case qc2 =>
    intro j u hj
    rw [Addr.add_lit]
    exact Go.Lib.cell?_alloc_some _ (HC.out j u hj)
  case qc3 => exact HL.out.2
  case qc4 => rw [Nat.zero_add]; simp [maxLen]; omega
  case qc5 => omega
  case qc6 => simp
  intro v' w1 hown hgrow hnil
  obtain ⟨g, cp, rfl, hg, hgl, hcell⟩ := cells_of_own hown h0
  have HB : Hid (Below w.heap.size w w1) := ((Below.refl _ w).alloc (Nat.le_refl _) _).grown hgrow (by simp) (by intro k hk; simp [Value.ownBlock] at hk; omega)
  have HG : Hid (w.heap.size ≤ g ∧ g < w1.heap.size ∧ ∀ i, i < n → w1.cell? ⟨g, i, none⟩ = some (.int .i64 (T i))) := ⟨hg, hgl, fun i hi => hcell i _ (HT.out i hi)⟩
  clear hown hgrow hnil hcell
  go_wp2_with fail
  go_ret
  exact ⟨g, cp, rfl, HG.out.1, HG.out.2.1, HG.out.2.2, HB.out⟩
set_option maxHeartbeats 1600000 in
set_option maxRecDepth 20000 in
theorem cloneT_own (tv : Value) (n : Nat) (T : Nat → Int) (w : World) (ht : Ts w tv n T) (h0 : 0 < n) (hn : n ≤ 200) :
    Calls Try.prog 47 #[tv] w fun e w' => ∃ g cap, e = .returned (.slice (some ⟨g, 0, none⟩) n cap) ∧ w'.ownsRow w.heap.size 3 1 (.slice (some ⟨g, 0, none⟩) n cap) n (tl n T) ∧ Below w.heap.size w w' := by
  obtain ⟨ao, cap, rfl, hm, hwf, hcs⟩ := ht
  obtain ⟨b, o, rfl, hb, hc⟩ := hcs.resolve_left (by omega)
  clear hcs hwf
  have HC : Hid (∀ j u, (tl n T)[j]? = some u → w.cell? ⟨b, o + j, none⟩ = some u) := fun j u hu => by
    have hj : j < n := by have := (List.getElem?_eq_some_iff.1 hu).1; simpa [tl] using this
    rw [tl_at n T j hj] at hu
    rw [hc j hj, hu]
  have HL : Hid ((tl n T).length = n * 1 ∧ ∀ u ∈ tl n T, u.oneCell' = true) := by
    refine ⟨by simp [tl], fun u hu => ?_⟩
    simp only [tl, List.mem_map] at hu
    obtain ⟨j, _, rfl⟩ := hu
    rfl
  obtain ⟨xs, HX⟩ : ∃ xs, Hid (tl n T = xs) := ⟨_, (rfl : tl n T = tl n T)⟩
  rw [HX.out] at HC HL
  clear hc
  obtain ⟨i3, hi3, hz3, hs3, hb3⟩ := info_parts info3
  have H3 : Hid (Try.prog.info? 3 = some i3 ∧ i3.zero = some (.int .i64 0) ∧ i3.size = 1 ∧ i3.bytes = 8) := ⟨hi3, hz3, hs3, hb3⟩
  clear hi3 hz3 hs3 hb3
  have q23 : ∀ (w : World) (a : Option Addr) (n c n' c' : Nat), (binOp .eql 23 (.slice a n c) (.slice none n' c')).run Try.prog w = .ok (.bool a.isNone) w := fun w a n c n' c' => Go.Lib.run_eql_slice_nil w _ _ a n c n' c' Try.underlying23
  go_enter Try.func47, Try.ntmps47
  go_wp2_with (at_builtin; refine wpList_append_own _ rfl _ _ 23 rfl w.heap.size 3 i3 (.int .i64 0) 1 8 Try.underlying23 H3.out.1 H3.out.2.1 H3.out.2.2.1 H3.out.2.2.2 rfl (by omega) _ _ _ rfl (World.ownsRow_made w #[] 0 (Nat.le_refl _) (Nat.zero_le _) (by simp)) ⟨b, o, none⟩ n cap xs rfl ?qc1 ?qc2 ?qc3 ?qc4 ?qc5 ?qc6 ?_)
  case qc1 => exact HL.out.1
  case qc2 =>
    intro j u hj
    rw [Addr.add_lit]
    exact Go.Lib.cell?_alloc_some _ (HC.out j u hj)
  case qc3 => exact HL.out.2
  case qc4 => rw [Nat.zero_add]; simp [maxLen]; omega
  case qc5 => omega
  case qc6 => simp
  intro v' w1 hown hgrow hnil
  obtain ⟨g, cp, rfl, -⟩ := World.ownsRow.form hown (by omega)
  have HB : Hid (Below w.heap.size w w1) := ((Below.refl _ w).alloc (Nat.le_refl _) _).grown hgrow (by simp) (by intro k hk; simp [Value.ownBlock] at hk; omega)
  have HG : Hid (w1.ownsRow w.heap.size 3 1 (.slice (some ⟨g, 0, none⟩) n cp) n (tl n T)) := by
    show World.ownsRow _ _ _ _ _ _ _
    rw [HX.out]
    exact hown
  clear hown hgrow hnil
  go_wp2_with fail
  go_ret
  exact ⟨g, cp, rfl, HG.out, HB.out⟩
theorem cell_as {w w' : World} {g : Nat} (h : w'.heap[g]? = w.heap[g]?) (i : Nat) : w'.cell? ⟨g, i, none⟩ = w.cell? ⟨g, i, none⟩ := by simp [World.cell?, h]
/-- Numbers in a block of their own. -/
def Tg (gt ct n : Nat) (T : Nat → Int) (W : World) : Prop := (∀ i, i < n → W.cell? ⟨gt, i, none⟩ = some (.int .i64 (T i))) ∧ (∃ f, W.rowIs gt 3 ct f) ∧ n ≤ ct ∧ ct ≤ 9223372036854775807
theorem Tg.same {gt ct n : Nat} {T : Nat → Int} {W W' : World} (h : Tg gt ct n T W) (e : W'.heap[gt]? = W.heap[gt]?) : Tg gt ct n T W' := ⟨fun i hi => (cell_as e i).trans (h.1 i hi), h.2.1.imp fun _ hf => hf.of_block e, h.2.2⟩
theorem Tg.of_own {base g n cap : Nat} {T : Nat → Int} {W : World} (h : W.ownsRow base 3 1 (.slice (some ⟨g, 0, none⟩) n cap) n (tl n T)) (h0 : 0 < n) : Tg g cap n T W := by
  obtain ⟨g1, c1, e1, _, _, hc⟩ := cells_of_own h h0
  simp only [Value.slice.injEq, Option.some.injEq, Addr.mk.injEq] at e1
  obtain ⟨⟨rfl, _⟩, _, rfl⟩ := e1
  obtain ⟨hl, ⟨hv, -⟩ | ⟨g', cap', cur, hv, -, hb, h1, h2, h3, h4⟩⟩ := h
  · simp at hv
  · simp at hv
    obtain ⟨rfl, rfl⟩ := hv
    refine ⟨fun i hi => hc i _ (tl_at n T i hi), ⟨fun q => cur.getD q undef, ⟨cur, hb, by omega, fun i hi => by show _ = some (cur.getD i undef); rw [Array.getElem?_eq_getElem (by omega)]; simp [Array.getD, show i < cur.size by omega]⟩⟩, h1, by unfold maxLen at h2; omega⟩
theorem clone_row (tv : Value) (n : Nat) (T : Nat → Int) (w : World) (ht : Ts w tv n T) (h0 : 0 < n) (hn : n ≤ 200) :
    Calls Try.prog 47 #[tv] w fun e w' => ∃ g cap, e = .returned (.slice (some ⟨g, 0, none⟩) n cap) ∧ w.heap.size ≤ g ∧ g < w'.heap.size ∧ Tg g cap n T w' ∧ Below w.heap.size w w' :=
  (cloneT_own tv n T w ht h0 hn).mono fun _ _ ⟨g, cap, h1, h2, h3⟩ => ⟨g, cap, h1, by
    obtain ⟨g1, c1, e1, k1, k2, -⟩ := cells_of_own h2 h0
    simp only [Value.slice.injEq, Option.some.injEq, Addr.mk.injEq] at e1
    obtain ⟨⟨rfl, _⟩, _⟩ := e1
    exact ⟨k1, k2, Tg.of_own h2 h0, h3⟩⟩
end Go.Proofs.Ytlmlkpdppkgenaa.Pk

namespace Go.Proofs.Ytlmlkpdppkgenaa.Pk
open Go.RowKit
open Dfa
theorem zero42' : (Try.prog.info? 72).map (fun i => (i.zero, i.size, i.bytes)) = some (some (.agg (Array.replicate 256 (.int .i16 0))), 256, 512) := by kernel_rfl
theorem made_rows (n : Nat) : madeCells (Array.replicate 256 (Value.int .i16 0)) (n * 256) = Array.replicate (n * 256) (Value.int .i16 0) := by
  apply Array.ext
  · simp [madeCells]
  · intro i h1 h2
    have h3 : i % 256 < 256 := Nat.mod_lt _ (by omega)
    simp only [madeCells, Array.getElem_map, Array.getElem_range, Array.size_replicate, Array.getElem_replicate]
    rw [getElem!_pos _ _ (by simpa using h3)]
    simp
theorem make_rows (n : Nat) (hn : 0 < n ∧ n ≤ 200) (w : World) : (Instr.makeSlice 28 (.int .i64 (n : Int)) (.int .i64 (n : Int))).run Try.prog w = .ok (.slice (some ⟨w.heap.size, 0, none⟩) n n) (w.alloc (.cells (Array.replicate (n * 256) (Value.int .i16 0)) 72)) := by
  obtain ⟨i, hi, hz, hs, hb⟩ := info_parts zero42'
  have := run_make (P := Try.prog) w 28 72 i _ Try.underlying28 hi hz .i64 .i64 (n : Int) (n : Int) (by omega) (Int.le_refl _) (by rw [hb]; omega) (by omega)
  rw [this, hs]
  simp only [Int.toNat_natCast, Value.cells]
  rw [made_rows]
theorem rows_made (w : World) (n : Nat) : (w.alloc (.cells (Array.replicate (n * 256) (Value.int .i16 0)) 72)).rowIs w.heap.size 72 (n * 256) (fun _ => .int .i16 0) := by
  have := World.rowIs_alloc w (Array.replicate (n * 256) (Value.int .i16 0)) 72 (fun _ => .int .i16 0) (fun i hi => by simp at hi; simp [hi])
  simpa using this
theorem row_two (w : World) (u v : Value) : (w.alloc (.cells #[u, v] 30)).rowIs w.heap.size 30 2 (fun i => if i = 0 then u else v) := by
  have := World.rowIs_alloc w #[u, v] 30 (fun i => if i = 0 then u else v) (fun i hi => by
    have : i = 0 ∨ i = 1 := by simp at hi; omega
    rcases this with rfl | rfl <;> simp)
  simpa using this
/-- Two cells of a block are stored: all else stays. -/
theorem same_two (w : World) (g : Nat) (u v : Value) : ((w.setCell ⟨g, 0, none⟩ u).setCell ⟨g, 1, none⟩ v).heap.size = w.heap.size ∧ ((w.setCell ⟨g, 0, none⟩ u).setCell ⟨g, 1, none⟩ v).os = w.os ∧ ((w.setCell ⟨g, 0, none⟩ u).setCell ⟨g, 1, none⟩ v).tape = w.tape ∧ ((w.setCell ⟨g, 0, none⟩ u).setCell ⟨g, 1, none⟩ v).output = w.output ∧
    ∀ k, k ≠ g → ((w.setCell ⟨g, 0, none⟩ u).setCell ⟨g, 1, none⟩ v).heap[k]? = w.heap[k]? :=
  ⟨by simp [World.setCell], rfl, rfl, rfl, fun k hk => by rw [Below.heap_setCell _ _ _ _ (by simpa using hk), Below.heap_setCell _ _ _ _ (by simpa using hk)]⟩
theorem row_two_set {w : World} {g : Nat} {f : Nat → Value} (h : w.rowIs g 30 2 f) (u v : Value) : ((w.setCell ⟨g, 0, none⟩ u).setCell ⟨g, 1, none⟩ v).rowIs g 30 2 (fun i => if i = 0 then u else v) :=
  ((h.set 0 u).set 1 v).congr fun i hi => by
    have : i = 0 ∨ i = 1 := by omega
    rcases this with rfl | rfl <;> simp
theorem cell_same {w w' : World} {g : Nat} (h : w'.heap[g]? = w.heap[g]?) (i : Nat) : w'.cell? ⟨g, i, none⟩ = w.cell? ⟨g, i, none⟩ := by simp [World.cell?, h]
theorem Px.set {w0 : World} {g : Nat} {O : Nat → Nat} {nv tv : Value} {n m : Nat} {L : Nat → Nat} {X : Nat → Nat → Int} {T : Nat → Int} {l : List Value} {w w' : World} {b : Nat} (h : Px w0 g O nv tv n m L X T l w) (hx : Nx w0 nv n L X) (ht : Ts w0 tv m T)
    (hs : w'.heap.size = w.heap.size ∧ w'.os = w.os ∧ w'.tape = w.tape ∧ w'.output = w.output ∧ ∀ k, k ≠ b → w'.heap[k]? = w.heap[k]?) (hb : g ≠ b) (hb2 : w0.heap.size ≤ b) : Px w0 g O nv tv n m L X T l w' := by
  have e : ∀ j, w'.cell? ⟨g, j, none⟩ = w.cell? ⟨g, j, none⟩ := fun j => cell_same (hs.2.2.2.2 g hb) j
  have hB : Below w0.heap.size w0 w' := h.below.trans ⟨hs.2.1, hs.2.2.1, hs.2.2.2.1, by rw [hs.1]; exact Nat.le_refl _, fun k hk => hs.2.2.2.2 k (by omega)⟩
  exact ⟨(e _).trans h.c1, (e _).trans h.c2, fun j hj => (e _).trans (h.of j hj), fun j v hv => (e _).trans (h.all j v hv), fun j v hv => (e _).trans (h.cols j v hv), hx.below hB (Nat.le_refl _), ht.below hB (Nat.le_refl _), by rw [hs.1]; exact h.lt, hB⟩

theorem index_of (O : Nat → Nat) (j : Nat) (hj : j < 256) (w : World) : (Instr.index 52 (.agg (ol O).toArray) (.int .i64 (j : Int))).run Try.prog w = .ok (.int .u8 (O j : Int)) w := by
  have h1 : (0 : Int) ≤ (j : Int) ∧ (j : Int) < (256 : Nat) := by omega
  have h2 := ol_at O j hj
  have h3 := ol_length O
  simp [Instr.index, run_underlying Try.underlying52, asIntOf, h1, go_sem, h3, hj]
  rw [List.getElem?_eq_getElem (by omega)] at h2
  exact Option.some.inj h2
theorem wrap16 {z : Int} (h : -32768 ≤ z ∧ z ≤ 32767) : IntKind.i16.wrap z = z := by
  unfold IntKind.wrap
  simp [IntKind.bits, IntKind.signed]
  omega


/-- The cells of the first rows. -/
def rcl (O : Nat → Nat) (X : Nat → Nat → Int) (k : Nat) : List Value := (List.range (k * 256)).map fun q => Value.int .i16 (X (q / 256) (O (q % 256)))
theorem fill_row (l : List Value) (h : l.length = 256) (cells : Array Value) (hc : cells.size = 256) : Instr.fill (fun i => some (i * 256, 256)) cells [(0, .agg l.toArray)] = some l.toArray := by
  have := Great.fill_whole (s := 256) (by omega) [.agg l.toArray] cells (fun v hv => by simp at hv; subst hv; simp [Value.cells, h]) (by simp [hc])
  simpa [Value.cells] using this
theorem own_same {w w' : World} {base e size n : Nat} {v : Value} {xs : List Value} (h : w.ownsRow base e size v n xs) (hs : ∀ k, v.ownBlock = some k → w'.heap[k]? = w.heap[k]?) : w'.ownsRow base e size v n xs := by
  obtain ⟨h1, h2 | ⟨g, cap, cur, hv, hg, hh, r⟩⟩ := h
  · exact ⟨h1, Or.inl h2⟩
  · subst hv
    exact ⟨h1, Or.inr ⟨g, cap, cur, rfl, hg, by rw [hs g rfl]; exact hh, r⟩⟩

/-- What is held while the rows are laid one behind the other. -/
structure Wd (w : World) (O : Nat → Nat) (b o cap b2 o2 cap2 n : Nat) (L : Nat → Nat) (X : Nat → Nat → Int) (T : Nat → Int) (l : List Value) (k : Nat) (rv : Value) (W : World) : Prop where
  px : Px w w.heap.size O (.slice (some ⟨b, o, none⟩) n cap) (.slice (some ⟨b2, o2, none⟩) n cap2) n n L X T l W
  own : W.ownsRow (w.heap.size + 3) 72 256 rv k (rcl O X k)
  st : W.rowIs (w.heap.size + 2) 30 2 (fun i => if i = 0 then rv else (.slice (some ⟨b2, o2, none⟩) n cap2))
  rs : W.rowIs (w.heap.size + 1) 30 2 (fun _ => Value.slice none 0 0)
theorem Wd.same {w : World} {O : Nat → Nat} {b o cap b2 o2 cap2 n : Nat} {L : Nat → Nat} {X : Nat → Nat → Int} {T : Nat → Int} {l : List Value} {k : Nat} {rv : Value} {W W' : World} {g : Nat} (h : Wd w O b o cap b2 o2 cap2 n L X T l k rv W) (hx : Nx w (.slice (some ⟨b, o, none⟩) n cap) n L X) (ht : Ts w (.slice (some ⟨b2, o2, none⟩) n cap2) n T) (hg : w.heap.size + 3 ≤ g) (hr : rv.ownBlock ≠ some g)
    (hs : W'.heap.size = W.heap.size ∧ W'.os = W.os ∧ W'.tape = W.tape ∧ W'.output = W.output ∧ ∀ k, k ≠ g → W'.heap[k]? = W.heap[k]?) : Wd w O b o cap b2 o2 cap2 n L X T l k rv W' :=
  ⟨h.px.set hx ht hs (by omega) (by omega), own_same h.own fun k hk => hs.2.2.2.2 k (fun e => hr (by rw [hk, e])), h.st.of_block (hs.2.2.2.2 _ (by omega)), h.rs.of_block (hs.2.2.2.2 _ (by omega))⟩
theorem Wd.set {w : World} {O : Nat → Nat} {b o cap b2 o2 cap2 n : Nat} {L : Nat → Nat} {X : Nat → Nat → Int} {T : Nat → Int} {l : List Value} {k : Nat} {rv : Value} {W W' : World} {g : Nat} (h : Wd w O b o cap b2 o2 cap2 n L X T l k rv W) (hx : Nx w (.slice (some ⟨b, o, none⟩) n cap) n L X) (ht : Ts w (.slice (some ⟨b2, o2, none⟩) n cap2) n T) (hg : w.heap.size + 3 ≤ g) (hr : rv.ownBlock ≠ some g) (hs : Sm W W') (j : Nat) (u : Value) : Wd w O b o cap b2 o2 cap2 n L X T l k rv (W'.setCell ⟨g, j, none⟩ u) :=
  h.same hx ht hg hr ⟨by simp [World.setCell, hs.heap], hs.os, hs.tape, hs.output, fun q hq => by rw [Below.heap_setCell _ _ _ _ (by simpa using hq), hs.heap]⟩
theorem Wd.alloc {w : World} {O : Nat → Nat} {b o cap b2 o2 cap2 n : Nat} {L : Nat → Nat} {X : Nat → Nat → Int} {T : Nat → Int} {l : List Value} {k : Nat} {rv : Value} {W : World} (h : Wd w O b o cap b2 o2 cap2 n L X T l k rv W) (ob : Obj) : Wd w O b o cap b2 o2 cap2 n L X T l k rv (W.alloc ob) := by
  have B := (Below.refl W.heap.size W).alloc (Nat.le_refl _) ob
  exact ⟨h.px.step B, own_same h.own fun q hq => B.block q (h.own.lt q hq).2, h.st.alloc _, h.rs.alloc _⟩
theorem Px.moved {w0 : World} {g : Nat} {O : Nat → Nat} {nv tv : Value} {n m : Nat} {L : Nat → Nat} {X : Nat → Nat → Int} {T : Nat → Int} {l : List Value} {w w' : World} (h : Px w0 g O nv tv n m L X T l w) (hx : Nx w0 nv n L X) (ht : Ts w0 tv m T)
    (hB : Below w0.heap.size w0 w') (hs : w'.heap[g]? = w.heap[g]?) (hlt : g < w'.heap.size) : Px w0 g O nv tv n m L X T l w' := by
  have e : ∀ j, w'.cell? ⟨g, j, none⟩ = w.cell? ⟨g, j, none⟩ := fun j => cell_same hs j
  exact ⟨(e _).trans h.c1, (e _).trans h.c2, fun j hj => (e _).trans (h.of j hj), fun j v hv => (e _).trans (h.all j v hv), fun j v hv => (e _).trans (h.cols j v hv), hx.below hB (Nat.le_refl _), ht.below hB (Nat.le_refl _), hlt, hB⟩
theorem Wd.next {w : World} {O : Nat → Nat} {b o cap b2 o2 cap2 n : Nat} {L : Nat → Nat} {X : Nat → Nat → Int} {T : Nat → Int} {l : List Value} {k : Nat} {rv v' : Value} {W w' : World} {ob : Obj} (h : Wd w O b o cap b2 o2 cap2 n L X T l k rv W) (hx : Nx w (.slice (some ⟨b, o, none⟩) n cap) n L X) (ht : Ts w (.slice (some ⟨b2, o2, none⟩) n cap2) n T) (hown : w'.ownsRow (w.heap.size + 3) 72 256 v' (k + 1) (rcl O X (k + 1))) (hg : (W.alloc ob).grownBy w' rv.ownBlock) :
    Wd w O b o cap b2 o2 cap2 n L X T l (k + 1) v' (w'.setCell ⟨w.heap.size + 2, 0, none⟩ v') := by
  have hsz := h.st.lt
  have hne : ∀ q, q < w.heap.size + 3 → some q ≠ rv.ownBlock := fun q hq e => by have := (h.own.lt q e.symm).1; omega
  have e : ∀ q, q < w.heap.size + 3 → w'.heap[q]? = W.heap[q]? := fun q hq => by
    rw [hg.block q (by simp; omega) (hne q hq)]
    exact ((Below.refl W.heap.size W).alloc (Nat.le_refl _) ob).block q (by omega)
  have e2 : ∀ q, q ≠ w.heap.size + 2 → (w'.setCell ⟨w.heap.size + 2, 0, none⟩ v').heap[q]? = w'.heap[q]? := fun q hq => Below.heap_setCell _ _ _ _ (by simpa using hq)
  have hBs := h.px.below.size
  have hB : Below w.heap.size w (w'.setCell ⟨w.heap.size + 2, 0, none⟩ v') := ((h.px.below.alloc hBs ob).grown hg (by simp; omega) (fun q hq => by have := (h.own.lt q hq).1; omega)).setCell (by simp) _
  have hst : w'.rowIs (w.heap.size + 2) 30 2 (fun i => if i = 0 then rv else (.slice (some ⟨b2, o2, none⟩) n cap2)) := h.st.of_block (e _ (by omega))
  refine ⟨h.px.moved hx ht hB ((e2 _ (by omega)).trans (e _ (by omega))) (by simp only [World.setCell, Array.size_modify]; have := hst.lt; omega), own_same hown fun q hq => e2 q (by have := (hown.lt q hq).1; omega), (hst.set 0 v').congr fun i hi => ?_, h.rs.of_block ((e2 _ (by omega)).trans (e _ (by omega)))⟩
  have : i = 0 ∨ i = 1 := by omega
  rcases this with rfl | rfl <;> simp
end Go.Proofs.Ytlmlkpdppkgenaa.Pk

namespace Go.Proofs.Ytlmlkpdppkgenaa.Pk
open Go.RowKit
open Dfa

end Go.Proofs.Ytlmlkpdppkgenaa.Pk

namespace Go.Proofs.Ytlmlkpdppkgenaa.Pk
open Go.RowKit
open Dfa

/-- The cells of a column. -/
def cf (n : Nat) (R : Nat → Nat → Int) (b s : Nat) : Int := if s < n then R s b else 0
def cl (n : Nat) (R : Nat → Nat → Int) (b : Nat) : List Value := (List.range 200).map fun s => Value.int .i16 (cf n R b s)
theorem cl_length (n : Nat) (R : Nat → Nat → Int) (b : Nat) : (cl n R b).length = 200 := by simp [cl]
theorem cl_at (n : Nat) (R : Nat → Nat → Int) (b s : Nat) (hs : s < 200) : (cl n R b)[s]? = some (.int .i16 (cf n R b s)) := by simp [cl, hs]
theorem size83 : (Try.prog.info? 108).map (·.size) = some 200 := by kernel_rfl
theorem zero83 : ∃ zs : Array Value, (∀ w, (zeroValue 108).run Try.prog w = .ok (.agg zs) w) ∧ zs.size = 200 ∧ ∀ i, i < 200 → zs[i]? = some (.int .i16 0) :=
  ⟨_, (zero_of_info (P := Try.prog) (t := 108) (v := .agg (Array.replicate 200 (.int .i16 0))) (n := 200) (by kernel_rfl)).1, by simp, fun i hi => by simp [hi]⟩

theorem results_cell_mid {P : Program} {fn : Func} {p : Tmp} {ty : TypeId} (h : fn.results = #[.cell p ty]) (tmps : Array Value) (w : World) (g : Nat) (cs : List Value) (d : TypeDesc) (hp : tmps.getD p undef = .pointer (some ⟨g, 0, none⟩)) (hc : w.rangeAt g 0 cs)
    (hu : P.underlying ty = some d) (hd : d.isRow = true) (hi : (P.info? ty).map (·.size) = some cs.length) : (results fn tmps).run P w = .ok (.agg cs.toArray) w := by
  have hp' : tmps[p]?.getD undef = .pointer (some ⟨g, 0, none⟩) := by simpa using hp
  simp [results, h, hp', asAddr, run_loadVar_mid w g 0 ty cs d hc hu hd hi]
theorem setCells_below {B : Nat} {a : World} (g : Nat) (hg : B ≤ g) : ∀ (vs : List Value) (o : Nat) (w : World), Below B a w → Below B a (w.setCells g o vs)
  | [], _, _, h => h
  | v :: vs, o, _, h => setCells_below g hg vs (o + 1) _ (h.setCell (p := ⟨g, o, none⟩) hg v)
theorem there_row {w : World} {g t n : Nat} {f : Nat → Value} (h : w.rowIs g t n f) : w.there g 0 n := fun j hj => by
  rw [Nat.zero_add]
  exact ⟨by rw [h.cell hj]; rfl, h.frozen j⟩

set_option maxHeartbeats 4000000 in
set_option maxRecDepth 20000 in
theorem columnOf_any (rv tv : Value) (n m : Nat) (R : Nat → Nat → Int) (T : Nat → Int) (b : Nat) (w : World) (hr : Rw w rv n R) (ht : Ts w tv m T) (hn : n ≤ 200) (hb : b < 256) :
    Calls Try.prog 50 #[.agg #[rv, tv], .int .i64 (b : Int)] w fun e w' => e = .returned (.agg (cl n R b).toArray) ∧ Below w.heap.size w w' := by
  obtain ⟨ao, cap, rfl, hm, hwf, hcs⟩ := hr
  obtain ⟨ao', cap', rfl, hm', hwf', -⟩ := ht
  have HW : Hid (∀ i j, -32768 ≤ R i j ∧ R i j ≤ 32767) := hwf
  clear hwf hwf'
  obtain ⟨zs, hz83, hzs, hzc⟩ := zero83
  have HZ : Hid (zs.size = 200 ∧ ∀ i, i < 200 → zs[i]? = some (.int .i16 0)) := ⟨hzs, hzc⟩
  obtain ⟨z2, hz42, hz2⟩ := zero42
  have HZ2 : Hid (z2.size = 256) := hz2
  clear hzs hzc hz2
  have hb1 : (b : Int) < 256 := by omega
  go_enter Try.func50, Try.ntmps50
  go_wp2_with fail
  have HS : Hid ((((w.alloc (Obj.cells #[Value.slice ao n cap, Value.slice ao' m cap'] 30)).alloc (Obj.cells zs 108)).alloc (Obj.cells zs 108)).rowIs (w.heap.size + 1) 108 200 (fun _ => .int .i16 0) ∧ (((w.alloc (Obj.cells #[Value.slice ao n cap, Value.slice ao' m cap'] 30)).alloc (Obj.cells zs 108)).alloc (Obj.cells zs 108)).rowIs (w.heap.size + 2) 108 200 (fun s => .int .i16 (cf 0 R b s)) ∧ Below w.heap.size w (((w.alloc (Obj.cells #[Value.slice ao n cap, Value.slice ao' m cap'] 30)).alloc (Obj.cells zs 108)).alloc (Obj.cells zs 108))) := by
    have h1 := World.rowIs_alloc (w.alloc (Obj.cells #[Value.slice ao n cap, Value.slice ao' m cap'] 30)) zs 108 (fun _ => .int .i16 0) (fun i hi => HZ.out.2 i (by rw [← HZ.out.1]; exact hi))
    have h2 := World.rowIs_alloc ((w.alloc (Obj.cells #[Value.slice ao n cap, Value.slice ao' m cap'] 30)).alloc (Obj.cells zs 108)) zs 108 (fun _ => .int .i16 0) (fun i hi => HZ.out.2 i (by rw [← HZ.out.1]; exact hi))
    rw [HZ.out.1] at h1 h2
    rw [show (w.alloc (Obj.cells #[Value.slice ao n cap, Value.slice ao' m cap'] 30)).heap.size = w.heap.size + 1 by simp] at h1
    rw [show ((w.alloc (Obj.cells #[Value.slice ao n cap, Value.slice ao' m cap'] 30)).alloc (Obj.cells zs 108)).heap.size = w.heap.size + 2 by simp] at h2
    exact ⟨h1.alloc _, h2.congr fun i _ => by simp [cf], (((Below.refl _ _).alloc (Nat.le_refl _) _).alloc (by simp) _).alloc (by simp; omega) _⟩
  go_loopw [11] (fun i wr => ∃ k : Nat, k ≤ n ∧ i = .int .i64 (k : Int) ∧ Hid (wr.rowIs (w.heap.size + 1) 108 200 (fun _ => .int .i16 0) ∧ wr.rowIs (w.heap.size + 2) 108 200 (fun s => .int .i16 (cf k R b s)) ∧ Below w.heap.size w wr)) (fun i _ => n - (intOf i).toNat)
  case atStart => exact ⟨0, by omega, rfl, HS⟩
  case round =>
    clear HS
    obtain ⟨k, hk, rfl, HA⟩ := hrel
    by_cases hlt : k < n
    · obtain ⟨b0, o, rfl, hb0, hc⟩ := hcs.resolve_left (by omega)
      have HC : Hid (wr.rangeAt b0 (o + k * 256) (rl (R k))) := range_of_cells fun j hj => (HA.out.2.2.cell (p := ⟨b0, o + k * 256 + j, none⟩) hb0).trans (hc k hlt j hj)
      have HL : Hid ((rl (R k)).length = 256 ∧ (rl (R k)).toArray.all (·.oneCell') = true) := ⟨rl_length _, rl_one _⟩
      have hcx : (wr.alloc (Obj.cells (rl (R k)).toArray 72)).cell? ⟨wr.heap.size, b, none⟩ = some (.int .i16 (R k b)) := by rw [cell_of_block, rl_at _ _ hb]
      obtain ⟨l, HLN⟩ : ∃ q, Hid (rl (R k) = q) := ⟨_, (rfl : _ = _)⟩
      obtain ⟨z, HZK⟩ : ∃ q, Hid (R k b = q) := ⟨_, (rfl : _ = _)⟩
      rw [HLN.out] at HC HL hcx
      rw [HZK.out] at hcx
      have hk0 : (0 : Int) ≤ (k : Int) := by omega
      have hk1 : (k : Int) < (n : Int) := by omega
      have hk2 : (k : Int) < 200 := by omega
      have h2 := HA.out.2.1.alloc (Obj.cells l.toArray 72)
      have y0 := h2.cell (i := k) (by omega)
      have y1 := h2.frozen k
      have HNX : Hid (((wr.alloc (Obj.cells l.toArray 72)).setCell ⟨w.heap.size + 2, k, none⟩ (.int .i16 z)).rowIs (w.heap.size + 1) 108 200 (fun _ => .int .i16 0) ∧ ((wr.alloc (Obj.cells l.toArray 72)).setCell ⟨w.heap.size + 2, k, none⟩ (.int .i16 z)).rowIs (w.heap.size + 2) 108 200 (fun s => .int .i16 (cf (k + 1) R b s)) ∧ Below w.heap.size w ((wr.alloc (Obj.cells l.toArray 72)).setCell ⟨w.heap.size + 2, k, none⟩ (.int .i16 z))) := by
        refine ⟨(HA.out.1.alloc _).setOther (by simp) _, (h2.set k (.int .i16 z)).congr fun i hi => ?_, (HA.out.2.2.alloc HA.out.2.2.size _).setCell (by simp) _⟩
        by_cases e : i = k
        · subst e; simp [cf, HZK.out]
        · by_cases e2 : i < k
          · simp [e, cf, e2, show i < k + 1 by omega]
          · simp [e, cf, e2, show ¬ i < k + 1 by omega]
      clear hcs hc h2
      go_wp2_with (first | refine wpList_load_mid rfl 72 _ rfl b0 (o + k * 256) rfl l _ HC.out Try.underlying72 rfl (by rw [HL.out.1]; exact size42) ?_ | refine wpList_store_new rfl _ _ rfl _ l.toArray rfl rfl HZ2.out (by simp [HL.out.1]) HL.out.2 ?_)
      go_roundw
      case rel => exact ⟨k + 1, by omega, by go_num, HNX⟩
      case measure => simp [intOf]; omega
    · obtain rfl : k = n := by omega
      have HR : Hid (wr.rangeAt (w.heap.size + 2) 0 (cl k R b)) := fun j v hv => by
        have hj : j < 200 := by have := (List.getElem?_eq_some_iff.1 hv).1; rwa [cl_length] at this
        rw [cl_at _ _ _ j hj] at hv
        rw [Nat.zero_add, HA.out.2.1.cell hj, hv]
      have HO : Hid ((cl k R b).toArray.all (·.oneCell') = true ∧ (cl k R b).length = 200) := ⟨all_oneCell_toArray fun v hv => by simp only [cl, List.mem_map] at hv; obtain ⟨j, _, rfl⟩ := hv; rfl, cl_length _ _ _⟩
      obtain ⟨l, HLN⟩ : ∃ q, Hid (cl k R b = q) := ⟨_, (rfl : _ = _)⟩
      rw [HLN.out] at HR HO
      have HSZ : Hid (l.toArray.size = 200) := by show _ = _; simp [HO.out.2]
      have HTH : Hid (wr.there (w.heap.size + 1) 0 l.toArray.size) := by rw [HSZ.out]; exact there_row HA.out.1
      go_wp2_with (first | refine wpList_load_mid rfl 108 _ rfl (w.heap.size + 2) 0 rfl l _ HR.out Try.underlying108 rfl (by rw [HO.out.2]; exact size83) ?_ | refine wpList_store_mid rfl 108 _ _ rfl (w.heap.size + 1) 0 l.toArray rfl rfl HTH.out (by rw [HSZ.out]; exact size83) HO.out.1 ?_)
      exact bodyPost_ret (v := .agg l.toArray) (results_cell_mid Try.results50 _ _ (w.heap.size + 1) l _ rfl (World.rangeAt_setCells_same _ _ _ _ (by rw [HO.out.2]; exact there_row HA.out.1)) Try.underlying108 rfl (by rw [HO.out.2]; exact size83)) rfl ⟨by rw [HLN.out], setCells_below _ (by omega) _ _ _ HA.out.2.2⟩
end Go.Proofs.Ytlmlkpdppkgenaa.Pk

namespace Go.Proofs.Ytlmlkpdppkgenaa.Pk
open Go.RowKit
open Dfa

theorem tl_succ (k : Nat) (T : Nat → Int) : tl (k + 1) T = tl k T ++ [.int .i64 (T k)] := by simp [tl, List.range_succ]
theorem tl_congr (k : Nat) (T U : Nat → Int) (h : ∀ j, j < k → T j = U j) : tl k T = tl k U := by
  unfold tl
  apply List.map_congr_left
  intro j hj
  rw [h j (by simpa using hj)]
theorem cell_of_one3 {W : World} {u : Value} {j : Nat} : (W.alloc (.cells #[u] 3)).cell? ⟨W.heap.size, j, none⟩ = ([u] : List Value)[j]? := cell_of_block W [u] 3 j
theorem cell_set_other {w : World} {a : Addr} {b j : Nat} {u : Value} (h : b ≠ a.block) : (w.setCell a u).cell? ⟨b, j, none⟩ = w.cell? ⟨b, j, none⟩ := by
  simp [World.cell?, Below.heap_setCell w a u b h]
theorem step_call_append {P : Program} {ops : Array Oper} {o : Oper} {a : Act} {K : Act → World → Prop} {Q : Exit → Act → World → Prop} {E : Prop} {W W1 : World} {v sv xv : Value} (hgd : o.guard = none) (s x : Operand) (t : TypeId) (ho : o.op = .call { callee := .builtin .append, args := #[s, x], argTypes := #[t, t] })
    (hs : a.eval s = sv) (hx : a.eval x = xv) (hr : (Builtin.append_ #[t, t] o.type #[sv, xv]).run P W = .ok v W1) (h : K (a.put o.dst v) W1) : if Region.wanted o (yielded ops a.tmps) = true then Oper.wp P o a W K Q else E := by
  have hw : Region.wanted o (yielded ops a.tmps) = true := by simp [Region.wanted, hgd]
  rw [if_pos hw]
  unfold Oper.wp
  simp [execOp, ho, resolve, invoke, builtin, hs, hx, hr, Result.andThen]
  exact h
/-- A table whose rows are one's own: row i has C i numbers. -/
structure Tn (B gN n : Nat) (C : Nat → Nat) (X : Nat → Nat → Int) (V : Nat → Value) (W : World) : Prop where
  top : W.rowIs gN 23 n V
  own : ∀ i, i < n → W.ownsRow B 3 1 (V i) (C i) (tl (C i) (X i))
  ne : ∀ i j, i < n → j < n → i ≠ j → ∀ q, (V i).ownBlock = some q → (V j).ownBlock ≠ some q
  lt : gN < B
  size : B ≤ W.heap.size
/-- .. while row i has grown and its place in the table is not yet written. -/
structure Th (B gN n i : Nat) (C : Nat → Nat) (X : Nat → Nat → Int) (V : Nat → Value) (gr cr : Nat) (W : World) : Prop where
  top : W.rowIs gN 23 n V
  own : ∀ j, j < n → j ≠ i → W.ownsRow B 3 1 (V j) (C j) (tl (C j) (X j))
  new : W.ownsRow B 3 1 (.slice (some ⟨gr, 0, none⟩) (C i + 1) cr) (C i + 1) (tl (C i + 1) (X i))
  ne : ∀ k j, k < n → j < n → k ≠ j → ∀ q, (V k).ownBlock = some q → (V j).ownBlock ≠ some q
  ne2 : ∀ j, j < n → j ≠ i → (V j).ownBlock ≠ some gr
  lt : gN < B
  size : B ≤ W.heap.size
variable {B gN n i gr cr : Nat} {C : Nat → Nat} {X : Nat → Nat → Int} {V : Nat → Value} {W W' : World}
theorem Tn.next (h : Tn B gN n C X V W) (hb : Below W.heap.size W W') : Tn B gN n C X V W' :=
  ⟨h.top.of_block (hb.block _ h.top.lt), fun i hi => own_same (h.own i hi) fun k hk => hb.block k ((h.own i hi).lt k hk).2, h.ne, h.lt, Nat.le_trans h.size hb.size⟩
theorem Tn.congrC {C' : Nat → Nat} (h : Tn B gN n C X V W) (e : ∀ j, j < n → C j = C' j) : Tn B gN n C' X V W :=
  ⟨h.top, fun i hi => by rw [← e i hi]; exact h.own i hi, h.ne, h.lt, h.size⟩
theorem Tn.congrX {X' : Nat → Nat → Int} (h : Tn B gN n C X V W) (e : ∀ i, i < n → ∀ j, j < C i → X i j = X' i j) : Tn B gN n C X' V W :=
  ⟨h.top, fun i hi => by rw [← tl_congr _ _ _ (e i hi)]; exact h.own i hi, h.ne, h.lt, h.size⟩
theorem Tn.grow (h : Tn B gN n C X V W) (hi : i < n) (hg : W.grownBy W' (V i).ownBlock) (ho : W'.ownsRow B 3 1 (.slice (some ⟨gr, 0, none⟩) (C i + 1) cr) (C i + 1) (tl (C i + 1) (X i))) (hb : (V i).ownBlock = some gr ∨ gr = W.heap.size) : Th B gN n i C X V gr cr W' := by
  have e : ∀ k, k < W.heap.size → (V i).ownBlock ≠ some k → W'.heap[k]? = W.heap[k]? := fun k hk hk2 => hg.block k hk (fun x => hk2 x.symm)
  refine ⟨h.top.of_block (e _ h.top.lt (fun x => by have := ((h.own i hi).lt _ x).1; have := h.lt; omega)), fun j hj hji => own_same (h.own j hj) fun k hk => e k ((h.own j hj).lt k hk).2 (h.ne j i hj hi hji k hk), ho, h.ne, fun j hj hji x => ?_, h.lt, Nat.le_trans h.size hg.size⟩
  rcases hb with hb | hb
  · exact h.ne j i hj hi hji gr x hb
  · have := ((h.own j hj).lt gr x).2; omega
theorem Th.put (h : Th B gN n i C X V gr cr W) (hi : i < n) : Tn B gN n (fun j => if j = i then C i + 1 else C j) X (fun j => if j = i then (.slice (some ⟨gr, 0, none⟩) (C i + 1) cr) else V j) (W.setCell ⟨gN, i, none⟩ (.slice (some ⟨gr, 0, none⟩) (C i + 1) cr)) := by
  have hl := h.lt
  have e : ∀ k, k ≠ gN → (W.setCell ⟨gN, i, none⟩ (.slice (some ⟨gr, 0, none⟩) (C i + 1) cr)).heap[k]? = W.heap[k]? := fun k hk => Below.heap_setCell _ _ _ _ hk
  refine ⟨(h.top.set i (.slice (some ⟨gr, 0, none⟩) (C i + 1) cr)).congr fun j hj => rfl, fun j hj => ?_, fun j k hj hk hjk q => ?_, h.lt, by simp only [World.setCell, Array.size_modify]; exact h.size⟩
  · by_cases ej : j = i
    · subst ej
      simp only [if_true]
      exact own_same h.new fun k hk => e k (by have := (h.new.lt k hk).1; omega)
    · simp only [ej, if_false]
      exact own_same (h.own j hj ej) fun k hk => e k (by have := ((h.own j hj ej).lt k hk).1; omega)
  · by_cases ej : j = i
    · by_cases ek : k = i
      · omega
      · subst ej
        simp only [if_true, ek, if_false]
        intro hq
        simp [Value.ownBlock] at hq
        subst hq
        exact h.ne2 k hk ek
    · by_cases ek : k = i
      · subst ek
        simp only [if_true, ej, if_false]
        intro hq hq2
        simp [Value.ownBlock] at hq2
        subst hq2
        exact h.ne2 j hj ej hq
      · simp only [ej, ek, if_false]
        exact h.ne j k hj hk hjk q
/-- All that is below the table's rows, and not the table itself, stays. -/
structure Mk (B gN : Nat) (W W' : World) : Prop where
  os : W'.os = W.os
  tape : W'.tape = W.tape
  output : W'.output = W.output
  size : W.heap.size ≤ W'.heap.size
  blk : ∀ k, k < B → k ≠ gN → W'.heap[k]? = W.heap[k]?
theorem Mk.refl (B gN : Nat) (W : World) : Mk B gN W W := ⟨rfl, rfl, rfl, Nat.le_refl _, fun _ _ _ => rfl⟩
theorem Mk.below {W'' : World} (h : Mk B gN W W') (hb : Below W'.heap.size W' W'') (hs : B ≤ W'.heap.size) : Mk B gN W W'' :=
  ⟨hb.os.trans h.os, hb.tape.trans h.tape, hb.output.trans h.output, Nat.le_trans h.size hb.size, fun k h1 h2 => (hb.block k (by omega)).trans (h.blk k h1 h2)⟩
theorem Mk.grown {own : Option Nat} {W'' : World} (h : Mk B gN W W') (hb : W'.grownBy W'' own) (ho : ∀ k, own = some k → B ≤ k) (hs : B ≤ W'.heap.size) : Mk B gN W W'' :=
  ⟨hb.os.trans h.os, hb.tape.trans h.tape, hb.output.trans h.output, Nat.le_trans h.size hb.size, fun k h1 h2 => (hb.block k (by omega) (fun e => by have := ho k e.symm; omega)).trans (h.blk k h1 h2)⟩
theorem Mk.set (h : Mk B gN W W') (j : Nat) (u : Value) : Mk B gN W (W'.setCell ⟨gN, j, none⟩ u) :=
  ⟨h.os, h.tape, h.output, by simp only [World.setCell, Array.size_modify]; exact h.size, fun k h1 h2 => (Below.heap_setCell _ _ _ _ (by simpa using h2)).trans (h.blk k h1 h2)⟩
theorem Mk.trans {W'' : World} (h : Mk B gN W W') (k : Mk B gN W' W'') : Mk B gN W W'' :=
  ⟨k.os.trans h.os, k.tape.trans h.tape, k.output.trans h.output, Nat.le_trans h.size k.size, fun q h1 h2 => (k.blk q h1 h2).trans (h.blk q h1 h2)⟩
structure RD4 (w wr : World) (B gN gc n i : Nat) (C : Nat → Nat) (X : Nat → Nat → Int) (V : Nat → Value) (Z : Nat → Int) (gb : Nat) (gr : Nat) (cr : Nat) (d : Nat → Bool) (x10 x11 x12 x13 x14 x15 x16 x17 x18 x19 x20 x21 x22 : Value) (W : World) : Prop where
  f0 : d 0 = true → x10 = (.slice (some ⟨gN, 0, none⟩) n n)
  f1 : d 1 = true → x11 = (.int .i64 (i : Int))
  f2 : d 2 = true → x12 = (.slice (some ⟨gN, 0, none⟩) n n)
  f3 : d 3 = true → x13 = (.int .i64 (i : Int))
  f4 : d 4 = true → x14 = (.pointer (some ⟨gN, i, none⟩))
  f5 : d 5 = true → x15 = (V i)
  f6 : d 6 = true → x16 = (.int .i64 (i : Int))
  f7 : d 7 = true → x17 = (.pointer (some ⟨gc, i, none⟩))
  f8 : d 8 = true → x18 = (.int .i16 (Z i))
  f9 : d 9 = true → x19 = (.int .i64 (Z i))
  f10 : d 10 = true → x20 = (.slice (some ⟨gb, 0, none⟩) 1 1)
  f11 : d 11 = true → x21 = (.slice (some ⟨gr, 0, none⟩) (C i + 1) cr)
  f12 : d 12 = true → x22 = (.pointer (some ⟨gN, i, none⟩))
  f13 : d 13 = true → True
  o9_8 : d 9 = true → d 8 = true
  o10_8 : d 10 = true → d 8 = true
  p5 : d 11 = true → d 5 = true
  p8 : d 11 = true → d 8 = true
  p10 : d 11 = true → d 10 = true
  q13 : d 13 = true → d 11 = true
  tn : d 11 = false → Tn B gN n C X V W
  cc : ∀ s, s < 200 → W.cell? ⟨gc, s, none⟩ = some (.int .i16 (Z s))
  bs : d 10 = true → d 11 = false → ∀ j u, ([.int .i64 (Z i)] : List Value)[j]? = some u → W.cell? ⟨gb, j, none⟩ = some u
  th : d 11 = true → d 13 = false → Th B gN n i C X V gr cr W
  mv : Mk B gN wr W
  fin : d 13 = true → Tn B gN n (fun j => if j = i then C i + 1 else C j) X (fun j => if j = i then (.slice (some ⟨gr, 0, none⟩) (C i + 1) cr) else V j) W

end Go.Proofs.Ytlmlkpdppkgenaa.Pk

namespace Go.Proofs.Ytlmlkpdppkgenaa.Pk
open Go.RowKit
open Dfa

set_option maxHeartbeats 4000000 in
set_option maxRecDepth 20000 in
theorem addColumn_any (B gN n k b : Nat) (R X : Nat → Nat → Int) (V0 : Nat → Value) (w : World) (h : Tn B gN n (fun _ => k) X V0 w) (hn : n ≤ 200) (hk : k ≤ 256) (hR : ∀ i j, -32768 ≤ R i j ∧ R i j ≤ 32767) (hX : ∀ j, j < n → X j k = cf n R b j) :
    Calls Try.prog 51 #[(.slice (some ⟨gN, 0, none⟩) n n), .agg (cl n R b).toArray] w fun e w' => e = .returned (.tuple #[]) ∧ Mk B gN w w' ∧ ∃ V', Tn B gN n (fun _ => k + 1) X V' w' := by
  have HX : Hid (∀ j, j < n → X j k = cf n R b j) := hX
  have HCR : Hid (∀ s, -32768 ≤ cf n R b s ∧ cf n R b s ≤ 32767) := fun s => by unfold cf; split <;> simp [hR]
  have HT0 : Hid (Tn B gN n (fun _ => k) X V0 w) := h
  have HC0 : Hid (∀ s, s < 200 → (w.alloc (Obj.cells (cl n R b).toArray 108)).cell? ⟨w.heap.size, s, none⟩ = some (.int .i16 (cf n R b s))) := fun s hs => by rw [cell_of_block, cl_at n R b s hs]
  obtain ⟨l, HLN⟩ : ∃ q, Hid (cl n R b = q) := ⟨_, (rfl : _ = _)⟩
  obtain ⟨Z, HZ⟩ : ∃ q, Hid (cf n R b = q) := ⟨_, (rfl : _ = _)⟩
  rw [HLN.out] at HC0 ⊢
  rw [HZ.out] at HC0 HX HCR
  obtain ⟨i3, hi3, hz3, hs3, hb3⟩ := info_parts info3
  have H3 : Hid (Try.prog.info? 3 = some i3 ∧ i3.zero = some (.int .i64 0) ∧ i3.size = 1 ∧ i3.bytes = 8) := ⟨hi3, hz3, hs3, hb3⟩
  clear hi3 hz3 hs3 hb3 h hX hR
  obtain ⟨gc, HGG⟩ : ∃ q, Hid (w.heap.size = q) := ⟨_, (rfl : _ = _)⟩
  rw [HGG.out] at HC0
  go_enter Try.func51, Try.ntmps51
  go_wp2_with fail
  rw [HGG.out]
  go_loopw [7] (fun i2 wr => ∃ i : Nat, i ≤ n ∧ i2 = .int .i64 (i : Int) ∧ Hid (∃ V, Tn B gN n (fun j => if j < i then k + 1 else k) X V wr ∧ (∀ j, i ≤ j → V j = V0 j) ∧ Mk B gN w wr ∧ ∀ s, s < 200 → wr.cell? ⟨gc, s, none⟩ = some (.int .i16 (Z s)))) (fun i2 _ => n - (intOf i2).toNat)
  case atStart => exact ⟨0, by omega, rfl, V0, (HT0.out.next ((Below.refl _ _).alloc (Nat.le_refl _) _)).congrC (fun j _ => by simp), fun j _ => rfl, (Mk.refl _ _ _).below ((Below.refl _ _).alloc (Nat.le_refl _) _) HT0.out.size, HC0.out⟩
  case round =>
    obtain ⟨i, hi, rfl, HE⟩ := hrel
    obtain ⟨V, htn, hve, hmv, hcc⟩ := HE.out
    have HVE : Hid (∀ j, i ≤ j → V j = V0 j) := hve
    have HMV : Hid (Mk B gN w wr) := hmv
    have HCC : Hid (∀ s, s < 200 → wr.cell? ⟨gc, s, none⟩ = some (.int .i16 (Z s))) := hcc
    by_cases hlt : i < n
    · obtain ⟨C, HCE⟩ : ∃ q, Hid ((fun j => if j < i then k + 1 else k) = q) := ⟨_, (rfl : _ = _)⟩
      have HCK : Hid (C i = k) := by show _ = _; rw [← HCE.out]; simp
      rw [HCE.out] at htn
      have HTN : Hid (Tn B gN n C X V wr) := htn
      have HIL : Hid (i < n) := hlt
      have HI2 : Hid (i < 200) := by show _ < _; omega
      have HCI : Hid (C i ≤ 256) := by show _ ≤ _; rw [HCK.out]; exact hk
      have HXZ : Hid (X i (C i) = Z i) := by show _ = _; rw [HCK.out]; exact HX.out i hlt
      have HWR : Hid (IntKind.i64.wrap (Z i) = Z i) := wrap_small (HCR.out i)
      have HGC : Hid (some w.heap.size ≠ (V i).ownBlock) := fun e => by rw [HVE.out i (Nat.le_refl _)] at e; have := ((HT0.out.own i hlt).lt _ e.symm).2; omega
      have HGCN : Hid (w.heap.size ≠ gN) := by have h1 := HT0.out.top.lt; show _ ≠ _; omega
      have hi0 : (0 : Int) ≤ (i : Int) := by omega
      have hi1 : (i : Int) < (n : Int) := by omega
      have hi2 : (i : Int) < 200 := by omega
      rw [HGG.out] at HGC HGCN
      clear htn hve hmv hcc HE
      go_wp2_with fail
      refine wp_region_free mixed (fun a0 d a W => ∃ (gb : Nat) (gr : Nat) (cr : Nat) (x10 x11 x12 x13 x14 x15 x16 x17 x18 x19 x20 x21 x22 : Value), a = (((((((((((((a0.put (some 10) x10).put (some 11) x11).put (some 12) x12).put (some 13) x13).put (some 14) x14).put (some 15) x15).put (some 16) x16).put (some 17) x17).put (some 18) x18).put (some 19) x19).put (some 20) x20).put (some 21) x21).put (some 22) x22) ∧ Hid (RD4 w wr B gN gc n i C X V Z gb gr cr d x10 x11 x12 x13 x14 x15 x16 x17 x18 x19 x20 x21 x22 W)) (by kernel_rfl) ⟨0, 0, 0, u10, u11, u12, u13, u14, u15, u16, u17, u18, u19, u20, u21, u22, by simp only [Act.put, List.setIfInBounds_toArray, List.set_cons_zero, List.set_cons_succ], ?_⟩ ?_ ?_
      · exact ⟨fun h => no_way h, fun h => no_way h, fun h => no_way h, fun h => no_way h, fun h => no_way h, fun h => no_way h, fun h => no_way h, fun h => no_way h, fun h => no_way h, fun h => no_way h, fun h => no_way h, fun h => no_way h, fun h => no_way h, fun _ => trivial, fun h => no_way h, fun h => no_way h, fun h => no_way h, fun h => no_way h, fun h => no_way h, fun h => no_way h, fun _ => HTN.out.next (Below.refl _ _).drew, HCC.out, fun h => no_way h, fun h => no_way h, (Mk.refl _ _ _).below (Below.refl _ _).drew HTN.out.size, fun h => no_way h⟩
      · simp only [StepAll, and_true]
        refine ⟨?_, ?_, ?_, ?_, ?_, ?_, ?_, ?_, ?_, ?_, ?_, ?_, ?_, ?_⟩
        · intro d a W hI hd hdep
          obtain ⟨gb, gr, cr, x10, x11, x12, x13, x14, x15, x16, x17, x18, x19, x20, x21, x22, rfl, hF⟩ := hI
          clear hdep hd
          intro K hK
          simp only [Act.put, List.setIfInBounds_toArray, List.set_cons_zero, List.set_cons_succ]
          go_simp
          refine hK.out _ _ ⟨gb, gr, cr, (.slice (some ⟨gN, 0, none⟩) n n), x11, x12, x13, x14, x15, x16, x17, x18, x19, x20, x21, x22, by simp only [Act.put, List.setIfInBounds_toArray, List.set_cons_zero, List.set_cons_succ], ?_⟩
          exact ⟨fun _ => rfl, fun h => hF.out.f1 (by simpa using h), fun h => hF.out.f2 (by simpa using h), fun h => hF.out.f3 (by simpa using h), fun h => hF.out.f4 (by simpa using h), fun h => hF.out.f5 (by simpa using h), fun h => hF.out.f6 (by simpa using h), fun h => hF.out.f7 (by simpa using h), fun h => hF.out.f8 (by simpa using h), fun h => hF.out.f9 (by simpa using h), fun h => hF.out.f10 (by simpa using h), fun h => hF.out.f11 (by simpa using h), fun h => hF.out.f12 (by simpa using h), fun h => hF.out.f13 (by simpa using h), fun h => by have := hF.out.o9_8 (by simpa using h); simpa using this, fun h => by have := hF.out.o10_8 (by simpa using h); simpa using this, fun h => by have := hF.out.p5 (by simpa using h); simpa using this, fun h => by have := hF.out.p8 (by simpa using h); simpa using this, fun h => by have := hF.out.p10 (by simpa using h); simpa using this, fun h => by have := hF.out.q13 (by simpa using h); simpa using this, fun h => hF.out.tn (by simpa using h), hF.out.cc, fun h h2 => hF.out.bs (by simpa using h) (by simpa using h2), fun h h2 => hF.out.th (by simpa using h) (by simpa using h2), hF.out.mv, fun h => hF.out.fin (by simpa using h)⟩
        · intro d a W hI hd hdep
          obtain ⟨gb, gr, cr, x10, x11, x12, x13, x14, x15, x16, x17, x18, x19, x20, x21, x22, rfl, hF⟩ := hI
          clear hdep hd
          intro K hK
          simp only [Act.put, List.setIfInBounds_toArray, List.set_cons_zero, List.set_cons_succ]
          go_simp
          refine hK.out _ _ ⟨gb, gr, cr, x10, (.int .i64 (i : Int)), x12, x13, x14, x15, x16, x17, x18, x19, x20, x21, x22, by simp only [Act.put, List.setIfInBounds_toArray, List.set_cons_zero, List.set_cons_succ], ?_⟩
          exact ⟨fun h => hF.out.f0 (by simpa using h), fun _ => rfl, fun h => hF.out.f2 (by simpa using h), fun h => hF.out.f3 (by simpa using h), fun h => hF.out.f4 (by simpa using h), fun h => hF.out.f5 (by simpa using h), fun h => hF.out.f6 (by simpa using h), fun h => hF.out.f7 (by simpa using h), fun h => hF.out.f8 (by simpa using h), fun h => hF.out.f9 (by simpa using h), fun h => hF.out.f10 (by simpa using h), fun h => hF.out.f11 (by simpa using h), fun h => hF.out.f12 (by simpa using h), fun h => hF.out.f13 (by simpa using h), fun h => by have := hF.out.o9_8 (by simpa using h); simpa using this, fun h => by have := hF.out.o10_8 (by simpa using h); simpa using this, fun h => by have := hF.out.p5 (by simpa using h); simpa using this, fun h => by have := hF.out.p8 (by simpa using h); simpa using this, fun h => by have := hF.out.p10 (by simpa using h); simpa using this, fun h => by have := hF.out.q13 (by simpa using h); simpa using this, fun h => hF.out.tn (by simpa using h), hF.out.cc, fun h h2 => hF.out.bs (by simpa using h) (by simpa using h2), fun h h2 => hF.out.th (by simpa using h) (by simpa using h2), hF.out.mv, fun h => hF.out.fin (by simpa using h)⟩
        · intro d a W hI hd hdep
          obtain ⟨gb, gr, cr, x10, x11, x12, x13, x14, x15, x16, x17, x18, x19, x20, x21, x22, rfl, hF⟩ := hI
          clear hdep hd
          intro K hK
          simp only [Act.put, List.setIfInBounds_toArray, List.set_cons_zero, List.set_cons_succ]
          go_simp
          refine hK.out _ _ ⟨gb, gr, cr, x10, x11, (.slice (some ⟨gN, 0, none⟩) n n), x13, x14, x15, x16, x17, x18, x19, x20, x21, x22, by simp only [Act.put, List.setIfInBounds_toArray, List.set_cons_zero, List.set_cons_succ], ?_⟩
          exact ⟨fun h => hF.out.f0 (by simpa using h), fun h => hF.out.f1 (by simpa using h), fun _ => rfl, fun h => hF.out.f3 (by simpa using h), fun h => hF.out.f4 (by simpa using h), fun h => hF.out.f5 (by simpa using h), fun h => hF.out.f6 (by simpa using h), fun h => hF.out.f7 (by simpa using h), fun h => hF.out.f8 (by simpa using h), fun h => hF.out.f9 (by simpa using h), fun h => hF.out.f10 (by simpa using h), fun h => hF.out.f11 (by simpa using h), fun h => hF.out.f12 (by simpa using h), fun h => hF.out.f13 (by simpa using h), fun h => by have := hF.out.o9_8 (by simpa using h); simpa using this, fun h => by have := hF.out.o10_8 (by simpa using h); simpa using this, fun h => by have := hF.out.p5 (by simpa using h); simpa using this, fun h => by have := hF.out.p8 (by simpa using h); simpa using this, fun h => by have := hF.out.p10 (by simpa using h); simpa using this, fun h => by have := hF.out.q13 (by simpa using h); simpa using this, fun h => hF.out.tn (by simpa using h), hF.out.cc, fun h h2 => hF.out.bs (by simpa using h) (by simpa using h2), fun h h2 => hF.out.th (by simpa using h) (by simpa using h2), hF.out.mv, fun h => hF.out.fin (by simpa using h)⟩
        · intro d a W hI hd hdep
          obtain ⟨gb, gr, cr, x10, x11, x12, x13, x14, x15, x16, x17, x18, x19, x20, x21, x22, rfl, hF⟩ := hI
          clear hdep hd
          intro K hK
          simp only [Act.put, List.setIfInBounds_toArray, List.set_cons_zero, List.set_cons_succ]
          go_simp
          refine hK.out _ _ ⟨gb, gr, cr, x10, x11, x12, (.int .i64 (i : Int)), x14, x15, x16, x17, x18, x19, x20, x21, x22, by simp only [Act.put, List.setIfInBounds_toArray, List.set_cons_zero, List.set_cons_succ], ?_⟩
          exact ⟨fun h => hF.out.f0 (by simpa using h), fun h => hF.out.f1 (by simpa using h), fun h => hF.out.f2 (by simpa using h), fun _ => rfl, fun h => hF.out.f4 (by simpa using h), fun h => hF.out.f5 (by simpa using h), fun h => hF.out.f6 (by simpa using h), fun h => hF.out.f7 (by simpa using h), fun h => hF.out.f8 (by simpa using h), fun h => hF.out.f9 (by simpa using h), fun h => hF.out.f10 (by simpa using h), fun h => hF.out.f11 (by simpa using h), fun h => hF.out.f12 (by simpa using h), fun h => hF.out.f13 (by simpa using h), fun h => by have := hF.out.o9_8 (by simpa using h); simpa using this, fun h => by have := hF.out.o10_8 (by simpa using h); simpa using this, fun h => by have := hF.out.p5 (by simpa using h); simpa using this, fun h => by have := hF.out.p8 (by simpa using h); simpa using this, fun h => by have := hF.out.p10 (by simpa using h); simpa using this, fun h => by have := hF.out.q13 (by simpa using h); simpa using this, fun h => hF.out.tn (by simpa using h), hF.out.cc, fun h h2 => hF.out.bs (by simpa using h) (by simpa using h2), fun h h2 => hF.out.th (by simpa using h) (by simpa using h2), hF.out.mv, fun h => hF.out.fin (by simpa using h)⟩
        · intro d a W hI hd hdep
          obtain ⟨gb, gr, cr, x10, x11, x12, x13, x14, x15, x16, x17, x18, x19, x20, x21, x22, rfl, hF⟩ := hI
          have hd2 : d 2 = true := dep_of hdep 2 (by kernel_rfl)
          have hd3 : d 3 = true := dep_of hdep 3 (by kernel_rfl)
          obtain rfl := hF.out.f2 hd2
          obtain rfl := hF.out.f3 hd3
          clear hdep hd hd2 hd3
          intro K hK
          simp only [Act.put, List.setIfInBounds_toArray, List.set_cons_zero, List.set_cons_succ]
          go_simp
          refine hK.out _ _ ⟨gb, gr, cr, x10, x11, (.slice (some ⟨gN, 0, none⟩) n n), (.int .i64 (i : Int)), (.pointer (some ⟨gN, i, none⟩)), x15, x16, x17, x18, x19, x20, x21, x22, by simp only [Act.put, List.setIfInBounds_toArray, List.set_cons_zero, List.set_cons_succ], ?_⟩
          exact ⟨fun h => hF.out.f0 (by simpa using h), fun h => hF.out.f1 (by simpa using h), fun h => hF.out.f2 (by simpa using h), fun h => hF.out.f3 (by simpa using h), fun _ => rfl, fun h => hF.out.f5 (by simpa using h), fun h => hF.out.f6 (by simpa using h), fun h => hF.out.f7 (by simpa using h), fun h => hF.out.f8 (by simpa using h), fun h => hF.out.f9 (by simpa using h), fun h => hF.out.f10 (by simpa using h), fun h => hF.out.f11 (by simpa using h), fun h => hF.out.f12 (by simpa using h), fun h => hF.out.f13 (by simpa using h), fun h => by have := hF.out.o9_8 (by simpa using h); simpa using this, fun h => by have := hF.out.o10_8 (by simpa using h); simpa using this, fun h => by have := hF.out.p5 (by simpa using h); simpa using this, fun h => by have := hF.out.p8 (by simpa using h); simpa using this, fun h => by have := hF.out.p10 (by simpa using h); simpa using this, fun h => by have := hF.out.q13 (by simpa using h); simpa using this, fun h => hF.out.tn (by simpa using h), hF.out.cc, fun h h2 => hF.out.bs (by simpa using h) (by simpa using h2), fun h h2 => hF.out.th (by simpa using h) (by simpa using h2), hF.out.mv, fun h => hF.out.fin (by simpa using h)⟩
        · intro d a W hI hd hdep
          obtain ⟨gb, gr, cr, x10, x11, x12, x13, x14, x15, x16, x17, x18, x19, x20, x21, x22, rfl, hF⟩ := hI
          have hd4 : d 4 = true := dep_of hdep 4 (by kernel_rfl)
          obtain rfl := hF.out.f4 hd4
          have HN11 : Hid (d 11 = false) := no_later hF.out.p5 hd
          have htn := hF.out.tn HN11.out
          have ya := htn.top.cell HIL.out
          clear hdep hd hd4
          intro K hK
          simp only [Act.put, List.setIfInBounds_toArray, List.set_cons_zero, List.set_cons_succ]
          go_simp
          refine hK.out _ _ ⟨gb, gr, cr, x10, x11, x12, x13, (.pointer (some ⟨gN, i, none⟩)), (V i), x16, x17, x18, x19, x20, x21, x22, by simp only [Act.put, List.setIfInBounds_toArray, List.set_cons_zero, List.set_cons_succ], ?_⟩
          exact ⟨fun h => hF.out.f0 (by simpa using h), fun h => hF.out.f1 (by simpa using h), fun h => hF.out.f2 (by simpa using h), fun h => hF.out.f3 (by simpa using h), fun h => hF.out.f4 (by simpa using h), fun _ => rfl, fun h => hF.out.f6 (by simpa using h), fun h => hF.out.f7 (by simpa using h), fun h => hF.out.f8 (by simpa using h), fun h => hF.out.f9 (by simpa using h), fun h => hF.out.f10 (by simpa using h), fun h => hF.out.f11 (by simpa using h), fun h => hF.out.f12 (by simpa using h), fun h => hF.out.f13 (by simpa using h), fun h => by have := hF.out.o9_8 (by simpa using h); simpa using this, fun h => by have := hF.out.o10_8 (by simpa using h); simpa using this, fun _ => by simp, fun h => by have := hF.out.p8 (by simpa using h); simpa using this, fun h => by have := hF.out.p10 (by simpa using h); simpa using this, fun h => by have := hF.out.q13 (by simpa using h); simpa using this, fun h => hF.out.tn (by simpa using h), hF.out.cc, fun h h2 => hF.out.bs (by simpa using h) (by simpa using h2), fun h h2 => hF.out.th (by simpa using h) (by simpa using h2), hF.out.mv, fun h => hF.out.fin (by simpa using h)⟩
        · intro d a W hI hd hdep
          obtain ⟨gb, gr, cr, x10, x11, x12, x13, x14, x15, x16, x17, x18, x19, x20, x21, x22, rfl, hF⟩ := hI
          clear hdep hd
          intro K hK
          simp only [Act.put, List.setIfInBounds_toArray, List.set_cons_zero, List.set_cons_succ]
          go_simp
          refine hK.out _ _ ⟨gb, gr, cr, x10, x11, x12, x13, x14, x15, (.int .i64 (i : Int)), x17, x18, x19, x20, x21, x22, by simp only [Act.put, List.setIfInBounds_toArray, List.set_cons_zero, List.set_cons_succ], ?_⟩
          exact ⟨fun h => hF.out.f0 (by simpa using h), fun h => hF.out.f1 (by simpa using h), fun h => hF.out.f2 (by simpa using h), fun h => hF.out.f3 (by simpa using h), fun h => hF.out.f4 (by simpa using h), fun h => hF.out.f5 (by simpa using h), fun _ => rfl, fun h => hF.out.f7 (by simpa using h), fun h => hF.out.f8 (by simpa using h), fun h => hF.out.f9 (by simpa using h), fun h => hF.out.f10 (by simpa using h), fun h => hF.out.f11 (by simpa using h), fun h => hF.out.f12 (by simpa using h), fun h => hF.out.f13 (by simpa using h), fun h => by have := hF.out.o9_8 (by simpa using h); simpa using this, fun h => by have := hF.out.o10_8 (by simpa using h); simpa using this, fun h => by have := hF.out.p5 (by simpa using h); simpa using this, fun h => by have := hF.out.p8 (by simpa using h); simpa using this, fun h => by have := hF.out.p10 (by simpa using h); simpa using this, fun h => by have := hF.out.q13 (by simpa using h); simpa using this, fun h => hF.out.tn (by simpa using h), hF.out.cc, fun h h2 => hF.out.bs (by simpa using h) (by simpa using h2), fun h h2 => hF.out.th (by simpa using h) (by simpa using h2), hF.out.mv, fun h => hF.out.fin (by simpa using h)⟩
        · intro d a W hI hd hdep
          obtain ⟨gb, gr, cr, x10, x11, x12, x13, x14, x15, x16, x17, x18, x19, x20, x21, x22, rfl, hF⟩ := hI
          have hd6 : d 6 = true := dep_of hdep 6 (by kernel_rfl)
          obtain rfl := hF.out.f6 hd6
          clear hdep hd hd6
          intro K hK
          simp only [Act.put, List.setIfInBounds_toArray, List.set_cons_zero, List.set_cons_succ]
          go_simp
          refine hK.out _ _ ⟨gb, gr, cr, x10, x11, x12, x13, x14, x15, (.int .i64 (i : Int)), (.pointer (some ⟨gc, i, none⟩)), x18, x19, x20, x21, x22, by simp only [Act.put, List.setIfInBounds_toArray, List.set_cons_zero, List.set_cons_succ], ?_⟩
          exact ⟨fun h => hF.out.f0 (by simpa using h), fun h => hF.out.f1 (by simpa using h), fun h => hF.out.f2 (by simpa using h), fun h => hF.out.f3 (by simpa using h), fun h => hF.out.f4 (by simpa using h), fun h => hF.out.f5 (by simpa using h), fun h => hF.out.f6 (by simpa using h), fun _ => rfl, fun h => hF.out.f8 (by simpa using h), fun h => hF.out.f9 (by simpa using h), fun h => hF.out.f10 (by simpa using h), fun h => hF.out.f11 (by simpa using h), fun h => hF.out.f12 (by simpa using h), fun h => hF.out.f13 (by simpa using h), fun h => by have := hF.out.o9_8 (by simpa using h); simpa using this, fun h => by have := hF.out.o10_8 (by simpa using h); simpa using this, fun h => by have := hF.out.p5 (by simpa using h); simpa using this, fun h => by have := hF.out.p8 (by simpa using h); simpa using this, fun h => by have := hF.out.p10 (by simpa using h); simpa using this, fun h => by have := hF.out.q13 (by simpa using h); simpa using this, fun h => hF.out.tn (by simpa using h), hF.out.cc, fun h h2 => hF.out.bs (by simpa using h) (by simpa using h2), fun h h2 => hF.out.th (by simpa using h) (by simpa using h2), hF.out.mv, fun h => hF.out.fin (by simpa using h)⟩
        · intro d a W hI hd hdep
          obtain ⟨gb, gr, cr, x10, x11, x12, x13, x14, x15, x16, x17, x18, x19, x20, x21, x22, rfl, hF⟩ := hI
          have hd7 : d 7 = true := dep_of hdep 7 (by kernel_rfl)
          obtain rfl := hF.out.f7 hd7
          have HN11 : Hid (d 11 = false) := no_later hF.out.p8 hd
          have htn := hF.out.tn HN11.out
          have ya := hF.out.cc i HI2.out
          clear hdep hd hd7
          intro K hK
          simp only [Act.put, List.setIfInBounds_toArray, List.set_cons_zero, List.set_cons_succ]
          go_simp
          refine hK.out _ _ ⟨gb, gr, cr, x10, x11, x12, x13, x14, x15, x16, (.pointer (some ⟨gc, i, none⟩)), (.int .i16 (Z i)), x19, x20, x21, x22, by simp only [Act.put, List.setIfInBounds_toArray, List.set_cons_zero, List.set_cons_succ], ?_⟩
          exact ⟨fun h => hF.out.f0 (by simpa using h), fun h => hF.out.f1 (by simpa using h), fun h => hF.out.f2 (by simpa using h), fun h => hF.out.f3 (by simpa using h), fun h => hF.out.f4 (by simpa using h), fun h => hF.out.f5 (by simpa using h), fun h => hF.out.f6 (by simpa using h), fun h => hF.out.f7 (by simpa using h), fun _ => rfl, fun h => hF.out.f9 (by simpa using h), fun h => hF.out.f10 (by simpa using h), fun h => hF.out.f11 (by simpa using h), fun h => hF.out.f12 (by simpa using h), fun h => hF.out.f13 (by simpa using h), fun _ => by simp, fun _ => by simp, fun h => by have := hF.out.p5 (by simpa using h); simpa using this, fun _ => by simp, fun h => by have := hF.out.p10 (by simpa using h); simpa using this, fun h => by have := hF.out.q13 (by simpa using h); simpa using this, fun h => hF.out.tn (by simpa using h), hF.out.cc, fun h h2 => hF.out.bs (by simpa using h) (by simpa using h2), fun h h2 => hF.out.th (by simpa using h) (by simpa using h2), hF.out.mv, fun h => hF.out.fin (by simpa using h)⟩
        · intro d a W hI hd hdep
          obtain ⟨gb, gr, cr, x10, x11, x12, x13, x14, x15, x16, x17, x18, x19, x20, x21, x22, rfl, hF⟩ := hI
          have hd8 : d 8 = true := dep_of hdep 8 (by kernel_rfl)
          obtain rfl := hF.out.f8 hd8
          have hwr := HWR.out
          have e9_8 := hd8
          clear hdep hd hd8
          intro K hK
          simp only [Act.put, List.setIfInBounds_toArray, List.set_cons_zero, List.set_cons_succ]
          go_simp
          refine hK.out _ _ ⟨gb, gr, cr, x10, x11, x12, x13, x14, x15, x16, x17, (.int .i16 (Z i)), (.int .i64 (Z i)), x20, x21, x22, by simp only [Act.put, List.setIfInBounds_toArray, List.set_cons_zero, List.set_cons_succ], ?_⟩
          exact ⟨fun h => hF.out.f0 (by simpa using h), fun h => hF.out.f1 (by simpa using h), fun h => hF.out.f2 (by simpa using h), fun h => hF.out.f3 (by simpa using h), fun h => hF.out.f4 (by simpa using h), fun h => hF.out.f5 (by simpa using h), fun h => hF.out.f6 (by simpa using h), fun h => hF.out.f7 (by simpa using h), fun h => hF.out.f8 (by simpa using h), fun _ => rfl, fun h => hF.out.f10 (by simpa using h), fun h => hF.out.f11 (by simpa using h), fun h => hF.out.f12 (by simpa using h), fun h => hF.out.f13 (by simpa using h), fun _ => by simpa using e9_8, fun h => by have := hF.out.o10_8 (by simpa using h); simpa using this, fun h => by have := hF.out.p5 (by simpa using h); simpa using this, fun h => by have := hF.out.p8 (by simpa using h); simpa using this, fun h => by have := hF.out.p10 (by simpa using h); simpa using this, fun h => by have := hF.out.q13 (by simpa using h); simpa using this, fun h => hF.out.tn (by simpa using h), hF.out.cc, fun h h2 => hF.out.bs (by simpa using h) (by simpa using h2), fun h h2 => hF.out.th (by simpa using h) (by simpa using h2), hF.out.mv, fun h => hF.out.fin (by simpa using h)⟩
        · intro d a W hI hd hdep
          obtain ⟨gb, gr, cr, x10, x11, x12, x13, x14, x15, x16, x17, x18, x19, x20, x21, x22, rfl, hF⟩ := hI
          have hd9 : d 9 = true := dep_of hdep 9 (by kernel_rfl)
          obtain rfl := hF.out.f9 hd9
          have HN11 : Hid (d 11 = false) := no_later hF.out.p10 hd
          have htn := hF.out.tn HN11.out
          have e10_8 := hF.out.o9_8 hd9
          clear hdep hd hd9
          intro K hK
          simp only [Act.put, List.setIfInBounds_toArray, List.set_cons_zero, List.set_cons_succ]
          go_simp
          refine hK.out _ _ ⟨W.heap.size, gr, cr, x10, x11, x12, x13, x14, x15, x16, x17, x18, (.int .i64 (Z i)), (.slice (some ⟨W.heap.size, 0, none⟩) 1 1), x21, x22, by simp only [Act.put, List.setIfInBounds_toArray, List.set_cons_zero, List.set_cons_succ], ?_⟩
          have B1 := (Below.refl W.heap.size W).alloc (Nat.le_refl _) (Obj.cells #[Value.int .i64 (Z i)] 3)
          exact ⟨fun h => hF.out.f0 (by simpa using h), fun h => hF.out.f1 (by simpa using h), fun h => hF.out.f2 (by simpa using h), fun h => hF.out.f3 (by simpa using h), fun h => hF.out.f4 (by simpa using h), fun h => hF.out.f5 (by simpa using h), fun h => hF.out.f6 (by simpa using h), fun h => hF.out.f7 (by simpa using h), fun h => hF.out.f8 (by simpa using h), fun h => hF.out.f9 (by simpa using h), fun _ => rfl, fun h => hF.out.f11 (by simpa using h), fun h => hF.out.f12 (by simpa using h), fun h => hF.out.f13 (by simpa using h), fun h => by have := hF.out.o9_8 (by simpa using h); simpa using this, fun _ => by simpa using e10_8, fun h => by have := hF.out.p5 (by simpa using h); simpa using this, fun h => by have := hF.out.p8 (by simpa using h); simpa using this, fun _ => by simp, fun h => by have := hF.out.q13 (by simpa using h); simpa using this, fun _ => htn.next B1, fun s hs => Go.Lib.cell?_alloc_some _ (hF.out.cc s hs), fun _ _ j u hj => by rw [cell_of_one3]; exact hj, fun h => by have := HN11.out; simp [this] at h, hF.out.mv.below B1 htn.size, fun h => by have : d 13 = false := no_later hF.out.q13 HN11.out; simp [this] at h⟩
        · intro d a W hI hd hdep
          obtain ⟨gb, gr, cr, x10, x11, x12, x13, x14, x15, x16, x17, x18, x19, x20, x21, x22, rfl, hF⟩ := hI
          have hd5 : d 5 = true := dep_of hdep 5 (by kernel_rfl)
          have hd10 : d 10 = true := dep_of hdep 10 (by kernel_rfl)
          obtain rfl := hF.out.f5 hd5
          obtain rfl := hF.out.f10 hd10
          have htn := hF.out.tn hd
          have HN13 : Hid (d 13 = false) := no_later hF.out.q13 hd
          have e11_5 := hd5
          have e11_10 := hd10
          have e11_8 := hF.out.o10_8 hd10
          have hbk := hF.out.bs hd10 hd
          have hm := run_append_lies (P := Try.prog) W 23 23 B 3 i3 _ 1 8 Try.underlying23 H3.out.1 H3.out.2.1 H3.out.2.2.1 H3.out.2.2.2 rfl (by omega) (V i) (C i) (tl (C i) (X i)) (htn.own i HIL.out) ⟨gb, 0, none⟩ 1 1 [.int .i64 (Z i)] rfl (fun j u hj => by rw [Addr.add_lit, Nat.zero_add]; exact hbk j u hj) (by intro u hu; simp at hu; subst hu; rfl) (by omega) (by unfold maxLen; have := HCI.out; omega) (by have := HCI.out; omega) htn.size W.heap.size rfl
          have hmm := hm.choose_spec.choose_spec.choose_spec
          generalize hm.choose_spec.choose_spec.choose = W1 at hmm
          generalize hm.choose_spec.choose = cr1 at hmm
          generalize hm.choose = gr1 at hmm
          have hrun := hmm.1
          have HM : Hid (Th B gN n i C X V gr1 cr1 W1 ∧ W.grownBy W1 (V i).ownBlock) := ⟨htn.grow HIL.out hmm.2.2.1 (by rw [tl_succ, HXZ.out]; exact hmm.2.1) hmm.2.2.2.1, hmm.2.2.1⟩
          have HOB : Hid (∀ k, (V i).ownBlock = some k → B ≤ k) := fun k hk => ((htn.own i HIL.out).lt k hk).1
          have HBS : Hid (B ≤ W.heap.size) := htn.size
          clear hmm hm hbk htn
          clear hdep hd hd5 hd10
          intro K hK
          refine step_call_append (sv := V i) (xv := .slice (some ⟨gb, 0, none⟩) 1 1) (v := .slice (some ⟨gr1, 0, none⟩) (C i + 1) cr1) (W1 := W1) (by rfl) _ _ 23 (by rfl) (by simp only [Act.put, List.setIfInBounds_toArray, List.set_cons_zero, List.set_cons_succ]; rfl) (by simp only [Act.put, List.setIfInBounds_toArray, List.set_cons_zero, List.set_cons_succ]; rfl) (by exact hrun) ?_
          simp only [Act.put, List.setIfInBounds_toArray, List.set_cons_zero, List.set_cons_succ]
          refine hK.out _ _ ⟨gb, gr1, cr1, x10, x11, x12, x13, x14, (V i), x16, x17, x18, x19, (.slice (some ⟨gb, 0, none⟩) 1 1), (.slice (some ⟨gr1, 0, none⟩) (C i + 1) cr1), x22, by simp only [Act.put, List.setIfInBounds_toArray, List.set_cons_zero, List.set_cons_succ], ?_⟩
          exact ⟨fun h => hF.out.f0 (by simpa using h), fun h => hF.out.f1 (by simpa using h), fun h => hF.out.f2 (by simpa using h), fun h => hF.out.f3 (by simpa using h), fun h => hF.out.f4 (by simpa using h), fun h => hF.out.f5 (by simpa using h), fun h => hF.out.f6 (by simpa using h), fun h => hF.out.f7 (by simpa using h), fun h => hF.out.f8 (by simpa using h), fun h => hF.out.f9 (by simpa using h), fun h => hF.out.f10 (by simpa using h), fun _ => rfl, fun h => hF.out.f12 (by simpa using h), fun h => hF.out.f13 (by simpa using h), fun h => by have := hF.out.o9_8 (by simpa using h); simpa using this, fun h => by have := hF.out.o10_8 (by simpa using h); simpa using this, fun _ => by simpa using e11_5, fun _ => by simpa using e11_8, fun _ => by simpa using e11_10, fun _ => by simp, fun h => by simp at h, fun s hs => HM.out.2.cell (hF.out.cc s hs) HGC.out, fun _ h => by simp at h, fun _ _ => HM.out.1, hF.out.mv.grown HM.out.2 HOB.out HBS.out, fun h => by have := HN13.out; simp [this] at h⟩
        · intro d a W hI hd hdep
          obtain ⟨gb, gr, cr, x10, x11, x12, x13, x14, x15, x16, x17, x18, x19, x20, x21, x22, rfl, hF⟩ := hI
          have hd0 : d 0 = true := dep_of hdep 0 (by kernel_rfl)
          have hd1 : d 1 = true := dep_of hdep 1 (by kernel_rfl)
          obtain rfl := hF.out.f0 hd0
          obtain rfl := hF.out.f1 hd1
          clear hdep hd hd0 hd1
          intro K hK
          simp only [Act.put, List.setIfInBounds_toArray, List.set_cons_zero, List.set_cons_succ]
          go_simp
          refine hK.out _ _ ⟨gb, gr, cr, (.slice (some ⟨gN, 0, none⟩) n n), (.int .i64 (i : Int)), x12, x13, x14, x15, x16, x17, x18, x19, x20, x21, (.pointer (some ⟨gN, i, none⟩)), by simp only [Act.put, List.setIfInBounds_toArray, List.set_cons_zero, List.set_cons_succ], ?_⟩
          exact ⟨fun h => hF.out.f0 (by simpa using h), fun h => hF.out.f1 (by simpa using h), fun h => hF.out.f2 (by simpa using h), fun h => hF.out.f3 (by simpa using h), fun h => hF.out.f4 (by simpa using h), fun h => hF.out.f5 (by simpa using h), fun h => hF.out.f6 (by simpa using h), fun h => hF.out.f7 (by simpa using h), fun h => hF.out.f8 (by simpa using h), fun h => hF.out.f9 (by simpa using h), fun h => hF.out.f10 (by simpa using h), fun h => hF.out.f11 (by simpa using h), fun _ => rfl, fun h => hF.out.f13 (by simpa using h), fun h => by have := hF.out.o9_8 (by simpa using h); simpa using this, fun h => by have := hF.out.o10_8 (by simpa using h); simpa using this, fun h => by have := hF.out.p5 (by simpa using h); simpa using this, fun h => by have := hF.out.p8 (by simpa using h); simpa using this, fun h => by have := hF.out.p10 (by simpa using h); simpa using this, fun h => by have := hF.out.q13 (by simpa using h); simpa using this, fun h => hF.out.tn (by simpa using h), hF.out.cc, fun h h2 => hF.out.bs (by simpa using h) (by simpa using h2), fun h h2 => hF.out.th (by simpa using h) (by simpa using h2), hF.out.mv, fun h => hF.out.fin (by simpa using h)⟩
        · intro d a W hI hd hdep
          obtain ⟨gb, gr, cr, x10, x11, x12, x13, x14, x15, x16, x17, x18, x19, x20, x21, x22, rfl, hF⟩ := hI
          have hd12 : d 12 = true := dep_of hdep 12 (by kernel_rfl)
          have hd11 : d 11 = true := dep_of hdep 11 (by kernel_rfl)
          obtain rfl := hF.out.f12 hd12
          obtain rfl := hF.out.f11 hd11
          have g11 := hd11
          have hth := hF.out.th hd11 hd
          have HTH : Hid (Th B gN n i C X V gr cr W) := hth
          have ya := hth.top.cell HIL.out
          have yb := hth.top.frozen i
          clear hth
          clear hdep hd hd12 hd11
          intro K hK
          simp only [Act.put, List.setIfInBounds_toArray, List.set_cons_zero, List.set_cons_succ]
          go_simp
          refine hK.out _ _ ⟨gb, gr, cr, x10, x11, x12, x13, x14, x15, x16, x17, x18, x19, x20, (.slice (some ⟨gr, 0, none⟩) (C i + 1) cr), (.pointer (some ⟨gN, i, none⟩)), by simp only [Act.put, List.setIfInBounds_toArray, List.set_cons_zero, List.set_cons_succ], ?_⟩
          exact ⟨fun h => hF.out.f0 (by simpa using h), fun h => hF.out.f1 (by simpa using h), fun h => hF.out.f2 (by simpa using h), fun h => hF.out.f3 (by simpa using h), fun h => hF.out.f4 (by simpa using h), fun h => hF.out.f5 (by simpa using h), fun h => hF.out.f6 (by simpa using h), fun h => hF.out.f7 (by simpa using h), fun h => hF.out.f8 (by simpa using h), fun h => hF.out.f9 (by simpa using h), fun h => hF.out.f10 (by simpa using h), fun h => hF.out.f11 (by simpa using h), fun h => hF.out.f12 (by simpa using h), fun _ => trivial, fun h => by have := hF.out.o9_8 (by simpa using h); simpa using this, fun h => by have := hF.out.o10_8 (by simpa using h); simpa using this, fun h => by have := hF.out.p5 (by simpa using h); simpa using this, fun h => by have := hF.out.p8 (by simpa using h); simpa using this, fun h => by have := hF.out.p10 (by simpa using h); simpa using this, fun _ => by simpa using g11, fun h => by have := g11; simp [this] at h, fun s hs => (cell_set_other HGCN.out).trans (hF.out.cc s hs), fun _ h => by have := g11; simp [this] at h, fun _ h => by simp at h, hF.out.mv.set _ _, fun _ => HTH.out.put HIL.out⟩
      · intro d a W hI hall
        obtain ⟨gb, gr, cr, x10, x11, x12, x13, x14, x15, x16, x17, x18, x19, x20, x21, x22, rfl, hF⟩ := hI
        simp only [List.length_cons, List.length_nil] at hall
        obtain rfl := hF.out.f0 (hall 0 (by omega))
        obtain rfl := hF.out.f1 (hall 1 (by omega))
        obtain rfl := hF.out.f2 (hall 2 (by omega))
        obtain rfl := hF.out.f3 (hall 3 (by omega))
        obtain rfl := hF.out.f4 (hall 4 (by omega))
        obtain rfl := hF.out.f5 (hall 5 (by omega))
        obtain rfl := hF.out.f6 (hall 6 (by omega))
        obtain rfl := hF.out.f7 (hall 7 (by omega))
        obtain rfl := hF.out.f8 (hall 8 (by omega))
        obtain rfl := hF.out.f9 (hall 9 (by omega))
        obtain rfl := hF.out.f10 (hall 10 (by omega))
        obtain rfl := hF.out.f11 (hall 11 (by omega))
        obtain rfl := hF.out.f12 (hall 12 (by omega))
        have HR : Hid (Tn B gN n (fun j => if j = i then C i + 1 else C j) X (fun j => if j = i then (.slice (some ⟨gr, 0, none⟩) (C i + 1) cr) else V j) W ∧ Mk B gN wr W ∧ ∀ s, s < 200 → W.cell? ⟨gc, s, none⟩ = some (.int .i16 (Z s))) := ⟨hF.out.fin (hall 13 (by omega)), hF.out.mv, hF.out.cc⟩
        clear hF hall
        simp only [Act.put, List.setIfInBounds_toArray, List.set_cons_zero, List.set_cons_succ]
        go_wp2_with fail
        go_roundw
        case rel =>
          have hfin : ∃ V, Tn B gN n (fun j => if j < i + 1 then k + 1 else k) X V W ∧ (∀ j, i + 1 ≤ j → V j = V0 j) ∧ Mk B gN w W ∧ ∀ s, s < 200 → W.cell? ⟨gc, s, none⟩ = some (.int .i16 (Z s)) := by
            refine ⟨_, HR.out.1.congrC fun j hj => ?_, fun j hj => ?_, HMV.out.trans HR.out.2.1, HR.out.2.2⟩
            · rw [HCK.out]
              by_cases e : j = i
              · subst e; simp
              · have hcj : C j = if j < i then k + 1 else k := by rw [← HCE.out]
                by_cases e2 : j < i
                · simp [e, hcj, e2, show j < i + 1 by omega]
                · simp [e, hcj, e2, show ¬ j < i + 1 by omega]
            · rw [if_neg (by omega)]
              exact HVE.out j (by omega)
          exact ⟨i + 1, by omega, by go_num, hfin⟩
        case measure => simp [intOf]; omega
    · have HFI : Hid (Mk B gN w wr ∧ ∃ V', Tn B gN n (fun _ => k + 1) X V' wr) := ⟨hmv, V, htn.congrC fun j hj => by rw [if_pos (by omega)]⟩
      clear htn hve hmv hcc HE
      go_wp2_with fail
      refine bodyPost_end (v := .tuple #[]) (by simp [results, Try.results51, go_sem]) rfl ⟨rfl, HFI.out⟩
end Go.Proofs.Ytlmlkpdppkgenaa.Pk

namespace Go.Proofs.Ytlmlkpdppkgenaa.Pk
open Go.RowKit
open Go.Maps
open Dfa

/-- Have two bytes one column? -/
def eqc (n : Nat) (R : Nat → Nat → Int) (x y : Nat) : Bool := (List.range n).all fun i => R i x == R i y
theorem eqc_iff {n : Nat} {R : Nat → Nat → Int} {x y : Nat} : eqc n R x y = true ↔ ∀ i, i < n → R i x = R i y := by
  simp [eqc]
/-- The number of a byte's column among these, or how many these are. -/
def idx (n : Nat) (R : Nat → Nat → Int) (fs : List Nat) (y : Nat) : Nat := fs.findIdx fun f => eqc n R f y
/-- The least bytes of the columns of the bytes below b. -/
def fsts (n : Nat) (R : Nat → Nat → Int) : Nat → List Nat
  | 0 => []
  | b + 1 => if idx n R (fsts n R b) b = (fsts n R b).length then fsts n R b ++ [b] else fsts n R b
theorem idx_le (n : Nat) (R : Nat → Nat → Int) (fs : List Nat) (y : Nat) : idx n R fs y ≤ fs.length := List.findIdx_le_length
theorem fsts_length (n : Nat) (R : Nat → Nat → Int) : ∀ b, (fsts n R b).length ≤ b
  | 0 => Nat.le_refl _
  | b + 1 => by
    have := fsts_length n R b
    unfold fsts
    split
    · simp; omega
    · omega
theorem fsts_lt (n : Nat) (R : Nat → Nat → Int) : ∀ b, ∀ f ∈ fsts n R b, f < b
  | 0, f, h => by simp [fsts] at h
  | b + 1, f, h => by
    have ih := fsts_lt n R b f
    unfold fsts at h
    split at h
    · simp at h
      rcases h with h | h
      · have := ih h; omega
      · omega
    · have := ih h; omega
theorem idx_some {n : Nat} {R : Nat → Nat → Int} {fs : List Nat} {y : Nat} (h : idx n R fs y < fs.length) : eqc n R fs[idx n R fs y] y = true := List.findIdx_getElem (w := h)
theorem eqc_trans {n : Nat} {R : Nat → Nat → Int} {x y z : Nat} (h : eqc n R x y = true) : eqc n R x z = eqc n R y z := by
  have h1 := eqc_iff.1 h
  rw [Bool.eq_iff_iff, eqc_iff, eqc_iff]
  exact ⟨fun k i hi => by rw [← h1 i hi]; exact k i hi, fun k i hi => by rw [h1 i hi]; exact k i hi⟩
theorem eqc_symm {n : Nat} {R : Nat → Nat → Int} {x y : Nat} : eqc n R x y = eqc n R y x := by
  rw [Bool.eq_iff_iff, eqc_iff, eqc_iff]
  exact ⟨fun k i hi => (k i hi).symm, fun k i hi => (k i hi).symm⟩
theorem idx_congr {n : Nat} {R : Nat → Nat → Int} {fs : List Nat} {x y : Nat} (h : eqc n R x y = true) : idx n R fs x = idx n R fs y := by
  unfold idx
  congr 1
  funext f
  rw [eqc_symm, eqc_trans h, eqc_symm]
theorem idx_snoc {n : Nat} {R : Nat → Nat → Int} {fs : List Nat} {b y : Nat} : idx n R (fs ++ [b]) y = if idx n R fs y < fs.length then idx n R fs y else if eqc n R b y then fs.length else fs.length + 1 := by
  unfold idx
  rw [List.findIdx_append]
  split
  · rfl
  · rw [List.findIdx_cons]
    cases eqc n R b y <;> simp <;> omega
/-- Two columns are the same just if their cells are. -/
theorem cl_eq {n : Nat} {R : Nat → Nat → Int} (hn : n ≤ 200) {x y : Nat} : cl n R x = cl n R y ↔ eqc n R x y = true := by
  rw [eqc_iff]
  constructor
  · intro h i hi
    have h1 := cl_at n R x i (by omega)
    rw [h, cl_at n R y i (by omega)] at h1
    simp only [Option.some.injEq, Value.int.injEq, true_and, cf, hi, if_true] at h1
    exact h1.symm
  · intro h
    unfold cl
    apply List.map_congr_left
    intro s hs
    unfold cf
    split
    · rename_i hs2; rw [h s hs2]
    · rfl
theorem laidOut' : laidOutB Try.prog = true := by kernel_rfl
theorem law83 : Maps.Keyed Try.prog 108 := Maps.Keyed.of_law (deep_law_laid laidOut' (m := 2) (by omega) (of_decide_eq_true (by kernel_rfl)) (by kernel_rfl) (by rw [Try.underlying108]))
theorem key83_inj {n : Nat} {R : Nat → Nat → Int} (hn : n ≤ 200) {x y : Nat} {kl : Lit} (h1 : keyOf Try.prog 108 (.agg (cl n R x).toArray) = some kl) (h2 : keyOf Try.prog 108 (.agg (cl n R y).toArray) = some kl) : eqc n R x y = true := by
  have := law83.inj h1 h2
  simp only [Value.agg.injEq, Array.mk.injEq] at this
  exact (cl_eq hn).1 this
/-- The map tells the numbers of the columns. -/
structure MI (n : Nat) (R : Nat → Nat → Int) (D : DataW Unit) (fs : List Nat) : Prop where
  isMap : IsMap D
  size : Maps.size D = fs.length
  has : ∀ y kl, keyOf Try.prog 108 (.agg (cl n R y).toArray) = some kl → (Maps.has D kl = true ↔ idx n R fs y < fs.length)
  at_ : ∀ y kl, keyOf Try.prog 108 (.agg (cl n R y).toArray) = some kl → idx n R fs y < fs.length → D.atKey kl (.lit (.int .u8 0)) = .lit (.int .u8 (idx n R fs y : Int))
theorem MI.none (n : Nat) (R : Nat → Nat → Int) : MI n R (.map []) [] :=
  ⟨⟨[], rfl⟩, rfl, fun y kl _ => by simp [Maps.has_eq], fun y kl _ h => by simp at h⟩
theorem MI.put {n : Nat} {R : Nat → Nat → Int} (hn : n ≤ 200) {D : DataW Unit} {fs : List Nat} (h : MI n R D fs) (ht : Tidy D) {b : Nat} {kl : Lit} (hk : keyOf Try.prog 108 (.agg (cl n R b).toArray) = some kl) (hno : ¬ idx n R fs b < fs.length) : MI n R (D.put kl (.lit (.int .u8 (fs.length : Int)))) (fs ++ [b]) := by
  have hnh : Maps.has D kl = false := by
    cases e : Maps.has D kl with
    | false => rfl
    | true => exact absurd ((h.has b kl hk).1 e) hno
  have hbb : eqc n R b b = true := eqc_iff.2 fun _ _ => rfl
  have key : ∀ y ky, keyOf Try.prog 108 (.agg (cl n R y).toArray) = some ky → (ky = kl ↔ eqc n R b y = true) := fun y ky hy => by
    constructor
    · intro e; subst e; exact key83_inj hn hk hy
    · intro e
      have := (cl_eq hn).2 e
      rw [this, hy] at hk
      exact (Option.some.inj hk)
  refine ⟨?_, ?_, fun y ky hy => ?_, fun y ky hy hlt => ?_⟩
  · obtain ⟨es, rfl⟩ := h.isMap
    exact ⟨_, rfl⟩
  · rw [Maps.size_put ht, hnh, h.size]; simp
  · by_cases e : ky = kl
    · have heq := (key y ky hy).1 e
      subst e
      rw [Maps.has_put_same h.isMap (law83.key hk), idx_snoc, ← idx_congr heq, if_neg hno, heq]
      simp
    · have hne : eqc n R b y = false := by
        cases e2 : eqc n R b y with
        | false => rfl
        | true => exact absurd ((key y ky hy).2 e2) e
      rw [Maps.has_put_other e, h.has y ky hy, idx_snoc, hne]
      by_cases hl : idx n R fs y < fs.length
      · simp [hl]; omega
      · simp [hl]
  · by_cases e : ky = kl
    · have heq := (key y ky hy).1 e
      subst e
      rw [Maps.atKey_put_same h.isMap (law83.key hk), idx_snoc, ← idx_congr heq, if_neg hno, heq]
      simp
    · have hne : eqc n R b y = false := by
        cases e2 : eqc n R b y with
        | false => rfl
        | true => exact absurd ((key y ky hy).2 e2) e
      rw [idx_snoc, hne] at hlt
      by_cases hl : idx n R fs y < fs.length
      · rw [Maps.atKey_put_other e, h.at_ y ky hy hl, idx_snoc, if_pos hl]
      · simp [hl] at hlt
theorem mapM_some {α β : Type} (f : α → Option β) : ∀ l : List α, (∀ x ∈ l, ∃ y, f x = some y) → ∃ ys, l.mapM f = some ys
  | [], _ => ⟨[], rfl⟩
  | x :: l, h => by
    obtain ⟨y, hy⟩ := h x (by simp)
    obtain ⟨ys, hys⟩ := mapM_some f l (fun z hz => h z (by simp [hz]))
    exact ⟨y :: ys, by rw [List.mapM_cons, hy, hys]; rfl⟩
theorem cells108 : Try.prog.cellsOf 108 = 200 := by kernel_rfl
theorem key83 {n : Nat} {R : Nat → Nat → Int} (hR : ∀ i j, -32768 ≤ R i j ∧ R i j ≤ 32767) (y : Nat) : ∃ kl, keyOf Try.prog 108 (.agg (cl n R y).toArray) = some kl := by
  have hk : Try.prog.keyType 108 = true := by kernel_rfl
  obtain ⟨m, hm⟩ : ∃ m, Try.prog.types.size = m + 1 := ⟨Try.prog.types.size - 1, by have : 0 < Try.prog.types.size := of_decide_eq_true (by kernel_rfl); omega⟩
  have hl := cl_length n R y
  have hcf : ∀ s, -32768 ≤ cf n R y s ∧ cf n R y s ≤ 32767 := fun s => by unfold cf; split <;> simp [hR]
  have hat := cl_at n R y
  generalize cl n R y = l at hl hat
  unfold keyOf
  rw [Try.underlying108]
  simp only [hk, Bool.true_and]
  rw [if_pos (by simp [Value.formed, Try.underlying108, cells108, hl])]
  rw [hm]
  obtain ⟨ys, hys⟩ := mapM_some (fun i => Try.prog.keyLits (m + 1) 70 ((l.drop (i * Try.prog.cellsOf 70)).take (Try.prog.cellsOf 70))) (List.range 200) (fun i hi => by
    have hi' : i < 200 := by simpa using hi
    refine ⟨[.int .i16 (cf n R y i)], ?_⟩
    have e : (l.drop (i * Try.prog.cellsOf 70)).take (Try.prog.cellsOf 70) = [.int .i16 (cf n R y i)] := by
      rw [cells70, Nat.mul_one, List.drop_eq_getElem_cons (by omega)]
      have := hat i hi'
      rw [List.getElem?_eq_getElem (by omega)] at this
      simp [Option.some.inj this]
    rw [e]
    have hwf : (Lit.int .i16 (cf n R y i)).wf = true := by
      have := hcf i
      simp [Lit.wf, IntKind.min, IntKind.max, IntKind.signed, IntKind.bits]; omega
    simp [Program.keyLits, Try.underlying70, hwf])
  have e0 : Try.prog.keyLits (m + 1 + 1) 108 (Value.agg l.toArray).cells.toList = some ys.flatten := by
    unfold Program.keyLits
    simp only [Try.underlying108, Value.cells]
    rw [if_pos (by rw [cells108]; exact hl), hys]
    rfl
  rw [e0]
  exact ⟨_, rfl⟩
end Go.Proofs.Ytlmlkpdppkgenaa.Pk

namespace Go.Proofs.Ytlmlkpdppkgenaa.Pk
open Go.RowKit
open Dfa

theorem rowIs_setCells {t n g : Nat} : ∀ (vs : List Value) (o : Nat) {w : World} (f : Nat → Value), w.rowIs g t n f → o + vs.length ≤ n →
    ∃ f', (w.setCells g o vs).rowIs g t n f' ∧ (∀ i, i < o → f' i = f i) ∧ ∀ j v, vs[j]? = some v → f' (o + j) = v
  | [], o, w, f, h, _ => ⟨f, h, fun _ _ => rfl, fun j v hv => by simp at hv⟩
  | v :: vs, o, w, f, h, hl => by
    obtain ⟨f', h1, h2, h3⟩ := rowIs_setCells vs (o + 1) _ (h.set o v) (by simp at hl; omega)
    refine ⟨f', h1, fun i hi => by rw [h2 i (by omega)]; simp; omega, fun j u hj => ?_⟩
    match j, hj with
    | 0, hj =>
      simp at hj
      rw [Nat.add_zero, h2 o (by omega), ← hj]; simp
    | j + 1, hj =>
      rw [show o + (j + 1) = o + 1 + j by omega]
      exact h3 j u (by simpa using hj)
theorem heap_setCells_ne (g : Nat) : ∀ (vs : List Value) (o : Nat) (w : World) (k : Nat), k ≠ g → (w.setCells g o vs).heap[k]? = w.heap[k]?
  | [], _, _, _, _ => rfl
  | v :: vs, o, w, k, hk => (heap_setCells_ne g vs (o + 1) _ k hk).trans (Below.heap_setCell w ⟨g, o, none⟩ v k hk)
theorem size_setCells (g : Nat) : ∀ (vs : List Value) (o : Nat) (w : World), (w.setCells g o vs).heap.size = w.heap.size
  | [], _, _ => rfl
  | v :: vs, o, w => (size_setCells g vs (o + 1) _).trans (by simp [World.setCell])
theorem pl_one (O : Nat → Nat) (a b : Option Addr) (n c m d : Nat) : (pl O (.slice a n c) (.slice b m d)).toArray.all (·.oneCell') = true := all_oneCell_toArray fun v hv => by
  simp only [pl, ol, List.mem_append, List.mem_map, List.mem_cons, List.not_mem_nil, or_false] at hv
  rcases hv with ⟨j, _, rfl⟩ | rfl | rfl <;> rfl
theorem ol_zero : ol (fun _ => 0) = List.replicate 256 (.int .u8 0) := by
  apply List.ext_getElem?
  intro i
  by_cases h : i < 256
  · rw [ol_at _ i h, List.getElem?_replicate, if_pos h]; rfl
  · rw [List.getElem?_eq_none (by rw [ol_length]; omega), List.getElem?_replicate, if_neg h]
theorem zero47 : ∃ zs : Array Value, (∀ w, (zeroValue 54).run Try.prog w = .ok (.agg zs) w) ∧ zs.size = 258 ∧ zs = (pl (fun _ => 0) (.slice none 0 0) (.slice none 0 0)).toArray := by
  refine ⟨_, (zero_of_info (P := Try.prog) (t := 54) (v := .agg (Array.replicate 256 (.int .u8 0) ++ #[.slice none 0 0, .slice none 0 0])) (n := 258) (by kernel_rfl)).1, by simp, ?_⟩
  rw [pl, ol_zero]
  apply Array.toList_inj.1
  rw [Array.toList_append, Array.toList_replicate]
theorem zset (zs : Array Value) (h : zs = (pl (fun _ => 0) (.slice none 0 0) (.slice none 0 0)).toArray) (u v : Value) : (zs.setIfInBounds 256 u).setIfInBounds 257 v = (pl (fun _ => 0) u v).toArray := by
  subst h
  apply Array.ext_getElem?
  intro i
  rw [Array.getElem?_setIfInBounds, Array.getElem?_setIfInBounds]
  by_cases h : i < 256
  · rw [if_neg (by omega), if_neg (by omega), List.getElem?_toArray, List.getElem?_toArray, pl_of _ _ _ i h, pl_of _ _ _ i h]
  · by_cases h2 : i = 256
    · subst h2
      rw [if_neg (by omega), if_pos rfl, if_pos (by simp [pl_length]), List.getElem?_toArray, pl_next]
    · by_cases h3 : i = 257
      · subst h3
        rw [if_pos rfl, if_pos (by simp [pl_length]), List.getElem?_toArray, pl_tags]
      · rw [if_neg (by omega), if_neg (by omega), List.getElem?_toArray, List.getElem?_toArray, List.getElem?_eq_none (by rw [pl_length]; omega), List.getElem?_eq_none (by rw [pl_length]; omega)]
/-- The box of a packed automaton, as a row of 258 cells. -/
def pf (O : Nat → Nat) (nv tv : Value) (q : Nat) : Value := if q < 256 then .int .u8 (O q : Int) else if q = 256 then nv else tv
theorem pf_at (O : Nat → Nat) (nv tv : Value) (q : Nat) (h : q < 258) : (pl O nv tv)[q]? = some (pf O nv tv q) := by
  unfold pf
  by_cases h1 : q < 256
  · rw [if_pos h1, pl_of _ _ _ q h1]
  · rw [if_neg h1]
    by_cases h2 : q = 256
    · subst h2; rw [if_pos rfl, pl_next]
    · obtain rfl : q = 257 := by omega
      rw [if_neg h2, pl_tags]
theorem results_cell_tmp_mid {P : Program} {fn : Func} {p u : Tmp} {ty : TypeId} (h : fn.results = #[.cell p ty, .tmp u]) (tmps : Array Value) (w : World) (g : Nat) (cs : List Value) (d : TypeDesc) (hp : tmps.getD p undef = .pointer (some ⟨g, 0, none⟩)) (hc : w.rangeAt g 0 cs)
    (hu : P.underlying ty = some d) (hd : d.isRow = true) (hi : (P.info? ty).map (·.size) = some cs.length) : (results fn tmps).run P w = .ok (.tuple #[.agg cs.toArray, tmps.getD u undef]) w := by
  have hp' : tmps[p]?.getD undef = .pointer (some ⟨g, 0, none⟩) := by simpa using hp
  simp [results, h, hp', asAddr, run_loadVar_mid w g 0 ty cs d hc hu hd hi]
theorem wpList_store_new83 {ops : Array Oper} {rest : List Oper} {op : Oper} {a : Act} {w : World} {Q : Exit → Act → World → Prop} (hgd : op.guard = none) (x y : Operand) (ho : op.op = .store 108 x y)
    (c c' : Array Value) (hx : a.eval x = .pointer (some ⟨w.heap.size, 0, none⟩)) (hy : a.eval y = .agg c') (hc : c.size = 200) (hc' : c'.size = 200) (h1 : c'.all (·.oneCell') = true)
    (h : wpList Try.prog ops Q rest (a.put op.dst undef) (w.alloc (.cells c' 108))) : wpList Try.prog ops Q (op :: rest) a (w.alloc (.cells c 108)) :=
  wpList_plain hgd fun K hK => by
    unfold Oper.wp execOp
    simp only [ho, hx, hy, Sem.run_bind, run_storeAt_new w 108 c c' (by rw [hc']; exact size83) (by omega) h1, Result.andThen_ok]
    exact hK _ _ h
end Go.Proofs.Ytlmlkpdppkgenaa.Pk

namespace Go.Proofs.Ytlmlkpdppkgenaa.Pk
open Go.RowKit
open Go.Maps
open Dfa

/-- The numbers of the columns of the first bytes. -/
def ofb (n : Nat) (R : Nat → Nat → Int) (b q : Nat) : Nat := if q < b then idx n R (fsts n R q) q else 0
structure PL (w : World) (n : Nat) (R : Nat → Nat → Int) (T : Nat → Int) (rv tv : Value) (gN gt ct gp gm b : Nat) (fs : List Nat) (D : DataW Unit) (V : Nat → Value) (W : World) : Prop where
  below : Below w.heap.size w W
  c0 : W.cell? ⟨w.heap.size, 0, none⟩ = some rv
  c1 : W.cell? ⟨w.heap.size, 1, none⟩ = some tv
  rs : W.rowIs (w.heap.size + 1) 54 258 (pf (fun _ => 0) (.slice none 0 0) (.slice none 0 0))
  tg : Tg gt ct n T W
  pb : W.rowIs gp 54 258 (pf (ofb n R b) (.slice (some ⟨gN, 0, none⟩) n n) (.slice (some ⟨gt, 0, none⟩) n ct))
  tn : Tn (gm + 1) gN n (fun _ => fs.length) (fun i t => R i (fs.getD t 0)) V W
  mp : W.ownsMap Try.prog 108 (plainElem Try.prog 5) gm fs.length D
  mi : MI n R D fs
variable {w : World} {n : Nat} {R : Nat → Nat → Int} {T : Nat → Int} {rv tv : Value} {gN gt ct gp gm b : Nat} {fs : List Nat} {D : DataW Unit} {V : Nat → Value} {W W' : World}
/-- The blocks' order. -/
structure Go_ (w : World) (gN gt gp gm : Nat) : Prop where
  h1 : w.heap.size + 2 ≤ gN
  h2 : w.heap.size + 2 ≤ gt
  h3 : w.heap.size + 2 ≤ gp
  h4 : gN < gm
  h5 : gt < gm
  h6 : gp < gm
  n1 : gN ≠ gt
  n2 : gN ≠ gp
  n3 : gt ≠ gp
theorem map_same {k : TypeId} {m : Nat} (h : W.ownsMap Try.prog k (plainElem Try.prog 5) gm m D) (e : W'.heap[gm]? = W.heap[gm]?) : W'.ownsMap Try.prog k (plainElem Try.prog 5) gm m D := by
  unfold World.ownsMap at *
  rw [e]; exact h
theorem PL.next (h : PL w n R T rv tv gN gt ct gp gm b fs D V W) (g : Go_ w gN gt gp gm) (hb : Below W.heap.size W W') : PL w n R T rv tv gN gt ct gp gm b fs D V W' := by
  have hs := h.tn.size
  have e : ∀ k, k < gm + 1 → W'.heap[k]? = W.heap[k]? := fun k hk => hb.block k (by omega)
  exact ⟨h.below.trans (hb.mono h.below.size), (cell_same (e _ (by have := g.h1; have := g.h4; omega)) 0).trans h.c0, (cell_same (e _ (by have := g.h1; have := g.h4; omega)) 1).trans h.c1, h.rs.of_block (e _ (by have := g.h1; have := g.h4; omega)), h.tg.same (e _ (by have := g.h5; omega)), h.pb.of_block (e _ (by have := g.h6; omega)), h.tn.next hb, map_same h.mp (e _ (by omega)), h.mi⟩
/-- One more column is in the map. -/
theorem PL.mapped (h : PL w n R T rv tv gN gt ct gp gm b fs D V W) (g : Go_ w gN gt gp gm) (hg : W.grownBy W' (some gm)) :
    Below w.heap.size w W' ∧ W'.cell? ⟨w.heap.size, 0, none⟩ = some rv ∧ W'.cell? ⟨w.heap.size, 1, none⟩ = some tv ∧ W'.rowIs (w.heap.size + 1) 54 258 (pf (fun _ => 0) (.slice none 0 0) (.slice none 0 0)) ∧ Tg gt ct n T W' ∧ W'.rowIs gp 54 258 (pf (ofb n R b) (.slice (some ⟨gN, 0, none⟩) n n) (.slice (some ⟨gt, 0, none⟩) n ct)) ∧ Tn (gm + 1) gN n (fun _ => fs.length) (fun i t => R i (fs.getD t 0)) V W' := by
  have hs := h.tn.size
  have g1 := g.h1
  have g4 := g.h4
  have e : ∀ k, k < W.heap.size → k ≠ gm → W'.heap[k]? = W.heap[k]? := fun k hk hk2 => hg.block k hk (fun x => hk2 (Option.some.inj x))
  refine ⟨h.below.grown hg h.below.size (fun k hk => by simp at hk; omega), (cell_same (e _ (by omega) (by omega)) 0).trans h.c0, (cell_same (e _ (by omega) (by omega)) 1).trans h.c1, h.rs.of_block (e _ (by omega) (by omega)), h.tg.same (e _ (by have := g.h5; omega) (by have := g.h5; omega)), h.pb.of_block (e _ (by have := g.h6; omega) (by have := g.h6; omega)), ⟨h.tn.top.of_block (e _ h.tn.top.lt (by omega)), fun i hi => own_same (h.tn.own i hi) fun k hk => e k ((h.tn.own i hi).lt k hk).2 (by have := ((h.tn.own i hi).lt k hk).1; omega), h.tn.ne, h.tn.lt, Nat.le_trans h.tn.size hg.size⟩⟩
theorem PL.start (e : W.heap.size = gm) (h1 : Below w.heap.size w W) (h2 : W.cell? ⟨w.heap.size, 0, none⟩ = some rv) (h3 : W.cell? ⟨w.heap.size, 1, none⟩ = some tv) (h4 : W.rowIs (w.heap.size + 1) 54 258 (pf (fun _ => 0) (.slice none 0 0) (.slice none 0 0))) (h5 : W.rowIs gN 23 n (fun _ => .slice none 0 0)) (h6 : Tg gt ct n T W) (h8 : W.rowIs gp 54 258 (pf (fun _ => 0) (.slice (some ⟨gN, 0, none⟩) n n) (.slice (some ⟨gt, 0, none⟩) n ct))) :
    ∃ D V, PL w n R T rv tv gN gt ct gp gm 0 (fsts n R 0) D V (W.alloc (Obj.map #[] 0)) := by
  have hm := World.ownsMap_made (H := Unit) W Try.prog 108 (plainElem Try.prog 5)
  rw [e] at hm
  refine ⟨.map [], fun _ => .slice none 0 0, h1.alloc h1.size _, Go.Lib.cell?_alloc_some _ h2, Go.Lib.cell?_alloc_some _ h3, h4.alloc _, ⟨fun i hi => Go.Lib.cell?_alloc_some _ (h6.1 i hi), h6.2.1.imp fun _ hf => hf.alloc _, h6.2.2⟩, (h8.alloc _).congr fun q _ => ?_, ⟨h5.alloc _, fun i _ => World.ownsRow_nil _ _ _ _, fun i j _ _ _ q hq => by simp [Value.ownBlock] at hq, by have := h5.lt; omega, by simp; omega⟩, hm, MI.none n R⟩
  simp [pf, ofb]
/-- The number of a byte is written. -/
theorem PL.of (h : PL w n R T rv tv gN gt ct gp gm b fs D V W) (g : Go_ w gN gt gp gm) (hb : b < 256) : PL w n R T rv tv gN gt ct gp gm (b + 1) fs D V (W.setCell ⟨gp, b, none⟩ (.int .u8 (idx n R (fsts n R b) b : Int))) := by
  have e : ∀ k, k ≠ gp → (W.setCell ⟨gp, b, none⟩ (.int .u8 (idx n R (fsts n R b) b : Int))).heap[k]? = W.heap[k]? := fun k hk => Below.heap_setCell _ _ _ _ hk
  have g1 := g.h3
  have g2 := g.n2
  have g3 := g.n3
  have g4 := g.h6
  refine ⟨h.below.setCell (by simp; omega) _, (cell_same (e _ (by omega)) 0).trans h.c0, (cell_same (e _ (by omega)) 1).trans h.c1, h.rs.of_block (e _ (by omega)), h.tg.same (e _ (by omega)), (h.pb.set b _).congr fun q hq => ?_, ⟨h.tn.top.of_block (e _ (by omega)), fun i hi => own_same (h.tn.own i hi) fun k hk => e k (by have := ((h.tn.own i hi).lt k hk).1; omega), h.tn.ne, h.tn.lt, by simp only [World.setCell, Array.size_modify]; exact h.tn.size⟩, map_same h.mp (e _ (by omega)), h.mi⟩
  by_cases hq2 : q = b
  · subst hq2; simp [pf, ofb, hb]
  · have h3 : q < b + 1 ↔ q < b := by omega
    simp [pf, ofb, hq2, h3]
/-- One more column is in the table and in the map. -/
theorem PL.added {fs' : List Nat} {D' : DataW Unit} {V' : Nat → Value} (h : PL w n R T rv tv gN gt ct gp gm b fs D V W) (g : Go_ w gN gt gp gm) (hb : Below w.heap.size w W') (e : ∀ k, k < gm → k ≠ gN → W'.heap[k]? = W.heap[k]?)
    (ht : Tn (gm + 1) gN n (fun _ => fs'.length) (fun i t => R i (fs'.getD t 0)) V' W') (hm : W'.ownsMap Try.prog 108 (plainElem Try.prog 5) gm fs'.length D') (hi : MI n R D' fs') : PL w n R T rv tv gN gt ct gp gm b fs' D' V' W' := by
  have g1 := g.h1
  have g2 := g.h4
  have g3 := g.n1
  have g4 := g.n2
  exact ⟨hb, (cell_same (e _ (by omega) (by omega)) 0).trans h.c0, (cell_same (e _ (by omega) (by omega)) 1).trans h.c1, h.rs.of_block (e _ (by omega) (by omega)), h.tg.same (e _ g.h5 (by omega)), h.pb.of_block (e _ g.h6 (by omega)), ht, hm, hi⟩
theorem Tn.nx {B : Nat} {C : Nat → Nat} {X : Nat → Nat → Int} (h : Tn B gN n C X V W) (hn : n ≤ 200) (hX : ∀ i j, -32768 ≤ X i j ∧ X i j ≤ 32767) (hC : ∀ i, C i ≤ 256) : Nx W (.slice (some ⟨gN, 0, none⟩) n n) n C X := by
  have hX2 : ∀ i j, -9223372036854775808 ≤ X i j ∧ X i j ≤ 9223372036854775807 := fun i j => by have := hX i j; omega
  refine ⟨_, _, rfl, by omega, Or.inr ⟨gN, 0, rfl, h.top.lt, fun i hi => ⟨V i, by rw [Nat.zero_add]; exact h.top.cell hi, ?_⟩⟩⟩
  obtain ⟨hl, ⟨hv, hc⟩ | ⟨g, cap, cur, hv, hg, hb, h1, h2, h3, h4⟩⟩ := h.own i hi
  · rw [hv, hc]; exact ⟨_, _, rfl, by omega, hX2 i, Or.inl rfl⟩
  · rw [hv]
    refine ⟨_, _, rfl, by have := hC i; omega, hX2 i, Or.inr ⟨g, 0, rfl, (Array.getElem?_eq_some_iff.1 hb).1, fun j hj => ?_⟩⟩
    have h5 : cur[j]? = some (.int .i64 (X i j)) := by
      have := tl_at (C i) (X i) j hj
      rw [← h4, List.getElem?_take_of_lt (by omega), Array.getElem?_toList] at this
      exact this
    rw [Nat.zero_add]
    simp [World.cell?, hb, h5]
theorem pl_congr {O P : Nat → Nat} (u v : Value) (h : ∀ j, j < 256 → O j = P j) : pl O u v = pl P u v := by
  unfold pl ol
  congr 1
  apply List.map_congr_left
  intro j hj
  rw [h j (by simpa using hj)]
end Go.Proofs.Ytlmlkpdppkgenaa.Pk
