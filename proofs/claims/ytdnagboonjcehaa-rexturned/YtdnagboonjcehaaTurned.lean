/-
  The contract of pushkeep.turned: a tree of new memory, turned round.
-/
import Derived.Test.YtdnagboonjcehaaBacks
import Derived.Test.YtdnagboonjcehaaFree
namespace Go.Proofs.Ytdnagboonjcehaa
open Go.RowKit
open Cls Rex
open Go.Sort (putRow mapBlock Holds HoldsK putRowK flatK)

/-- A value is that tree, all of whose rows lie in blocks of which A holds. -/
inductive Ry (w : World) (A : Nat → Prop) : Value → T → Prop where
  | mk (k : Int) (c : Cl) (ao : Option Addr) (cap : Nat) (kids : List T) (vals : Nat → Value) (hk : -9223372036854775808 ≤ k ∧ k ≤ 9223372036854775807) (hm : kids.length ≤ 9223372036854775807)
      (hc : kids = [] ∨ ∃ b o, ao = some ⟨b, o, none⟩ ∧ A b ∧ ∀ i, i < kids.length → ∀ j, j < 6 → w.cell? ⟨b, o + i * 6 + j, none⟩ = (vals i).cells[j]?)
      (hr : ∀ i (hi : i < kids.length), Ry w A (vals i) kids[i]) :
      Ry w A (.agg #[.int .i64 k, .int .u64 (c.1.toNat : Int), .int .u64 (c.2.1.toNat : Int), .int .u64 (c.2.2.1.toNat : Int), .int .u64 (c.2.2.2.toNat : Int), .slice ao kids.length cap]) (.mk k c kids)
theorem Ry.rx {w : World} {A : Nat → Prop} {v : Value} {t : T} {B : Nat} (h : Ry w A v t) (hA : ∀ b, A b → b < B) : Rx w B v t := by
  induction h with
  | mk k c ao cap kids vals hk hm hc hr ih =>
    refine .mk k c ao cap kids vals hk hm ?_ ih
    rcases hc with h | ⟨b, o, h1, h2, h3⟩
    · exact Or.inl h
    · exact Or.inr ⟨b, o, h1, hA b h2, h3⟩
theorem Ry.move {w w' : World} {A A' : Nat → Prop} {v : Value} {t : T} (h : Ry w A v t) (hA : ∀ b, A b → A' b) (hw : ∀ b, A b → w'.heap[b]? = w.heap[b]?) : Ry w' A' v t := by
  induction h with
  | mk k c ao cap kids vals hk hm hc hr ih =>
    refine .mk k c ao cap kids vals hk hm ?_ ih
    rcases hc with h | ⟨b, o, h1, h2, h3⟩
    · exact Or.inl h
    · refine Or.inr ⟨b, o, h1, hA b h2, fun i hi j hj => ?_⟩
      rw [← h3 i hi j hj]
      simp [World.cell?, hw b h2]
/-- One node's cells. -/
abbrev R6 := Int × Cl × Option Addr × Nat × Nat
def re (q : R6) : List Value := [.int .i64 q.1, .int .u64 (q.2.1.1.toNat : Int), .int .u64 (q.2.1.2.1.toNat : Int), .int .u64 (q.2.1.2.2.1.toNat : Int), .int .u64 (q.2.1.2.2.2.toNat : Int), .slice q.2.2.1 q.2.2.2.1 q.2.2.2.2]
theorem re_len (q : R6) : (re q).length = 6 := rfl
theorem re_one (q : R6) : ∀ v ∈ re q, v.oneCell' = true := by intro v hv; simp [re] at hv; rcases hv with rfl | rfl | rfl | rfl | rfl | rfl <;> rfl
def fl6 (l : List R6) : List Value := l.flatMap re
theorem fl6_len (l : List R6) : (fl6 l).length = l.length * 6 := by
  induction l with
  | nil => rfl
  | cons q l ih => simp [fl6, re] at ih ⊢; omega
theorem fl6_append (a : List R6) (q : R6) : fl6 (a ++ [q]) = fl6 a ++ re q := by simp [fl6]
theorem fl6_at : ∀ (l : List R6) (i : Nat) (hi : i < l.length) (j : Nat) (_ : j < 6), (fl6 l)[i * 6 + j]? = (re l[i])[j]?
  | q :: l, 0, _, j, hj => by
    have : fl6 (q :: l) = re q ++ fl6 l := by simp [fl6]
    rw [this, List.getElem?_append_left (by rw [re_len]; omega)]; simp
  | q :: l, i + 1, hi, j, hj => by
    have : fl6 (q :: l) = re q ++ fl6 l := by simp [fl6]
    rw [this, List.getElem?_append_right (by rw [re_len]; omega), re_len, show (i + 1) * 6 + j - 6 = i * 6 + j by omega]
    simpa using fl6_at l i (by simpa using hi) j hj
theorem Ry.node {w : World} {A : Nat → Prop} {v : Value} {t : T} (h : Ry w A v t) : ∃ q : R6, v = (.agg #[.int .i64 q.1, .int .u64 (q.2.1.1.toNat : Int), .int .u64 (q.2.1.2.1.toNat : Int), .int .u64 (q.2.1.2.2.1.toNat : Int), .int .u64 (q.2.1.2.2.2.toNat : Int), .slice q.2.2.1 q.2.2.2.1 q.2.2.2.2]) := by
  cases h with
  | mk k c ao cap kids vals hk hm hc hr => exact ⟨(k, c, ao, kids.length, cap), rfl⟩
/-- What turned is to do. -/
def TC (v : Value) (w : World) (t : T) : Prop := Calls Try.prog 16 #[v] w fun e w' => ∃ q : R6, e = .returned (.agg #[.int .i64 q.1, .int .u64 (q.2.1.1.toNat : Int), .int .u64 (q.2.1.2.1.toNat : Int), .int .u64 (q.2.1.2.2.1.toNat : Int), .int .u64 (q.2.1.2.2.2.toNat : Int), .slice q.2.2.1 q.2.2.2.1 q.2.2.2.2]) ∧ Ry w' (fun b => w.heap.size ≤ b ∧ b < w'.heap.size) (.agg #[.int .i64 q.1, .int .u64 (q.2.1.1.toNat : Int), .int .u64 (q.2.1.2.1.toNat : Int), .int .u64 (q.2.1.2.2.1.toNat : Int), .int .u64 (q.2.1.2.2.2.toNat : Int), .slice q.2.2.1 q.2.2.2.1 q.2.2.2.2]) (turn t) ∧ Below w.heap.size w w'
theorem info27 : (Try.prog.info? 27).map (fun i => (i.zero, i.size, i.bytes)) = some (some (.agg #[.int .i64 0, .int .u64 0, .int .u64 0, .int .u64 0, .int .u64 0, .slice none 0 0]), 6, 64) := by kernel_rfl
theorem own_keep {w w' : World} {B : Nat} {e : TypeId} {size : Nat} {v : Value} {n : Nat} {xs : List Value} (h : w.ownsRow B e size v n xs) (hb : ∀ b, v.ownBlock = some b → w'.heap[b]? = w.heap[b]?) : w'.ownsRow B e size v n xs := by
  refine ⟨h.1, h.2.imp id ?_⟩
  rintro ⟨g, cap, cur, rfl, h1, h2, h3⟩
  exact ⟨g, cap, cur, rfl, h1, (hb g rfl).trans h2, h3⟩
/-- What the loop of turned keeps. -/
structure TI (w : World) (k : Int) (c : Cl) (ao : Option Addr) (cap : Nat) (kids : List T) (i : Nat) (sv : Value) (us : List R6) (W : World) : Prop where
  below : Below w.heap.size w W
  size : w.heap.size + 3 ≤ W.heap.size
  b1 : W.heap[w.heap.size]? = some (.cells #[.int .i64 k, .int .u64 (c.1.toNat : Int), .int .u64 (c.2.1.toNat : Int), .int .u64 (c.2.2.1.toNat : Int), .int .u64 (c.2.2.2.toNat : Int), .slice ao kids.length cap] 27)
  b2 : W.heap[w.heap.size + 1]? = some (.cells #[.int .i64 0, .int .u64 0, .int .u64 0, .int .u64 0, .int .u64 0, .slice none 0 0] 27)
  b3 : W.heap[w.heap.size + 1 + 1]? = some (.cells #[.int .i64 k, .int .u64 (c.1.toNat : Int), .int .u64 (c.2.1.toNat : Int), .int .u64 (c.2.2.1.toNat : Int), .int .u64 (c.2.2.2.toNat : Int), sv] 27)
  len : us.length = i
  row : W.ownsRow (w.heap.size + 3) 27 6 sv i (fl6 us)
  trees : ∀ j (h1 : j < us.length) (h2 : j < kids.length), Ry W (fun b => w.heap.size + 3 ≤ b ∧ b < W.heap.size ∧ some b ≠ sv.ownBlock) (.agg (re us[j]).toArray) (turn kids[j])
/-- What the region of the append keeps, whichever of its operations are done. -/
def keep5 (w w5 : World) (sv : Value) (W : World) : Prop := ∀ b, b < w5.heap.size → b ≠ w.heap.size + 1 + 1 → some b ≠ sv.ownBlock → W.heap[b]? = w5.heap[b]?
structure TR (w w5 : World) (k : Int) (c : Cl) (sv : Value) (us : List R6) (t : T) (k9 : Int) (c9 : Cl) (ao9 : Option Addr) (n9 p9 : Nat) (q : R6) (hi : Nat) (gb : Nat) (gr : Nat) (cr : Nat) (d : Nat → Bool) (x18 x19 x20 x21 x22 x23 x24 : Value) (W : World) : Prop where
  f0 : d 0 = true → x18 = (.pointer (some ⟨w.heap.size + 1 + 1, 5, none⟩))
  f1 : d 1 = true → sv = x19
  f2 : d 2 = true → x20 = (.agg #[.int .i64 k9, .int .u64 (c9.1.toNat : Int), .int .u64 (c9.2.1.toNat : Int), .int .u64 (c9.2.2.1.toNat : Int), .int .u64 (c9.2.2.2.toNat : Int), .slice ao9 n9 p9])
  f3 : d 3 = true → x21 = (.agg #[.int .i64 q.1, .int .u64 (q.2.1.1.toNat : Int), .int .u64 (q.2.1.2.1.toNat : Int), .int .u64 (q.2.1.2.2.1.toNat : Int), .int .u64 (q.2.1.2.2.2.toNat : Int), .slice q.2.2.1 q.2.2.2.1 q.2.2.2.2])
  f4 : d 4 = true → x22 = (.slice (some ⟨gb, 0, none⟩) 1 1)
  f5 : d 5 = true → x23 = (.slice (some ⟨gr, 0, none⟩) (us.length + 1) cr)
  f6 : d 6 = true → x24 = (.pointer (some ⟨w.heap.size + 1 + 1, 5, none⟩))
  f7 : d 7 = true → True
  below : Below w.heap.size w W
  size : w5.heap.size ≤ W.heap.size
  keep : keep5 w w5 sv W
  r0 : d 5 = false → W.ownsRow (w.heap.size + 3) 27 6 sv us.length (fl6 us)
  r1 : d 5 = true → W.ownsRow (w.heap.size + 3) 27 6 (.slice (some ⟨gr, 0, none⟩) (us.length + 1) cr) (us.length + 1) (fl6 us ++ re q)
  p0 : d 7 = false → W.heap[w.heap.size + 1 + 1]? = some (.cells #[.int .i64 k, .int .u64 (c.1.toNat : Int), .int .u64 (c.2.1.toNat : Int), .int .u64 (c.2.2.1.toNat : Int), .int .u64 (c.2.2.2.toNat : Int), sv] 27)
  p1 : d 7 = true → W.heap[w.heap.size + 1 + 1]? = some (.cells #[.int .i64 k, .int .u64 (c.1.toNat : Int), .int .u64 (c.2.1.toNat : Int), .int .u64 (c.2.2.1.toNat : Int), .int .u64 (c.2.2.2.toNat : Int), .slice (some ⟨gr, 0, none⟩) (us.length + 1) cr] 27)
  rx : d 3 = true → hi ≤ W.heap.size ∧ w5.heap.size ≤ hi ∧ Ry W (fun b => w5.heap.size ≤ b ∧ b < hi) (.agg (re q).toArray) (turn t)
  b0 : d 4 = true → d 5 = false → W.heap[gb]? = some (.cells (re q).toArray 27) ∧ hi ≤ gb
  n1 : d 5 = true → sv.ownBlock = some gr ∨ hi ≤ gr
  g5 : d 5 = true → d 4 = true ∧ d 1 = true
  g4 : d 4 = true → d 3 = true
  g7 : d 7 = true → d 5 = true
theorem own_shape {w : World} {B : Nat} {v : Value} {n : Nat} {xs : List Value} (h : w.ownsRow B 27 6 v n xs) : ∃ ao cap, v = .slice ao n cap ∧ (n = 0 ∨ ∃ g, ao = some ⟨g, 0, none⟩ ∧ B ≤ g ∧ g < w.heap.size ∧ ∀ j, j < n * 6 → w.cell? ⟨g, j, none⟩ = xs[j]?) := by
  have h' := h
  obtain ⟨_, ⟨rfl, rfl⟩ | ⟨g, cap, cur, rfl, hB, hg, _⟩⟩ := h'
  · exact ⟨none, 0, rfl, Or.inl rfl⟩
  · exact ⟨some ⟨g, 0, none⟩, cap, rfl, Or.inr ⟨g, rfl, hB, blk_lt hg, fun j hj => h.cellAt j hj⟩⟩
theorem Ry_of {W : World} {A : Nat → Prop} {k : Int} {c : Cl} (hk : -9223372036854775808 ≤ k ∧ k ≤ 9223372036854775807) (ts : List T) (n : Nat) (hn : ts.length = n) (hm : n ≤ 9223372036854775807) (ao : Option Addr) (cap : Nat) (us : List R6) (hu : us.length = n)
    (hc : n = 0 ∨ ∃ g, ao = some ⟨g, 0, none⟩ ∧ A g ∧ ∀ j, j < n * 6 → W.cell? ⟨g, j, none⟩ = (fl6 us)[j]?) (ht : ∀ j (h1 : j < us.length) (h2 : j < ts.length), Ry W A (.agg (re us[j]).toArray) ts[j]) : Ry W A (.agg #[.int .i64 k, .int .u64 (c.1.toNat : Int), .int .u64 (c.2.1.toNat : Int), .int .u64 (c.2.2.1.toNat : Int), .int .u64 (c.2.2.2.toNat : Int), .slice ao n cap]) (.mk k c ts) := by
  subst hn
  refine Ry.mk k c ao cap ts (fun i => .agg (re (us.getD i (0, empty, none, 0, 0))).toArray) hk hm ?_ ?_
  · rcases hc with h | ⟨g, h1, h2, h3⟩
    · exact Or.inl (List.length_eq_zero_iff.1 h)
    · refine Or.inr ⟨g, 0, h1, h2, fun i hi j hj => ?_⟩
      rw [Nat.zero_add, h3 _ (by omega), fl6_at us i (by omega) j hj]
      simp [Value.cells, List.getD, List.getElem?_eq_getElem (show i < us.length by omega)]
  · intro i hi
    have := ht i (by omega) hi
    simpa [List.getD, List.getElem?_eq_getElem (show i < us.length by omega)] using this
def put6 (W : World) (b : Nat) (v0 v1 v2 v3 v4 v5 : Value) : World := (((((W.setCell ⟨b, 0, none⟩ v0).setCell ⟨b, 1, none⟩ v1).setCell ⟨b, 2, none⟩ v2).setCell ⟨b, 3, none⟩ v3).setCell ⟨b, 4, none⟩ v4).setCell ⟨b, 5, none⟩ v5
theorem put6_other (W : World) (b : Nat) (v0 v1 v2 v3 v4 v5 : Value) (x : Nat) (h : x ≠ b) : (put6 W b v0 v1 v2 v3 v4 v5).heap[x]? = W.heap[x]? := by
  unfold put6
  rw [Below.heap_setCell _ _ _ _ h, Below.heap_setCell _ _ _ _ h, Below.heap_setCell _ _ _ _ h, Below.heap_setCell _ _ _ _ h, Below.heap_setCell _ _ _ _ h, Below.heap_setCell _ _ _ _ h]
theorem put6_size (W : World) (b : Nat) (v0 v1 v2 v3 v4 v5 : Value) : (put6 W b v0 v1 v2 v3 v4 v5).heap.size = W.heap.size := by
  unfold put6; simp [World.setCell]
/-- What stands ahead of turned's last region. -/
structure TE (w : World) (k : Int) (c : Cl) (kids : List T) (ao : Option Addr) (cap : Nat) (us : List R6) (ts : List T) (W : World) : Prop where
  below : Below w.heap.size w W
  size : w.heap.size + 3 ≤ W.heap.size
  b2 : W.heap[w.heap.size + 1]? = some (.cells #[.int .i64 0, .int .u64 0, .int .u64 0, .int .u64 0, .int .u64 0, .slice none 0 0] 27)
  b3 : W.heap[w.heap.size + 1 + 1]? = some (.cells #[.int .i64 k, .int .u64 (c.1.toNat : Int), .int .u64 (c.2.1.toNat : Int), .int .u64 (c.2.2.1.toNat : Int), .int .u64 (c.2.2.2.toNat : Int), .slice ao kids.length cap] 27)
  tl : ts.length = kids.length
  ul : us.length = kids.length
  cells : kids.length = 0 ∨ ∃ g, ao = some ⟨g, 0, none⟩ ∧ w.heap.size + 2 ≤ g ∧ g < W.heap.size ∧ ∀ j, j < kids.length * 6 → W.cell? ⟨g, j, none⟩ = (fl6 us)[j]?
  trees : ∀ j (h1 : j < us.length) (h2 : j < ts.length), Ry W (fun b => w.heap.size + 2 ≤ b ∧ b < W.heap.size) (.agg (re us[j]).toArray) ts[j]
theorem TE.ends {w : World} {k : Int} {c : Cl} {kids : List T} {ao : Option Addr} {cap : Nat} {us : List R6} {ts : List T} {W : World} (h : TE w k c kids ao cap us ts W) (v0 v1 v2 v3 v4 v5 : Value) :
    Below w.heap.size w (put6 W (w.heap.size + 1) v0 v1 v2 v3 v4 v5) ∧ (kids.length = 0 ∨ ∃ g, ao = some ⟨g, 0, none⟩ ∧ (w.heap.size ≤ g ∧ g < (put6 W (w.heap.size + 1) v0 v1 v2 v3 v4 v5).heap.size) ∧ ∀ j, j < kids.length * 6 → (put6 W (w.heap.size + 1) v0 v1 v2 v3 v4 v5).cell? ⟨g, j, none⟩ = (fl6 us)[j]?) ∧ ∀ j (h1 : j < us.length) (h2 : j < ts.length), Ry (put6 W (w.heap.size + 1) v0 v1 v2 v3 v4 v5) (fun b => w.heap.size ≤ b ∧ b < (put6 W (w.heap.size + 1) v0 v1 v2 v3 v4 v5).heap.size) (.agg (re us[j]).toArray) ts[j] := by
  refine ⟨?_, ?_, fun j h1 h2 => ?_⟩
  · unfold put6
    exact (((((h.below.setCell (p := ⟨w.heap.size + 1, 0, none⟩) (Nat.le_succ _) _).setCell (p := ⟨w.heap.size + 1, 1, none⟩) (Nat.le_succ _) _).setCell (p := ⟨w.heap.size + 1, 2, none⟩) (Nat.le_succ _) _).setCell (p := ⟨w.heap.size + 1, 3, none⟩) (Nat.le_succ _) _).setCell (p := ⟨w.heap.size + 1, 4, none⟩) (Nat.le_succ _) _).setCell (p := ⟨w.heap.size + 1, 5, none⟩) (Nat.le_succ _) _
  · rcases h.cells with h0 | ⟨g, e, h1, h2, h3⟩
    · exact Or.inl h0
    · refine Or.inr ⟨g, e, ⟨by omega, by rw [put6_size]; exact h2⟩, fun j hj => ?_⟩
      rw [← h3 j hj]
      exact World.cell?_of_block (a := ⟨g, j, none⟩) (put6_other _ _ _ _ _ _ _ _ g (by omega))
  · exact (h.trees j h1 h2).move (fun b hb => ⟨by omega, by rw [put6_size]; exact hb.2⟩) (fun b hb => put6_other _ _ _ _ _ _ _ _ b (by omega))
theorem flat_fl6 (l : List R6) : flatK re 6 l.toArray = (fl6 l).toArray := by
  apply Array.ext
  · simp [fl6_len]
  · intro t h1 h2
    have ht : t < l.length * 6 := by simpa using h1
    have e := Go.Sort.get_flatK re 6 l.toArray t (by simpa using ht)
    rw [getElem!_pos _ t h1] at e
    rw [e]
    have hi : t / 6 < l.length := by omega
    have h3 := fl6_at l (t / 6) hi (t % 6) (Nat.mod_lt _ (by omega))
    rw [show t / 6 * 6 + t % 6 = t by omega] at h3
    have h4 : l.toArray[t / 6]! = l[t / 6] := by rw [getElem!_pos _ _ (by simpa using hi)]; simp
    rw [h4, List.getElem!_eq_getElem?_getD, ← h3]
    simp [List.getElem?_eq_getElem (show t < (fl6 l).length by simpa using h2)]
theorem turned_reversed {w wr : World} {k : Int} {c : Cl} {ao : Option Addr} {cap g cap' : Nat} {kids : List T} {us : List R6} (hI : TI w k c ao cap kids kids.length (.slice (some ⟨g, 0, none⟩) kids.length cap') us wr) (hH : HoldsK re 6 wr g 0 us.toArray) (hg : w.heap.size + 3 ≤ g) (nd : Nat) :
    TE w k c kids (some ⟨g, 0, none⟩) cap' us.reverse (T.mk k c (turnL kids).reverse).kids (putRowK re 6 (Sort.ahead wr nd) g 0 us.toArray.reverse) := by
  have hK : HoldsK re 6 (putRowK re 6 (Sort.ahead wr nd) g 0 us.toArray.reverse) g 0 us.toArray.reverse := Go.Sort.holdsK_putRowK re 6 _ g 0 us.toArray _ (Go.Sort.holdsK_ahead re 6 wr nd g 0 us.toArray hH) (by simp)
  have ho : ∀ b, b ≠ g → (putRowK re 6 (Sort.ahead wr nd) g 0 us.toArray.reverse).heap[b]? = wr.heap[b]? := fun b hb => put_other id wr nd g 0 _ b hb
  have hs : (putRowK re 6 (Sort.ahead wr nd) g 0 us.toArray.reverse).heap.size = wr.heap.size := put_size id wr nd g 0 _
  have hl := hI.len
  have hgl := (hI.row.lt g rfl).2
  refine ⟨hI.below.trans (put_below id wr nd g 0 _ _ (by omega)), by rw [hs]; exact hI.size, (ho _ (by omega)).trans hI.b2, (ho _ (by omega)).trans hI.b3, by simp [turnL_map, T.kids], by simpa using hl, Or.inr ⟨g, rfl, by omega, by rw [hs]; exact hgl, fun j hj => ?_⟩, fun j h1 h2 => ?_⟩
  · unfold HoldsK at hK
    rw [List.reverse_toArray, flat_fl6] at hK
    have hj' : j < (fl6 us.reverse).toArray.size := by have := fl6_len us.reverse; simp at this ⊢; omega
    have := (hK j hj').1
    rw [Nat.zero_add] at this
    rw [List.reverse_toArray, this, getElem!_pos _ j hj']
    simp [List.getElem?_eq_getElem (show j < (fl6 us.reverse).length by simpa using hj')]
  · simp only [turnL_map, T.kids] at h2 ⊢
    have e1 : j < us.length := by simpa using h1
    have := hI.trees (us.length - 1 - j) (by omega) (by omega)
    rw [List.getElem_reverse, List.getElem_reverse]
    simp only [List.length_map, List.getElem_map]
    simp only [← hl]
    exact this.move (fun b hb => ⟨by omega, by rw [hs]; exact hb.2.1⟩) (fun b hb => ho b (fun e => hb.2.2 (by simp [Value.ownBlock, e])))
theorem turned_next {w w5 wr W : World} {k k9 : Int} {c c9 : Cl} {ao ao9 : Option Addr} {cap n9 p9 i b5 : Nat} {kids : List T} {sv : Value} {us : List R6} {q : R6} {hi gb gr cr : Nat} {d : Nat → Bool} {x18 x19 x20 x21 x22 x23 x24 : Value} {hlt : i < kids.length}
    (hI : TI w k c ao cap kids i sv us wr) (hl : us.length = i) (h5 : Below wr.heap.size wr w5) (hs5 : w5.heap.size = b5 + 1) (hb5 : wr.heap.size = b5) (hF : TR w w5 k c sv us kids[i] k9 c9 ao9 n9 p9 q hi gb gr cr d x18 x19 x20 x21 x22 x23 x24 W) (h3 : d 3 = true) (hd5 : d 5 = true) (h7 : d 7 = true) (hsv : ∀ g, sv.ownBlock = some g → g < w5.heap.size) :
    TI w k c ao cap kids (i + 1) (.slice (some ⟨gr, 0, none⟩) (us.length + 1) cr) (us ++ [q]) W := by
  obtain ⟨hh1, hh2, hry⟩ := hF.rx h3
  have hn := hF.n1 hd5
  have hsz := hI.size
  refine ⟨hF.below, Nat.le_trans (Nat.le_trans hI.size h5.size) hF.size, ?_, ?_, hF.p1 h7, by simp [hl], ?_, ?_⟩
  · exact (hF.keep _ (by omega) (by omega) (fun e => by have := own_ge hI.row _ e.symm; omega)).trans (blk_next h5 hI.b1)
  · exact (hF.keep _ (by omega) (by omega) (fun e => by have := own_ge hI.row _ e.symm; omega)).trans (blk_next h5 hI.b2)
  · rw [fl6_append, ← hl]; exact hF.r1 hd5
  · intro j h1 h2
    by_cases hj : j < us.length
    · rw [List.getElem_append_left hj]
      refine (hI.trees j hj h2).move (fun b ⟨k1, k2, k3⟩ => ⟨k1, by have := h5.size; have := hF.size; omega, fun e => ?_⟩) (fun b ⟨k1, k2, k3⟩ => ?_)
      · simp only [Value.ownBlock, Option.some.injEq] at e
        rcases hn with hn | hn
        · exact k3 (by rw [hn, e])
        · omega
      · exact (hF.keep b (by have := h5.size; omega) (by omega) k3).trans (h5.block b k2)
    · obtain rfl : j = us.length := by simp at h1; omega
      subst hl
      rw [List.getElem_append_right (Nat.le_refl _)]
      simp only [Nat.sub_self, List.getElem_cons_zero]
      refine hry.move (fun b ⟨k1, k2⟩ => ⟨by omega, by omega, fun e => ?_⟩) (fun _ _ => rfl)
      simp only [Value.ownBlock, Option.some.injEq] at e
      rcases hn with hn | hn
      · have := hsv _ hn; omega
      · omega
set_option maxHeartbeats 4000000 in
set_option maxRecDepth 20000 in
theorem turned_step (k : Int) (c : Cl) (kids : List T) (hk : kids.length ≤ 2) (h4 : k = 4 → kids.length = 2) (IH : ∀ i (hi : i < kids.length) (v : Value) (B : Nat) (w : World), Rx w B v kids[i] → B ≤ w.heap.size → TC v w kids[i])
    (v : Value) (B : Nat) (w : World) (hx : Rx w B v (.mk k c kids)) (hBw : B ≤ w.heap.size) : TC v w (.mk k c kids) := by
  obtain ⟨k', c', ao, cap, kids', vals, rfl, ht, hk0, hm, hc, hr⟩ := hx.shape
  injection ht with e1 e2 e3
  subst e1 e2 e3
  have HR : Hid (∀ i (hi : i < kids.length), ∃ b o, ao = some ⟨b, o, none⟩ ∧ b < B ∧ Rx w B (vals i) kids[i] ∧ ∀ j, j < 6 → w.cell? ⟨b, o + i * 6 + j, none⟩ = (vals i).cells[j]?) := fun i hi => by
    rcases hc with h | ⟨b, o, h1, h2, h3⟩
    · subst h; cases hi
    · exact ⟨b, o, h1, h2, hr i hi, h3 i hi⟩
  have HIH : Hid (∀ i (hi : i < kids.length) (v : Value) (B : Nat) (w : World), Rx w B v kids[i] → B ≤ w.heap.size → TC v w kids[i]) := IH
  clear IH hx hc hr
  unfold TC
  go_enter Try.func16, Try.ntmps16
  go_upto_region 2 with fail
  have hW2 : TI w k c ao cap kids 0 (.slice none 0 0) [] (((w.alloc (.cells #[.int .i64 k, .int .u64 (c.1.toNat : Int), .int .u64 (c.2.1.toNat : Int), .int .u64 (c.2.2.1.toNat : Int), .int .u64 (c.2.2.2.toNat : Int), .slice ao kids.length cap] 27)).alloc (.cells #[.int .i64 0, .int .u64 0, .int .u64 0, .int .u64 0, .int .u64 0, .slice none 0 0] 27)).alloc (.cells #[.int .i64 k, .int .u64 (c.1.toNat : Int), .int .u64 (c.2.1.toNat : Int), .int .u64 (c.2.2.1.toNat : Int), .int .u64 (c.2.2.2.toNat : Int), .slice none 0 0] 27)) := by
    have e1 : (w.alloc (.cells #[.int .i64 k, .int .u64 (c.1.toNat : Int), .int .u64 (c.2.1.toNat : Int), .int .u64 (c.2.2.1.toNat : Int), .int .u64 (c.2.2.2.toNat : Int), .slice ao kids.length cap] 27)).heap.size = w.heap.size + 1 := by simp
    have e2 : ((w.alloc (.cells #[.int .i64 k, .int .u64 (c.1.toNat : Int), .int .u64 (c.2.1.toNat : Int), .int .u64 (c.2.2.1.toNat : Int), .int .u64 (c.2.2.2.toNat : Int), .slice ao kids.length cap] 27)).alloc (.cells #[.int .i64 0, .int .u64 0, .int .u64 0, .int .u64 0, .int .u64 0, .slice none 0 0] 27)).heap.size = w.heap.size + 1 + 1 := by simp
    refine ⟨(((Below.refl _ w).alloc (Nat.le_refl _) _).alloc (by simp) _).alloc (by simp; omega) _, by simp, ?_, ?_, ?_, rfl, World.ownsRow_nil _ _ _ _, fun j h1 => absurd h1 (Nat.not_lt_zero _)⟩
    · exact blk_next (box_keep _ _) (blk_next (box_keep _ _) (block_new w _))
    · exact blk_next (box_keep _ _) (by have := block_new (w.alloc (.cells #[.int .i64 k, .int .u64 (c.1.toNat : Int), .int .u64 (c.2.1.toNat : Int), .int .u64 (c.2.2.1.toNat : Int), .int .u64 (c.2.2.2.toNat : Int), .slice ao kids.length cap] 27)) (.cells #[.int .i64 0, .int .u64 0, .int .u64 0, .int .u64 0, .int .u64 0, .slice none 0 0] 27); rw [e1] at this; exact this)
    · have := block_new ((w.alloc (.cells #[.int .i64 k, .int .u64 (c.1.toNat : Int), .int .u64 (c.2.1.toNat : Int), .int .u64 (c.2.2.1.toNat : Int), .int .u64 (c.2.2.2.toNat : Int), .slice ao kids.length cap] 27)).alloc (.cells #[.int .i64 0, .int .u64 0, .int .u64 0, .int .u64 0, .int .u64 0, .slice none 0 0] 27)) (.cells #[.int .i64 k, .int .u64 (c.1.toNat : Int), .int .u64 (c.2.1.toNat : Int), .int .u64 (c.2.2.1.toNat : Int), .int .u64 (c.2.2.2.toNat : Int), .slice none 0 0] 27); rw [e2] at this; exact this
  generalize (((w.alloc (.cells #[.int .i64 k, .int .u64 (c.1.toNat : Int), .int .u64 (c.2.1.toNat : Int), .int .u64 (c.2.2.1.toNat : Int), .int .u64 (c.2.2.2.toNat : Int), .slice ao kids.length cap] 27)).alloc (.cells #[.int .i64 0, .int .u64 0, .int .u64 0, .int .u64 0, .int .u64 0, .slice none 0 0] 27)).alloc (.cells #[.int .i64 k, .int .u64 (c.1.toNat : Int), .int .u64 (c.2.1.toNat : Int), .int .u64 (c.2.2.1.toNat : Int), .int .u64 (c.2.2.2.toNat : Int), .slice none 0 0] 27)) = W2 at hW2 ⊢
  have s5 := cell_of_row W2 w.heap.size 5 _ 27 (0, 0) hW2.b1
  simp only [List.getElem?_toArray, List.getElem?_cons_zero, List.getElem?_cons_succ] at s5
  have HW2 : Hid (TI w k c ao cap kids 0 (.slice none 0 0) [] W2) := hW2
  clear hW2
  obtain ⟨i0, hi0, hz0, hz1, hz2⟩ := info_parts info27
  go_wp2_with fail
  go_loopw [14] (fun z wr => ∃ (i : Nat) (sv : Value) (us : List R6), i ≤ kids.length ∧ z = .int .i64 (i : Int) ∧ Hid (TI w k c ao cap kids i sv us wr)) (fun z _ => kids.length - (intOf z).toNat)
  case atStart => exact ⟨0, _, _, by omega, rfl, HW2⟩
  case round =>
    obtain ⟨i, sv, us, hi, rfl, HI⟩ := hrel
    clear s5
    by_cases hlt : i < kids.length
    · obtain ⟨b, o, hao, hbB, hrx, hcl⟩ := HR.out i hlt
      obtain ⟨k9, c9, ao9, n9, p9, hv, q0, q1, q2, q3, q4, q5⟩ := kid_cells (hrx.next (HI.out.below.mono hBw)) (fun j hj => ((HI.out.below.mono hBw).cell (p := ⟨b, o + i * 6 + j, none⟩) hbB).trans (hcl j hj))
      have HXK : Hid (Rx w B (.agg #[.int .i64 k9, .int .u64 (c9.1.toNat : Int), .int .u64 (c9.2.1.toNat : Int), .int .u64 (c9.2.2.1.toNat : Int), .int .u64 (c9.2.2.2.toNat : Int), .slice ao9 n9 p9]) kids[i]) := by show Rx _ _ _ _; rw [← hv]; exact hrx
      clear hrx hcl hv
      subst hao
      go_wp2_with fail
      obtain ⟨b5, HE5⟩ : ∃ b5, Hid (wr.heap.size = b5) := ⟨_, (rfl : wr.heap.size = wr.heap.size)⟩
      obtain ⟨w5, HW5⟩ : ∃ w5, Hid (wr.alloc (.cells #[.int .i64 k9, .int .u64 (c9.1.toNat : Int), .int .u64 (c9.2.1.toNat : Int), .int .u64 (c9.2.2.1.toNat : Int), .int .u64 (c9.2.2.2.toNat : Int), .slice ao9 n9 p9] 27) = w5) := ⟨_, (rfl : wr.alloc (.cells #[.int .i64 k9, .int .u64 (c9.1.toNat : Int), .int .u64 (c9.2.1.toNat : Int), .int .u64 (c9.2.2.1.toNat : Int), .int .u64 (c9.2.2.2.toNat : Int), .slice ao9 n9 p9] 27) = wr.alloc (.cells #[.int .i64 k9, .int .u64 (c9.1.toNat : Int), .int .u64 (c9.2.1.toNat : Int), .int .u64 (c9.2.2.1.toNat : Int), .int .u64 (c9.2.2.2.toNat : Int), .slice ao9 n9 p9] 27))⟩
      have hsz5 : w5.heap.size = b5 + 1 := by rw [← HW5.out, ← HE5.out]; simp
      have hb5 : Below wr.heap.size wr w5 := by rw [← HW5.out]; exact box_keep _ _
      have hT := HI.out
      have hB5 : b5 < w5.heap.size ∧ b5 ≠ w.heap.size + 1 + 1 ∧ some b5 ≠ sv.ownBlock ∧ w5.heap[b5]? = some (.cells #[.int .i64 k9, .int .u64 (c9.1.toNat : Int), .int .u64 (c9.2.1.toNat : Int), .int .u64 (c9.2.2.1.toNat : Int), .int .u64 (c9.2.2.2.toNat : Int), .slice ao9 n9 p9] 27) := by
        have h1 := hT.size
        have h2 := HE5.out
        refine ⟨by omega, by omega, fun e => ?_, ?_⟩
        · have := (hT.row.lt b5 e.symm).2; omega
        · rw [← HW5.out, ← HE5.out]; exact block_new wr _
      have HB5 : Hid (b5 < w5.heap.size ∧ b5 ≠ w.heap.size + 1 + 1 ∧ some b5 ≠ sv.ownBlock ∧ w5.heap[b5]? = some (.cells #[.int .i64 k9, .int .u64 (c9.1.toNat : Int), .int .u64 (c9.2.1.toNat : Int), .int .u64 (c9.2.2.1.toNat : Int), .int .u64 (c9.2.2.2.toNat : Int), .slice ao9 n9 p9] 27)) := hB5
      have HS5 : Hid ((∀ g, sv.ownBlock = some g → g < w5.heap.size) ∧ w.heap.size + 3 ≤ w5.heap.size) := ⟨fun g hg => Nat.lt_of_lt_of_le (hT.row.lt g hg).2 hb5.size, Nat.le_trans hT.size hb5.size⟩
      have HL : Hid (us.length = i) := hT.len
      have hul : us.length ≤ 2 := by have := HL.out; omega
      have HW : Hid (Below w.heap.size w w5 ∧ w5.ownsRow (w.heap.size + 3) 27 6 sv us.length (fl6 us) ∧ w5.heap[w.heap.size + 1 + 1]? = some (.cells #[.int .i64 k, .int .u64 (c.1.toNat : Int), .int .u64 (c.2.1.toNat : Int), .int .u64 (c.2.2.1.toNat : Int), .int .u64 (c.2.2.2.toNat : Int), sv] 27) ∧ Below wr.heap.size wr w5 ∧ w5.heap.size = b5 + 1) := ⟨hT.below.trans (hb5.mono hT.below.size), by rw [HL.out]; exact own_keep hT.row (fun b hb => hb5.block b (hT.row.lt b hb).2), blk_next hb5 hT.b3, hb5, hsz5⟩
      clear hT hB5 hb5 hsz5 q0 q1 q2 q3 q4 q5
      rw [HE5.out, HW5.out]
      refine wp_region_free mixed (fun a0 d a W => ∃ (q : R6) (hi : Nat) (gb : Nat) (gr : Nat) (cr : Nat) (x18 x19 x20 x21 x22 x23 x24 : Value), a = (((((((a0.put (some 18) x18).put (some 19) x19).put (some 20) x20).put (some 21) x21).put (some 22) x22).put (some 23) x23).put (some 24) x24) ∧ Hid (TR w w5 k c sv us kids[i] k9 c9 ao9 n9 p9 q hi gb gr cr d x18 x19 x20 x21 x22 x23 x24 W)) (by kernel_rfl) ⟨(0, empty, none, 0, 0), 0, 0, 0, 0, u18, u19, u20, u21, u22, u23, u24, by simp only [Act.put, List.setIfInBounds_toArray, List.set_cons_zero, List.set_cons_succ], ?_⟩ ?_ ?_
      · exact ⟨fun h => no_way h, fun h => no_way h, fun h => no_way h, fun h => no_way h, fun h => no_way h, fun h => no_way h, fun h => no_way h, fun _ => trivial, HW.out.1.drew, Nat.le_refl _, fun _ _ _ _ => rfl, fun _ => HW.out.2.1, fun h => no_way h, fun _ => HW.out.2.2.1, fun h => no_way h, fun h => no_way h, fun h _ => no_way h, fun h => no_way h, fun h => no_way h, fun h => no_way h, fun h => no_way h⟩
      · simp only [StepAll, and_true]
        refine ⟨?_, ?_, ?_, ?_, ?_, ?_, ?_, ?_⟩
        · intro d a W hI hd hdep
          obtain ⟨q, hi, gb, gr, cr, x18, x19, x20, x21, x22, x23, x24, rfl, hF⟩ := hI
          clear hdep hd
          intro K hK
          simp only [Act.put, List.setIfInBounds_toArray, List.set_cons_zero, List.set_cons_succ]
          go_simp
          refine hK.out _ _ ⟨q, hi, gb, gr, cr, (.pointer (some ⟨w.heap.size + 1 + 1, 5, none⟩)), x19, x20, x21, x22, x23, x24, by simp only [Act.put, List.setIfInBounds_toArray, List.set_cons_zero, List.set_cons_succ], ?_⟩
          exact ⟨fun _ => rfl, fun h => hF.out.f1 (by simpa using h), fun h => hF.out.f2 (by simpa using h), fun h => hF.out.f3 (by simpa using h), fun h => hF.out.f4 (by simpa using h), fun h => hF.out.f5 (by simpa using h), fun h => hF.out.f6 (by simpa using h), fun h => hF.out.f7 (by simpa using h), hF.out.below, hF.out.size, hF.out.keep, fun h => hF.out.r0 (by simpa using h), fun h => hF.out.r1 (by simpa using h), fun h => hF.out.p0 (by simpa using h), fun h => hF.out.p1 (by simpa using h), fun h => hF.out.rx (by simpa using h), fun h h2 => hF.out.b0 (by simpa using h) (by simpa using h2), fun h => hF.out.n1 (by simpa using h), fun h => by simpa using hF.out.g5 (by simpa using h), fun h => by simpa using hF.out.g4 (by simpa using h), fun h => by simpa using hF.out.g7 (by simpa using h)⟩
        · intro d a W hI hd hdep
          obtain ⟨q, hi, gb, gr, cr, x18, x19, x20, x21, x22, x23, x24, rfl, hF⟩ := hI
          have hd0 : d 0 = true := dep_of hdep 0 (by kernel_rfl)
          obtain rfl := hF.out.f0 hd0
          have h7 : d 7 = false := by
            cases hx : d 7 with
            | false => rfl
            | true => exact absurd (hF.out.g5 (hF.out.g7 hx)).2 (by rw [hd]; simp)
          have s0 : W.cell? ⟨w.heap.size + 1 + 1, 5, none⟩ = some sv := by simp [World.cell?, hF.out.p0 h7]
          clear h7
          clear hdep hd hd0
          intro K hK
          simp only [Act.put, List.setIfInBounds_toArray, List.set_cons_zero, List.set_cons_succ]
          go_simp
          refine hK.out _ _ ⟨q, hi, gb, gr, cr, (.pointer (some ⟨w.heap.size + 1 + 1, 5, none⟩)), sv, x20, x21, x22, x23, x24, by simp only [Act.put, List.setIfInBounds_toArray, List.set_cons_zero, List.set_cons_succ], ?_⟩
          exact ⟨fun h => hF.out.f0 (by simpa using h), fun _ => rfl, fun h => hF.out.f2 (by simpa using h), fun h => hF.out.f3 (by simpa using h), fun h => hF.out.f4 (by simpa using h), fun h => hF.out.f5 (by simpa using h), fun h => hF.out.f6 (by simpa using h), fun h => hF.out.f7 (by simpa using h), hF.out.below, hF.out.size, hF.out.keep, fun h => hF.out.r0 (by simpa using h), fun h => hF.out.r1 (by simpa using h), fun h => hF.out.p0 (by simpa using h), fun h => hF.out.p1 (by simpa using h), fun h => hF.out.rx (by simpa using h), fun h h2 => hF.out.b0 (by simpa using h) (by simpa using h2), fun h => hF.out.n1 (by simpa using h), fun h => ⟨by simpa using (hF.out.g5 (by simpa using h)).1, by simp⟩, fun h => by simpa using hF.out.g4 (by simpa using h), fun h => by simpa using hF.out.g7 (by simpa using h)⟩
        · intro d a W hI hd hdep
          obtain ⟨q, hi, gb, gr, cr, x18, x19, x20, x21, x22, x23, x24, rfl, hF⟩ := hI
          have hz := (hF.out.keep b5 HB5.out.1 HB5.out.2.1 HB5.out.2.2.1).trans HB5.out.2.2.2
          have s0 := cell_of_row W b5 0 _ 27 (0, 0) hz
          have s1 := cell_of_row W b5 1 _ 27 (0, 0) hz
          have s2 := cell_of_row W b5 2 _ 27 (0, 0) hz
          have s3 := cell_of_row W b5 3 _ 27 (0, 0) hz
          have s4 := cell_of_row W b5 4 _ 27 (0, 0) hz
          have s5 := cell_of_row W b5 5 _ 27 (0, 0) hz
          simp only [List.getElem?_toArray, List.getElem?_cons_zero, List.getElem?_cons_succ] at s0 s1 s2 s3 s4 s5
          clear hz
          clear hdep hd
          intro K hK
          simp only [Act.put, List.setIfInBounds_toArray, List.set_cons_zero, List.set_cons_succ]
          go_simp
          refine hK.out _ _ ⟨q, hi, gb, gr, cr, x18, x19, (.agg #[.int .i64 k9, .int .u64 (c9.1.toNat : Int), .int .u64 (c9.2.1.toNat : Int), .int .u64 (c9.2.2.1.toNat : Int), .int .u64 (c9.2.2.2.toNat : Int), .slice ao9 n9 p9]), x21, x22, x23, x24, by simp only [Act.put, List.setIfInBounds_toArray, List.set_cons_zero, List.set_cons_succ], ?_⟩
          exact ⟨fun h => hF.out.f0 (by simpa using h), fun h => hF.out.f1 (by simpa using h), fun _ => rfl, fun h => hF.out.f3 (by simpa using h), fun h => hF.out.f4 (by simpa using h), fun h => hF.out.f5 (by simpa using h), fun h => hF.out.f6 (by simpa using h), fun h => hF.out.f7 (by simpa using h), hF.out.below, hF.out.size, hF.out.keep, fun h => hF.out.r0 (by simpa using h), fun h => hF.out.r1 (by simpa using h), fun h => hF.out.p0 (by simpa using h), fun h => hF.out.p1 (by simpa using h), fun h => hF.out.rx (by simpa using h), fun h h2 => hF.out.b0 (by simpa using h) (by simpa using h2), fun h => hF.out.n1 (by simpa using h), fun h => by simpa using hF.out.g5 (by simpa using h), fun h => by simpa using hF.out.g4 (by simpa using h), fun h => by simpa using hF.out.g7 (by simpa using h)⟩
        · intro d a W hI hd hdep
          obtain ⟨q, hi, gb, gr, cr, x18, x19, x20, x21, x22, x23, x24, rfl, hF⟩ := hI
          have hd2 : d 2 = true := dep_of hdep 2 (by kernel_rfl)
          obtain rfl := hF.out.f2 hd2
          have h4' : d 4 = false := by
            cases hx : d 4 with
            | false => rfl
            | true => exact absurd (hF.out.g4 hx) (by rw [hd]; simp)
          have h5 : d 5 = false := by
            cases hx : d 5 with
            | false => rfl
            | true => exact absurd (hF.out.g5 hx).1 (by rw [h4']; simp)
          have HD : Hid (d 4 = false ∧ d 5 = false) := ⟨h4', h5⟩
          clear h4' h5
          have hcl := HIH.out i hlt _ B W (HXK.out.next (hF.out.below.mono hBw)) (Nat.le_trans hBw hF.out.below.size)
          unfold TC at hcl
          clear hdep hd hd2
          intro K hK
          simp only [Act.put, List.setIfInBounds_toArray, List.set_cons_zero, List.set_cons_succ]
          go_simp
          refine hcl.mono ?_
          rintro _ W1 ⟨q1, rfl, hr1, hb1⟩
          go_simp
          refine hK.out _ _ ⟨q1, W1.heap.size, gb, gr, cr, x18, x19, (.agg #[.int .i64 k9, .int .u64 (c9.1.toNat : Int), .int .u64 (c9.2.1.toNat : Int), .int .u64 (c9.2.2.1.toNat : Int), .int .u64 (c9.2.2.2.toNat : Int), .slice ao9 n9 p9]), (.agg #[.int .i64 q1.1, .int .u64 (q1.2.1.1.toNat : Int), .int .u64 (q1.2.1.2.1.toNat : Int), .int .u64 (q1.2.1.2.2.1.toNat : Int), .int .u64 (q1.2.1.2.2.2.toNat : Int), .slice q1.2.2.1 q1.2.2.2.1 q1.2.2.2.2]), x22, x23, x24, by simp only [Act.put, List.setIfInBounds_toArray, List.set_cons_zero, List.set_cons_succ], ?_⟩
          exact ⟨fun h => hF.out.f0 (by simpa using h), fun h => hF.out.f1 (by simpa using h), fun h => hF.out.f2 (by simpa using h), fun _ => rfl, fun h => hF.out.f4 (by simpa using h), fun h => hF.out.f5 (by simpa using h), fun h => hF.out.f6 (by simpa using h), fun h => hF.out.f7 (by simpa using h), hF.out.below.trans (hb1.mono hF.out.below.size), Nat.le_trans hF.out.size hb1.size, fun b k1 k2 k3 => (hb1.block b (Nat.lt_of_lt_of_le k1 hF.out.size)).trans (hF.out.keep b k1 k2 k3), fun h => own_keep (hF.out.r0 (by simpa using h)) (fun b hb => hb1.block b ((hF.out.r0 (by simpa using h)).lt b hb).2), fun h => no_way (HD.out.2.symm.trans (by simpa using h)), fun h => blk_next hb1 (hF.out.p0 (by simpa using h)), fun h => no_way (HD.out.2.symm.trans (hF.out.g7 (by simpa using h))), fun _ => ⟨Nat.le_refl _, Nat.le_trans hF.out.size hb1.size, hr1.move (fun b hb => ⟨Nat.le_trans hF.out.size hb.1, hb.2⟩) (fun _ _ => rfl)⟩, fun h _ => no_way (HD.out.1.symm.trans (by simpa using h)), fun h => no_way (HD.out.2.symm.trans (by simpa using h)), fun h => no_way (HD.out.2.symm.trans (by simpa using h)), fun _ => by simp, fun h => by simpa using hF.out.g7 (by simpa using h)⟩
        · intro d a W hI hd hdep
          obtain ⟨q, hi, gb, gr, cr, x18, x19, x20, x21, x22, x23, x24, rfl, hF⟩ := hI
          have hd3 : d 3 = true := dep_of hdep 3 (by kernel_rfl)
          obtain rfl := hF.out.f3 hd3
          have h5 : d 5 = false := by
            cases hx : d 5 with
            | false => rfl
            | true => exact absurd (hF.out.g5 hx).1 (by rw [hd]; simp)
          have h7 : d 7 = false := by
            cases hx : d 7 with
            | false => rfl
            | true => exact absurd (hF.out.g7 hx) (by rw [h5]; simp)
          have HD : Hid (d 5 = false ∧ d 7 = false ∧ d 3 = true) := ⟨h5, h7, hd3⟩
          clear h5 h7
          clear hdep hd hd3
          intro K hK
          simp only [Act.put, List.setIfInBounds_toArray, List.set_cons_zero, List.set_cons_succ]
          go_simp
          refine hK.out _ _ ⟨q, hi, W.heap.size, gr, cr, x18, x19, x20, (.agg #[.int .i64 q.1, .int .u64 (q.2.1.1.toNat : Int), .int .u64 (q.2.1.2.1.toNat : Int), .int .u64 (q.2.1.2.2.1.toNat : Int), .int .u64 (q.2.1.2.2.2.toNat : Int), .slice q.2.2.1 q.2.2.2.1 q.2.2.2.2]), (.slice (some ⟨W.heap.size, 0, none⟩) 1 1), x23, x24, by simp only [Act.put, List.setIfInBounds_toArray, List.set_cons_zero, List.set_cons_succ], ?_⟩
          have hb := box_keep W (.cells #[.int .i64 q.1, .int .u64 (q.2.1.1.toNat : Int), .int .u64 (q.2.1.2.1.toNat : Int), .int .u64 (q.2.1.2.2.1.toNat : Int), .int .u64 (q.2.1.2.2.2.toNat : Int), .slice q.2.2.1 q.2.2.2.1 q.2.2.2.2] 27)
          exact ⟨fun h => hF.out.f0 (by simpa using h), fun h => hF.out.f1 (by simpa using h), fun h => hF.out.f2 (by simpa using h), fun h => hF.out.f3 (by simpa using h), fun _ => rfl, fun h => hF.out.f5 (by simpa using h), fun h => hF.out.f6 (by simpa using h), fun h => hF.out.f7 (by simpa using h), hF.out.below.trans (hb.mono hF.out.below.size), Nat.le_trans hF.out.size hb.size, fun b k1 k2 k3 => (hb.block b (Nat.lt_of_lt_of_le k1 hF.out.size)).trans (hF.out.keep b k1 k2 k3), fun h => own_keep (hF.out.r0 (by simpa using h)) (fun b hb2 => hb.block b ((hF.out.r0 (by simpa using h)).lt b hb2).2), fun h => no_way (HD.out.1.symm.trans (by simpa using h)), fun h => blk_next hb (hF.out.p0 (by simpa using h)), fun h => no_way (HD.out.2.1.symm.trans (by simpa using h)), fun _ => ⟨Nat.le_trans (hF.out.rx HD.out.2.2).1 hb.size, (hF.out.rx HD.out.2.2).2.1, (hF.out.rx HD.out.2.2).2.2.move (fun _ h => h) (fun b h => hb.block b (Nat.lt_of_lt_of_le h.2 (hF.out.rx HD.out.2.2).1))⟩, fun _ _ => ⟨block_new W _, (hF.out.rx HD.out.2.2).1⟩, fun h => no_way (HD.out.1.symm.trans (by simpa using h)), fun h => no_way (HD.out.1.symm.trans (by simpa using h)), fun _ => by simpa using HD.out.2.2, fun h => by simpa using hF.out.g7 (by simpa using h)⟩
        · intro d a W hI hd hdep
          obtain ⟨q, hi, gb, gr, cr, x18, x19, x20, x21, x22, x23, x24, rfl, hF⟩ := hI
          have hd1 : d 1 = true := dep_of hdep 1 (by kernel_rfl)
          have hd4 : d 4 = true := dep_of hdep 4 (by kernel_rfl)
          obtain rfl := hF.out.f1 hd1
          obtain rfl := hF.out.f4 hd4
          have h7 : d 7 = false := by
            cases hx : d 7 with
            | false => rfl
            | true => exact absurd (hF.out.g7 hx) (by rw [hd]; simp)
          have hm := run_append_lies (P := Try.prog) W 25 25 (w.heap.size + 3) 27 i0 _ 6 64 Try.underlying25 hi0 hz0 hz1 hz2 rfl (by omega) sv us.length (fl6 us) (hF.out.r0 hd) ⟨gb, 0, none⟩ 1 1 (re q) rfl (World.news_of_block (t := 27) (fr := (0, 0)) (hF.out.b0 hd4 hd).1) (re_one q) (by omega) (by unfold maxLen; omega) (by omega) (Nat.le_trans HS5.out.2 hF.out.size) W.heap.size rfl
          have hmm := hm.choose_spec.choose_spec.choose_spec
          generalize hm.choose_spec.choose_spec.choose = W1 at hmm
          generalize hm.choose_spec.choose = cr1 at hmm
          generalize hm.choose = gr1 at hmm
          have hrun := hmm.1
          have HM : Hid (W1.ownsRow (w.heap.size + 3) 27 6 (.slice (some ⟨gr1, 0, none⟩) (us.length + 1) cr1) (us.length + 1) (fl6 us ++ re q) ∧ W.grownBy W1 sv.ownBlock ∧ (sv.ownBlock = some gr1 ∨ gr1 = W.heap.size)) := ⟨hmm.2.1, hmm.2.2.1, hmm.2.2.2.1⟩
          have HD : Hid (d 7 = false ∧ d 4 = true ∧ d 1 = true ∧ d 5 = false ∧ d 3 = true) := ⟨h7, hd4, hd1, hd, hF.out.g4 hd4⟩
          clear hmm hm h7
          clear hdep hd hd1 hd4
          intro K hK
          refine step_call_append (sv := sv) (xv := .slice (some ⟨gb, 0, none⟩) 1 1) (v := .slice (some ⟨gr1, 0, none⟩) (us.length + 1) cr1) (W1 := W1) (by rfl) _ _ 25 (by rfl) (by simp only [Act.put, List.setIfInBounds_toArray, List.set_cons_zero, List.set_cons_succ]; rfl) (by simp only [Act.put, List.setIfInBounds_toArray, List.set_cons_zero, List.set_cons_succ]; rfl) (by exact hrun) ?_
          simp only [Act.put, List.setIfInBounds_toArray, List.set_cons_zero, List.set_cons_succ]
          refine hK.out _ _ ⟨q, hi, gb, gr1, cr1, x18, sv, x20, x21, (.slice (some ⟨gb, 0, none⟩) 1 1), (.slice (some ⟨gr1, 0, none⟩) (us.length + 1) cr1), x24, by simp only [Act.put, List.setIfInBounds_toArray, List.set_cons_zero, List.set_cons_succ], ?_⟩
          have hrow := hF.out.r0 HD.out.2.2.2.1
          have hrx := hF.out.rx HD.out.2.2.2.2
          exact ⟨fun h => hF.out.f0 (by simpa using h), fun h => hF.out.f1 (by simpa using h), fun h => hF.out.f2 (by simpa using h), fun h => hF.out.f3 (by simpa using h), fun h => hF.out.f4 (by simpa using h), fun _ => rfl, fun h => hF.out.f6 (by simpa using h), fun h => hF.out.f7 (by simpa using h), hF.out.below.grown HM.out.2.1 hF.out.below.size (fun j hj => by have := own_ge hrow j hj; omega), Nat.le_trans hF.out.size HM.out.2.1.size, fun b k1 k2 k3 => (HM.out.2.1.block b (Nat.lt_of_lt_of_le k1 hF.out.size) k3).trans (hF.out.keep b k1 k2 k3), fun h => by simp at h, fun _ => HM.out.1, fun h => (HM.out.2.1.block _ (blk_lt (hF.out.p0 (by simpa using h))) (fun e => by have := own_ge hrow _ e.symm; omega)).trans (hF.out.p0 (by simpa using h)), fun h => no_way (HD.out.1.symm.trans (by simpa using h)), fun _ => ⟨Nat.le_trans hrx.1 HM.out.2.1.size, hrx.2.1, hrx.2.2.move (fun _ h => h) (fun b h => HM.out.2.1.block b (Nat.lt_of_lt_of_le h.2 hrx.1) (fun e => by have := HS5.out.1 b e.symm; omega))⟩, fun _ h => by simp at h, fun _ => HM.out.2.2.imp id (fun e => by rw [e]; exact hrx.1), fun _ => ⟨by simpa using HD.out.2.1, by simpa using HD.out.2.2.1⟩, fun h => by simpa using hF.out.g4 (by simpa using h), fun _ => by simp⟩
        · intro d a W hI hd hdep
          obtain ⟨q, hi, gb, gr, cr, x18, x19, x20, x21, x22, x23, x24, rfl, hF⟩ := hI
          clear hdep hd
          intro K hK
          simp only [Act.put, List.setIfInBounds_toArray, List.set_cons_zero, List.set_cons_succ]
          go_simp
          refine hK.out _ _ ⟨q, hi, gb, gr, cr, x18, x19, x20, x21, x22, x23, (.pointer (some ⟨w.heap.size + 1 + 1, 5, none⟩)), by simp only [Act.put, List.setIfInBounds_toArray, List.set_cons_zero, List.set_cons_succ], ?_⟩
          exact ⟨fun h => hF.out.f0 (by simpa using h), fun h => hF.out.f1 (by simpa using h), fun h => hF.out.f2 (by simpa using h), fun h => hF.out.f3 (by simpa using h), fun h => hF.out.f4 (by simpa using h), fun h => hF.out.f5 (by simpa using h), fun _ => rfl, fun h => hF.out.f7 (by simpa using h), hF.out.below, hF.out.size, hF.out.keep, fun h => hF.out.r0 (by simpa using h), fun h => hF.out.r1 (by simpa using h), fun h => hF.out.p0 (by simpa using h), fun h => hF.out.p1 (by simpa using h), fun h => hF.out.rx (by simpa using h), fun h h2 => hF.out.b0 (by simpa using h) (by simpa using h2), fun h => hF.out.n1 (by simpa using h), fun h => by simpa using hF.out.g5 (by simpa using h), fun h => by simpa using hF.out.g4 (by simpa using h), fun h => by simpa using hF.out.g7 (by simpa using h)⟩
        · intro d a W hI hd hdep
          obtain ⟨q, hi, gb, gr, cr, x18, x19, x20, x21, x22, x23, x24, rfl, hF⟩ := hI
          have hd5 : d 5 = true := dep_of hdep 5 (by kernel_rfl)
          have hd6 : d 6 = true := dep_of hdep 6 (by kernel_rfl)
          obtain rfl := hF.out.f5 hd5
          obtain rfl := hF.out.f6 hd6
          have hz := hF.out.p0 hd
          have s5 := cell_of_row W (w.heap.size + 1 + 1) 5 _ 27 (0, 0) hz
          have r5 := frozen_of_row W (w.heap.size + 1 + 1) 5 _ 27 hz
          have HZ : Hid (W.heap[w.heap.size + 1 + 1]? = some (.cells #[.int .i64 k, .int .u64 (c.1.toNat : Int), .int .u64 (c.2.1.toNat : Int), .int .u64 (c.2.2.1.toNat : Int), .int .u64 (c.2.2.2.toNat : Int), sv] 27)) := hz
          have HD : Hid (d 5 = true) := hd5
          clear hz
          clear hdep hd hd5 hd6
          intro K hK
          simp only [Act.put, List.setIfInBounds_toArray, List.set_cons_zero, List.set_cons_succ]
          go_simp
          refine hK.out _ _ ⟨q, hi, gb, gr, cr, x18, x19, x20, x21, x22, (.slice (some ⟨gr, 0, none⟩) (us.length + 1) cr), (.pointer (some ⟨w.heap.size + 1 + 1, 5, none⟩)), by simp only [Act.put, List.setIfInBounds_toArray, List.set_cons_zero, List.set_cons_succ], ?_⟩
          have z := heap_setCell_same W (w.heap.size + 1 + 1) 5 _ 27 (.slice (some ⟨gr, 0, none⟩) (us.length + 1) cr) HZ.out
          exact ⟨fun h => hF.out.f0 (by simpa using h), fun h => hF.out.f1 (by simpa using h), fun h => hF.out.f2 (by simpa using h), fun h => hF.out.f3 (by simpa using h), fun h => hF.out.f4 (by simpa using h), fun h => hF.out.f5 (by simpa using h), fun h => hF.out.f6 (by simpa using h), fun _ => trivial, hF.out.below.setCell (p := ⟨w.heap.size + 1 + 1, 5, none⟩) (by show w.heap.size ≤ w.heap.size + 1 + 1; omega) _, by simp only [World.setCell, Array.size_modify]; exact hF.out.size, fun b k1 k2 k3 => (Below.heap_setCell _ _ _ _ k2).trans (hF.out.keep b k1 k2 k3), fun h => no_way ((show d 5 = false by simpa using h).symm.trans HD.out), fun h => own_keep (hF.out.r1 HD.out) (fun b hb => Below.heap_setCell _ _ _ _ (fun e => by have := own_ge (hF.out.r1 HD.out) b hb; simp only at e; omega)), fun h => by simp at h, fun _ => z, fun h => ⟨by simp only [World.setCell, Array.size_modify]; exact (hF.out.rx (by simpa using h)).1, (hF.out.rx (by simpa using h)).2.1, (hF.out.rx (by simpa using h)).2.2.move (fun _ h => h) (fun b hb => Below.heap_setCell _ _ _ _ (fun e => by have h5 := HS5.out.2; have := hb.1; simp only at e; omega))⟩, fun _ h => no_way ((show d 5 = false by simpa using h).symm.trans HD.out), fun h => hF.out.n1 (by simpa using h), fun h => by simpa using hF.out.g5 (by simpa using h), fun h => by simpa using hF.out.g4 (by simpa using h), fun _ => by simpa using HD.out⟩
      · intro d a W hI hall
        obtain ⟨q, hi, gb, gr, cr, x18, x19, x20, x21, x22, x23, x24, rfl, hF⟩ := hI
        simp only [List.length_cons, List.length_nil] at hall
        obtain rfl := hF.out.f0 (hall 0 (by omega))
        obtain rfl := hF.out.f1 (hall 1 (by omega))
        obtain rfl := hF.out.f2 (hall 2 (by omega))
        obtain rfl := hF.out.f3 (hall 3 (by omega))
        obtain rfl := hF.out.f4 (hall 4 (by omega))
        obtain rfl := hF.out.f5 (hall 5 (by omega))
        obtain rfl := hF.out.f6 (hall 6 (by omega))
        have HF : Hid (TI w k c (some ⟨b, o, none⟩) cap kids (i + 1) (.slice (some ⟨gr, 0, none⟩) (us.length + 1) cr) (us ++ [q]) W) := turned_next HI.out HL.out HW.out.2.2.2.1 HW.out.2.2.2.2 HE5.out hF.out (hall 3 (by omega)) (hall 5 (by omega)) (hall 7 (by omega)) (fun g hg => HS5.out.1 g hg)
        clear hF hall
        simp only [Act.put, List.setIfInBounds_toArray, List.set_cons_zero, List.set_cons_succ]
        go_wp2_with fail
        go_roundw
        case rel => exact ⟨i + 1, _, _, by omega, by go_num, HF⟩
        case measure => simp [intOf]; omega
    · obtain rfl : i = kids.length := by omega
      have hT := HI.out
      obtain ⟨ao', cap', rfl, hsh⟩ := own_shape hT.row
      have HLN : Hid (us.length = kids.length) := hT.len
      have s0 := cell_of_row wr w.heap.size 0 _ 27 (0, 0) hT.b1
      simp only [List.getElem?_toArray, List.getElem?_cons_zero] at s0
      by_cases hk4 : k = 4
      · have h2 := h4 hk4
        have hk4' : (k == 4) = true := by simp [hk4]
        obtain ⟨g, rfl, hLg, hgs, hcl⟩ : ∃ g, ao' = some ⟨g, 0, none⟩ ∧ w.heap.size + 3 ≤ g ∧ g < wr.heap.size ∧ ∀ j, j < kids.length * 6 → wr.cell? ⟨g, j, none⟩ = (fl6 us)[j]? := by
          rcases hsh with h | h
          · omega
          · exact h
        have hH : HoldsK re 6 wr g 0 us.toArray := by
          unfold HoldsK
          rw [flat_fl6]
          intro j hj
          have hj' : j < kids.length * 6 := by have := fl6_len us; have := HLN.out; simp at hj; omega
          refine ⟨?_, by rw [Nat.zero_add]; exact hT.row.frozenAt j⟩
          rw [Nat.zero_add, hcl j hj', getElem!_pos _ j hj]
          simp [List.getElem?_eq_getElem (show j < (fl6 us).length by simpa using hj)]
        have hR := AnyQ.slices_Reverse Try.revRex 6 Try.isAgg27 Try.sizeOf27 re re_len re_one g 0 cap' us.toArray wr hH (by have := HLN.out; simp; omega)
        have HR8 : Hid (Calls Try.prog 25 #[.slice (some ⟨g, 0, none⟩) kids.length cap'] wr fun e w' => e = .returned (.tuple #[]) ∧ ∃ n, w' = putRowK re 6 (Sort.ahead wr n) g 0 us.toArray.reverse) := by
          have e : us.toArray.size = kids.length := by have := HLN.out; simpa using this
          rw [e] at hR
          exact hR
        have s5 := cell_of_row wr (w.heap.size + 1 + 1) 5 _ 27 (0, 0) hT.b3
        simp only [List.getElem?_toArray, List.getElem?_cons_zero, List.getElem?_cons_succ] at s5
        have HH : Hid (HoldsK re 6 wr g 0 us.toArray) := hH
        have HG : Hid (w.heap.size + 3 ≤ g ∧ g < wr.heap.size) := ⟨hLg, hgs⟩
        have HK4 : Hid (k = 4) := hk4
        clear hH hR hT hcl hLg hgs hsh h2 hk4 h4
        go_wp2_with fail
        refine HR8.out.mono ?_
        rintro _ Wx ⟨rfl, nd, hWx⟩
        have HX : Hid (TE w k c kids (some ⟨g, 0, none⟩) cap' us.reverse (turn (.mk k c kids)).kids Wx) := by
          show TE _ _ _ _ _ _ _ _ _
          rw [hWx, turn, if_pos HK4.out]
          exact turned_reversed HI.out HH.out HG.out.1 nd
        clear hWx HR8 HH HG s0 s5 HI
        have a0 := cell_of_row Wx (w.heap.size + 1 + 1) 0 _ 27 (0, 0) HX.out.b3
        have e0 := cell_of_row Wx (w.heap.size + 1) 0 _ 27 (0, 0) HX.out.b2
        have r0 := frozen_of_row Wx (w.heap.size + 1) 0 _ 27 HX.out.b2
        have a1 := cell_of_row Wx (w.heap.size + 1 + 1) 1 _ 27 (0, 0) HX.out.b3
        have e1 := cell_of_row Wx (w.heap.size + 1) 1 _ 27 (0, 0) HX.out.b2
        have r1 := frozen_of_row Wx (w.heap.size + 1) 1 _ 27 HX.out.b2
        have a2 := cell_of_row Wx (w.heap.size + 1 + 1) 2 _ 27 (0, 0) HX.out.b3
        have e2 := cell_of_row Wx (w.heap.size + 1) 2 _ 27 (0, 0) HX.out.b2
        have r2 := frozen_of_row Wx (w.heap.size + 1) 2 _ 27 HX.out.b2
        have a3 := cell_of_row Wx (w.heap.size + 1 + 1) 3 _ 27 (0, 0) HX.out.b3
        have e3 := cell_of_row Wx (w.heap.size + 1) 3 _ 27 (0, 0) HX.out.b2
        have r3 := frozen_of_row Wx (w.heap.size + 1) 3 _ 27 HX.out.b2
        have a4 := cell_of_row Wx (w.heap.size + 1 + 1) 4 _ 27 (0, 0) HX.out.b3
        have e4 := cell_of_row Wx (w.heap.size + 1) 4 _ 27 (0, 0) HX.out.b2
        have r4 := frozen_of_row Wx (w.heap.size + 1) 4 _ 27 HX.out.b2
        have a5 := cell_of_row Wx (w.heap.size + 1 + 1) 5 _ 27 (0, 0) HX.out.b3
        have e5 := cell_of_row Wx (w.heap.size + 1) 5 _ 27 (0, 0) HX.out.b2
        have r5 := frozen_of_row Wx (w.heap.size + 1) 5 _ 27 HX.out.b2
        simp only [List.getElem?_toArray, List.getElem?_cons_zero, List.getElem?_cons_succ] at a0 a1 a2 a3 a4 a5 e0 e1 e2 e3 e4 e5
        go_wp2_with fail
        clear a0 a1 a2 a3 a4 a5 e0 e1 e2 e3 e4 e5 r0 r1 r2 r3 r4 r5
        have y0 := heap_setCell_same Wx (w.heap.size + 1) 0 _ 27 (.int .i64 k) HX.out.b2
        have y1 := heap_setCell_same _ (w.heap.size + 1) 1 _ 27 (.int .u64 (c.1.toNat : Int)) y0
        have y2 := heap_setCell_same _ (w.heap.size + 1) 2 _ 27 (.int .u64 (c.2.1.toNat : Int)) y1
        have y3 := heap_setCell_same _ (w.heap.size + 1) 3 _ 27 (.int .u64 (c.2.2.1.toNat : Int)) y2
        have y4 := heap_setCell_same _ (w.heap.size + 1) 4 _ 27 (.int .u64 (c.2.2.2.toNat : Int)) y3
        have y5 := heap_setCell_same _ (w.heap.size + 1) 5 _ 27 (.slice (some ⟨g, 0, none⟩) kids.length cap') y4
        have hE := HX.out.ends (.int .i64 k) (.int .u64 (c.1.toNat : Int)) (.int .u64 (c.2.1.toNat : Int)) (.int .u64 (c.2.2.1.toNat : Int)) (.int .u64 (c.2.2.2.toNat : Int)) (.slice (some ⟨g, 0, none⟩) kids.length cap')
        have d0 := cell_of_row _ (w.heap.size + 1) 0 _ 27 (0, 0) y5
        have d1 := cell_of_row _ (w.heap.size + 1) 1 _ 27 (0, 0) y5
        have d2 := cell_of_row _ (w.heap.size + 1) 2 _ 27 (0, 0) y5
        have d3 := cell_of_row _ (w.heap.size + 1) 3 _ 27 (0, 0) y5
        have d4 := cell_of_row _ (w.heap.size + 1) 4 _ 27 (0, 0) y5
        have d5 := cell_of_row _ (w.heap.size + 1) 5 _ 27 (0, 0) y5
        clear y0 y1 y2 y3 y4 y5
        unfold put6 at hE
        generalize ((((((Wx.setCell ⟨w.heap.size + 1, 0, none⟩ (.int .i64 k)).setCell ⟨w.heap.size + 1, 1, none⟩ (.int .u64 (c.1.toNat : Int))).setCell ⟨w.heap.size + 1, 2, none⟩ (.int .u64 (c.2.1.toNat : Int))).setCell ⟨w.heap.size + 1, 3, none⟩ (.int .u64 (c.2.2.1.toNat : Int))).setCell ⟨w.heap.size + 1, 4, none⟩ (.int .u64 (c.2.2.2.toNat : Int))).setCell ⟨w.heap.size + 1, 5, none⟩ (.slice (some ⟨g, 0, none⟩) kids.length cap')) = w9 at hE d0 d1 d2 d3 d4 d5 ⊢
        simp at d0 d1 d2 d3 d4 d5
        refine bodyPost_ret (v := .agg #[.int .i64 k, .int .u64 (c.1.toNat : Int), .int .u64 (c.2.1.toNat : Int), .int .u64 (c.2.2.1.toNat : Int), .int .u64 (c.2.2.2.toNat : Int), .slice (some ⟨g, 0, none⟩) kids.length cap']) (by simp [results, Try.results16, go_sem, d0, d1, d2, d3, d4, d5]) rfl ⟨(k, c, some ⟨g, 0, none⟩, kids.length, cap'), rfl, ?_, hE.1⟩
        rw [T.eta (turn (.mk k c kids)), show (turn (.mk k c kids)).kind = k by rw [turn]; rfl, show (turn (.mk k c kids)).cls = c by rw [turn]; rfl]
        exact Ry_of hk0 _ kids.length HX.out.tl (by omega) _ _ _ HX.out.ul hE.2.1 hE.2.2
      · have hk4' : (k == 4) = false := by simp [hk4]
        have HX : Hid (TE w k c kids ao' cap' us (turn (.mk k c kids)).kids wr) := by
          show TE _ _ _ _ _ _ _ _ _
          rw [turn, if_neg hk4]
          refine ⟨hT.below, hT.size, hT.b2, hT.b3, by simp [turnL_map, T.kids], HLN.out, ?_, fun j h1 h2 => ?_⟩
          · rcases hsh with h | ⟨g, e, h1, h2, h3⟩
            · exact Or.inl h
            · exact Or.inr ⟨g, e, by omega, h2, h3⟩
          · simp only [turnL_map, T.kids, List.getElem_map]
            exact (hT.trees j h1 (by have := HLN.out; omega)).move (fun b h => ⟨by omega, h.2.1⟩) (fun _ _ => rfl)
        clear hT hsh HI
        have a0 := cell_of_row wr (w.heap.size + 1 + 1) 0 _ 27 (0, 0) HX.out.b3
        have e0 := cell_of_row wr (w.heap.size + 1) 0 _ 27 (0, 0) HX.out.b2
        have r0 := frozen_of_row wr (w.heap.size + 1) 0 _ 27 HX.out.b2
        have a1 := cell_of_row wr (w.heap.size + 1 + 1) 1 _ 27 (0, 0) HX.out.b3
        have e1 := cell_of_row wr (w.heap.size + 1) 1 _ 27 (0, 0) HX.out.b2
        have r1 := frozen_of_row wr (w.heap.size + 1) 1 _ 27 HX.out.b2
        have a2 := cell_of_row wr (w.heap.size + 1 + 1) 2 _ 27 (0, 0) HX.out.b3
        have e2 := cell_of_row wr (w.heap.size + 1) 2 _ 27 (0, 0) HX.out.b2
        have r2 := frozen_of_row wr (w.heap.size + 1) 2 _ 27 HX.out.b2
        have a3 := cell_of_row wr (w.heap.size + 1 + 1) 3 _ 27 (0, 0) HX.out.b3
        have e3 := cell_of_row wr (w.heap.size + 1) 3 _ 27 (0, 0) HX.out.b2
        have r3 := frozen_of_row wr (w.heap.size + 1) 3 _ 27 HX.out.b2
        have a4 := cell_of_row wr (w.heap.size + 1 + 1) 4 _ 27 (0, 0) HX.out.b3
        have e4 := cell_of_row wr (w.heap.size + 1) 4 _ 27 (0, 0) HX.out.b2
        have r4 := frozen_of_row wr (w.heap.size + 1) 4 _ 27 HX.out.b2
        have a5 := cell_of_row wr (w.heap.size + 1 + 1) 5 _ 27 (0, 0) HX.out.b3
        have e5 := cell_of_row wr (w.heap.size + 1) 5 _ 27 (0, 0) HX.out.b2
        have r5 := frozen_of_row wr (w.heap.size + 1) 5 _ 27 HX.out.b2
        simp only [List.getElem?_toArray, List.getElem?_cons_zero, List.getElem?_cons_succ] at a0 a1 a2 a3 a4 a5 e0 e1 e2 e3 e4 e5
        go_wp2_with fail
        clear a0 a1 a2 a3 a4 a5 e0 e1 e2 e3 e4 e5 r0 r1 r2 r3 r4 r5
        have y0 := heap_setCell_same wr (w.heap.size + 1) 0 _ 27 (.int .i64 k) HX.out.b2
        have y1 := heap_setCell_same _ (w.heap.size + 1) 1 _ 27 (.int .u64 (c.1.toNat : Int)) y0
        have y2 := heap_setCell_same _ (w.heap.size + 1) 2 _ 27 (.int .u64 (c.2.1.toNat : Int)) y1
        have y3 := heap_setCell_same _ (w.heap.size + 1) 3 _ 27 (.int .u64 (c.2.2.1.toNat : Int)) y2
        have y4 := heap_setCell_same _ (w.heap.size + 1) 4 _ 27 (.int .u64 (c.2.2.2.toNat : Int)) y3
        have y5 := heap_setCell_same _ (w.heap.size + 1) 5 _ 27 (.slice ao' kids.length cap') y4
        have hE := HX.out.ends (.int .i64 k) (.int .u64 (c.1.toNat : Int)) (.int .u64 (c.2.1.toNat : Int)) (.int .u64 (c.2.2.1.toNat : Int)) (.int .u64 (c.2.2.2.toNat : Int)) (.slice ao' kids.length cap')
        have d0 := cell_of_row _ (w.heap.size + 1) 0 _ 27 (0, 0) y5
        have d1 := cell_of_row _ (w.heap.size + 1) 1 _ 27 (0, 0) y5
        have d2 := cell_of_row _ (w.heap.size + 1) 2 _ 27 (0, 0) y5
        have d3 := cell_of_row _ (w.heap.size + 1) 3 _ 27 (0, 0) y5
        have d4 := cell_of_row _ (w.heap.size + 1) 4 _ 27 (0, 0) y5
        have d5 := cell_of_row _ (w.heap.size + 1) 5 _ 27 (0, 0) y5
        clear y0 y1 y2 y3 y4 y5
        unfold put6 at hE
        generalize ((((((wr.setCell ⟨w.heap.size + 1, 0, none⟩ (.int .i64 k)).setCell ⟨w.heap.size + 1, 1, none⟩ (.int .u64 (c.1.toNat : Int))).setCell ⟨w.heap.size + 1, 2, none⟩ (.int .u64 (c.2.1.toNat : Int))).setCell ⟨w.heap.size + 1, 3, none⟩ (.int .u64 (c.2.2.1.toNat : Int))).setCell ⟨w.heap.size + 1, 4, none⟩ (.int .u64 (c.2.2.2.toNat : Int))).setCell ⟨w.heap.size + 1, 5, none⟩ (.slice ao' kids.length cap')) = w9 at hE d0 d1 d2 d3 d4 d5 ⊢
        simp at d0 d1 d2 d3 d4 d5
        refine bodyPost_ret (v := .agg #[.int .i64 k, .int .u64 (c.1.toNat : Int), .int .u64 (c.2.1.toNat : Int), .int .u64 (c.2.2.1.toNat : Int), .int .u64 (c.2.2.2.toNat : Int), .slice ao' kids.length cap']) (by simp [results, Try.results16, go_sem, d0, d1, d2, d3, d4, d5]) rfl ⟨(k, c, ao', kids.length, cap'), rfl, ?_, hE.1⟩
        rw [T.eta (turn (.mk k c kids)), show (turn (.mk k c kids)).kind = k by rw [turn]; rfl, show (turn (.mk k c kids)).cls = c by rw [turn]; rfl]
        exact Ry_of hk0 _ kids.length HX.out.tl (by omega) _ _ _ HX.out.ul hE.2.1 hE.2.2
theorem turned_any {t : T} {x : E} (h : Is t x) : ∀ (v : Value) (B : Nat) (w : World), Rx w B v t → B ≤ w.heap.size → TC v w t := by
  induction h with
  | none => exact turned_step 1 empty [] (by simp) (by omega) (fun i hi => absurd hi (Nat.not_lt_zero _))
  | emp => exact turned_step 2 empty [] (by simp) (by omega) (fun i hi => absurd hi (Nat.not_lt_zero _))
  | @byte c _ => exact turned_step 3 c [] (by simp) (by omega) (fun i hi => absurd hi (Nat.not_lt_zero _))
  | cat _ _ i1 i2 => exact turned_step 4 empty _ (by simp) (by simp) (fun i hi => match i, hi with | 0, _ => i1 | 1, _ => i2)
  | alt _ _ i1 i2 => exact turned_step 5 empty _ (by simp) (by simp) (fun i hi => match i, hi with | 0, _ => i1 | 1, _ => i2)
  | star _ i1 => exact turned_step 6 empty _ (by simp) (by omega) (fun i hi => match i, hi with | 0, _ => i1)
end Go.Proofs.Ytdnagboonjcehaa
