/-
  Trees that a parser makes: in which blocks they lie; the plain mathematics of rep, cat and alt; what a parser's function is to do.
-/
import Derived.Test.YthloedfiomfnbaaPaSet
namespace Go.Proofs.Ythloedfiomfnbaa
open Go.RowKit
open Cls Txt Rex

/-- A value is that tree, all of whose rows lie in blocks of which A holds. -/
inductive Ry (w : World) (A : Nat → Prop) : Value → T → Prop where
  | mk (k : Int) (c : Cl) (ao : Option Addr) (cap : Nat) (kids : List T) (vals : Nat → Value) (hk : -9223372036854775808 ≤ k ∧ k ≤ 9223372036854775807) (hm : kids.length ≤ 9223372036854775807)
      (hc : kids = [] ∨ ∃ b o, ao = some ⟨b, o, none⟩ ∧ A b ∧ ∀ i, i < kids.length → ∀ j, j < 6 → w.cell? ⟨b, o + i * 6 + j, none⟩ = (vals i).cells[j]?)
      (hr : ∀ i (hi : i < kids.length), Ry w A (vals i) kids[i]) :
      Ry w A (.agg #[.int .i64 k, .int .u64 (c.1.toNat : Int), .int .u64 (c.2.1.toNat : Int), .int .u64 (c.2.2.1.toNat : Int), .int .u64 (c.2.2.2.toNat : Int), .slice ao kids.length cap]) (.mk k c kids)
theorem Ry.rx {w : World} {A : Nat → Prop} {v : Value} {t : T} {B : Nat} (h : Ry w A v t) (hA : ∀ b, A b → b < B) : Rx w B v t := by
  induction h with
  | mk k c ao cap kids vals hk hm hc hr ih =>
    refine .mk k c ao cap kids vals hk hm ?_ ih
    rcases hc with h | ⟨b, o, h1, h2, h3⟩
    · exact Or.inl h
    · exact Or.inr ⟨b, o, h1, hA b h2, h3⟩
theorem Ry.move {w w' : World} {A A' : Nat → Prop} {v : Value} {t : T} (h : Ry w A v t) (hA : ∀ b, A b → A' b) (hw : ∀ b, A b → w'.heap[b]? = w.heap[b]?) : Ry w' A' v t := by
  induction h with
  | mk k c ao cap kids vals hk hm hc hr ih =>
    refine .mk k c ao cap kids vals hk hm ?_ ih
    rcases hc with h | ⟨b, o, h1, h2, h3⟩
    · exact Or.inl h
    · refine Or.inr ⟨b, o, h1, hA b h2, fun i hi j hj => ?_⟩
      rw [← h3 i hi j hj]
      simp [World.cell?, hw b h2]
/-- One node's cells. -/
abbrev R6 := Int × Cl × Option Addr × Nat × Nat
abbrev v6 (q : R6) : Value := .agg #[.int .i64 q.1, .int .u64 (q.2.1.1.toNat : Int), .int .u64 (q.2.1.2.1.toNat : Int), .int .u64 (q.2.1.2.2.1.toNat : Int), .int .u64 (q.2.1.2.2.2.toNat : Int), .slice q.2.2.1 q.2.2.2.1 q.2.2.2.2]
theorem Ry.leaf {w : World} {A : Nat → Prop} (k : Int) (c : Cl) (hk : -9223372036854775808 ≤ k ∧ k ≤ 9223372036854775807) : Ry w A (v6 (k, c, none, 0, 0)) (.mk k c []) :=
  Ry.mk k c none 0 [] (fun _ => undef) hk (by simp) (Or.inl rfl) (fun i hi => absurd hi (by simp))
theorem Ry.one {W : World} {A : Nat → Prop} {q : R6} {t : T} {b : Nat} (k : Int) (hk : -9223372036854775808 ≤ k ∧ k ≤ 9223372036854775807) (hb : W.heap[b]? = some (.cells #[.int .i64 q.1, .int .u64 (q.2.1.1.toNat : Int), .int .u64 (q.2.1.2.1.toNat : Int), .int .u64 (q.2.1.2.2.1.toNat : Int), .int .u64 (q.2.1.2.2.2.toNat : Int), .slice q.2.2.1 q.2.2.2.1 q.2.2.2.2] 27)) (hA : A b) (h : Ry W A (v6 q) t) :
    Ry W A (v6 (k, empty, some ⟨b, 0, none⟩, 1, 1)) (.mk k empty [t]) := by
  refine Ry.mk k empty (some ⟨b, 0, none⟩) 1 [t] (fun _ => v6 q) hk (by simp) (Or.inr ⟨b, 0, rfl, hA, ?_⟩) ?_
  · intro i hi j hj
    have : i = 0 := by simpa using hi
    subst this
    rcases (show j = 0 ∨ j = 1 ∨ j = 2 ∨ j = 3 ∨ j = 4 ∨ j = 5 by omega) with rfl | rfl | rfl | rfl | rfl | rfl <;> simp [World.cell?, hb, Value.cells]
  · intro i hi
    have : i = 0 := by simpa using hi
    subst this
    exact h
theorem Ry.two {W : World} {A : Nat → Prop} {q p : R6} {t u : T} {b : Nat} (k : Int) (hk : -9223372036854775808 ≤ k ∧ k ≤ 9223372036854775807) (hb : W.heap[b]? = some (.cells #[.int .i64 q.1, .int .u64 (q.2.1.1.toNat : Int), .int .u64 (q.2.1.2.1.toNat : Int), .int .u64 (q.2.1.2.2.1.toNat : Int), .int .u64 (q.2.1.2.2.2.toNat : Int), .slice q.2.2.1 q.2.2.2.1 q.2.2.2.2, .int .i64 p.1, .int .u64 (p.2.1.1.toNat : Int), .int .u64 (p.2.1.2.1.toNat : Int), .int .u64 (p.2.1.2.2.1.toNat : Int), .int .u64 (p.2.1.2.2.2.toNat : Int), .slice p.2.2.1 p.2.2.2.1 p.2.2.2.2] 27)) (hA : A b) (h : Ry W A (v6 q) t) (h2 : Ry W A (v6 p) u) :
    Ry W A (v6 (k, empty, some ⟨b, 0, none⟩, 2, 2)) (.mk k empty [t, u]) := by
  refine Ry.mk k empty (some ⟨b, 0, none⟩) 2 [t, u] (fun i => if i = 0 then v6 q else v6 p) hk (by simp) (Or.inr ⟨b, 0, rfl, hA, ?_⟩) ?_
  · intro i hi j hj
    have hi' : i = 0 ∨ i = 1 := by simp at hi; omega
    rcases hi' with rfl | rfl <;> (rcases (show j = 0 ∨ j = 1 ∨ j = 2 ∨ j = 3 ∨ j = 4 ∨ j = 5 by omega) with rfl | rfl | rfl | rfl | rfl | rfl <;> simp [World.cell?, hb, Value.cells])
  · intro i hi
    have hi' : i = 0 ∨ i = 1 := by simp at hi; omega
    rcases hi' with rfl | rfl
    · exact h
    · exact h2
def put6 (W : World) (b : Nat) (v0 v1 v2 v3 v4 v5 : Value) : World := (((((W.setCell ⟨b, 0, none⟩ v0).setCell ⟨b, 1, none⟩ v1).setCell ⟨b, 2, none⟩ v2).setCell ⟨b, 3, none⟩ v3).setCell ⟨b, 4, none⟩ v4).setCell ⟨b, 5, none⟩ v5
theorem put6_other (W : World) (b : Nat) (v0 v1 v2 v3 v4 v5 : Value) (x : Nat) (h : x ≠ b) : (put6 W b v0 v1 v2 v3 v4 v5).heap[x]? = W.heap[x]? := by
  unfold put6
  rw [Below.heap_setCell _ _ _ _ h, Below.heap_setCell _ _ _ _ h, Below.heap_setCell _ _ _ _ h, Below.heap_setCell _ _ _ _ h, Below.heap_setCell _ _ _ _ h, Below.heap_setCell _ _ _ _ h]
theorem put6_size (W : World) (b : Nat) (v0 v1 v2 v3 v4 v5 : Value) : (put6 W b v0 v1 v2 v3 v4 v5).heap.size = W.heap.size := by
  unfold put6; simp [World.setCell]

/-! ### What is read, as trees -/
abbrev Res := T × Nat × Nat
def repL (s : ByteArray) : Nat → T → Nat → Res
  | 0, r, i => (r, i, 0)
  | n + 1, r, i => if bt s i = 42 then repL s n (.mk 6 empty [r]) (i + 1) else if bt s i = 43 then repL s n (.mk 4 empty [r, .mk 6 empty [r]]) (i + 1) else if bt s i = 63 then repL s n (.mk 5 empty [r, .mk 2 empty []]) (i + 1) else (r, i, 0)
def repR (s : ByteArray) (A : Nat → Res) (i : Nat) : Res := if (A i).2.2 ≠ 0 then A i else repL s (s.size + 1) (A i).1 (A i).2.1
def catEnd (s : ByteArray) (i : Nat) : Bool := decide (i = s.size) || (decide (bt s i = 124) || decide (bt s i = 41))
def catL (s : ByteArray) (R : Nat → Res) : Nat → Res → Res
  | 0, x => x
  | n + 1, x => if x.2.2 ≠ 0 then x else if catEnd s x.2.1 = true then x else catL s R n (.mk 4 empty [x.1, (R x.2.1).1], (R x.2.1).2)
def catR (s : ByteArray) (R : Nat → Res) (i : Nat) : Res := catL s R (s.size + 2) (R i)
def altL (s : ByteArray) (C : Nat → Res) : Nat → Res → Res
  | 0, x => x
  | n + 1, x => if x.2.2 ≠ 0 then x else if bt s x.2.1 = 124 then altL s C n (.mk 5 empty [x.1, (C (x.2.1 + 1)).1], (C (x.2.1 + 1)).2) else x
def altR (s : ByteArray) (C : Nat → Res) (i : Nat) : Res := altL s C (s.size + 2) (C i)
/-- It goes on, and stays within the text. -/
def Goes (s : ByteArray) (R : Nat → Res) : Prop := ∀ i, i ≤ s.size → i ≤ (R i).2.1 ∧ (R i).2.1 ≤ s.size ∧ ((R i).2.2 = 0 → i < (R i).2.1)
/-- What is left to read; nothing behind an error. -/
def rest (s : ByteArray) (x : Res) : Nat := if x.2.2 = 0 then s.size + 1 - x.2.1 else 0
theorem catL_more (s : ByteArray) (R : Nat → Res) (hR : Goes s R) : ∀ n m x, x.2.1 ≤ s.size → rest s x < n → rest s x < m → catL s R n x = catL s R m x
  | 0, _, _, _, h, _ => by omega
  | _, 0, _, _, _, h => by omega
  | n + 1, m + 1, x, hx, h1, h2 => by
    unfold catL
    split
    · rfl
    · rename_i he
      split
      · rfl
      · have he : x.2.2 = 0 := Classical.byContradiction he
        have hg := hR x.2.1 hx
        have : rest s (T.mk 4 empty [x.1, (R x.2.1).1], (R x.2.1).2) < rest s x := by
          unfold rest
          rw [if_pos he]
          simp only
          split
          · rename_i e; have := hg.2.2 e; omega
          · omega
        exact catL_more s R hR n m _ hg.2.1 (by omega) (by omega)
theorem altL_more (s : ByteArray) (C : Nat → Res) (hC : Goes s C) : ∀ n m x, x.2.1 ≤ s.size → rest s x < n → rest s x < m → altL s C n x = altL s C m x
  | 0, _, _, _, h, _ => by omega
  | _, 0, _, _, _, h => by omega
  | n + 1, m + 1, x, hx, h1, h2 => by
    unfold altL
    split
    · rfl
    · rename_i he
      split
      · rename_i hb
        have he : x.2.2 = 0 := Classical.byContradiction he
        have hlt := bt_is hb (by decide)
        have hg := hC (x.2.1 + 1) hlt
        have : rest s (T.mk 5 empty [x.1, (C (x.2.1 + 1)).1], (C (x.2.1 + 1)).2) < rest s x := by
          unfold rest
          rw [if_pos he]
          simp only
          split
          · rename_i e; have := hg.2.2 e; omega
          · omega
        exact altL_more s C hC n m _ hg.2.1 (by omega) (by omega)
      · rfl
theorem catL_goes (s : ByteArray) (R : Nat → Res) (hR : Goes s R) (i : Nat) : ∀ n x, i ≤ x.2.1 → x.2.1 ≤ s.size → (x.2.2 = 0 → i < x.2.1) → i ≤ (catL s R n x).2.1 ∧ (catL s R n x).2.1 ≤ s.size ∧ ((catL s R n x).2.2 = 0 → i < (catL s R n x).2.1)
  | 0, _, h1, h2, h3 => ⟨h1, h2, h3⟩
  | n + 1, x, h1, h2, h3 => by
    unfold catL
    split
    · exact ⟨h1, h2, h3⟩
    · split
      · exact ⟨h1, h2, h3⟩
      · have hg := hR x.2.1 h2
        exact catL_goes s R hR i n _ (by simp only; omega) hg.2.1 (fun e => Nat.lt_of_le_of_lt h1 (hg.2.2 e))
theorem altL_goes (s : ByteArray) (C : Nat → Res) (hC : Goes s C) (i : Nat) : ∀ n x, i ≤ x.2.1 → x.2.1 ≤ s.size → (x.2.2 = 0 → i < x.2.1) → i ≤ (altL s C n x).2.1 ∧ (altL s C n x).2.1 ≤ s.size ∧ ((altL s C n x).2.2 = 0 → i < (altL s C n x).2.1)
  | 0, _, h1, h2, h3 => ⟨h1, h2, h3⟩
  | n + 1, x, h1, h2, h3 => by
    unfold altL
    split
    · exact ⟨h1, h2, h3⟩
    · split
      · rename_i hb
        have hlt := bt_is hb (by decide)
        have hg := hC (x.2.1 + 1) hlt
        exact altL_goes s C hC i n _ (by simp only; omega) hg.2.1 (fun e => by have := hg.2.2 e; simp only; omega)
      · exact ⟨h1, h2, h3⟩
theorem catR_goes {s : ByteArray} {R : Nat → Res} (hR : Goes s R) : Goes s (catR s R) := fun i hi => catL_goes s R hR i _ _ (hR i hi).1 (hR i hi).2.1 (hR i hi).2.2
theorem altR_goes {s : ByteArray} {C : Nat → Res} (hC : Goes s C) : Goes s (altR s C) := fun i hi => altL_goes s C hC i _ _ (hC i hi).1 (hC i hi).2.1 (hC i hi).2.2
theorem repL_goes (s : ByteArray) : ∀ n r i, i ≤ s.size → i ≤ (repL s n r i).2.1 ∧ (repL s n r i).2.1 ≤ s.size ∧ (repL s n r i).2.2 = 0
  | 0, _, i, hi => ⟨Nat.le_refl _, hi, rfl⟩
  | n + 1, r, i, hi => by
    unfold repL
    split
    · rename_i h
      have := repL_goes s n (.mk 6 empty [r]) (i + 1) (bt_is h (by decide))
      exact ⟨by omega, this.2⟩
    · split
      · rename_i h
        have := repL_goes s n (.mk 4 empty [r, .mk 6 empty [r]]) (i + 1) (bt_is h (by decide))
        exact ⟨by omega, this.2⟩
      · split
        · rename_i h
          have := repL_goes s n (.mk 5 empty [r, .mk 2 empty []]) (i + 1) (bt_is h (by decide))
          exact ⟨by omega, this.2⟩
        · exact ⟨Nat.le_refl _, hi, rfl⟩
theorem repR_goes {s : ByteArray} {A : Nat → Res} (hA : Goes s A) : Goes s (repR s A) := fun i hi => by
  have h := hA i hi
  unfold repR
  split
  · exact h
  · rename_i he
    have he : (A i).2.2 = 0 := Classical.byContradiction he
    have g := repL_goes s (s.size + 1) (A i).1 (A i).2.1 h.2.1
    have := h.2.2 he
    exact ⟨by omega, g.2.1, fun _ => by omega⟩
/-- What a parser's function is to do. -/
def PC (f : FuncId) (s : ByteArray) (k : Value) (R : Nat → Res) : Prop := ∀ (g i : Nat) (w : World), Ps g s i k w → i ≤ s.size → Calls Try.prog f #[.pointer (some ⟨g, 0, none⟩)] w fun e w' => ∃ q : R6, e = .returned (.tuple #[.agg #[.int .i64 q.1, .int .u64 (q.2.1.1.toNat : Int), .int .u64 (q.2.1.2.1.toNat : Int), .int .u64 (q.2.1.2.2.1.toNat : Int), .int .u64 (q.2.1.2.2.2.toNat : Int), .slice q.2.2.1 q.2.2.2.1 q.2.2.2.2], .int .i64 ((R i).2.2 : Int)]) ∧ Ry w' (fun b => w.heap.size ≤ b ∧ b < w'.heap.size) (v6 q) (R i).1 ∧ Ps g s (R i).2.1 k w' ∧ w.grownBy w' (some g)
end Go.Proofs.Ythloedfiomfnbaa
