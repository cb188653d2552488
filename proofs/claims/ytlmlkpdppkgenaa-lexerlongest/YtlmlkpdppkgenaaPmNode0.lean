/-
  What places.layNode leaves: a Posn that has grown, and two new rows; inRow in one statement.
-/
import Derived.Test.YtlmlkpdppkgenaaPmX
import Derived.Test.YtlmlkpdppkgenaaPmRow
import Derived.Test.YtlmlkpdppkgenaaChecks
import Derived.Test.YtlmlkpdppkgenaaPmLink
namespace Go.Proofs.Ytlmlkpdppkgenaa
open Go.RowKit
open Cls Po Rex

theorem two_kids {w : World} {B : Nat} {v : Value} {k : Int} {s t : T} (hx : Rx w B v (.mk k Cls.empty [s, t])) : ∃ (b o cap : Nat) (k0 k1 : Int) (c0 c1 : Cl) (a0 a1 : Option Addr) (n0 p0 n1 p1 : Nat), v = .agg #[.int .i64 k, .int .u64 0, .int .u64 0, .int .u64 0, .int .u64 0, .slice (some ⟨b, o, none⟩) 2 cap] ∧ b < B ∧ Rx w B (.agg #[.int .i64 k0, .int .u64 (c0.1.toNat : Int), .int .u64 (c0.2.1.toNat : Int), .int .u64 (c0.2.2.1.toNat : Int), .int .u64 (c0.2.2.2.toNat : Int), .slice a0 n0 p0]) s ∧ Rx w B (.agg #[.int .i64 k1, .int .u64 (c1.1.toNat : Int), .int .u64 (c1.2.1.toNat : Int), .int .u64 (c1.2.2.1.toNat : Int), .int .u64 (c1.2.2.2.toNat : Int), .slice a1 n1 p1]) t ∧ w.cell? ⟨b, o, none⟩ = some (.int .i64 k0) ∧ w.cell? ⟨b, o + 1, none⟩ = some (.int .u64 (c0.1.toNat : Int)) ∧ w.cell? ⟨b, o + 2, none⟩ = some (.int .u64 (c0.2.1.toNat : Int)) ∧ w.cell? ⟨b, o + 3, none⟩ = some (.int .u64 (c0.2.2.1.toNat : Int)) ∧ w.cell? ⟨b, o + 4, none⟩ = some (.int .u64 (c0.2.2.2.toNat : Int)) ∧ w.cell? ⟨b, o + 5, none⟩ = some (.slice a0 n0 p0) ∧ w.cell? ⟨b, o + 6, none⟩ = some (.int .i64 k1) ∧ w.cell? ⟨b, o + 6 + 1, none⟩ = some (.int .u64 (c1.1.toNat : Int)) ∧ w.cell? ⟨b, o + 6 + 2, none⟩ = some (.int .u64 (c1.2.1.toNat : Int)) ∧ w.cell? ⟨b, o + 6 + 3, none⟩ = some (.int .u64 (c1.2.2.1.toNat : Int)) ∧ w.cell? ⟨b, o + 6 + 4, none⟩ = some (.int .u64 (c1.2.2.2.toNat : Int)) ∧ w.cell? ⟨b, o + 6 + 5, none⟩ = some (.slice a1 n1 p1) := by
  obtain ⟨k', c, ao, cap, kids, vals, rfl, ht, _, _, hc, hr⟩ := hx.shape
  simp only [T.mk.injEq] at ht
  obtain ⟨rfl, rfl, rfl⟩ := ht
  rcases hc with h | ⟨b, o, rfl, hbB, hcl⟩
  · cases h
  have r0 := hr 0 (by simp)
  have r1 := hr 1 (by simp)
  have hc0 := hcl 0 (by simp)
  have hc1 := hcl 1 (by simp)
  obtain ⟨k0, c0, a0, n0, p0, e0, q0⟩ := kid_cells r0 hc0
  obtain ⟨k1, c1, a1, n1, p1, e1, q1⟩ := kid_cells r1 hc1
  simp only [Nat.zero_mul, Nat.add_zero, Nat.one_mul] at q0 q1
  refine ⟨b, o, cap, k0, k1, c0, c1, a0, a1, n0, p0, n1, p1, rfl, hbB, ?_, ?_, ?_⟩
  · rw [← e0]; exact r0
  · rw [← e1]; exact r1
  · obtain ⟨x0, x1, x2, x3, x4, x5⟩ := q0
    obtain ⟨y0, y1, y2, y3, y4, y5⟩ := q1
    exact ⟨x0, x1, x2, x3, x4, x5, y0, y1, y2, y3, y4, y5⟩

theorem one_kid {w : World} {B : Nat} {v : Value} {k : Int} {s : T} (hx : Rx w B v (.mk k Cls.empty [s])) : ∃ (b o cap : Nat) (k0 : Int) (c0 : Cl) (a0 : Option Addr) (n0 p0 : Nat), v = .agg #[.int .i64 k, .int .u64 0, .int .u64 0, .int .u64 0, .int .u64 0, .slice (some ⟨b, o, none⟩) 1 cap] ∧ b < B ∧ Rx w B (.agg #[.int .i64 k0, .int .u64 (c0.1.toNat : Int), .int .u64 (c0.2.1.toNat : Int), .int .u64 (c0.2.2.1.toNat : Int), .int .u64 (c0.2.2.2.toNat : Int), .slice a0 n0 p0]) s ∧ w.cell? ⟨b, o, none⟩ = some (.int .i64 k0) ∧ w.cell? ⟨b, o + 1, none⟩ = some (.int .u64 (c0.1.toNat : Int)) ∧ w.cell? ⟨b, o + 2, none⟩ = some (.int .u64 (c0.2.1.toNat : Int)) ∧ w.cell? ⟨b, o + 3, none⟩ = some (.int .u64 (c0.2.2.1.toNat : Int)) ∧ w.cell? ⟨b, o + 4, none⟩ = some (.int .u64 (c0.2.2.2.toNat : Int)) ∧ w.cell? ⟨b, o + 5, none⟩ = some (.slice a0 n0 p0) := by
  obtain ⟨k', c, ao, cap, kids, vals, rfl, ht, _, _, hc, hr⟩ := hx.shape
  simp only [T.mk.injEq] at ht
  obtain ⟨rfl, rfl, rfl⟩ := ht
  rcases hc with h | ⟨b, o, rfl, hbB, hcl⟩
  · cases h
  have r0 := hr 0 (by simp)
  have hc0 := hcl 0 (by simp)
  obtain ⟨k0, c0, a0, n0, p0, e0, q0⟩ := kid_cells r0 hc0
  simp only [Nat.zero_mul, Nat.add_zero] at q0
  refine ⟨b, o, cap, k0, c0, a0, n0, p0, rfl, hbB, ?_, q0⟩
  rw [← e0]; exact r0

section
variable {base gp : Nat} {v V v1 V1 v2 V2 : Nat → Value} {p p1 p2 : P} {m : Nat} {w w1 w2 W W' : World}
theorem Pm.own_lt (h : Pm base gp v V p W) {q : Nat} (ho : Own gp v V p.follow.length q) : q < W.heap.size := by
  rcases ho with rfl | ⟨f, hf, h1⟩ | ⟨i, hi, h1⟩
  · exact h.box.lt
  · exact ((h.own f hf).lt q h1).2
  · exact ((h.inn i hi).lt q h1).2
theorem Pm.own_ge (h : Pm base gp v V p W) {q : Nat} (ho : Own gp v V p.follow.length q) : gp ≤ q := by
  have := h.lt
  rcases ho with rfl | ⟨f, hf, h1⟩ | ⟨i, hi, h1⟩
  · exact Nat.le_refl _
  · have := ((h.own f hf).lt q h1).1; omega
  · have := ((h.inn i hi).lt q h1).1; omega
/-- A step of the making. -/
structure St (base gp : Nat) (v V : Nat → Value) (m : Nat) (w : World) (p' : P) (v' V' : Nat → Value) (w' : World) : Prop where
  pm : Pm base gp v' V' p' w'
  fm : Fm (Own gp v V m) w w'
  ow : ∀ q, Own gp v' V' p'.follow.length q → Own gp v V m q ∨ w.heap.size ≤ q
theorem St.refl (h : Pm base gp v V p w) : St base gp v V p.follow.length w p v V w := ⟨h, Fm.refl _ _, fun _ hq => Or.inl hq⟩
theorem St.next (h : St base gp v V m w p1 v1 V1 w1) (hb : Below w1.heap.size w1 w2) : St base gp v V m w p1 v1 V1 w2 :=
  ⟨h.pm.next hb, h.fm.trans (Fm.below (X := Own gp v V m) hb) (fun _ _ e => e), h.ow⟩
theorem St.trans (h : St base gp v V m w p1 v1 V1 w1) (k : St base gp v1 V1 p1.follow.length w1 p2 v2 V2 w2) : St base gp v V m w p2 v2 V2 w2 :=
  ⟨k.pm, h.fm.trans k.fm (fun q hq hy => (h.ow q hy).resolve_right (by omega)), fun q hq => (k.ow q hq).elim (h.ow q) (fun h2 => Or.inr (Nat.le_trans h.fm.size h2))⟩
theorem St.free (h : St base gp v V m w p1 v1 V1 w1) {q : Nat} (hq : q < w.heap.size) (hn : ¬ Own gp v V m q) : ¬ Own gp v1 V1 p1.follow.length q := fun ho => (h.ow q ho).elim hn (fun h2 => by omega)
theorem St.below (h : St base gp v V p.follow.length w p1 v1 V1 w1) (h0 : Pm base gp v V p w) {B : Nat} (hB : B ≤ gp) : Below B w w1 :=
  ⟨h.fm.os, h.fm.tape, h.fm.output, h.fm.size, fun q hq => h.fm.blk q (by have := h0.box.lt; omega) (fun ho => by have := h0.own_ge ho; omega)⟩
/-- A block that is none of it is written. -/
theorem St.wrote (h : St base gp v V m w p1 v1 V1 w1) (hs : w1.heap.size ≤ w2.heap.size) (ho : w2.os = w1.os) (ht : w2.tape = w1.tape) (hu : w2.output = w1.output) {g : Nat} (hg : ¬ Own gp v1 V1 p1.follow.length g) (hw : w.heap.size ≤ g) (hb : ∀ q, q ≠ g → w2.heap[q]? = w1.heap[q]?) : St base gp v V m w p1 v1 V1 w2 :=
  ⟨h.pm.keep hs fun q hq => hb q (fun e => hg (e ▸ hq)), ⟨ho.trans h.fm.os, ht.trans h.fm.tape, hu.trans h.fm.output, Nat.le_trans h.fm.size hs, fun q hq hn => (hb q (by omega)).trans (h.fm.blk q hq hn)⟩, h.ow⟩
/-- A row of numbers that is none of it. -/
structure Rk (gp : Nat) (v V : Nat → Value) (m B : Nat) (u : Value) (l : List Int) (w : World) : Prop where
  i : Ints w u l
  b : ∀ q, u.ownBlock = some q → B ≤ q ∧ q < w.heap.size ∧ ¬ Own gp v V m q
theorem Rk.less {B B' : Nat} {u : Value} {l : List Int} (h : Rk gp v V m B u l w) (hB : B' ≤ B) : Rk gp v V m B' u l w := ⟨h.i, fun q hq => have k := h.b q hq; ⟨Nat.le_trans hB k.1, k.2⟩⟩
theorem Rk.next {B : Nat} {u : Value} {l : List Int} (h : Rk gp v V m B u l w) (hb : Below w.heap.size w w1) : Rk gp v V m B u l w1 := ⟨h.i.below hb, fun q hq => have k := h.b q hq; ⟨k.1, Nat.lt_of_lt_of_le k.2.1 hb.size, k.2.2⟩⟩
theorem Rk.step {B : Nat} {u : Value} {l : List Int} (h : Rk gp v V m B u l w) (k : St base gp v V m w p1 v1 V1 w1) : Rk gp v1 V1 p1.follow.length B u l w1 :=
  ⟨h.i.keep k.fm.size fun q hq he => k.fm.blk q hq (h.b q he).2.2, fun q hq => have z := h.b q hq; ⟨z.1, Nat.lt_of_lt_of_le z.2.1 k.fm.size, k.free z.2.1 z.2.2⟩⟩
theorem Rk.nil (gp : Nat) (v V : Nat → Value) (m B : Nat) (w : World) : Rk gp v V m B (.slice none 0 0) [] w := ⟨ints_nil w, fun q hq => by simp [Value.ownBlock] at hq⟩
theorem Rk.new {u : Value} {l : List Int} (h0 : Pm base gp v V p w) (ho : w1.ownsRow w.heap.size 3 1 u l.length (l.map (Value.int .i64))) (hl : l.length ≤ 100000) : Rk gp v V p.follow.length w.heap.size u l w1 :=
  ⟨ints_of_own ho (by omega), fun q hq => have k := ho.lt q hq; ⟨k.1, k.2, fun hw => by have := h0.own_lt hw; omega⟩⟩
/-- Another block is written. -/
theorem Rk.wrote {B g : Nat} {u : Value} {l : List Int} (h : Rk gp v V m B u l w) (hs : w.heap.size ≤ w1.heap.size) (hg : u.ownBlock ≠ some g) (hb : ∀ q, q ≠ g → w1.heap[q]? = w.heap[q]?) : Rk gp v V m B u l w1 :=
  ⟨h.i.keep hs fun q _ he => hb q (fun e => hg (e ▸ he)), fun q hq => have k := h.b q hq; ⟨k.1, Nat.lt_of_lt_of_le k.2.1 hs, k.2.2⟩⟩
end
/-- What layNode leaves. -/
structure NO (base gp : Nat) (v V : Nat → Value) (m : Nat) (w : World) (p' : P) (v' V' : Nat → Value) (fv lv : Value) (f l : List Int) (w' : World) : Prop where
  st : St base gp v V m w p' v' V' w'
  f : Rk gp v' V' p'.follow.length w.heap.size fv f w'
  l : Rk gp v' V' p'.follow.length w.heap.size lv l w'
/-- Writing three cells. -/
theorem three_other (w : World) (g : Nat) (a b c : Value) (k : Nat) (hk : k ≠ g) : (((w.setCell ⟨g, 0, none⟩ a).setCell ⟨g, 1, none⟩ b).setCell ⟨g, 2, none⟩ c).heap[k]? = w.heap[k]? := by
  rw [Below.heap_setCell _ _ _ _ hk, Below.heap_setCell _ _ _ _ hk, Below.heap_setCell _ _ _ _ hk]
theorem three_size (w : World) (g : Nat) (a b c : Value) : (((w.setCell ⟨g, 0, none⟩ a).setCell ⟨g, 1, none⟩ b).setCell ⟨g, 2, none⟩ c).heap.size = w.heap.size := by simp [World.setCell]
/-- inRow's answer. -/
structure IR (w : World) (u1 u2 : Value) (fv lv : Value) (f l : List Int) (w' : World) : Prop where
  f : Ints w' fv f
  l : Ints w' lv l
  fb : ∀ q, fv.ownBlock = some q → u1.ownBlock = some q ∨ (w.heap.size ≤ q ∧ q < w'.heap.size)
  lb : ∀ q, lv.ownBlock = some q → u2.ownBlock = some q ∨ (w.heap.size ≤ q ∧ q < w'.heap.size)
  bl : Below w.heap.size w w'
theorem inRow_any (a1 a2 b1 b2 : Option Addr) (n1 n2 m1 m2 c1 c2 d1 d2 : Nat) (bx b_y : Bool) (x1 x2 y1 y2 : List Int) (w : World) (hx1 : Ints w (.slice a1 n1 c1) x1) (hx2 : Ints w (.slice a2 n2 c2) x2) (hy1 : Ints w (.slice b1 m1 d1) y1) (hy2 : Ints w (.slice b2 m2 d2) y2) (hs1 : x1.length + y1.length ≤ 100000) (hs2 : x2.length + y2.length ≤ 100000) :
    Calls Try.prog 85 #[.agg #[.slice a1 n1 c1, .slice a2 n2 c2, .bool bx], .agg #[.slice b1 m1 d1, .slice b2 m2 d2, .bool b_y]] w fun e w' => ∃ o1 k1 e1 o2 k2 e2, e = .returned (.agg #[.slice o1 k1 e1, .slice o2 k2 e2, .bool (bx && b_y)]) ∧ IR w (.slice a1 n1 c1) (.slice b2 m2 d2) (.slice o1 k1 e1) (.slice o2 k2 e2) (if bx then x1 ++ y1 else x1) (if b_y then x2 ++ y2 else y2) w' := by
  cases bx with
  | false =>
    cases b_y with
    | false =>
      refine (inRow_ff a1 a2 b1 b2 n1 n2 m1 m2 c1 c2 d1 d2 w).mono ?_
      rintro _ w' ⟨rfl, hb⟩
      exact ⟨_, _, _, _, _, _, rfl, hx1.below hb, hy2.below hb, fun q hq => Or.inl hq, fun q hq => Or.inl hq, hb⟩
    | true =>
      refine (inRow_ft a1 a2 b1 b2 n1 n2 m1 m2 c1 c2 d1 d2 w x2 y2 hx2 hy2 hs2).mono ?_
      rintro _ w' ⟨o2, k2, e2, rfl, ho, hb⟩
      exact ⟨_, _, _, _, _, _, rfl, hx1.below hb, ints_of_own ho (by rw [if_pos rfl, List.length_append]; omega), fun q hq => Or.inl hq, fun q hq => Or.inr (ho.lt q hq), hb⟩
  | true =>
    cases b_y with
    | false =>
      refine (inRow_tf a1 a2 b1 b2 n1 n2 m1 m2 c1 c2 d1 d2 w x1 y1 hx1 hy1 hs1).mono ?_
      rintro _ w' ⟨o1, k1, e1, rfl, ho, hb⟩
      exact ⟨_, _, _, _, _, _, rfl, ints_of_own ho (by rw [if_pos rfl, List.length_append]; omega), hy2.below hb, fun q hq => Or.inr (ho.lt q hq), fun q hq => Or.inl hq, hb⟩
    | true =>
      refine (inRow_tt a1 a2 b1 b2 n1 n2 m1 m2 c1 c2 d1 d2 w x1 y1 hx1 hy1 hs1 x2 y2 hx2 hy2 hs2).mono ?_
      rintro _ w' ⟨o1, k1, e1, o2, k2, e2, rfl, ho, ho2, hb⟩
      exact ⟨_, _, _, _, _, _, rfl, ints_of_own ho (by rw [if_pos rfl, List.length_append]; omega), ints_of_own ho2 (by rw [if_pos rfl, List.length_append]; omega), fun q hq => Or.inr (ho.lt q hq), fun q hq => Or.inr (ho2.lt q hq), hb⟩
end Go.Proofs.Ytlmlkpdppkgenaa
