/-
  Rules that are handed in; what Make is to make of them, plainly; a Posn that is made, seen as one that is handed in. No function is walked here.
-/
import Derived.Test.YtlmlkpdppkgenaaPmRule
namespace Go.Proofs.Ytlmlkpdppkgenaa
open Go.ChangeShapes Go.WideShapes Go.ChangeAt Go.RowKit
open Cls Po Rex

/-- A value is a slice of these trees. -/
def Rxs (w : World) (B : Nat) (v : Value) (ts : List T) : Prop :=
  ∃ ao cap, ∃ vals : Nat → Value, v = .slice ao ts.length cap ∧ ts.length ≤ 9223372036854775807 ∧ (ts = [] ∨ ∃ b o, ao = some ⟨b, o, none⟩ ∧ b < B ∧ ∀ i, i < ts.length → ∀ j, j < 6 → w.cell? ⟨b, o + i * 6 + j, none⟩ = (vals i).cells[j]?) ∧ ∀ i (hi : i < ts.length), Rx w B (vals i) ts[i]
theorem Rxs.next {w w' : World} {B : Nat} {v : Value} {ts : List T} (h : Rxs w B v ts) (hb : Below B w w') : Rxs w' B v ts := by
  obtain ⟨ao, cap, vals, hv, hm, hc, hr⟩ := h
  refine ⟨ao, cap, vals, hv, hm, ?_, fun i hi => (hr i hi).next hb⟩
  rcases hc with h | ⟨b, o, h1, h2, h3⟩
  · exact Or.inl h
  · exact Or.inr ⟨b, o, h1, h2, fun i hi j hj => (hb.cell (p := ⟨b, o + i * 6 + j, none⟩) h2).trans (h3 i hi j hj)⟩
theorem Rxs.wide {w : World} {B B' : Nat} {v : Value} {ts : List T} (h : Rxs w B v ts) (hB : B ≤ B') : Rxs w B' v ts := by
  obtain ⟨ao, cap, vals, hv, hm, hc, hr⟩ := h
  refine ⟨ao, cap, vals, hv, hm, ?_, fun i hi => (hr i hi).wide hB⟩
  rcases hc with h | ⟨b, o, h1, h2, h3⟩
  · exact Or.inl h
  · exact Or.inr ⟨b, o, h1, Nat.lt_of_lt_of_le h2 hB, h3⟩
/-- One of them. -/
theorem Rxs.at {w : World} {B : Nat} {v : Value} {ts : List T} (h : Rxs w B v ts) {i : Nat} (hi : i < ts.length) : ∃ (b o cap : Nat) (k : Int) (c : Cl) (a : Option Addr) (n p : Nat), v = .slice (some ⟨b, o, none⟩) ts.length cap ∧ b < B ∧ Rx w B (.agg #[.int .i64 k, .int .u64 (c.1.toNat : Int), .int .u64 (c.2.1.toNat : Int), .int .u64 (c.2.2.1.toNat : Int), .int .u64 (c.2.2.2.toNat : Int), .slice a n p]) ts[i] ∧ w.cell? ⟨b, o + i * 6, none⟩ = some (.int .i64 k) ∧ w.cell? ⟨b, o + i * 6 + 1, none⟩ = some (.int .u64 (c.1.toNat : Int)) ∧ w.cell? ⟨b, o + i * 6 + 2, none⟩ = some (.int .u64 (c.2.1.toNat : Int)) ∧ w.cell? ⟨b, o + i * 6 + 3, none⟩ = some (.int .u64 (c.2.2.1.toNat : Int)) ∧ w.cell? ⟨b, o + i * 6 + 4, none⟩ = some (.int .u64 (c.2.2.2.toNat : Int)) ∧ w.cell? ⟨b, o + i * 6 + 5, none⟩ = some (.slice a n p) := by
  obtain ⟨ao, cap, vals, hv, hm, hc, hr⟩ := h
  rcases hc with h | ⟨b, o, h1, h2, h3⟩
  · subst h; simp at hi
  · obtain ⟨k, c, a, n, p, e, q⟩ := kid_cells (hr i hi) (h3 i hi)
    refine ⟨b, o, cap, k, c, a, n, p, by rw [hv, h1], h2, ?_, q⟩
    rw [← e]; exact hr i hi
variable {H : Type} {enc : TypeId × Value → H}
namespace Pm
/-- What is wrong with the first rule that is wrong. -/
def errL : List T → Nat
  | [] => 0
  | t :: l => if rerr t = 0 then errL l else rerr t
theorem errL_at {ts : List T} {k : Nat} (h : k < ts.length) : errL (ts.drop k) = if rerr ts[k] = 0 then errL (ts.drop (k + 1)) else rerr ts[k] := by
  rw [List.drop_eq_getElem_cons h]; rfl
theorem errL_all : ∀ {ts : List T}, errL ts = 0 → ∀ t ∈ ts, rerr t = 0
  | t :: l, h, s, hs => by
    unfold errL at h
    split at h
    · rename_i h0
      rcases List.mem_cons.1 hs with rfl | hs
      · exact h0
      · exact errL_all h s hs
    · rename_i h0; exact absurd h h0
/-- The right trees of rules that are right. -/
structure Rts (ts : List T) (xs : List Rex.E) : Prop where
  len : xs.length = ts.length
  is : ∀ i (hi : i < ts.length) (hi2 : i < xs.length), Is ts[i] xs[i]
  few : ∀ x ∈ xs, x.nodes ≤ 100
def tot (l : List Rex.E) : Nat := (l.map Rex.E.nodes).sum
theorem tot_le : ∀ {l : List Rex.E}, (∀ x ∈ l, x.nodes ≤ 100) → tot l ≤ l.length * 100
  | [], _ => by simp [tot]
  | x :: l, h => by
    have h1 := h x (by simp)
    have h2 := tot_le (l := l) fun y hy => h y (by simp [hy])
    simp only [tot, List.map_cons, List.sum_cons, List.length_cons] at *
    omega
theorem tot_drop {l : List Rex.E} {k : Nat} (h : k < l.length) : tot (l.drop k) = l[k].nodes + tot (l.drop (k + 1)) := by
  rw [List.drop_eq_getElem_cons h]; simp only [tot, List.map_cons, List.sum_cons]
theorem rulesX_app (l : List Rex.E) (x : Rex.E) : ∀ (i : Nat) (p : Po.P), rulesX (l ++ [x]) i p = ruleX (rulesX l i p) ((i + l.length : Nat) : Int) x := by
  induction l with
  | nil => intro i p; rfl
  | cons y l ih => intro i p; show rulesX (l ++ [x]) (i + 1) _ = _; rw [ih]; simp only [rulesX, List.length_cons]; congr 2; omega
theorem rulesX_take (l : List Rex.E) (k : Nat) (h : k < l.length) (p : Po.P) : rulesX (l.take (k + 1)) 0 p = ruleX (rulesX (l.take k) 0 p) (k : Int) l[k] := by
  rw [List.take_succ_eq_append_getElem h, rulesX_app]
  simp only [List.length_take, Nat.zero_add]
  rw [Nat.min_eq_left (by omega)]
def p00 : Po.P := ⟨[], [], [], [], [], []⟩
theorem rdr_zero {n : Nat} (h : n ≤ 3000) : Rdr p00 n :=
  ⟨⟨rfl, rfl, rfl, by simp [p00]; omega, fun l hl => by simp [p00] at hl, by simp [p00], by simp [p00]⟩, by simp [p00]; omega, by simp [p00]; omega⟩
theorem rdr_take {l : List Rex.E} (h : ∀ x ∈ l, x.nodes ≤ 100) (hl : l.length ≤ 20) : ∀ k, k ≤ l.length → Rdr (rulesX (l.take k) 0 p00) (tot (l.drop k))
  | 0, _ => rdr_zero (by have := tot_le h; simp only [List.drop_zero]; omega)
  | k + 1, hk => by
    rw [rulesX_take l k (by omega)]
    have := rdr_take h hl k (by omega)
    rw [tot_drop (by omega)] at this
    exact this.next _
end Pm
theorem pm_zero (w : World) (gp : Nat) (hb : w.heap[gp]? = some (.cells #[.slice none 0 0, .slice none 0 0, .slice none 0 0, .slice none 0 0, .slice none 0 0, .slice none 0 0] 27)) (hs : w.heap.size = gp + 1) : Pm (gp + 1) gp (fun _ => .slice none 0 0) (fun _ => .slice none 0 0) Pm.p00 w := by
  refine ⟨⟨_, hb, rfl, fun i hi => ?_⟩, fun f hf => ?_, fun i hi => by simp [Pm.p00] at hi, fun f g _ _ _ q hq => by simp [Value.ownBlock] at hq, fun f i _ hi => by simp [Pm.p00] at hi, fun i j hi => by simp [Pm.p00] at hi, by omega, by omega⟩
  · have : i = 0 ∨ i = 1 ∨ i = 2 ∨ i = 3 ∨ i = 4 ∨ i = 5 := by omega
    rcases this with rfl | rfl | rfl | rfl | rfl | rfl <;> rfl
  · have : f = 0 ∨ f = 1 ∨ f = 2 ∨ f = 3 ∨ f = 4 ∨ f = 5 := by omega
    rcases this with rfl | rfl | rfl | rfl | rfl | rfl <;> exact World.ownsRow_nil _ _ _ _
end Go.Proofs.Ytlmlkpdppkgenaa
