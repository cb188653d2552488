/-
  The plain mathematics of places: what places.Make lays, node by node: the classes, what may come behind, with what a text may begin and end.
-/
import Derived.Test.YtlmlkpdppkgenaaTree
import Derived.Test.YtlmlkpdppkgenaaPo
import Derived.Lib.SlicesCompact
namespace Go.Proofs.Ytlmlkpdppkgenaa.Pm
open Cls Rex

/-- With which places a text may begin and end, and whether it may be empty. -/
structure E where
  first : List Int
  last : List Int
  empty : Bool
/-- What has been laid: the classes, and what may come behind each. -/
structure S where
  cls : List Cl
  fol : List (List Int)
/-- In order, none twice. -/
def norm (l : List Int) : List Int := Go.Lib.compact (l.mergeSort fun x y => decide (x ≤ y))
/-- Each of 'to' may come behind each of 'from'. -/
def link (to : List Int) : List Int → List (List Int) → List (List Int)
  | [], f => f
  | p :: l, f => link to l (f.set p.toNat (norm (f.getD p.toNat [] ++ to)))
def inRow (x y : E) : E := ⟨if x.empty then x.first ++ y.first else x.first, if y.empty then x.last ++ y.last else y.last, x.empty && y.empty⟩
/-- A node, of what its Kids are. -/
def comb (k : Int) (c : Cl) (es : List E) (s : S) : E × S :=
  if k = 2 then (⟨[], [], true⟩, s)
  else if k = 3 then (⟨[(s.cls.length : Int)], [(s.cls.length : Int)], false⟩, ⟨s.cls ++ [c], s.fol ++ [[]]⟩)
  else if k = 4 then (match es with | [x, y] => (inRow x y, ⟨s.cls, link y.first x.last s.fol⟩) | _ => (⟨[], [], false⟩, s))
  else if k = 5 then (match es with | [x, y] => (⟨x.first ++ y.first, x.last ++ y.last, x.empty || y.empty⟩, s) | _ => (⟨[], [], false⟩, s))
  else if k = 6 then (match es with | [x] => (⟨x.first, x.last, true⟩, ⟨s.cls, link x.first x.last s.fol⟩) | _ => (⟨[], [], false⟩, s))
  else (⟨[], [], false⟩, s)
mutual
def lay : T → S → E × S
  | .mk k c l, s => comb k c (layL l s).1 (layL l s).2
def layL : List T → S → List E × S
  | [], s => ([], s)
  | t :: l, s => ((lay t s).1 :: (layL l (lay t s).2).1, (layL l (lay t s).2).2)
end
theorem link_length (to : List Int) : ∀ (l : List Int) (f : List (List Int)), (link to l f).length = f.length
  | [], f => rfl
  | p :: l, f => by rw [link, link_length to l]; simp
/-- All places are of this one. -/
def In (n m : Nat) (l : List Int) : Prop := ∀ x ∈ l, (n : Int) ≤ x ∧ x < (m : Int)
theorem In.append {n m : Nat} {l k : List Int} (h : In n m l) (g : In n m k) : In n m (l ++ k) := fun x hx => (List.mem_append.1 hx).elim (h x) (g x)
theorem In.mono {n m n' m' : Nat} {l : List Int} (h : In n m l) (h1 : n' ≤ n) (h2 : m ≤ m') : In n' m' l := fun x hx => by have := h x hx; omega
theorem In.nil (n m : Nat) : In n m [] := fun x hx => by simp at hx
/-- What is right at every moment. -/
def Ok (s : S) : Prop := s.fol.length = s.cls.length
/-- A node's places are new ones; each node adds one at most. -/
structure Gd (t : Nat) (s : S) (e : E) (s' : S) : Prop where
  ok : Ok s'
  le : s.cls.length ≤ s'.cls.length
  few : s'.cls.length ≤ s.cls.length + t
  first : In s.cls.length s'.cls.length e.first
  last : In s.cls.length s'.cls.length e.last
mutual
theorem lay_good : ∀ (t : T) (s : S), Ok s → Gd t.sz s (lay t s).1 (lay t s).2
  | .mk k c l, s, h => by
    obtain ⟨g1, g2, g3, g4⟩ := layL_good l s h
    rw [lay, T.sz]
    unfold comb
    split
    · exact ⟨g1, g2, by simp; omega, In.nil _ _, In.nil _ _⟩
    · split
      · refine ⟨by unfold Ok at *; simp; omega, by simp; omega, by simp; omega, fun x hx => ?_, fun x hx => ?_⟩ <;> · simp at hx; subst hx; simp; omega
      · split
        · split
          · rename_i x y he
            have hx := g4 x (by rw [he]; simp)
            have hy := g4 y (by rw [he]; simp)
            refine ⟨by unfold Ok at *; simp only; rw [link_length]; exact g1, g2, by simp; omega, ?_, ?_⟩
            · simp only [inRow]; split
              · exact hx.1.append hy.1
              · exact hx.1
            · simp only [inRow]; split
              · exact hx.2.append hy.2
              · exact hy.2
          · exact ⟨g1, g2, by simp; omega, In.nil _ _, In.nil _ _⟩
        · split
          · split
            · rename_i x y he
              have hx := g4 x (by rw [he]; simp)
              have hy := g4 y (by rw [he]; simp)
              exact ⟨g1, g2, by simp; omega, hx.1.append hy.1, hx.2.append hy.2⟩
            · exact ⟨g1, g2, by simp; omega, In.nil _ _, In.nil _ _⟩
          · split
            · split
              · rename_i x he
                have hx := g4 x (by rw [he]; simp)
                exact ⟨by unfold Ok at *; simp only; rw [link_length]; exact g1, g2, by simp; omega, hx.1, hx.2⟩
              · exact ⟨g1, g2, by simp; omega, In.nil _ _, In.nil _ _⟩
            · exact ⟨g1, g2, by simp; omega, In.nil _ _, In.nil _ _⟩
theorem layL_good : ∀ (l : List T) (s : S), Ok s → Ok (layL l s).2 ∧ s.cls.length ≤ (layL l s).2.cls.length ∧ (layL l s).2.cls.length ≤ s.cls.length + szL l ∧ ∀ e ∈ (layL l s).1, In s.cls.length (layL l s).2.cls.length e.first ∧ In s.cls.length (layL l s).2.cls.length e.last
  | [], s, h => by rw [layL, szL]; exact ⟨h, by simp, by simp, fun e he => by simp at he⟩
  | t :: l, s, h => by
    have g := lay_good t s h
    obtain ⟨k1, k2, k3, k4⟩ := layL_good l (lay t s).2 g.ok
    have g2 := g.le
    have g3 := g.few
    rw [layL, szL]
    refine ⟨k1, by simp only; omega, by simp only; omega, fun e he => ?_⟩
    simp only [List.mem_cons] at he
    rcases he with rfl | he
    · exact ⟨g.first.mono (Nat.le_refl _) k2, g.last.mono (Nat.le_refl _) k2⟩
    · exact ⟨(k4 e he).1.mono g2 (Nat.le_refl _), (k4 e he).2.mono g2 (Nat.le_refl _)⟩
end
/-- A rule is added. -/
def rule (p : Po.P) (i : Nat) (t : T) : Po.P :=
  ⟨(lay t ⟨p.cls, p.follow⟩).2.cls, p.rules ++ List.replicate ((lay t ⟨p.cls, p.follow⟩).2.cls.length - p.cls.length) (i : Int), p.first ++ (lay t ⟨p.cls, p.follow⟩).1.first, (lay t ⟨p.cls, p.follow⟩).2.fol,
    (lay t ⟨p.cls, p.follow⟩).1.last.foldl (fun b x => b.set x.toNat true) (p.last ++ List.replicate ((lay t ⟨p.cls, p.follow⟩).2.cls.length - p.cls.length) false), p.empty ++ [(lay t ⟨p.cls, p.follow⟩).1.empty]⟩
def rules : List T → Nat → Po.P → Po.P
  | [], _, p => p
  | t :: l, i, p => rules l (i + 1) (rule p i t)
end Go.Proofs.Ytlmlkpdppkgenaa.Pm
