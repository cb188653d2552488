/-
  The contract of the document's own answer: pushref.RightPacked.
-/
import Derived.Test.YtlgcggfenljdnaaPkCheck
namespace Go.Proofs.Ytlgcggfenljdnaa
open Go.RowKit
open Dfa

theorem Nx.cells {w : World} {b o n cap : Nat} {L : Nat → Nat} {X : Nat → Nat → Int} (h : Nx w (.slice (some ⟨b, o, none⟩) n cap) n L X) (i : Nat) (hi : i < n) :
    ∃ a c, w.cell? ⟨b, o + i, none⟩ = some (.slice a (L i) c) ∧ L i ≤ 9223372036854775807 ∧ Ts w (.slice a (L i) c) (L i) (X i) := by
  obtain ⟨ao, cap, e, -, h | ⟨b', o', e', -, hc⟩⟩ := h
  · omega
  · subst e'
    simp at e
    obtain ⟨⟨rfl, rfl⟩, -⟩ := e
    obtain ⟨u, g, hu⟩ := hc i hi
    have hu' := hu
    obtain ⟨a, c, rfl, hl, -⟩ := hu
    exact ⟨a, c, g, hl, hu'⟩
theorem Ts.cells {w : World} {b o n cap : Nat} {T : Nat → Int} (h : Ts w (.slice (some ⟨b, o, none⟩) n cap) n T) (i : Nat) (hi : i < n) : w.cell? ⟨b, o + i, none⟩ = some (.int .i64 (T i)) := by
  obtain ⟨ao, cap, e, -, -, h | ⟨b', o', e', -, hc⟩⟩ := h
  · omega
  · subst e'
    simp at e
    obtain ⟨⟨rfl, rfl⟩, -⟩ := e
    exact hc i hi
theorem Ts.place {w : World} {a : Option Addr} {n cap : Nat} {T : Nat → Int} (h : Ts w (.slice a n cap) n T) (h0 : 0 < n) : ∃ b o, a = some ⟨b, o, none⟩ ∧ b < w.heap.size := by
  obtain ⟨ao, cap, e, -, -, h | ⟨b', o', e', hb, hc⟩⟩ := h
  · omega
  · simp at e
    exact ⟨b', o', e.1.trans e', hb⟩
theorem Nx.place {w : World} {a : Option Addr} {n cap : Nat} {L : Nat → Nat} {X : Nat → Nat → Int} (h : Nx w (.slice a n cap) n L X) (h0 : 0 < n) : ∃ b o, a = some ⟨b, o, none⟩ ∧ b < w.heap.size := by
  obtain ⟨ao, cap, e, -, h | ⟨b', o', e', hb, hc⟩⟩ := h
  · omega
  · simp at e
    exact ⟨b', o', e.1.trans e', hb⟩
theorem Px.drew {w0 : World} {g : Nat} {O : Nat → Nat} {nv tv : Value} {n m : Nat} {L : Nat → Nat} {X : Nat → Nat → Int} {T : Nat → Int} {l : List Value} {w : World} (h : Px w0 g O nv tv n m L X T l w) (k : Nat) : Px w0 g O nv tv n m L X T l (w.drewN k) :=
  h.step (below_drewN (Below.refl _ _) k)

end Go.Proofs.Ytlgcggfenljdnaa
