/-
  What dfa.Make and pushref.Dfa leave is told by the Posn alone.
-/
import Derived.Test.YtlmlkpdppkgenaaDrDfa
import Derived.Test.YtlmlkpdppkgenaaDfPkEqs
namespace Go.Proofs.Ytlmlkpdppkgenaa
open Go.RowKit
open Cls Po Dm

theorem balloc1 (W : World) (o : Obj) : Below W.heap.size W (W.alloc o) := (Below.refl _ _).alloc (Nat.le_refl _) o
theorem rw_none (W : World) : Df.Rw W (.slice none 0 0) 0 (fun _ _ => 0) := ⟨none, 0, rfl, by omega, fun _ _ => by simp, Or.inl rfl⟩
theorem ts_none (W : World) : Df.Ts W (.slice none 0 0) 0 (fun _ => 0) := ⟨none, 0, rfl, by omega, fun _ => by simp, Or.inl rfl⟩
theorem mkp_one (p : P) : ∃ (z : Int) (n : Nat) (R : Nat → Nat → Int) (T : Nat → Int), ∀ w e w', MkP p w e w' → ∃ xo xc yo yc, e = .returned (.tuple #[.agg #[.slice xo n xc, .slice yo n yc], .int .i64 z]) ∧ Df.Rw w' (.slice xo n xc) n R ∧ Df.Ts w' (.slice yo n yc) n T ∧ Below w.heap.size w w' := by
  by_cases h : ∃ k, Dm.End p k ∧ 200 < (G p k).length
  · obtain ⟨k, he, hk⟩ := h
    refine ⟨8, 0, fun _ _ => 0, fun _ => 0, ?_⟩
    rintro w e w' ⟨k', he', ⟨h1, rfl⟩ | ⟨h1, h2, -⟩, hb⟩
    · exact ⟨none, 0, none, 0, rfl, rw_none _, ts_none _, hb⟩
    · obtain rfl := end_one he he'
      omega
  · by_cases g : ∃ k, Dm.End p k ∧ (G p k).length = k
    · obtain ⟨k, he, hk⟩ := g
      refine ⟨0, k, rowF p (G p k), tagF p (G p k), ?_⟩
      rintro w e w' ⟨k', he', ⟨h1, rfl⟩ | ⟨h1, h2, rb, rc, tb, tc, rfl, hr, ht⟩, hb⟩
      · exact absurd ⟨k', he', h1⟩ h
      · obtain rfl := end_one he he'
        exact ⟨_, _, _, _, rfl, hr, ht, hb⟩
    · refine ⟨0, 0, fun _ _ => 0, fun _ => 0, ?_⟩
      rintro w e w' ⟨k', he', ⟨h1, rfl⟩ | ⟨h1, h2, -⟩, hb⟩
      · exact absurd ⟨k', he', h1⟩ h
      · exact absurd ⟨k', he', h1⟩ g
end Go.Proofs.Ytlmlkpdppkgenaa
