/-
  Spots as keys of a map, held against each other, and taken off the end of a row; a least measure. No function is walked here.
-/
import Derived.Test.YtdnagboonjcehaaSearch
import Derived.Maps.OwnSet
import Derived.Maps.Own
import Derived.DeepKeys4
namespace Go.Proofs.Ytdnagboonjcehaa
open Go.RowKit
open Go.Maps
open Cls Rex

theorem laidOut' : laidOutB Try.prog = true := by kernel_rfl
theorem law62 : Maps.Keyed Try.prog 62 := Maps.Keyed.of_law (deep_law_laid laidOut' (m := 2) (by omega) (of_decide_eq_true (by kernel_rfl)) (by kernel_rfl) (by rw [Try.underlying62]))
theorem zero64 (w : World) : (zeroValue 64).run Try.prog w = .ok (.agg #[]) w := by kernel_rfl
theorem cells62 : Try.prog.cellsOf 62 = 2 := by kernel_rfl
theorem nat_wf (n : Nat) (h : n ≤ 9223372036854775807) : (Lit.int .i64 (n : Int)).wf = true := by
  simp [Lit.wf, IntKind.min, IntKind.max, IntKind.signed, IntKind.bits]; omega
theorem key62 (u : Nat × Nat) (h1 : u.1 ≤ 9223372036854775807) (h2 : u.2 ≤ 9223372036854775807) : ∃ kl, keyOf Try.prog 62 (.agg #[.int .i64 (u.1 : Int), .int .i64 (u.2 : Int)]) = some kl := by
  have hk : Try.prog.keyType 62 = true := by kernel_rfl
  obtain ⟨m, hm⟩ : ∃ m, Try.prog.types.size = m + 1 := ⟨Try.prog.types.size - 1, by have : 0 < Try.prog.types.size := of_decide_eq_true (by kernel_rfl); omega⟩
  unfold keyOf
  rw [Try.underlying62]
  simp only [hk, Bool.true_and]
  rw [if_pos (by simp [Value.formed, Try.underlying62, cells62])]
  rw [hm]
  have e0 : Try.prog.keyLits (m + 1 + 1) 62 (Value.agg #[.int .i64 (u.1 : Int), .int .i64 (u.2 : Int)]).cells.toList = some [.int .i64 (u.1 : Int), .int .i64 (u.2 : Int)] := by
    simp [Program.keyLits, Try.underlying62, Try.underlying3, cells62, cells3, nat_wf _ h1, nat_wf _ h2, Value.cells]
  rw [e0]
  exact ⟨_, rfl⟩
theorem key62_inj {u v : Nat × Nat} {kl : Lit} (h1 : keyOf Try.prog 62 (.agg #[.int .i64 (u.1 : Int), .int .i64 (u.2 : Int)]) = some kl) (h2 : keyOf Try.prog 62 (.agg #[.int .i64 (v.1 : Int), .int .i64 (v.2 : Int)]) = some kl) : u = v := by
  have := law62.inj h1 h2
  simp only [Value.agg.injEq, Array.mk.injEq, List.cons.injEq, Value.int.injEq, true_and, and_true] at this
  exact Prod.ext (by omega) (by omega)
/-- The map's keys are the spots of S. -/
def Seen (D : DataW Unit) (S : List (Nat × Nat)) : Prop := IsMap D ∧ ∀ u kl, keyOf Try.prog 62 (.agg #[.int .i64 (u.1 : Int), .int .i64 (u.2 : Int)]) = some kl → (Maps.has D kl = true ↔ u ∈ S)
theorem Seen.none : Seen (.map []) [] := ⟨⟨[], rfl⟩, fun u kl _ => by simp [Maps.has_eq]⟩
theorem Seen.put {D : DataW Unit} {S : List (Nat × Nat)} (h : Seen D S) {u : Nat × Nat} {kl : Lit} (hk : keyOf Try.prog 62 (.agg #[.int .i64 (u.1 : Int), .int .i64 (u.2 : Int)]) = some kl) : Seen (D.put kl (.agg [])) (u :: S) := by
  refine ⟨?_, fun v kv hv => ?_⟩
  · obtain ⟨es, rfl⟩ := h.1
    exact ⟨_, rfl⟩
  · by_cases e : kv = kl
    · subst e
      rw [key62_inj hv hk]
      simp [Maps.has_put_same h.1 (law62.key hk)]
    · rw [Maps.has_put_other e, h.2 v kv hv]
      have hne : v ≠ u := fun x => by
        subst x
        rw [hk] at hv
        exact e (Option.some.inj hv).symm
      simp [hne]
/-- A row's beginning. -/
theorem own_front {w : World} {B g k m cap : Nat} {xs ys : List Value} (h : w.ownsRow B 62 2 (.slice (some ⟨g, 0, none⟩) m cap) m (xs ++ ys)) (hx : xs.length = k * 2) (hk : k ≤ m) : w.ownsRow B 62 2 (.slice (some ⟨g, 0, none⟩) k cap) k xs := by
  refine ⟨hx, ?_⟩
  rcases h.2 with ⟨h', _⟩ | ⟨g', cap', cur, h', hb, hg, hnc, hcm, hcs, htake⟩
  · simp at h'
  · simp only [Value.slice.injEq, Option.some.injEq, Addr.mk.injEq, and_true, true_and] at h'
    obtain ⟨rfl, rfl⟩ := h'
    refine Or.inr ⟨g, cap, cur, rfl, hb, hg, by omega, hcm, hcs, ?_⟩
    have := congrArg (List.take (k * 2)) htake
    rw [List.take_take, Nat.min_eq_left (by omega), ← hx, List.take_left] at this
    rw [← hx]; exact this
theorem exists_least {P : Nat → Prop} (h : ∃ n, P n) : ∃ n, P n ∧ ∀ m, P m → n ≤ m := by
  obtain ⟨n, hn⟩ := h
  induction n using Nat.strongRecOn with
  | _ n ih =>
    by_cases h : ∃ m, m < n ∧ P m
    · obtain ⟨m, h1, h2⟩ := h
      exact ih m h1 h2
    · exact ⟨n, hn, fun m hm => Nat.le_of_not_lt fun hl => h ⟨m, hl, hm⟩⟩
open Classical in
/-- The least number of which it holds, for a loop whose measure is not read off the world. -/
noncomputable def leastOf (P : Nat → Prop) : Nat := if h : ∃ n, P n then Classical.choose (exists_least h) else 0
theorem leastOf_holds {P : Nat → Prop} (h : ∃ n, P n) : P (leastOf P) := by
  unfold leastOf; rw [dif_pos h]; exact (Classical.choose_spec (exists_least h)).1
theorem leastOf_le {P : Nat → Prop} {n : Nat} (h : P n) : leastOf P ≤ n := by
  have h' : ∃ n, P n := ⟨n, h⟩
  unfold leastOf; rw [dif_pos h']; exact (Classical.choose_spec (exists_least h')).2 n h
theorem guard62 : Try.prog.eqGuardType Try.prog.depth 62 = false := by kernel_rfl
end Go.Proofs.Ytdnagboonjcehaa
