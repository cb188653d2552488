/-
  The contracts of the closure of facts.followers and of facts.followers.
-/
import Derived.Test.YtmcmidfpglhnmaaFcReach
namespace Go.Proofs.Ytmcmidfpglhnmaa
open Go.RowKit
open Cg

/-- When q symbols of a production's body are looked at. -/
structure FS (ps : List Pd) (n : Nat) (E : Nat → Bool) (F : Nat → Wd) (l : List Sy) (h : Nat) (V : Nat → Wd) (q : Nat) (r : Bool) (V' : Nat → Wd) : Prop where
  up : ∀ i, le (V i) (V' i)
  yes : r = true → muW n V' < muW n V
  no : r = false → V' = V ∧ ∀ j (hj : j < l.length), j < q → l[j].1 = 2 → le (bg E F (l.drop (j + 1)) (V h)) (V l[j].2.toNat)
  sn : ∀ p ∈ ps, p.2 = l → p.1.toNat = h → SnW ps E F V → SnW ps E F V'
variable {ps : List Pd} {n : Nat} {E : Nat → Bool} {F : Nat → Wd} {l : List Sy} {h : Nat} {V V' : Nat → Wd} {q : Nat} {r : Bool}
theorem FS.start : FS ps n E F l h V 0 false V :=
  ⟨fun _ => le_refl _, fun e => (by cases e), fun _ => ⟨rfl, fun j _ h => absurd h (Nat.not_lt_zero _)⟩, fun _ _ _ _ h => h⟩
theorem FS.keep (k : FS ps n E F l h V q r V') (hq : q < l.length) (h2 : l[q].1 ≠ 2) : FS ps n E F l h V (q + 1) r V' :=
  ⟨k.up, k.yes, fun e => ⟨(k.no e).1, fun j hj h1 h3 => (k.no e).2 j hj (by
    have : j ≠ q := fun e => by subst e; exact h2 h3
    omega) h3⟩, k.sn⟩
theorem FS.same (k : FS ps n E F l h V q r V') (hq : q < l.length) (hs : V' l[q].2.toNat ||| bg E F (l.drop (q + 1)) (V' h) = V' l[q].2.toNat) : FS ps n E F l h V (q + 1) r V' :=
  ⟨k.up, k.yes, fun e => ⟨(k.no e).1, fun j hj h1 h3 => by
    by_cases ej : j = q
    · subst ej; have := le_of_same hs; rw [(k.no e).1] at this; exact this
    · exact (k.no e).2 j hj (by omega) h3⟩, k.sn⟩
theorem FS.put (k : FS ps n E F l h V q r V') (hq : q < l.length) (h2 : l[q].1 = 2) (hm : l[q].2.toNat < n) (hs : V' l[q].2.toNat ||| bg E F (l.drop (q + 1)) (V' h) ≠ V' l[q].2.toNat) : FS ps n E F l h V (q + 1) true (upd V' l[q].2.toNat (V' l[q].2.toNat ||| bg E F (l.drop (q + 1)) (V' h))) := by
  refine ⟨fun i => le_trans (k.up i) (le_upd _ _ i), fun _ => ?_, fun e => (by cases e), ?_⟩
  · have h1 := muW_put hm hs
    have h3 := muW_le (n := n) k.up
    omega
  · rintro p hp rfl rfl hV
    exact snW_put hp hq h2 (k.sn p hp rfl rfl hV)
theorem syms_drop {W : World} {b o : Nat} {cap : Nat} {l : List Sy} (hs : Syms W (.slice (some ⟨b, o, none⟩) l.length cap) l) (k : Nat) : Syms W (.slice (if cap = k then some ⟨b, o, none⟩ else some ⟨b, o + k * 2, none⟩) (l.length - k) (cap - k)) (l.drop k) := by
  obtain ⟨ao', cap', e, hm, hc⟩ := hs
  cases e
  refine ⟨_, _, by rw [List.length_drop], by simp; omega, ?_⟩
  by_cases hk : k < l.length
  · obtain ⟨b', o', eb, hb, hcc⟩ := hc.resolve_left (by intro e; subst e; simp at hk)
    cases eb
    right
    rw [if_neg (by omega)]
    refine ⟨b, o + k * 2, rfl, hb, fun i hi => ?_⟩
    have := hcc (k + i) (by simp at hi; omega)
    rw [List.getElem_drop]
    rw [show o + k * 2 + i * 2 = o + (k + i) * 2 by omega]
    exact this
  · left; exact List.drop_of_length_le (by omega)
def WOut (ps : List Pd) (E : Nat → Bool) (F : Nat → Wd) (b n : Nat) (l : List Sy) (h : Nat) (V : Nat → Wd) (w : World) (r : Bool) (w' : World) : Prop := ∃ V', Fm (fun k => k = b) w w' ∧ Rw w' b n V' ∧ FS ps n E F l h V l.length r V'
end Go.Proofs.Ytmcmidfpglhnmaa
