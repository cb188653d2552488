/-
  That atom and group go on within the text; alt, for each number of open brackets.
-/
import Derived.Test.YthloedfiomfnbaaPaAtom
namespace Go.Proofs.Ythloedfiomfnbaa
open Go.RowKit
open Cls Txt Rex

theorem setE_at {s : ByteArray} {i : Nat} (o : Bool) {r : Cl × Nat × Nat} (h1 : i ≤ r.2.1) (h2 : r.2.1 ≤ s.size) (h3 : r.2.2 = 0 → bt s r.2.1 = 93) : i ≤ (setE o r).2.2.1 ∧ (setE o r).2.2.1 ≤ s.size ∧ ((setE o r).2.2.2 = 0 → i < (setE o r).2.2.1) := by
  unfold setE
  split
  · rename_i h
    exact ⟨h1, h2, fun e => absurd e h⟩
  · rename_i h
    have he : r.2.2 = 0 := Classical.byContradiction h
    have hlt := bt_is (h3 he) (by decide)
    cases o
    · simp only [Bool.false_eq_true, if_false]
      split <;> exact ⟨by simp only; omega, hlt, fun _ => by simp only; omega⟩
    · simp only [if_true]
      split
      · exact ⟨h1, h2, fun e => by simp at e⟩
      · exact ⟨by simp only; omega, hlt, fun _ => by simp only; omega⟩
theorem setR_at (s : ByteArray) (i : Nat) (hi : i ≤ s.size) : i ≤ (setR s i).2.2.1 ∧ (setR s i).2.2.1 ≤ s.size ∧ ((setR s i).2.2.2 = 0 → i < (setR s i).2.2.1) := by
  unfold setR
  split
  · rename_i h
    have hlt := bt_is h (by decide)
    have := itemsR_rd s (s.size + 1) (i + 1) Cls.empty hlt (by omega)
    have g := setE_at (s := s) (i := i + 1) true this.1 this.2.1 this.2.2.2
    exact ⟨by omega, g.2.1, fun e => by have := g.2.2 e; omega⟩
  · have := itemsR_rd s (s.size + 1) i Cls.empty hi (by omega)
    exact setE_at (s := s) (i := i) false this.1 this.2.1 this.2.2.2
theorem groupR_at {s : ByteArray} {kn : Nat} {A : Nat → Res} (hA : Goes s A) (i : Nat) (hi : i < s.size) : i ≤ (groupR s kn A i).2.1 ∧ (groupR s kn A i).2.1 ≤ s.size ∧ ((groupR s kn A i).2.2 = 0 → i < (groupR s kn A i).2.1) := by
  unfold groupR
  split
  · exact ⟨by simp, by simp only; omega, fun e => by simp at e⟩
  · split
    · rename_i h
      have := bt_is h (by decide)
      exact ⟨by simp, by simp only; omega, fun _ => by simp⟩
    · have h := hA (i + 1) hi
      split
      · rename_i he
        exact ⟨by omega, h.2.1, fun e => absurd e he⟩
      · rename_i he
        have he : (A (i + 1)).2.2 = 0 := Classical.byContradiction he
        have hl := h.2.2 he
        split
        · rename_i hb
          have := bt_is hb (by decide)
          exact ⟨by simp only; omega, by simp only; omega, fun _ => by simp only; omega⟩
        · exact ⟨by simp only; omega, h.2.1, fun e => by simp at e⟩
theorem atomR_goes {s : ByteArray} {kn : Nat} {A : Nat → Res} (hA : Goes s A) : Goes s (atomR s (groupR s kn A)) := fun i hi => by
  unfold atomR
  split
  · rename_i h
    exact groupR_at hA i (bt_is h (by decide))
  · split
    · rename_i h
      have g := setR_at s (i + 1) (bt_is h (by decide))
      exact ⟨by simp only; omega, g.2.1, fun e => by have := g.2.2 e; simp only; omega⟩
    · split
      · rename_i h
        have := bt_is h (by decide)
        exact ⟨by simp, by simp only; omega, fun _ => by simp⟩
      · have g := charR_rd s i hi
        exact ⟨g.lo, g.hi, g.up⟩
/-- What alt reads, where d brackets more may be opened. -/
def altN (s : ByteArray) : Nat → Nat → Res
  | 0 => altR s (catR s (repR s (atomR s (groupR s 30 (fun i => (.mk 0 empty [], i, 7))))))
  | d + 1 => altR s (catR s (repR s (atomR s (groupR s (30 - (d + 1)) (altN s d)))))
theorem altN_goes (s : ByteArray) : ∀ d, Goes s (altN s d)
  | 0 => altR_goes (catR_goes (repR_goes (atomR_goes (fun i hi => ⟨Nat.le_refl _, hi, fun e => by simp at e⟩))))
  | d + 1 => altR_goes (catR_goes (repR_goes (atomR_goes (altN_goes s d))))
/-- If rep does what it is to do, alt does. -/
theorem alt_all (s : ByteArray) (hs : s.size ≤ 300) (hrep : ∀ (k : Value) (A : Nat → Res), Goes s A → PC 67 s k A → PC 52 s k (repR s A)) : ∀ d : Nat, d ≤ 30 → PC 26 s (.int .i64 ((30 : Int) - (d : Int))) (altN s d)
  | 0, _ => by
    have ha : Goes s (fun i => ((.mk 0 empty [], i, 7) : Res)) := fun i hi => ⟨Nat.le_refl _, hi, fun e => by simp at e⟩
    have hg := group_any s hs 30 (by omega) _ ha (fun h => by omega)
    have h1 := atom_any s hs _ _ hg
    have h2 := hrep _ _ (atomR_goes ha) h1
    have h3 := cat_any s hs _ _ (repR_goes (atomR_goes ha)) h2
    exact alt_any s hs _ _ (catR_goes (repR_goes (atomR_goes ha))) h3
  | d + 1, hd => by
    have ih := alt_all s hs hrep d (by omega)
    have e1 : ((30 - (d + 1) : Nat) : Int) = (30 : Int) - ((d + 1 : Nat) : Int) := by omega
    have e2 : ((30 - (d + 1) : Nat) : Int) + 1 = (30 : Int) - (d : Int) := by omega
    have hg := group_any s hs (30 - (d + 1)) (by omega) _ (altN_goes s d) (fun _ => by rw [e2]; exact ih)
    rw [e1] at hg
    have h1 := atom_any s hs _ _ hg
    have h2 := hrep _ _ (atomR_goes (altN_goes s d)) h1
    have h3 := cat_any s hs _ _ (repR_goes (atomR_goes (altN_goes s d))) h2
    exact alt_any s hs _ _ (catR_goes (repR_goes (atomR_goes (altN_goes s d)))) h3
end Go.Proofs.Ythloedfiomfnbaa
