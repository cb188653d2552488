/-
  The plain mathematics of tokens that come piece by piece: what is certain; what is told behind a byte, and behind all of them.
-/
import Derived.Test.YtcdnbkfjiigdmaaLxMath
namespace Go.Proofs.Ytcdnbkfjiigdmaa.Dfa

/-- The state behind a text; none: nowhere. -/
def en (R : Nat → Nat → Int) : Nat → List UInt8 → Option Nat
  | q, [] => some q
  | q, b :: l => if R q b.toNat < 0 then none else en R (R q b.toNat).toNat l
/-- Does nothing lead on from a state? -/
def dead (L : Nat → Nat) (X : Nat → Nat → Int) (q : Nat) : Bool := (List.range (L q)).all fun t => decide (X q t < 0)
def stkOf (L : Nat → Nat) (X : Nat → Nat → Int) : Option Nat → Bool
  | none => true
  | some q => dead L X q
/-- Is the token at the front of a text certain? -/
def stk (R : Nat → Nat → Int) (L : Nat → Nat) (X : Nat → Nat → Int) (l : List UInt8) : Bool := stkOf L X (en R 0 l)
theorem dead_true {L : Nat → Nat} {X : Nat → Nat → Int} {q : Nat} (h : ∀ t, t < L q → X q t < 0) : dead L X q = true := List.all_eq_true.2 fun t ht => by simpa using h t (by simpa using ht)
theorem dead_false {L : Nat → Nat} {X : Nat → Nat → Int} {q t : Nat} (h : t < L q) (h2 : ¬ X q t < 0) : dead L X q = false := by
  cases e : dead L X q with
  | false => rfl
  | true => exact absurd (by simpa using List.all_eq_true.1 e t (by simpa using h)) h2
/-- The answer is what is come to from here on. -/
def Gz (R : Nat → Nat → Int) (l : List UInt8) (k : Nat) (q : Int) (ans : Option Nat) : Prop := (if q < 0 then none else en R q.toNat (l.drop k)) = ans
theorem Gz.start (R : Nat → Nat → Int) (l : List UInt8) : Gz R l 0 0 (en R 0 l) := by unfold Gz; rw [if_neg (by omega)]; rfl
theorem Gz.over {R : Nat → Nat → Int} {l : List UInt8} {k : Nat} {q : Int} {ans : Option Nat} (h : Gz R l k q ans) (hq : q < 0) : ans = none := by unfold Gz at h; rw [if_pos hq] at h; exact h.symm
theorem Gz.ends {R : Nat → Nat → Int} {l : List UInt8} {k p : Nat} {ans : Option Nat} (h : Gz R l k (p : Int) ans) (hk : l.drop k = []) : ans = some p := by
  unfold Gz at h
  rw [if_neg (by omega), hk] at h
  exact h.symm
theorem Gz.next {R : Nat → Nat → Int} {l : List UInt8} {k p : Nat} {ans : Option Nat} {x : UInt8} (h : Gz R l k (p : Int) ans) (hk : l.drop k = x :: l.drop (k + 1)) : Gz R l (k + 1) (R p x.toNat) ans := by
  unfold Gz at *
  rw [if_neg (by omega), hk] at h
  rw [← h]
  show _ = en R p _
  rw [en]

section
variable (R : Nat → Nat → Int) (T : Nat → Int) (L : Nat → Nat) (X : Nat → Nat → Int)
/-- What a byte has made certain is told: where the token under way begins, what waits, what was told, what went wrong. -/
def stl : Nat → Nat → List UInt8 → List (Int × Nat × Nat) → Nat × List UInt8 × List (Int × Nat × Nat) × Int
  | 0, a, b, ts => (a, b, ts, 0)
  | f + 1, a, b, ts => if b = [] then (a, [], ts, 0) else if stk R L X b = true then
      (if (lng R T b).2 = 0 then (a, [], ts, 9) else stl f (a + (lng R T b).2) (b.drop (lng R T b).2) (ts ++ [((lng R T b).1, a, a + (lng R T b).2)]))
      else if 64 < b.length then (a, [], ts, 10) else (a, b, ts, 0)
def Sl (a : Nat) (b : List UInt8) (ts : List (Int × Nat × Nat)) (ans : Nat × List UInt8 × List (Int × Nat × Nat) × Int) : Prop := ∃ f, b.length < f ∧ stl R T L X f a b ts = ans
def st1 (a : Nat) (b : List UInt8) (ts : List (Int × Nat × Nat)) : Nat × List UInt8 × List (Int × Nat × Nat) × Int := stl R T L X (b.length + 1) a b ts
/-- All bytes of a text, one by one. -/
def fd : List UInt8 → Nat → List UInt8 → List (Int × Nat × Nat) → Nat × List UInt8 × List (Int × Nat × Nat) × Int
  | [], a, b, ts => (a, b, ts, 0)
  | x :: s, a, b, ts => if (st1 R T L X a (b ++ [x]) ts).2.2.2 = 0 then fd s (st1 R T L X a (b ++ [x]) ts).1 (st1 R T L X a (b ++ [x]) ts).2.1 (st1 R T L X a (b ++ [x]) ts).2.2.1 else st1 R T L X a (b ++ [x]) ts
/-- The answer is what is told from here on. -/
def Fz (s : List UInt8) (k a : Nat) (b : List UInt8) (ts : List (Int × Nat × Nat)) (o : Int) (ans : Nat × List UInt8 × List (Int × Nat × Nat) × Int) : Prop := (if o = 0 then fd R T L X (s.drop k) a b ts else (a, b, ts, o)) = ans
end
variable {R : Nat → Nat → Int} {T : Nat → Int} {L : Nat → Nat} {X : Nat → Nat → Int} {a : Nat} {b : List UInt8} {ts : List (Int × Nat × Nat)} {ans : Nat × List UInt8 × List (Int × Nat × Nat) × Int}
theorem Sl.start (a : Nat) (b : List UInt8) (ts : List (Int × Nat × Nat)) : Sl R T L X a b ts (st1 R T L X a b ts) := ⟨b.length + 1, by omega, rfl⟩
theorem Sl.open (h : Sl R T L X a b ts ans) : ∃ f, b.length ≤ f ∧ stl R T L X (f + 1) a b ts = ans := by
  obtain ⟨f, h1, h2⟩ := h
  cases f with
  | zero => omega
  | succ f => exact ⟨f, by omega, h2⟩
theorem Sl.empty (h : Sl R T L X a [] ts ans) : ans = (a, [], ts, 0) := by
  obtain ⟨f, h1, h2⟩ := h.open
  rw [stl, if_pos rfl] at h2; exact h2.symm
theorem Sl.bad (h : Sl R T L X a b ts ans) (h0 : b ≠ []) (h1 : stk R L X b = true) (hz : (lng R T b).2 = 0) : ans = (a, [], ts, 9) := by
  obtain ⟨f, _, h2⟩ := h.open
  rw [stl, if_neg h0, if_pos h1, if_pos hz] at h2; exact h2.symm
theorem Sl.next (h : Sl R T L X a b ts ans) (h0 : b ≠ []) (h1 : stk R L X b = true) (hz : ¬ (lng R T b).2 = 0) : Sl R T L X (a + (lng R T b).2) (b.drop (lng R T b).2) (ts ++ [((lng R T b).1, a, a + (lng R T b).2)]) ans := by
  obtain ⟨f, h3, h2⟩ := h.open
  rw [stl, if_neg h0, if_pos h1, if_neg hz] at h2
  have : 0 < b.length := List.length_pos_iff.2 h0
  exact ⟨f, by rw [List.length_drop]; omega, h2⟩
theorem Sl.hold (h : Sl R T L X a b ts ans) (h0 : b ≠ []) (h1 : stk R L X b = false) (hz : 64 < b.length) : ans = (a, [], ts, 10) := by
  obtain ⟨f, _, h2⟩ := h.open
  rw [stl, if_neg h0, if_neg (by rw [h1]; simp), if_pos hz] at h2; exact h2.symm
theorem Sl.wait (h : Sl R T L X a b ts ans) (h0 : b ≠ []) (h1 : stk R L X b = false) (hz : ¬ 64 < b.length) : ans = (a, b, ts, 0) := by
  obtain ⟨f, _, h2⟩ := h.open
  rw [stl, if_neg h0, if_neg (by rw [h1]; simp), if_neg hz] at h2; exact h2.symm
/-- Bounds: nothing comes from nowhere, each token has a byte; little waits. -/
theorem stl_bound : ∀ (f a : Nat) (b : List UInt8) (ts : List (Int × Nat × Nat)), b.length < f → (stl R T L X f a b ts).1 + (stl R T L X f a b ts).2.1.length ≤ a + b.length ∧ (stl R T L X f a b ts).2.2.1.length + a ≤ ts.length + (stl R T L X f a b ts).1 ∧ (stl R T L X f a b ts).2.1.length ≤ 64 ∧ ((stl R T L X f a b ts).2.2.2 = 0 ∨ (stl R T L X f a b ts).2.1 = [])
  | 0, a, b, ts, h => by omega
  | f + 1, a, b, ts, h => by
    rw [stl]
    split
    · rename_i e; simp [e]
    · rename_i h0
      split
      · split
        · simp
        · rename_i hz
          have hl := lng_le R T b
          have hp : 0 < b.length := List.length_pos_iff.2 h0
          have := stl_bound f (a + (lng R T b).2) (b.drop (lng R T b).2) (ts ++ [((lng R T b).1, a, a + (lng R T b).2)]) (by rw [List.length_drop]; omega)
          simp only [List.length_drop, List.length_append, List.length_cons, List.length_nil] at this
          obtain ⟨k1, k2, k3, k4⟩ := this
          exact ⟨by omega, by omega, k3, k4⟩
      · split
        · simp
        · exact ⟨by simp, by simp, by simp; omega, Or.inl rfl⟩
theorem st1_bound (a : Nat) (b : List UInt8) (ts : List (Int × Nat × Nat)) : (st1 R T L X a b ts).1 + (st1 R T L X a b ts).2.1.length ≤ a + b.length ∧ (st1 R T L X a b ts).2.2.1.length + a ≤ ts.length + (st1 R T L X a b ts).1 ∧ (st1 R T L X a b ts).2.1.length ≤ 64 ∧ ((st1 R T L X a b ts).2.2.2 = 0 ∨ (st1 R T L X a b ts).2.1 = []) := stl_bound _ _ _ _ (by omega)
variable {s : List UInt8} {k : Nat} {o : Int}
theorem Fz.start (s : List UInt8) (a : Nat) (b : List UInt8) (ts : List (Int × Nat × Nat)) : Fz R T L X s 0 a b ts 0 (fd R T L X s a b ts) := by unfold Fz; rw [if_pos rfl]; rfl
theorem Fz.ends (h : Fz R T L X s k a b ts o ans) (hk : s.drop k = [] ∨ o ≠ 0) : ans = (a, b, ts, o) := by
  unfold Fz at h
  by_cases ho : o = 0
  · subst ho
    rw [if_pos rfl, hk.resolve_right (by simp)] at h
    exact h.symm
  · rw [if_neg ho] at h; exact h.symm
theorem Fz.next {x : UInt8} (h : Fz R T L X s k a b ts 0 ans) (hk : s.drop k = x :: s.drop (k + 1)) : Fz R T L X s (k + 1) (st1 R T L X a (b ++ [x]) ts).1 (st1 R T L X a (b ++ [x]) ts).2.1 (st1 R T L X a (b ++ [x]) ts).2.2.1 (st1 R T L X a (b ++ [x]) ts).2.2.2 ans := by
  unfold Fz at *
  rw [if_pos rfl, hk, fd] at h
  exact h
/-- A token of a text that begins at a. -/
def sh (a : Nat) (t : Int × Nat × Nat) : Int × Nat × Nat := (t.1, a + t.2.1, a + t.2.2)
end Go.Proofs.Ytcdnbkfjiigdmaa.Dfa
