/-
  The plain mathematics of the smallest automaton: there is just one.
-/
import Derived.Test.YtlgcggfenljdnaaMnOne
namespace Go.Proofs.Ytlgcggfenljdnaa.Dfa

theorem cn_mono {F : Nat → Nat → Int} (a : Nat) : ∀ d, cn F a ≤ cn F (a + d)
  | 0 => Nat.le_refl _
  | d + 1 => by
    have := cn_mono (F := F) a d
    rw [← Nat.add_assoc, cn]
    split <;> omega
theorem cn_le {F : Nat → Nat → Int} {a b : Nat} (h : a ≤ b) : cn F a ≤ cn F b := by
  have := cn_mono (F := F) a (b - a)
  rwa [show a + (b - a) = b by omega] at this
/-- Two states are alike. -/
def Al (R : Nat → Nat → Int) (T : Nat → Int) (R' : Nat → Nat → Int) (T' : Nat → Int) (x y : Int) : Prop := ∀ l, tg R T x l = tg R' T' y l
section
variable {n n' : Nat} {R R' : Nat → Nat → Int} {T T' K K' : Nat → Int} {N N' : Nat} {F F' : Nat → Nat → Int} {U U' : Nat → Int} {met met' : List Nat}
theorem Al.dead {x y : Int} (h : Al R T R' T' x y) (k : Kinds n R T K) (k' : Kinds n' R' T' K') (hx : At n x) (hy : At n' y) : kof K x = -1 ↔ kof K' y = -1 := by
  have e : ∀ {m : Nat} {S : Nat → Nat → Int} {V L : Nat → Int} {z : Int}, Kinds m S V L → At m z → (kof L z = -1 ↔ ∀ l, tg S V z l = -1) := fun kk hz => by
    have := kk _ (-1) hz ⟨by omega, by omega⟩
    rw [show kof _ (-1) = -1 by simp [kof]] at this
    rw [this]
    exact ⟨fun g l => by rw [g l, tg_none], fun g l => by rw [g l, tg_none]⟩
  rw [e k hx, e k' hy]
  exact ⟨fun g l => by rw [← h l]; exact g l, fun g l => by rw [h l]; exact g l⟩
theorem Al.step {x y : Nat} (h : Al R T R' T' (x : Int) (y : Int)) {b : Nat} (hb : b < 256) : Al R T R' T' (R x b) (R' y b) := fun l => by
  have := h (UInt8.ofNat b :: l)
  rwa [tg_cons, tg_cons, step_of hb, step_of hb] at this
theorem at_met (h : Mi n R T N F U K met) {i : Nat} (hi : i < N) : At n ((met.getD i 0 : Nat) : Int) := ⟨by omega, by have := h.mt.lt i (by rw [h.len]; exact hi); omega⟩
/-- One place on. -/
theorem lock (hr : rowsOk n R = true) (hr' : rowsOk n' R' = true) (h : Mi n R T N F U K met) (h' : Mi n' R' T' N' F' U' K' met') (h0 : Al R T R' T' 0 0) (hn : 0 < n) (hn' : 0 < n') :
    ∀ q, q ≤ N * 256 → q ≤ N' * 256 → cn F q = cn F' q ∧ (∀ p, p < q → F (p / 256) (p % 256) = F' (p / 256) (p % 256)) ∧ ∀ i, i < cn F q → Al R T R' T' ((met.getD i 0 : Nat) : Int) ((met'.getD i 0 : Nat) : Int)
  | 0, _, _ => ⟨rfl, fun p hp => by omega, fun i hi => by
      have : i = 0 := by simp [cn] at hi; omega
      subst this
      rw [h.mt.head, h'.mt.head]; exact h0⟩
  | q + 1, hq, hq' => by
    obtain ⟨i1, i2, i3⟩ := lock hr hr' h h' h0 hn hn' q (by omega) (by omega)
    have hrN : q / 256 < N := by omega
    have hrN' : q / 256 < N' := by omega
    have hbt : q % 256 < 256 := by omega
    have hqr : q / 256 * 256 ≤ q := by omega
    have hrc : q / 256 < cn F q := Nat.lt_of_lt_of_le (h.met_ _ hrN) (cn_le hqr)
    have hal := (i3 _ hrc).step hbt
    have hz := row_at hr (h.mt.lt _ (by rw [h.len]; exact hrN)) hbt
    have hz' := row_at hr' (h'.mt.lt _ (by rw [h'.len]; exact hrN')) hbt
    have hcN : cn F q ≤ N := by rw [← h.all]; exact cn_le (by omega)
    have hcN' : cn F' q ≤ N' := by rw [← h'.all]; exact cn_le (by omega)
    have f1 := h.first q (by omega)
    have f2 := h'.first q (by omega)
    have hd := hal.dead h.kinds h'.kinds hz hz'
    have key : F (q / 256) (q % 256) = F' (q / 256) (q % 256) ∧ (F (q / 256) (q % 256) = (cn F q : Int) → Al R T R' T' ((met.getD (cn F q) 0 : Nat) : Int) ((met'.getD (cn F q) 0 : Nat) : Int)) := by
      rcases h.rows _ _ hrN hbt with ⟨d1, e1⟩ | ⟨d1, i, hi, e1, k1⟩
      · rcases h'.rows _ _ hrN' hbt with ⟨d2, e2⟩ | ⟨d2, _⟩
        · exact ⟨by rw [e1, e2], fun x => by omega⟩
        · exact absurd (hd.1 d1) d2
      · rcases h'.rows _ _ hrN' hbt with ⟨d2, e2⟩ | ⟨d2, i', hi', e2, k2⟩
        · exact absurd (hd.2 d2) d1
        · rw [h.len] at hi
          rw [h'.len] at hi'
          have a1 : ∀ l, tg R T ((met.getD i 0 : Nat) : Int) l = tg R T (R (met.getD (q / 256) 0) (q % 256)) l := (h.kinds _ _ (at_met h hi) hz).1 (by rw [kof_nat]; exact k1)
          have a2 : ∀ l, tg R' T' ((met'.getD i' 0 : Nat) : Int) l = tg R' T' (R' (met'.getD (q / 256) 0) (q % 256)) l := (h'.kinds _ _ (at_met h' hi') hz').1 (by rw [kof_nat]; exact k2)
          have a3 : Al R T R' T' ((met.getD i 0 : Nat) : Int) ((met'.getD i' 0 : Nat) : Int) := fun l => by rw [a1, a2]; exact hal l
          have same : ∀ j, j < cn F q → j = i → j = i' := fun j hj e => by
            subst e
            have g1 := i3 j hj
            have g2 : ∀ l, tg R' T' ((met'.getD j 0 : Nat) : Int) l = tg R' T' ((met'.getD i' 0 : Nat) : Int) l := fun l => by rw [← g1 l, a3 l]
            have g3 := (h'.kinds _ _ (at_met h' (i := j) (by omega)) (at_met h' hi')).2 g2
            rw [kof_nat, kof_nat] at g3
            exact h'.mt.one j i' (by rw [h'.len]; omega) (by rw [h'.len]; exact hi') g3
          have same' : ∀ j, j < cn F q → j = i' → i = j := fun j hj e => by
            subst e
            have g1 := i3 j hj
            have g2 : ∀ l, tg R T ((met.getD i 0 : Nat) : Int) l = tg R T ((met.getD j 0 : Nat) : Int) l := fun l => by rw [g1 l, a3 l]
            have g3 := (h.kinds _ _ (at_met h hi) (at_met h (i := j) (by omega))).2 g2
            rw [kof_nat, kof_nat] at g3
            exact h.mt.one i j (by rw [h.len]; exact hi) (by rw [h.len]; omega) g3
          have hii : i = i' := by
            by_cases c1 : i < cn F q
            · exact same i c1 rfl
            · by_cases c2 : i' < cn F q
              · exact same' i' c2 rfl
              · rw [e1] at f1
                rw [e2, ← i1] at f2
                omega
          subst hii
          exact ⟨by rw [e1, e2], fun x => by
            have : i = cn F q := by omega
            subst this; exact a3⟩
    refine ⟨?_, fun p hp => ?_, fun i hi => ?_⟩
    · rw [cn, cn, ← key.1, ← i1]
    · by_cases e : p = q
      · subst e; exact key.1
      · exact i2 p (by omega)
    · rw [cn] at hi
      split at hi
      · rename_i hc
        by_cases e : i = cn F q
        · subst e; exact key.2 hc
        · exact i3 i (by omega)
      · exact i3 i hi
/-- There is just one smallest automaton. -/
theorem uniq (hr : rowsOk n R = true) (hr' : rowsOk n' R' = true) (h : Mi n R T N F U K met) (h' : Mi n' R' T' N' F' U' K' met') (h0 : Al R T R' T' 0 0) (hn : 0 < n) (hn' : 0 < n') : N = N' ∧ (∀ r b, r < N → b < 256 → F r b = F' r b) ∧ ∀ r, r < N → U r = U' r := by
  have hNN : N = N' := by
    rcases Nat.lt_trichotomy N N' with g | g | g
    · exfalso
      have := (lock hr hr' h h' h0 hn hn' (N * 256) (Nat.le_refl _) (by omega)).1
      rw [h.all] at this
      have h2 := h'.met_ N g
      omega
    · exact g
    · exfalso
      have := (lock hr hr' h h' h0 hn hn' (N' * 256) (by omega) (Nat.le_refl _)).1
      rw [h'.all] at this
      have h2 := h.met_ N' g
      omega
  subst hNN
  obtain ⟨l1, l2, l3⟩ := lock hr hr' h h' h0 hn hn' (N * 256) (Nat.le_refl _) (Nat.le_refl _)
  refine ⟨rfl, fun r b hrr hb => ?_, fun r hrr => ?_⟩
  · have := l2 (r * 256 + b) (by omega)
    rwa [show (r * 256 + b) / 256 = r by omega, show (r * 256 + b) % 256 = b by omega] at this
  · have h1 : tagOf T ((met.getD r 0 : Nat) : Int) = tagOf T' ((met'.getD r 0 : Nat) : Int) := l3 r (by rw [h.all]; exact hrr) []
    rw [tagOf_nat, tagOf_nat] at h1
    rw [h.tags r hrr, h'.tags r hrr, h1]
end
end Go.Proofs.Ytlgcggfenljdnaa.Dfa
