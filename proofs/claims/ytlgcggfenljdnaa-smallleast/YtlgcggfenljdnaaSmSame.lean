/-
  What tells two automata apart, and their smallest ones. No law is walked here.
-/
import Derived.Test.YtlgcggfenljdnaaPkBack
import Derived.Test.YtlgcggfenljdnaaApBox
namespace Go.Proofs.Ytlgcggfenljdnaa
open Go.RowKit
open Dfa

theorem Mo.below {n : Nat} {R : Nat → Nat → Int} {T : Nat → Int} {B : Nat} {w w' : World} {rv tv : Value} (h : Mo n R T B w rv tv) {C : Nat} (hb : Below C w w') (hB : w.heap.size ≤ C) : Mo n R T B w' rv tv := by
  obtain ⟨N, F, U, K, met, h1, h2, h3, h4, h5⟩ := h
  exact ⟨N, F, U, K, met, h1, h2.below hb hB, h3.below hb hB, h4, h5⟩
theorem min_any (rv tv : Value) (n m : Nat) (R : Nat → Nat → Int) (T : Nat → Int) (w : World) (hr : Rw w rv n R) (ht : Ts w tv m T) :
    Calls Try.prog 9 #[.agg #[rv, tv]] w fun e w' => ∃ ra rn rc ta tn tc, e = .returned (.tuple #[.agg #[.slice ra rn rc, .slice ta tn tc], .int .i64 (chk n m R T)]) ∧ (chk n m R T = 0 → Mo n R T 0 w' (.slice ra rn rc) (.slice ta tn tc)) ∧ Below w.heap.size w w' := by
  by_cases h : chk n m R T = 0
  · obtain ⟨-, -, e, -⟩ := chk_zero h
    subst e
    refine (min_ok rv tv _ R T w hr ht h).mono ?_
    rintro _ w' ⟨rv', tv', rfl, hmo, hb⟩
    obtain ⟨a1, a2, a3, rfl⟩ := hmo.form1
    obtain ⟨b1, b2, b3, rfl⟩ := hmo.form2
    exact ⟨a1, a2, a3, b1, b2, b3, by rw [h], fun _ => hmo.less (Nat.zero_le _), hb⟩
  · refine (min_bad rv tv n m R T w hr ht h).mono ?_
    rintro _ w' ⟨rfl, hb⟩
    exact ⟨none, 0, 0, none, 0, 0, rfl, fun x => absurd x h, hb⟩
theorem tg_same {N : Nat} {F F' : Nat → Nat → Int} {U U' : Nat → Int} (hr : rowsOk N F = true) (hF : ∀ r b, r < N → b < 256 → F r b = F' r b) (hU : ∀ r, r < N → U r = U' r) (l : List UInt8) : ∀ p, At N p → tg F U p l = tg F' U' p l := by
  induction l with
  | nil =>
    intro p hp
    show tagOf U p = tagOf U' p
    unfold tagOf
    split
    · rfl
    · exact hU _ (by have := hp.2; omega)
  | cons b l ih =>
    intro p hp
    rw [tg_cons, tg_cons]
    have e : Dfa.step F p b = Dfa.step F' p b := by
      unfold Dfa.step
      split
      · rfl
      · exact hF _ _ (by have := hp.2; omega) b.toNat_lt
    rw [← e]
    exact ih _ (at_step hr hp b)
theorem eqR_true {n m : Nat} {R S : Nat → Nat → Int} (h : eqR n m R S = true) : n = m ∧ ∀ i j, i < n → j < 256 → R i j = S i j := by
  simp only [eqR, Bool.and_eq_true, beq_iff_eq] at h
  refine ⟨h.1, fun i j hi hj => ?_⟩
  have := all_at h.2 i hi
  simp only [rowEq] at this
  have := all_at this j hj
  simpa using this
theorem eqT_true {n m : Nat} {T U : Nat → Int} (h : eqT n m T U = true) : ∀ i, i < n → T i = U i := by
  simp only [eqT, Bool.and_eq_true, beq_iff_eq] at h
  exact fun i hi => by have := all_at h.2 i hi; simpa using this
/-- What tells two apart just if their smallest ones differ. -/
theorem same_told {n n' : Nat} {R R' : Nat → Nat → Int} {T T' K K' : Nat → Int} {N N' : Nat} {F F' : Nat → Nat → Int} {U U' : Nat → Int} {met met' : List Nat} {l : List UInt8} {is : Bool} (hn : 0 < n) (hn' : 0 < n') (hr : rowsOk n R = true) (hr' : rowsOk n' R' = true) (hc : chk N N F U = 0)
    (h : Mi n R T N F U K met) (h' : Mi n' R' T' N' F' U' K' met') (ht : Told R R' T T' l is) : is = !(eqR N N' F F' && eqT N N' U U') := by
  rcases ht with ⟨rfl, hd, -⟩ | ⟨rfl, -, hd⟩
  · cases e : (eqR N N' F F' && eqT N N' U U') with
    | false => rfl
    | true =>
      exfalso
      simp only [Bool.and_eq_true] at e
      obtain ⟨e1, e2⟩ := eqR_true e.1
      obtain ⟨h0, -, -, h2, -⟩ := chk_zero hc
      apply hd
      have a1 := h.means hr hn l
      have a2 := h'.means hr' hn' l
      have a3 := tg_same h2 e2 (eqT_true e.2) l 0 ⟨by omega, by omega⟩
      show tg R T 0 l = tg R' T' 0 l
      rw [← a1, ← a2, a3]
  · have hal : Al R T R' T' 0 0 := fun v => Classical.byContradiction fun x => hd v x
    obtain ⟨e1, e2, e3⟩ := uniq hr hr' h h' hal hn hn'
    subst e1
    rw [eqR_refl N _ _ (fun i j hi hj => e2 i j hi hj), eqT_refl N _ _ (fun i hi => e3 i hi)]
    rfl
end Go.Proofs.Ytlgcggfenljdnaa
