/-
  What is LL(1) is LR(1), plainly, further: what begins so is begun by a tree; an item has its trees; so no state has two acts.
-/
import Derived.Test.YtpbnnmfjahckmaaLrAbove
namespace Go.Proofs.Ytpbnnmfjahckmaa
namespace Cg

def bvp (P : Nat → Bool) : Nat → Wd
  | 0 => 0#64
  | n + 1 => bvp P n ||| (if P n = true then 1#64 <<< n else 0#64)
theorem bit_one {k i : Nat} : (1#64 <<< k).getLsbD i = decide (i = k ∧ i < 64) := by
  rw [BitVec.getLsbD_shiftLeft]
  by_cases h : i < 64
  · by_cases e : i = k
    · subst e; simp [h]
    · rcases Nat.lt_or_ge i k with h1 | h1
      · simp [h1, e]
      · have : i - k ≠ 0 := by omega
        simp [e, this]
  · simp [h]
theorem bvp_bit (P : Nat → Bool) : ∀ (n i : Nat), n ≤ 64 → ((bvp P n).getLsbD i = true ↔ i < n ∧ P i = true)
  | 0, i, _ => by simp [bvp]
  | n + 1, i, h => by
    rw [bvp, BitVec.getLsbD_or, Bool.or_eq_true, bvp_bit P n i (by omega)]
    constructor
    · rintro (⟨h1, h2⟩ | h1)
      · exact ⟨by omega, h2⟩
      · by_cases hp : P n = true
        · rw [if_pos hp, bit_one] at h1
          have := of_decide_eq_true h1
          exact ⟨by omega, by rw [this.1]; exact hp⟩
        · rw [if_neg hp] at h1; simp at h1
    · rintro ⟨h1, h2⟩
      by_cases e : i = n
      · subst e
        exact Or.inr (by rw [if_pos h2, bit_one]; exact decide_eq_true ⟨rfl, by omega⟩)
      · exact Or.inl ⟨by omega, h2⟩
/-- Trees whose word begins with that. -/
def Fst (ps : List Pd) (s : Sy) (x : Nat) : Prop := ∃ t, sh ps t s = true ∧ ∃ y r, yl ps t s = y :: r ∧ y.toNat = x
theorem bg_real {ps : List Pd} {E : Nat → Bool} {G : Nat → Wd} (hG : ∀ s : Sy, s.1 ≠ 1 → 0 ≤ s.2 → ∀ x, (G s.2.toNat).getLsbD x = true → Fst ps s x) (hE : ∀ s : Sy, s.1 ≠ 1 → 0 ≤ s.2 → E s.2.toNat = true → ∃ t, sh ps t s = true ∧ yl ps t s = []) : ∀ (l : List Sy) (b : Wd) (x : Nat), (∀ s ∈ l, (∃ t, sh ps t s = true) ∧ (s.1 ≠ 1 → 0 ≤ s.2)) → (bg E G l b).getLsbD x = true → (∃ zs, shL ps zs l = true ∧ ∃ y r, ylL ps zs l = y :: r ∧ y.toNat = x) ∨ (b.getLsbD x = true ∧ ∃ zs, shL ps zs l = true ∧ ylL ps zs l = [])
  | [], b, x, _, h => by
    rw [bg] at h
    exact Or.inr ⟨h, [], by simp [shL], by simp [ylL]⟩
  | s :: l, b, x, hm, h => by
    obtain ⟨ts, hts, -⟩ := shL_of_trees (ps := ps) (Q := fun _ => True) trivial (fun _ _ _ _ => trivial) l (fun u hu => (hm u (by simp [hu])).1.imp fun t ht => ⟨ht, trivial⟩)
    rw [bg] at h
    by_cases h4 : s.1 = 1
    · rw [if_pos h4, bit_one] at h
      have h1 := of_decide_eq_true h
      refine Or.inl ⟨.mk (-1) 0 [] :: ts, shL_cons (sh_of_leaf h4) hts, s.2, ylL ps ts l, ?_, h1.1.symm⟩
      rw [ylL]
      simp only [List.headD_cons, List.tail_cons]
      rw [yl, if_pos h4]; rfl
    · rw [if_neg h4, BitVec.getLsbD_or, Bool.or_eq_true] at h
      rcases h with h | h
      · obtain ⟨t, h1, y, r, h2, h3⟩ := hG s h4 ((hm s (by simp)).2 h4) x h
        refine Or.inl ⟨t :: ts, shL_cons h1 hts, y, r ++ ylL ps ts l, ?_, h3⟩
        rw [ylL]
        simp only [List.headD_cons, List.tail_cons]
        rw [h2]; rfl
      · by_cases he : E s.2.toNat = true
        · rw [if_pos he] at h
          obtain ⟨t, h1, h2⟩ := hE s h4 ((hm s (by simp)).2 h4) he
          rcases bg_real hG hE l b x (fun u hu => hm u (by simp [hu])) h with ⟨zs, h3, y, r, h5, h6⟩ | ⟨h3, zs, h5, h6⟩
          · refine Or.inl ⟨t :: zs, shL_cons h1 h3, y, r, ?_, h6⟩
            rw [ylL]
            simp only [List.headD_cons, List.tail_cons]
            rw [h2, h5]; rfl
          · refine Or.inr ⟨h3, t :: zs, shL_cons h1 h5, ?_⟩
            rw [ylL]
            simp only [List.headD_cons, List.tail_cons]
            rw [h2, h6]; rfl
        · rw [if_neg he] at h; simp at h
theorem sh_two {ps : List Pd} {t : T} {s : Sy} (h4 : s.1 ≠ 1) (h0 : 0 ≤ s.2) : (sh ps t s = true ↔ sh ps t (2, ((s.2.toNat : Nat) : Int)) = true) ∧ yl ps t s = yl ps t (2, ((s.2.toNat : Nat) : Int)) := by
  obtain ⟨p, k, l⟩ := t
  have e : ((s.2.toNat : Nat) : Int) = s.2 := by omega
  rw [e, sh, sh, yl, yl]
  simp [h4]
/-- Right symbols' data, as least_tree wants it. -/
theorem rg_syms {nt n : Nat} {ps : List Pd} (hg : Rg (nt : Int) n ps) : ∀ p ∈ ps, (∀ s ∈ p.2, s.1 = 1 ∨ (s.1 = 2 ∧ 0 ≤ s.2)) ∧ 0 ≤ p.1 := fun p hp => by
  obtain ⟨q, hq, rfl⟩ := List.mem_iff_getElem.1 hp
  obtain ⟨m, h1, -, -⟩ := hg.hd q hq
  refine ⟨fun s hs => ?_, by omega⟩
  rcases hg.ok q hq s hs with h | h
  · exact Or.inl h.1
  · exact Or.inr ⟨h.1, h.2.1⟩
open Classical in
/-- What First has is begun by a tree. -/
theorem first_real {ps : List Pd} {E M : Nat → Bool} {F V : Nat → Wd} {R : Nat → Bool} {nt n : Nat} (fa : Fa ps E F V R M) (hg : Rg (nt : Int) n ps) {s : Sy} (h4 : s.1 ≠ 1) (h0 : 0 ≤ s.2) {x : Nat} (h : (F s.2.toNat).getLsbD x = true) : Fst ps s x := by
  have hk2 := rg_syms hg
  have hE : ∀ s : Sy, s.1 ≠ 1 → 0 ≤ s.2 → E s.2.toNat = true → ∃ t, sh ps t s = true ∧ yl ps t s = [] := fun s h4 h0 he => by
    obtain ⟨t, h1, h2⟩ := least_tree fa.e (Q := fun l => l = []) rfl (fun a b ha hb => by rw [ha, hb]; rfl) (fun e => by cases e) hk2 he
    exact ⟨t, (sh_two h4 h0).1.2 h1, by rw [(sh_two h4 h0).2]; exact h2⟩
  have key : ClF ps M E (fun A => bvp (fun x => decide (Fst ps (2, (A : Int)) x)) 64) := by
    intro p hp ha
    obtain ⟨hks, hp0⟩ := hk2 p hp
    refine le_bits.2 fun x hx => ?_
    have hx64 : x < 64 := by
      rcases Nat.lt_or_ge x 64 with h' | h'
      · exact h'
      · rw [BitVec.getLsbD_of_ge _ _ h'] at hx; cases hx
    rw [bvp_bit _ _ _ (Nat.le_refl _)]
    refine ⟨hx64, decide_eq_true ?_⟩
    have hall : ∀ s ∈ p.2, ∃ t, sh ps t s = true := fun s hs => by
      have h1 := List.all_eq_true.1 ha s hs
      unfold mks at h1
      rcases hks s hs with h4 | ⟨h4, h5⟩
      · exact ⟨.mk (-1) 0 [], sh_of_leaf h4⟩
      · have h2 : M s.2.toNat = true := by simpa [h4] using h1
        obtain ⟨t, h6, -⟩ := least_tree fa.m (Q := fun _ => True) trivial (fun _ _ _ _ => trivial) (fun _ _ => trivial) hk2 h2
        exact ⟨t, (sh_two (by omega) h5).1.2 h6⟩
    -- the rule, with symbols that are right: a nonterminal's number is no less than 0
    have hb : ∀ l, (∀ s ∈ l, s ∈ p.2) → (bg E (fun A => bvp (fun x => decide (Fst ps (2, (A : Int)) x)) 64) l 0#64).getLsbD x = true → ∃ zs, shL ps zs l = true ∧ ∃ y r, ylL ps zs l = y :: r ∧ y.toNat = x := by
      intro l
      induction l with
      | nil => intro _ h; rw [bg] at h; simp at h
      | cons s l ih =>
        intro hl h
        have hsp := hl s (by simp)
        obtain ⟨ts, hts, -⟩ := shL_of_trees (ps := ps) (Q := fun _ => True) trivial (fun _ _ _ _ => trivial) l (fun u hu => (hall u (hl u (by simp [hu]))).imp fun t ht => ⟨ht, trivial⟩)
        rw [bg] at h
        by_cases h4 : s.1 = 1
        · rw [if_pos h4, bit_one] at h
          have h1 := of_decide_eq_true h
          refine ⟨.mk (-1) 0 [] :: ts, shL_cons (sh_of_leaf h4) hts, s.2, ylL ps ts l, ?_, h1.1.symm⟩
          rw [ylL]
          simp only [List.headD_cons, List.tail_cons]
          rw [yl, if_pos h4]; rfl
        · have hs0 : 0 ≤ s.2 := ((hks s hsp).resolve_left h4).2
          rw [if_neg h4, BitVec.getLsbD_or, Bool.or_eq_true] at h
          rcases h with h | h
          · obtain ⟨t, h1, y, r, h2, h3⟩ := of_decide_eq_true ((bvp_bit _ _ _ (Nat.le_refl _)).1 h).2
            refine ⟨t :: ts, shL_cons ((sh_two h4 hs0).1.2 h1) hts, y, r ++ ylL ps ts l, ?_, h3⟩
            rw [ylL]
            simp only [List.headD_cons, List.tail_cons]
            rw [(sh_two h4 hs0).2, h2]; rfl
          · by_cases he : E s.2.toNat = true
            · rw [if_pos he] at h
              obtain ⟨t, h1, h2⟩ := hE s h4 hs0 he
              obtain ⟨zs, h3, y, r, h5, h6⟩ := ih (fun u hu => hl u (by simp [hu])) h
              refine ⟨t :: zs, shL_cons h1 h3, y, r, ?_, h6⟩
              rw [ylL]
              simp only [List.headD_cons, List.tail_cons]
              rw [h2, h5]; rfl
            · rw [if_neg he] at h; simp at h
    obtain ⟨zs, h1, y, r, h2, h3⟩ := hb p.2 (fun _ h => h) hx
    obtain ⟨q, hq, e⟩ := List.mem_iff_getElem.1 hp
    obtain ⟨b1, b2⟩ := bodyOf_nat hq
    rw [e] at b1 b2
    refine ⟨.mk (q : Int) 0 zs, sh_of_node (by show (2 : Int) ≠ 1; decide) (by unfold isPr; simp; omega) (by rw [b2]; show p.1 = ((p.1.toNat : Nat) : Int); omega) (by rw [b1]; exact h1), y, r, ?_, h3⟩
    rw [yl, if_neg (by show ¬ (2 : Int) = 1; decide), b1]; exact h2
  have h1 := le_bits.1 (fa.f.sn _ key s.2.toNat) x h
  obtain ⟨t, h2, y, r, h3, h5⟩ := of_decide_eq_true ((bvp_bit _ _ _ (Nat.le_refl _)).1 h1).2
  exact ⟨t, (sh_two h4 h0).1.2 h2, y, r, by rw [(sh_two h4 h0).2]; exact h3, h5⟩
end Cg
end Go.Proofs.Ytpbnnmfjahckmaa
