/-
  Trees and the facts of their grammar, plainly: each node makes a word, begins with what First has, and is empty just if Empty may be.
-/
import Derived.Test.YtpfehghicaaghaaTrMath
import Derived.Test.YtpfehghicaaghaaFcMath
namespace Go.Proofs.Ytpfehghicaaghaa
namespace Cg

/-- What comes next: a terminal, or the end. -/
def nx : List Int → Wd
  | [] => endW
  | x :: _ => 1#64 <<< x.toNat
/-- Only terminals and nonterminals. -/
def Ts (l : List Sy) : Prop := ∀ s ∈ l, s.1 = 1 ∨ s.1 = 2
theorem body_mem {ps : List Pd} {p : Int} (h : isPr ps p = true) : ∃ q ∈ ps, q.1 = headOf ps p ∧ q.2 = bodyOf ps p := by
  have h2 := isPr_le h
  have hl : p.toNat < ps.length := by omega
  have eg : ps.getD p.toNat (0, []) = ps[p.toNat] := by rw [List.getD_eq_getElem?_getD, List.getElem?_eq_getElem hl]; rfl
  exact ⟨ps[p.toNat], List.getElem_mem hl, by unfold headOf; rw [eg], by unfold bodyOf; rw [eg]⟩
mutual
theorem made_sh {ps : List Pd} {M : Nat → Bool} (hM : ClM ps true M) : ∀ {t : T} {s : Sy}, sh ps t s = true → s.1 ≠ 1 → M s.2.toNat = true
  | .mk p k l, s, h, h4 => by
    obtain ⟨h1, h2, h3, h5⟩ := sh_node h h4
    obtain ⟨q, hq, e1, e2⟩ := body_mem h1
    have := hM q hq (by rw [e2]; exact made_shL hM h5)
    rw [e1, h2] at this
    exact this
theorem made_shL {ps : List Pd} {M : Nat → Bool} (hM : ClM ps true M) : ∀ {l : List T} {ss : List Sy}, shL ps l ss = true → amk M true ss = true
  | [], ss, h => by rw [shL] at h; simp at h; subst h; rfl
  | t :: l, [], h => by rw [shL] at h; simp at h
  | t :: l, s :: ss, h => by
    rw [shL] at h; simp at h
    have h2 := made_shL hM h.2
    unfold amk at *
    simp only [List.all_cons, Bool.and_eq_true]
    refine ⟨?_, h2⟩
    unfold mks
    by_cases h4 : s.1 = 1
    · simp [h4]
    · rw [made_sh hM h.1 h4]; simp
end
mutual
theorem empty_sh {ps : List Pd} {E : Nat → Bool} (hE : ClM ps false E) : ∀ {t : T} {s : Sy}, sh ps t s = true → s.1 ≠ 1 → yl ps t s = [] → E s.2.toNat = true
  | .mk p k l, s, h, h4, hy => by
    obtain ⟨h1, h2, h3, h5⟩ := sh_node h h4
    obtain ⟨q, hq, e1, e2⟩ := body_mem h1
    rw [yl, if_neg h4] at hy
    have := hE q hq (by rw [e2]; exact empty_shL hE h5 hy)
    rw [e1, h2] at this
    exact this
theorem empty_shL {ps : List Pd} {E : Nat → Bool} (hE : ClM ps false E) : ∀ {l : List T} {ss : List Sy}, shL ps l ss = true → ylL ps l ss = [] → amk E false ss = true
  | [], ss, h, _ => by rw [shL] at h; simp at h; subst h; rfl
  | t :: l, [], h, _ => by rw [shL] at h; simp at h
  | t :: l, s :: ss, h, hy => by
    rw [shL] at h; simp at h
    rw [ylL] at hy
    simp only [List.headD_cons, List.tail_cons, List.append_eq_nil_iff] at hy
    have h2 := empty_shL hE h.2 hy.2
    unfold amk at *
    simp only [List.all_cons, Bool.and_eq_true]
    refine ⟨?_, h2⟩
    unfold mks
    by_cases h4 : s.1 = 1
    · have h6 := sh_is_leaf h.1 h4
      have h7 := hy.1
      rw [h6, yl, if_pos h4] at h7
      simp at h7
    · rw [empty_sh hE h.1 h4 hy.1]; simp [h4]
end
mutual
theorem first_sh {ps : List Pd} {M E : Nat → Bool} {F : Nat → Wd} (hM : ClM ps true M) (hE : ClM ps false E) (hF : ClF ps M E F) : ∀ {t : T} {s : Sy} {x : Int} {r : List Int}, sh ps t s = true → s.1 ≠ 1 → yl ps t s = x :: r → le (1#64 <<< x.toNat) (F s.2.toNat)
  | .mk p k l, s, x, r, h, h4, hy => by
    obtain ⟨h1, h2, h3, h5⟩ := sh_node h h4
    obtain ⟨q, hq, e1, e2⟩ := body_mem h1
    rw [yl, if_neg h4] at hy
    have h6 := hF q hq (by rw [e2]; exact made_shL hM h5)
    rw [e1, h2, e2] at h6
    have h7 := next_shL hM hE hF h5 [] 0#64 (Or.inl (by rw [hy]; simp))
    rw [List.append_nil, hy] at h7
    exact le_trans h7 h6
theorem next_shL {ps : List Pd} {M E : Nat → Bool} {F : Nat → Wd} (hM : ClM ps true M) (hE : ClM ps false E) (hF : ClF ps M E F) : ∀ {l : List T} {ss : List Sy}, shL ps l ss = true → ∀ (post : List Int) (b : Wd), (ylL ps l ss ≠ [] ∨ le (nx post) b) → le (nx (ylL ps l ss ++ post)) (bg E F ss b)
  | [], ss, h, post, b, hb => by
    rw [shL] at h; simp at h; subst h
    rcases hb with hb | hb
    · simp [ylL] at hb
    · simpa [ylL, bg] using hb
  | t :: l, [], h, post, b, hb => by rw [shL] at h; simp at h
  | t :: l, s :: ss, h, post, b, hb => by
    rw [shL] at h; simp at h
    rw [ylL, bg]
    rw [ylL] at hb
    simp only [List.headD_cons, List.tail_cons] at hb ⊢
    by_cases h4 : s.1 = 1
    · rw [if_pos h4]
      have h6 := sh_is_leaf h.1 h4
      rw [h6, yl, if_pos h4]
      exact le_refl _
    · rw [if_neg h4]
      cases hy : yl ps t s with
      | cons x r => exact le_trans (first_sh hM hE hF h.1 h4 hy) (le_orl _ _)
      | nil =>
        rw [hy] at hb
        rw [empty_sh hE h.1 h4 hy, if_pos rfl, List.nil_append]
        rw [List.nil_append] at hb
        exact le_trans (next_shL hM hE hF h.2 post b hb) (le_orr _ _)
end
end Cg
end Go.Proofs.Ytpfehghicaaghaa
