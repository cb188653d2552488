/-
  What begins so, plainly: a table of beginnings that its own rule leaves as it is.
-/
import Derived.Test.YtpbnnmfjahckmaaCtLaws
namespace Go.Proofs.Ytpbnnmfjahckmaa
namespace Cg

/-- A tree of it begins with the word from i on, or is it. -/
def Bgn (ps : List Pd) (w : List Int) (s : Sy) (i : Nat) : Prop := ∃ t, sh ps t s = true ∧ w.drop i <+: yl ps t s
def BgnL (ps : List Pd) (w : List Int) (ss : List Sy) (i : Nat) : Prop := ∃ l, shL ps l ss = true ∧ w.drop i <+: ylL ps l ss
/-- All of these make something. -/
def MkL (ps : List Pd) (ss : List Sy) : Prop := ∃ l, shL ps l ss = true
/-- A tree of it stands over the word from i to m. -/
def Ov (ps : List Pd) (w : List Int) (s : Sy) (i m : Nat) : Prop := ∃ t, Sp ps w t s i m
/-- What the rule says of a body. -/
def opn (ps : List Pd) (w : List Int) (S : Int → Nat → Prop) : List Sy → Nat → Prop
  | [], i => i = w.length
  | s :: l, i => i = w.length ∨ (s.1 ≠ 1 ∧ S s.2 i) ∨ ∃ m, Ov ps w s i m ∧ opn ps w S l m
theorem ov_of {ps : List Pd} {w : List Int} {t : T} {s : Sy} {i : Nat} (h : sh ps t s = true) (hi : i ≤ w.length) (hp : yl ps t s <+: w.drop i) : Ov ps w s i (i + (yl ps t s).length) := by
  obtain ⟨a1, a2, a3⟩ := ren_all i h
  obtain ⟨r, hr⟩ := hp
  have hl := congrArg List.length hr
  rw [List.length_append, List.length_drop] at hl
  refine ⟨renT i t, a1, by omega, by omega, ?_, ?_⟩
  · rw [a3, tk_len h, show i + (yl ps t s).length - i = (yl ps t s).length by omega]
  · rw [a2, ← hr, show i + (yl ps t s).length - i = (yl ps t s).length by omega, List.take_left]
theorem ov_le {ps : List Pd} {w : List Int} {s : Sy} {i m : Nat} (h : Ov ps w s i m) : i ≤ m ∧ m ≤ w.length := by
  obtain ⟨t, h⟩ := h
  exact ⟨h.ij, h.jl⟩
theorem mkL_cons {ps : List Pd} {s : Sy} {l : List Sy} (h : MkL ps (s :: l)) : (∃ t, sh ps t s = true) ∧ MkL ps l := by
  obtain ⟨ts, h⟩ := h
  cases ts with
  | nil => rw [shL] at h; simp at h
  | cons t ts =>
    rw [shL] at h; simp at h
    exact ⟨⟨t, h.1⟩, ts, h.2⟩
theorem part_pre {w : List Int} {i m : Nat} (h : i ≤ m) (_k : m ≤ w.length) : w.drop i = (w.drop i).take (m - i) ++ w.drop m := by
  have := List.take_append_drop (m - i) (w.drop i)
  rw [List.drop_drop, show i + (m - i) = m by omega] at this
  exact this.symm
theorem opn_sound {ps : List Pd} {w : List Int} {S : Int → Nat → Prop} (hS : ∀ s : Sy, s.1 ≠ 1 → ∀ i, S s.2 i → Bgn ps w s i) : ∀ (l : List Sy) (i : Nat), MkL ps l → opn ps w S l i → BgnL ps w l i
  | [], i, _, h => by
    rw [opn] at h
    subst h
    exact ⟨[], by simp [shL], by simp [ylL]⟩
  | s :: l, i, hm, h => by
    obtain ⟨⟨t0, ht0⟩, ts0, hts0⟩ := mkL_cons hm
    rw [opn] at h
    rcases h with rfl | ⟨h4, h⟩ | ⟨m, ⟨t, ht⟩, h⟩
    · exact ⟨t0 :: ts0, shL_cons ht0 hts0, by rw [List.drop_length]; exact List.nil_prefix⟩
    · obtain ⟨t, h1, h2⟩ := hS s h4 i h
      refine ⟨t :: ts0, shL_cons h1 hts0, ?_⟩
      rw [ylL]
      exact h2.trans (List.prefix_append _ _)
    · obtain ⟨ts, h1, r, hr⟩ := opn_sound hS l m ⟨ts0, hts0⟩ h
      refine ⟨t :: ts, shL_cons ht.s0 h1, r, ?_⟩
      rw [ylL]
      simp only [List.headD_cons, List.tail_cons]
      rw [part_pre ht.ij ht.jl, List.append_assoc, hr, ht.yl0]
mutual
theorem opn_all {ps : List Pd} {w : List Int} {S : Int → Nat → Prop} (hend : ∀ A, (∃ t, sh ps t (2, A) = true) → S A w.length) (hst : ∀ z : Nat, z < ps.length → ∀ i, i < w.length → MkL ps (ps.getD z (0, [])).2 → opn ps w S (ps.getD z (0, [])).2 i → S (ps.getD z (0, [])).1 i) : ∀ {t : T} {s : Sy} {i : Nat}, sh ps t s = true → s.1 ≠ 1 → i ≤ w.length → w.drop i <+: yl ps t s → S s.2 i
  | .mk p k l, s, i, h, h4, hi, hp => by
    by_cases e : i = w.length
    · subst e
      refine hend s.2 ⟨.mk p k l, ?_⟩
      obtain ⟨h1, h2, h3, h5⟩ := sh_node h h4
      subst h3
      exact sh_of_node (by show (2 : Int) ≠ 1; decide) h1 h2 h5
    · obtain ⟨h1, h2, h3, h5⟩ := sh_node h h4
      have hle := isPr_le h1
      obtain ⟨z, rfl⟩ : ∃ z : Nat, p = (z : Int) := ⟨p.toNat, by omega⟩
      rw [yl, if_neg h4] at hp
      have hb : bodyOf ps (z : Int) = (ps.getD z (0, [])).2 := by unfold bodyOf; rw [Int.toNat_natCast]
      have hh : (ps.getD z (0, [])).1 = s.2 := by unfold headOf at h2; rw [Int.toNat_natCast] at h2; exact h2
      rw [hb] at h5 hp
      have := hst z (by omega) i (by omega) ⟨l, h5⟩ (opn_allL hend hst h5 hi hp)
      rw [hh] at this
      exact this
theorem opn_allL {ps : List Pd} {w : List Int} {S : Int → Nat → Prop} (hend : ∀ A, (∃ t, sh ps t (2, A) = true) → S A w.length) (hst : ∀ z : Nat, z < ps.length → ∀ i, i < w.length → MkL ps (ps.getD z (0, [])).2 → opn ps w S (ps.getD z (0, [])).2 i → S (ps.getD z (0, [])).1 i) : ∀ {l : List T} {ss : List Sy} {i : Nat}, shL ps l ss = true → i ≤ w.length → w.drop i <+: ylL ps l ss → opn ps w S ss i
  | [], ss, i, h, hi, hp => by
    rw [shL] at h; simp at h; subst h
    rw [ylL] at hp
    have := hp.length_le
    rw [opn]
    simp at this
    omega
  | t :: l, [], i, h, hi, hp => by rw [shL] at h; simp at h
  | t :: l, s :: ss, i, h, hi, hp => by
    rw [shL] at h; simp at h
    rw [ylL] at hp
    simp only [List.headD_cons, List.tail_cons] at hp
    rw [opn]
    by_cases e : i = w.length
    · exact Or.inl e
    · refine Or.inr ?_
      have keyB : yl ps t s <+: w.drop i → ∃ m, Ov ps w s i m ∧ opn ps w S ss m := fun hb => by
        have hov := ov_of h.1 hi hb
        have hm := ov_le hov
        refine ⟨_, hov, opn_allL hend hst h.2 hm.2 ?_⟩
        obtain ⟨r, hr⟩ := hb
        have hd : w.drop (i + (yl ps t s).length) = r := by
          rw [← List.drop_drop, ← hr, List.drop_left]
        rw [hd]
        rw [← hr] at hp
        exact (List.prefix_append_right_inj _).1 hp
      rcases List.prefix_or_prefix_of_prefix hp (List.prefix_append (yl ps t s) (ylL ps l ss)) with hp1 | hp1
      · by_cases h4 : s.1 = 1
        · refine Or.inr (keyB ?_)
          have e1 := sh_is_leaf h.1 h4
          have e2 : yl ps t s = [s.2] := by rw [e1, yl, if_pos h4]
          rw [e2] at hp1 ⊢
          obtain ⟨r, hr⟩ := hp1
          have hne : w.drop i ≠ [] := fun e0 => by
            have := congrArg List.length e0
            rw [List.length_drop] at this
            simp at this
            omega
          obtain ⟨x, y, e3⟩ := List.exists_cons_of_ne_nil hne
          rw [e3] at hr ⊢
          simp at hr
          obtain ⟨rfl, rfl, rfl⟩ := hr
          exact List.prefix_rfl
        · exact Or.inl ⟨h4, opn_all hend hst h.1 h4 hi hp1⟩
      · exact Or.inr (keyB hp1)
end
end Cg
end Go.Proofs.Ytpbnnmfjahckmaa
