/-
  What the numbers of trees are like, plainly: one production more; the grammar turned round; without a clash; what may be empty, and what makes a word.
-/
import Derived.Test.YtpbnnmfjahckmaaCtTree
import Derived.Test.YtpbnnmfjahckmaaTrMir
import Derived.Test.YtpbnnmfjahckmaaTrLlOne
namespace Go.Proofs.Ytpbnnmfjahckmaa
namespace Cg

theorem cc_inj2 {α β : Type} {P : α → Prop} {R : β → Prop} (f : α → β) (hf : ∀ a a', P a → P a' → f a = f a' → a = a') (h : ∀ c, R c ↔ ∃ a, P a ∧ c = f a) : cc R = cc P := by
  refine two_ext (cc_le _) (cc_le _) ?_ ?_
  · rw [cc_some, cc_some]
    exact ⟨fun ⟨c, hc⟩ => ((h c).1 hc).imp fun a ha => ha.1, fun ⟨a, ha⟩ => ⟨f a, (h _).2 ⟨a, ha, rfl⟩⟩⟩
  · rw [cc_two, cc_two]
    constructor
    · rintro ⟨c, d, hn, hc, hd⟩
      obtain ⟨a, ha, rfl⟩ := (h c).1 hc
      obtain ⟨b, hb, rfl⟩ := (h d).1 hd
      exact ⟨a, b, fun e => hn (by rw [e]), ha, hb⟩
    · rintro ⟨a, b, hn, ha, hb⟩
      exact ⟨f a, f b, fun e => hn (hf _ _ ha hb e), (h _).2 ⟨a, ha, rfl⟩, (h _).2 ⟨b, hb, rfl⟩⟩
/-- A word's trees, whole. -/
theorem sp_whole {ps : List Pd} {w : List Int} {t : T} {s : Sy} : Sp ps w t s 0 w.length ↔ sh ps t s = true ∧ tk t = nums 0 w.length ∧ yl ps t s = w := by
  constructor
  · intro h
    have h1 := h.tk0
    have h2 := h.yl0
    simp only [Nat.sub_zero, List.drop_zero, List.take_length] at h1 h2
    exact ⟨h.s0, h1, h2⟩
  · rintro ⟨h1, h2, h3⟩
    exact ⟨h1, Nat.zero_le _, Nat.le_refl _, by simpa using h2, by simpa using h3⟩
/-- LEWIS, STEARNS: one at most. -/
theorem cnt_ll {ps : List Pd} {E : Nat → Bool} {F V : Nat → Wd} {R M : Nat → Bool} {nt n : Nat} (g : Lg ps E F V R M nt n) {w : List Int} (hw : ∀ x ∈ w, 0 ≤ x ∧ x < (nt : Int)) : cnt ps w 0 0 w.length ≤ 1 := by
  rcases Nat.lt_or_ge (cnt ps w 0 0 w.length) 2 with h | h
  · omega
  · obtain ⟨t, u, hn, ht, hu⟩ := cc_two.1 h
    obtain ⟨t1, t2, t3⟩ := sp_whole.1 ht
    obtain ⟨u1, u2, u3⟩ := sp_whole.1 hu
    exact absurd (ll_one g t1 u1 (by rw [t2, nums_length]) (by rw [u2, nums_length]) (by rw [t3, u3]) (by rw [t3]; exact hw)) hn
/-! One production more. -/
theorem more_at {ps : List Pd} {q : Pd} {p : Int} (h : isPr ps p = true) : isPr (ps ++ [q]) p = true ∧ headOf (ps ++ [q]) p = headOf ps p ∧ bodyOf (ps ++ [q]) p = bodyOf ps p := by
  have hl := isPr_le h
  have h1 : p.toNat < ps.length := by omega
  have e : (ps ++ [q]).getD p.toNat (0, []) = ps.getD p.toNat (0, []) := by
    rw [List.getD_eq_getElem?_getD, List.getD_eq_getElem?_getD, List.getElem?_append_left h1]
  refine ⟨by unfold isPr; simp; omega, by unfold headOf; rw [e], by unfold bodyOf; rw [e]⟩
mutual
theorem sh_more {ps : List Pd} {q : Pd} : ∀ {t : T} {s : Sy}, sh ps t s = true → sh (ps ++ [q]) t s = true ∧ yl (ps ++ [q]) t s = yl ps t s
  | .mk p k l, s, h => by
    by_cases h4 : s.1 = 1
    · have e := sh_is_leaf h h4
      injection e with e1 e2 e3
      subst e1 e3
      exact ⟨sh_of_leaf h4, by rw [yl, yl, if_pos h4, if_pos h4]⟩
    · obtain ⟨h1, h2, h3, h5⟩ := sh_node h h4
      subst h3
      obtain ⟨m1, m2, m3⟩ := more_at (q := q) h1
      obtain ⟨a1, a2⟩ := sh_moreL (q := q) h5
      refine ⟨sh_of_node h4 m1 (by rw [m2]; exact h2) (by rw [m3]; exact a1), ?_⟩
      rw [yl, yl, if_neg h4, if_neg h4, m3]; exact a2
theorem sh_moreL {ps : List Pd} {q : Pd} : ∀ {l : List T} {ss : List Sy}, shL ps l ss = true → shL (ps ++ [q]) l ss = true ∧ ylL (ps ++ [q]) l ss = ylL ps l ss
  | [], ss, h => by
    rw [shL] at h; simp at h; subst h
    exact ⟨by simp [shL], by simp [ylL]⟩
  | t :: l, [], h => by rw [shL] at h; simp at h
  | t :: l, s :: ss, h => by
    rw [shL] at h; simp at h
    obtain ⟨a1, a2⟩ := sh_more (q := q) h.1
    obtain ⟨b1, b2⟩ := sh_moreL (q := q) h.2
    refine ⟨shL_cons a1 b1, ?_⟩
    rw [ylL, ylL]
    simp only [List.headD_cons, List.tail_cons]
    rw [a2, b2]
end
theorem cnt_more {ps : List Pd} (q : Pd) {w : List Int} (a : Int) (i j : Nat) : cnt ps w a i j ≤ cnt (ps ++ [q]) w a i j := cc_mono fun _ h => by
  obtain ⟨a1, a2⟩ := sh_more (q := q) h.s0
  exact ⟨a1, h.ij, h.jl, h.tk0, by rw [a2]; exact h.yl0⟩
/-! The grammar turned round. -/
theorem mirL_append (n : Nat) : ∀ (a b : List T), mirL n (a ++ b) = mirL n b ++ mirL n a
  | [], b => by simp [mirL]
  | t :: a, b => by rw [List.cons_append, mirL, mirL, mirL_append n a b, List.append_assoc]
mutual
theorem mir_mir {ps : List Pd} (n : Nat) : ∀ {t : T} {s : Sy}, sh ps t s = true → mirT n (mirT n t) = t
  | .mk p k l, s, h => by
    by_cases h4 : s.1 = 1
    · have e := sh_is_leaf h h4
      injection e with e1 e2 e3
      subst e1 e3
      rw [mirT, if_pos (by omega), mirT, if_pos (by omega)]
      congr 1
      omega
    · obtain ⟨h1, h2, h3, h5⟩ := sh_node h h4
      have hle := isPr_le h1
      subst h3
      rw [mirT, if_neg (by omega), mirT, if_neg (by omega), mir_mirL n h5]
theorem mir_mirL {ps : List Pd} (n : Nat) : ∀ {l : List T} {ss : List Sy}, shL ps l ss = true → mirL n (mirL n l) = l
  | [], ss, h => by simp [mirL]
  | t :: l, [], h => by rw [shL] at h; simp at h
  | t :: l, s :: ss, h => by
    rw [shL] at h; simp at h
    rw [mirL, mirL_append, mir_mirL n h.2, mirL, mirL, List.nil_append, mir_mir n h.1]
    rfl
end
theorem sp_mir {ps : List Pd} {w : List Int} {t : T} {s : Sy} (h : Sp ps w t s 0 w.length) : Sp (turn ps) w.reverse (mirT w.length t) s 0 w.reverse.length := by
  obtain ⟨h1, h2, h3⟩ := sp_whole.1 h
  obtain ⟨a1, a2, a3, a4, a5⟩ := mir_all w.length h1
  refine sp_whole.2 ⟨a1, ?_, by rw [a5, h3]⟩
  rw [a4, h2, List.length_reverse]; exact nums_mir w.length
/-! What may be empty, and what makes a word: there are trees of it. -/
theorem shL_of_trees {ps : List Pd} {Q : List Int → Prop} (hnil : Q []) (happ : ∀ a b, Q a → Q b → Q (a ++ b)) : ∀ (l : List Sy), (∀ s ∈ l, ∃ t, sh ps t s = true ∧ Q (yl ps t s)) → ∃ ts, shL ps ts l = true ∧ Q (ylL ps ts l)
  | [], _ => ⟨[], by simp [shL], by simpa [ylL] using hnil⟩
  | s :: l, h => by
    obtain ⟨t, h1, h2⟩ := h s (by simp)
    obtain ⟨ts, h3, h4⟩ := shL_of_trees hnil happ l fun u hu => h u (by simp [hu])
    refine ⟨t :: ts, shL_cons h1 h3, ?_⟩
    rw [ylL]
    exact happ _ _ h2 h4
open Classical in
/-- Whatever the least set has, there is a tree of it. -/
theorem least_tree {ps : List Pd} {terms : Bool} {is : Nat → Bool} (hk : Mk ps terms is) {Q : List Int → Prop} (hnil : Q []) (happ : ∀ a b, Q a → Q b → Q (a ++ b)) (hterm : terms = true → ∀ x, Q [x]) (hk2 : ∀ p ∈ ps, (∀ s ∈ p.2, s.1 = 1 ∨ (s.1 = 2 ∧ 0 ≤ s.2)) ∧ 0 ≤ p.1) {i : Nat} (hi : is i = true) : ∃ t, sh ps t (2, (i : Int)) = true ∧ Q (yl ps t (2, (i : Int))) := by
  have key : ∀ i, is i = true → decide (∃ t, sh ps t (2, (i : Int)) = true ∧ Q (yl ps t (2, (i : Int)))) = true := by
    refine fun i hi => hk.sn (fun i => decide (∃ t, sh ps t (2, (i : Int)) = true ∧ Q (yl ps t (2, (i : Int))))) ?_ i hi
    intro p hp ha
    obtain ⟨hks, hp0⟩ := hk2 p hp
    have hall : ∀ s ∈ p.2, ∃ t, sh ps t s = true ∧ Q (yl ps t s) := fun s hs => by
      have h1 := List.all_eq_true.1 ha s hs
      unfold mks at h1
      rcases hks s hs with h4 | h4
      · have ht : terms = true := by
          cases terms with
          | true => rfl
          | false => simp [h4] at h1
        exact ⟨.mk (-1) 0 [], sh_of_leaf h4, by rw [yl, if_pos h4]; exact hterm ht _⟩
      · have h2 : decide (∃ t, sh ps t (2, (s.2.toNat : Int)) = true ∧ Q (yl ps t (2, (s.2.toNat : Int)))) = true := by simpa [h4.1] using h1
        obtain ⟨t, h5, h6⟩ := of_decide_eq_true h2
        have e : s = (2, (s.2.toNat : Int)) := Prod.ext h4.1 (by show s.2 = _; omega)
        rw [← e] at h5 h6
        exact ⟨t, h5, h6⟩
    obtain ⟨ts, h1, h2⟩ := shL_of_trees hnil happ p.2 hall
    obtain ⟨q, hq, e⟩ := List.mem_iff_getElem.1 hp
    obtain ⟨b1, b2⟩ := bodyOf_nat hq
    rw [e] at b1 b2
    have hpr : isPr ps (q : Int) = true := by unfold isPr; simp; omega
    refine decide_eq_true ⟨.mk (q : Int) 0 ts, ?_, ?_⟩
    · exact sh_of_node (by show (2 : Int) ≠ 1; decide) hpr (by rw [b2]; show p.1 = ((p.1.toNat : Nat) : Int); omega) (by rw [b1]; exact h1)
    · rw [yl, if_neg (by show ¬ (2 : Int) = 1; decide), b1]; exact h2
  exact of_decide_eq_true (key i hi)
/-! A tree with its tokens numbered anew. -/
mutual
def renT : Nat → T → T
  | a, .mk p _ l => if p = -1 then .mk (-1) (a : Int) [] else .mk p 0 (renL a l)
def renL : Nat → List T → List T
  | _, [] => []
  | a, t :: l => renT a t :: renL (a + (tk t).length) l
end
mutual
theorem ren_all {ps : List Pd} : ∀ {t : T} {s : Sy} (a : Nat), sh ps t s = true → sh ps (renT a t) s = true ∧ yl ps (renT a t) s = yl ps t s ∧ tk (renT a t) = nums a (tk t).length
  | .mk p k l, s, a, h => by
    by_cases h4 : s.1 = 1
    · have e := sh_is_leaf h h4
      injection e with e1 e2 e3
      subst e1 e3
      rw [renT, if_pos rfl]
      exact ⟨sh_of_leaf h4, by simp [yl, h4], by simp [tk, nums]⟩
    · obtain ⟨h1, h2, h3, h5⟩ := sh_node h h4
      have hle := isPr_le h1
      subst h3
      obtain ⟨a1, a2, a3⟩ := ren_allL a h5
      rw [renT, if_neg (by omega)]
      refine ⟨sh_of_node h4 h1 h2 a1, by rw [yl, yl, if_neg h4, if_neg h4, a2], ?_⟩
      rw [tk, tk, if_neg (by omega), if_neg (by omega), a3]
theorem ren_allL {ps : List Pd} : ∀ {l : List T} {ss : List Sy} (a : Nat), shL ps l ss = true → shL ps (renL a l) ss = true ∧ ylL ps (renL a l) ss = ylL ps l ss ∧ tkL (renL a l) = nums a (tkL l).length
  | [], ss, a, h => by
    rw [shL] at h; simp at h; subst h
    simp [renL, shL, ylL, tkL, nums]
  | t :: l, [], a, h => by rw [shL] at h; simp at h
  | t :: l, s :: ss, a, h => by
    rw [shL] at h; simp at h
    obtain ⟨a1, a2, a3⟩ := ren_all a h.1
    obtain ⟨b1, b2, b3⟩ := ren_allL (a + (tk t).length) h.2
    rw [renL]
    refine ⟨shL_cons a1 b1, ?_, ?_⟩
    · rw [ylL, ylL]
      simp only [List.headD_cons, List.tail_cons]
      rw [a2, b2]
    · rw [tkL, tkL, a3, b3, List.length_append, nums_append]
end
/-- Of a tree's word there is a tree with its tokens numbered. -/
theorem sp_ren {ps : List Pd} {t : T} {s : Sy} (h : sh ps t s = true) : Sp ps (yl ps t s) (renT 0 t) s 0 (yl ps t s).length := by
  obtain ⟨a1, a2, a3⟩ := ren_all 0 h
  exact sp_whole.2 ⟨a1, by rw [a3, tk_len h], a2⟩
/-- The empty word is there just if Empty says so. -/
theorem cnt_empty {ps : List Pd} {E : Nat → Bool} (hE : Mk ps false E) (hk2 : ∀ p ∈ ps, (∀ s ∈ p.2, s.1 = 1 ∨ (s.1 = 2 ∧ 0 ≤ s.2)) ∧ 0 ≤ p.1) : 1 ≤ cnt ps [] 0 0 0 ↔ E 0 = true := by
  constructor
  · intro h
    obtain ⟨t, ht⟩ := cc_some.1 h
    obtain ⟨h1, -, h3⟩ := (sp_whole (w := [])).1 ht
    exact empty_sh hE.cl h1 (by show (2 : Int) ≠ 1; decide) h3
  · intro h
    obtain ⟨t, h1, h2⟩ := least_tree hE (Q := fun l => l = []) rfl (fun a b ha hb => by rw [ha, hb]; rfl) (fun e => by cases e) hk2 h
    have := sp_ren h1
    rw [h2] at this
    exact cc_some.2 ⟨_, this⟩
/-- There are words just if Makes says so. -/
theorem some_word {ps : List Pd} {M : Nat → Bool} (hM : Mk ps true M) (hk2 : ∀ p ∈ ps, (∀ s ∈ p.2, s.1 = 1 ∨ (s.1 = 2 ∧ 0 ≤ s.2)) ∧ 0 ≤ p.1) (i : Nat) : (∃ w, 1 ≤ cnt ps w (i : Int) 0 w.length) ↔ M i = true := by
  constructor
  · rintro ⟨w, h⟩
    obtain ⟨t, ht⟩ := cc_some.1 h
    have := made_sh hM.cl ht.s0 (by show (2 : Int) ≠ 1; decide)
    simpa using this
  · intro h
    obtain ⟨t, h1, -⟩ := least_tree hM (Q := fun _ => True) trivial (fun _ _ _ _ => trivial) (fun _ _ => trivial) hk2 h
    exact ⟨_, cc_some.2 ⟨_, sp_ren h1⟩⟩
end Cg
end Go.Proofs.Ytpbnnmfjahckmaa
