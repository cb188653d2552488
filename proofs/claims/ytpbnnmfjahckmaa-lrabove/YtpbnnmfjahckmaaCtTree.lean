/-
  Trees over a part of a word, plainly: how many, up to two, is the least table that its own rule leaves as it is.
-/
import Derived.Test.YtpbnnmfjahckmaaCtMath
namespace Go.Proofs.Ytpbnnmfjahckmaa
namespace Cg

/-- A tree of a symbol over the part of w from i to j; its tokens are numbered as in w. -/
structure Sp (ps : List Pd) (w : List Int) (t : T) (s : Sy) (i j : Nat) : Prop where
  s0 : sh ps t s = true
  ij : i ≤ j
  jl : j ≤ w.length
  tk0 : tk t = nums i (j - i)
  yl0 : yl ps t s = (w.drop i).take (j - i)
structure SpL (ps : List Pd) (w : List Int) (l : List T) (ss : List Sy) (i j : Nat) : Prop where
  s0 : shL ps l ss = true
  ij : i ≤ j
  jl : j ≤ w.length
  tk0 : tkL l = nums i (j - i)
  yl0 : ylL ps l ss = (w.drop i).take (j - i)
theorem part_len {w : List Int} {i j : Nat} (h : i ≤ j) (k : j ≤ w.length) : ((w.drop i).take (j - i)).length = j - i := by rw [List.length_take, List.length_drop]; omega
theorem part_app {w : List Int} {i m j : Nat} (h : i ≤ m) (k : m ≤ j) (_l : j ≤ w.length) : (w.drop i).take (j - i) = (w.drop i).take (m - i) ++ (w.drop m).take (j - m) := by
  rw [show j - i = (m - i) + (j - m) by omega, List.take_add, List.drop_drop, show i + (m - i) = m by omega]
mutual
theorem tk_len {ps : List Pd} : ∀ {t : T} {s : Sy}, sh ps t s = true → (tk t).length = (yl ps t s).length
  | .mk p k l, s, h => by
    by_cases h4 : s.1 = 1
    · have e := sh_is_leaf h h4
      injection e with e1 e2 e3
      subst e1 e3
      simp [tk, yl, h4]
    · obtain ⟨h1, -, -, h5⟩ := sh_node h h4
      have := isPr_le h1
      rw [tk, yl, if_neg (by omega), if_neg h4]
      exact tk_lenL h5
theorem tk_lenL {ps : List Pd} : ∀ {l : List T} {ss : List Sy}, shL ps l ss = true → (tkL l).length = (ylL ps l ss).length
  | [], ss, h => by simp [tkL, ylL]
  | t :: l, [], h => by rw [shL] at h; simp at h
  | t :: l, s :: ss, h => by
    rw [shL] at h; simp at h
    rw [tkL, ylL, List.length_append, List.length_append, tk_len (s := s) h.1, tk_lenL h.2]
    rfl
end
theorem sp_leaf {ps : List Pd} {w : List Int} {t : T} {s : Sy} {i j : Nat} (h4 : s.1 = 1) : Sp ps w t s i j ↔ (j = i + 1 ∧ w[i]? = some s.2) ∧ t = .mk (-1) (i : Int) [] := by
  constructor
  · intro h
    have e := sh_is_leaf h.s0 h4
    have hy := h.yl0
    have ht := h.tk0
    rw [e] at hy ht
    rw [yl, if_pos h4] at hy
    have hl := congrArg List.length hy
    rw [part_len h.ij h.jl] at hl
    simp at hl
    have hj : j = i + 1 := by have := h.ij; omega
    subst hj
    rw [tk, if_pos rfl, show i + 1 - i = 1 by omega, nums_one] at ht
    simp at ht
    refine ⟨⟨rfl, ?_⟩, by rw [e, ht]⟩
    have hw : i < w.length := by have := h.jl; omega
    rw [show i + 1 - i = 1 by omega, List.drop_eq_getElem_cons hw, List.take_succ_cons, List.take_zero] at hy
    simp only [List.cons.injEq, and_true] at hy
    rw [List.getElem?_eq_getElem hw, hy]
  · rintro ⟨⟨rfl, hw⟩, rfl⟩
    obtain ⟨hl, hv⟩ := List.getElem?_eq_some_iff.1 hw
    refine ⟨sh_of_leaf h4, by omega, by omega, ?_, ?_⟩
    · rw [show i + 1 - i = 1 by omega, nums_one]; simp [tk]
    · rw [yl, if_pos h4, show i + 1 - i = 1 by omega, List.drop_eq_getElem_cons hl, ← hv, List.take_succ_cons, List.take_zero]
theorem sp_node {ps : List Pd} {w : List Int} {t : T} {s : Sy} {i j : Nat} (h4 : s.1 ≠ 1) : Sp ps w t s i j ↔ ∃ z : Nat, z < ps.length ∧ (ps.getD z (0, [])).1 = s.2 ∧ ∃ l, SpL ps w l (ps.getD z (0, [])).2 i j ∧ t = T.mk (z : Int) 0 l := by
  constructor
  · intro h
    obtain ⟨p, k, l⟩ := t
    obtain ⟨h1, h2, h3, h5⟩ := sh_node h.s0 h4
    have hle := isPr_le h1
    obtain ⟨z, rfl⟩ : ∃ z : Nat, p = (z : Int) := ⟨p.toNat, by omega⟩
    subst h3
    have hy := h.yl0
    have ht := h.tk0
    rw [yl, if_neg h4] at hy
    rw [tk, if_neg (by omega)] at ht
    exact ⟨z, by omega, by simpa [headOf] using h2, l, ⟨by simpa [bodyOf] using h5, h.ij, h.jl, ht, by simpa [bodyOf] using hy⟩, rfl⟩
  · rintro ⟨z, hz, hh, l, h, rfl⟩
    refine ⟨sh_of_node h4 (by unfold isPr; simp; omega) (by simpa [headOf] using hh) (by simpa [bodyOf] using h.s0), h.ij, h.jl, ?_, ?_⟩
    · rw [tk, if_neg (by omega)]; exact h.tk0
    · rw [yl, if_neg h4]; simpa [bodyOf] using h.yl0
theorem spL_nil {ps : List Pd} {w : List Int} {l : List T} {i j : Nat} : SpL ps w l [] i j ↔ (i = j ∧ j ≤ w.length) ∧ l = [] := by
  constructor
  · intro h
    cases l with
    | cons t l => have := h.s0; rw [shL] at this; simp at this
    | nil =>
      have hy := congrArg List.length h.yl0
      rw [part_len h.ij h.jl] at hy
      simp [ylL] at hy
      exact ⟨⟨by have := h.ij; omega, h.jl⟩, rfl⟩
  · rintro ⟨⟨rfl, h⟩, rfl⟩
    exact ⟨by simp [shL], Nat.le_refl _, h, by simp [tkL, nums], by simp [ylL]⟩
theorem spL_cons {ps : List Pd} {w : List Int} {c : List T} {s : Sy} {ss : List Sy} {i j : Nat} : SpL ps w c (s :: ss) i j ↔ ∃ m, m < j + 1 ∧ ∃ t l, Sp ps w t s i m ∧ SpL ps w l ss m j ∧ c = t :: l := by
  constructor
  · intro h
    cases c with
    | nil => have := h.s0; rw [shL] at this; simp at this
    | cons t l =>
      have h0 := h.s0
      rw [shL] at h0; simp at h0
      have hy := h.yl0
      have ht := h.tk0
      rw [ylL] at hy
      simp only [List.headD_cons, List.tail_cons] at hy
      rw [tkL] at ht
      have e1 := tk_len h0.1
      have e2 := congrArg List.length hy
      rw [part_len h.ij h.jl, List.length_append] at e2
      have hij := h.ij
      have hjl := h.jl
      have hm : i + (yl ps t s).length ≤ j := by omega
      have hp := part_app (w := w) (i := i) (m := i + (yl ps t s).length) (j := j) (by omega) hm h.jl
      rw [hp] at hy
      obtain ⟨y1, y2⟩ := List.append_inj hy (by rw [part_len (by omega) (by omega)]; omega)
      rw [show j - i = (tk t).length + (j - (i + (yl ps t s).length)) by omega, nums_append] at ht
      obtain ⟨t1, t2⟩ := List.append_inj ht (by rw [nums_length])
      refine ⟨i + (yl ps t s).length, by omega, t, l, ⟨h0.1, by omega, by omega, ?_, y1⟩, ⟨h0.2, hm, h.jl, ?_, y2⟩, rfl⟩
      · rw [show i + (yl ps t s).length - i = (tk t).length by omega]; exact t1
      · rw [t2, e1]
  · rintro ⟨m, hm, t, l, h1, h2, rfl⟩
    have := h1.ij
    refine ⟨shL_cons h1.s0 h2.s0, by have := h2.ij; omega, h2.jl, ?_, ?_⟩
    · rw [tkL, h1.tk0, h2.tk0, show j - i = (m - i) + (j - m) by have := h2.ij; omega, nums_append, show i + (m - i) = m by omega]
    · rw [ylL]
      simp only [List.headD_cons, List.tail_cons]
      rw [h1.yl0, h2.yl0, part_app h1.ij h2.ij h2.jl]
theorem sp_end {ps : List Pd} {w : List Int} {t : T} {s : Sy} {i j j' : Nat} (h : Sp ps w t s i j) (k : Sp ps w t s i j') : j = j' := by
  have h1 := congrArg List.length h.tk0
  have h2 := congrArg List.length k.tk0
  rw [nums_length] at h1 h2
  have := h.ij
  have := k.ij
  omega
/-! The table's own rule. -/
def one1 (f : Int → Nat → Nat → Nat) (w : List Int) (s : Sy) (i j : Nat) : Nat := if s.1 = 1 then (if j = i + 1 ∧ w[i]? = some s.2 then 1 else 0) else f s.2 i j
def row1 (f : Int → Nat → Nat → Nat) (w : List Int) : List Sy → Nat → Nat → Nat
  | [], i, j => if i = j ∧ j ≤ w.length then 1 else 0
  | s :: l, i, j => min 2 (sm (j + 1) fun m => min 2 (one1 f w s i m * row1 f w l m j))
def stp (ps : List Pd) (w : List Int) (f : Int → Nat → Nat → Nat) (a : Int) (i j : Nat) : Nat := min 2 (sm ps.length fun q => if (ps.getD q (0, [])).1 = a then row1 f w (ps.getD q (0, [])).2 i j else 0)
/-- Which trees are looked at: all, or those up to a height. -/
structure Lk2 (A : T → Prop) (AL : List T → Prop) : Prop where
  leaf : ∀ k, A (.mk (-1) k [])
  nil : AL []
  cons : ∀ t l, AL (t :: l) ↔ A t ∧ AL l
theorem row1_cc {ps : List Pd} {w : List Int} {A : T → Prop} {AL : List T → Prop} (hA : Lk2 A AL) {f : Int → Nat → Nat → Nat} (hf : ∀ s : Sy, s.1 ≠ 1 → ∀ i j, f s.2 i j = cc fun t => Sp ps w t s i j ∧ A t) : ∀ (ss : List Sy) (i j : Nat), row1 f w ss i j = cc fun l => SpL ps w l ss i j ∧ AL l
  | [], i, j => by
    rw [row1]
    by_cases h : i = j ∧ j ≤ w.length
    · rw [if_pos h]
      exact (cc_only [] ⟨spL_nil.2 ⟨h, rfl⟩, hA.nil⟩ fun b hb => (spL_nil.1 hb.1).2).symm
    · rw [if_neg h]
      exact (cc_none fun l hl => h (spL_nil.1 hl.1).1).symm
  | s :: ss, i, j => by
    rw [row1]
    have h1 : cc (fun l => SpL ps w l (s :: ss) i j ∧ AL l) = cc fun c => ∃ m, m < j + 1 ∧ ∃ t l, (Sp ps w t s i m ∧ A t) ∧ (SpL ps w l ss m j ∧ AL l) ∧ c = t :: l := cc_congr fun c => by
      rw [spL_cons]
      constructor
      · rintro ⟨⟨m, hm, t, l, h1, h2, rfl⟩, ha⟩
        obtain ⟨a1, a2⟩ := (hA.cons t l).1 ha
        exact ⟨m, hm, t, l, ⟨h1, a1⟩, ⟨h2, a2⟩, rfl⟩
      · rintro ⟨m, hm, t, l, ⟨h1, a1⟩, ⟨h2, a2⟩, rfl⟩
        exact ⟨⟨m, hm, t, l, h1, h2, rfl⟩, (hA.cons t l).2 ⟨a1, a2⟩⟩
    rw [h1, cc_sum (fun m m' c hm hm' ⟨t, l, a, _, e⟩ ⟨t', l', a', _, e'⟩ => by
      rw [e] at e'
      simp only [List.cons.injEq] at e'
      obtain ⟨rfl, -⟩ := e'
      exact sp_end a.1 a'.1)]
    congr 1
    refine sm_congr fun m hm => ?_
    rw [cc_prod (P := fun t => Sp ps w t s i m ∧ A t) (Q := fun l => SpL ps w l ss m j ∧ AL l) (fun t l => t :: l) (fun a b a' b' e => by simpa using e) (fun c => Iff.rfl), row1_cc hA hf ss m j]
    congr 2
    unfold one1
    by_cases h4 : s.1 = 1
    · rw [if_pos h4]
      by_cases h5 : m = i + 1 ∧ w[i]? = some s.2
      · rw [if_pos h5]
        exact (cc_only (.mk (-1) (i : Int) []) ⟨(sp_leaf h4).2 ⟨h5, rfl⟩, hA.leaf _⟩ fun b hb => ((sp_leaf h4).1 hb.1).2).symm
      · rw [if_neg h5]
        exact (cc_none fun t ht => h5 ((sp_leaf h4).1 ht.1).1).symm
    · rw [if_neg h4]
      exact hf s h4 i m
theorem stp_cc {ps : List Pd} {w : List Int} {A : T → Prop} {AL : List T → Prop} {A' : T → Prop} (hA : Lk2 A AL) (hA' : ∀ (z : Nat) l, A' (.mk (z : Int) 0 l) ↔ AL l) {f : Int → Nat → Nat → Nat} (hf : ∀ s : Sy, s.1 ≠ 1 → ∀ i j, f s.2 i j = cc fun t => Sp ps w t s i j ∧ A t) (s : Sy) (h4 : s.1 ≠ 1) (i j : Nat) : stp ps w f s.2 i j = cc fun t => Sp ps w t s i j ∧ A' t := by
  unfold stp
  have h1 : cc (fun t => Sp ps w t s i j ∧ A' t) = cc fun t => ∃ z, z < ps.length ∧ ((ps.getD z (0, [])).1 = s.2 ∧ ∃ l, (SpL ps w l (ps.getD z (0, [])).2 i j ∧ AL l) ∧ t = T.mk (z : Int) 0 l) := cc_congr fun t => by
    rw [sp_node h4]
    constructor
    · rintro ⟨⟨z, hz, hh, l, h1, rfl⟩, ha⟩
      exact ⟨z, hz, hh, l, ⟨h1, (hA' z l).1 ha⟩, rfl⟩
    · rintro ⟨z, hz, hh, l, ⟨h1, ha⟩, rfl⟩
      exact ⟨⟨z, hz, hh, l, h1, rfl⟩, (hA' z l).2 ha⟩
  rw [h1, cc_sum (fun z z' t _ _ ⟨_, l, _, e⟩ ⟨_, l', _, e'⟩ => by
    rw [e] at e'
    injection e' with e1 _ _
    omega)]
  congr 1
  refine sm_congr fun z hz => ?_
  by_cases hh : (ps.getD z (0, [])).1 = s.2
  · rw [if_pos hh, row1_cc hA hf]
    exact (cc_inj (fun l => T.mk (z : Int) 0 l) (fun a b e => by injection e) fun t => ⟨fun ht => ht.2, fun ht => ⟨hh, ht⟩⟩).symm
  · rw [if_neg hh]
    exact (cc_none fun t ht => hh ht.1).symm
/-- How many trees, of whatever height. -/
noncomputable def cnt (ps : List Pd) (w : List Int) (a : Int) (i j : Nat) : Nat := cc fun t => Sp ps w t (2, a) i j
theorem sp_kind {ps : List Pd} {w : List Int} {t : T} {s : Sy} {i j : Nat} (h4 : s.1 ≠ 1) : Sp ps w t s i j ↔ Sp ps w t (2, s.2) i j := by
  rw [sp_node h4, sp_node (s := (2, s.2)) (by show (2 : Int) ≠ 1; decide)]
theorem lk_all : Lk2 (fun _ => True) (fun _ => True) := ⟨fun _ => trivial, trivial, fun _ _ => by simp⟩
theorem cnt_all {ps : List Pd} {w : List Int} (s : Sy) (h4 : s.1 ≠ 1) (i j : Nat) : cnt ps w s.2 i j = cc fun t => Sp ps w t s i j ∧ True := by
  unfold cnt; exact cc_congr fun t => by rw [sp_kind h4]; simp
/-- The table of the numbers is left as it is by its own rule. -/
theorem cnt_fix {ps : List Pd} {w : List Int} (a : Int) (i j : Nat) : stp ps w (cnt ps w) a i j = cnt ps w a i j := by
  have := stp_cc (ps := ps) (w := w) lk_all (A' := fun _ => True) (fun _ _ => Iff.rfl) (fun s h4 i j => cnt_all s h4 i j) (2, a) (by show (2 : Int) ≠ 1; decide) i j
  rw [this, cnt_all (2, a) (by show (2 : Int) ≠ 1; decide)]
mutual
/-- The height, leaves left out. -/
def T.nh : T → Nat
  | .mk p _ l => if p = -1 then 0 else nhL l + 1
def nhL : List T → Nat
  | [] => 0
  | t :: l => max t.nh (nhL l)
end
noncomputable def cntH (ps : List Pd) (w : List Int) (h : Nat) (a : Int) (i j : Nat) : Nat := cc fun t => Sp ps w t (2, a) i j ∧ t.nh ≤ h
theorem lk_h (h : Nat) : Lk2 (fun t => t.nh ≤ h) (fun l => nhL l ≤ h) := ⟨fun k => by rw [T.nh, if_pos rfl]; omega, by rw [nhL]; omega, fun t l => by rw [nhL]; omega⟩
theorem cntH_zero {ps : List Pd} {w : List Int} (a : Int) (i j : Nat) : cntH ps w 0 a i j = 0 := cc_none fun t ⟨h, k⟩ => by
  obtain ⟨z, -, -, l, -, rfl⟩ := (sp_node (by show (2 : Int) ≠ 1; decide)).1 h
  rw [T.nh, if_neg (by omega)] at k
  omega
theorem cntH_succ {ps : List Pd} {w : List Int} (h : Nat) (a : Int) (i j : Nat) : cntH ps w (h + 1) a i j = stp ps w (cntH ps w h) a i j := by
  have := stp_cc (ps := ps) (w := w) (lk_h h) (A' := fun t => t.nh ≤ h + 1) (fun z l => by rw [T.nh, if_neg (by omega)]; omega) (f := cntH ps w h) (fun s h4 i j => by unfold cntH; exact cc_congr fun t => by rw [sp_kind h4]) (2, a) (by show (2 : Int) ≠ 1; decide) i j
  rw [this]; rfl
/-! What the rule does to lesser tables. -/
theorem sm_mono {n : Nat} {g g' : Nat → Nat} (h : ∀ i, i < n → g i ≤ g' i) : sm n g ≤ sm n g' := by
  induction n with
  | zero => exact Nat.le_refl _
  | succ n ih => rw [sm, sm]; have := ih fun i hi => h i (by omega); have := h n (by omega); omega
theorem one1_mono {f g : Int → Nat → Nat → Nat} {w : List Int} (h : ∀ a i j, f a i j ≤ g a i j) (s : Sy) (i j : Nat) : one1 f w s i j ≤ one1 g w s i j := by
  unfold one1
  split
  · exact Nat.le_refl _
  · exact h _ _ _
theorem row1_mono {f g : Int → Nat → Nat → Nat} {w : List Int} (h : ∀ a i j, f a i j ≤ g a i j) : ∀ (l : List Sy) (i j : Nat), row1 f w l i j ≤ row1 g w l i j
  | [], i, j => Nat.le_refl _
  | s :: l, i, j => by
    rw [row1, row1]
    have := sm_mono (n := j + 1) (g := fun m => min 2 (one1 f w s i m * row1 f w l m j)) (g' := fun m => min 2 (one1 g w s i m * row1 g w l m j)) fun m _ => by
      have : one1 f w s i m * row1 f w l m j ≤ one1 g w s i m * row1 g w l m j := Nat.mul_le_mul (one1_mono h s i m) (row1_mono h l m j)
      omega
    omega
theorem stp_mono {ps : List Pd} {f g : Int → Nat → Nat → Nat} {w : List Int} (h : ∀ a i j, f a i j ≤ g a i j) (a : Int) (i j : Nat) : stp ps w f a i j ≤ stp ps w g a i j := by
  unfold stp
  have := sm_mono (n := ps.length) (g := fun q => if (ps.getD q (0, [])).1 = a then row1 f w (ps.getD q (0, [])).2 i j else 0) (g' := fun q => if (ps.getD q (0, [])).1 = a then row1 g w (ps.getD q (0, [])).2 i j else 0) fun q _ => by
    split
    · exact row1_mono h _ _ _
    · exact Nat.le_refl _
  omega
/-- What is below the numbers stays below them. -/
theorem below_cnt {ps : List Pd} {w : List Int} {f : Int → Nat → Nat → Nat} (h : ∀ a i j, f a i j ≤ cnt ps w a i j) (a : Int) (i j : Nat) : stp ps w f a i j ≤ cnt ps w a i j := by
  rw [← cnt_fix]; exact stp_mono h a i j
theorem cntH_le {ps : List Pd} {w : List Int} {f : Int → Nat → Nat → Nat} (h : ∀ a i j, stp ps w f a i j ≤ f a i j) (k : Nat) : ∀ a i j, cntH ps w k a i j ≤ f a i j := by
  induction k with
  | zero => intro a i j; rw [cntH_zero]; omega
  | succ k ih => intro a i j; rw [cntH_succ]; exact Nat.le_trans (stp_mono ih a i j) (h a i j)
/-- What its own rule makes no greater is the numbers at least. -/
theorem cnt_le {ps : List Pd} {w : List Int} {f : Int → Nat → Nat → Nat} (h : ∀ a i j, stp ps w f a i j ≤ f a i j) (a : Int) (i j : Nat) : cnt ps w a i j ≤ f a i j := by
  rcases Nat.lt_or_ge (cnt ps w a i j) 1 with h0 | h0
  · omega
  · rcases Nat.lt_or_ge (cnt ps w a i j) 2 with h1 | h1
    · obtain ⟨t, ht⟩ := cc_some.1 h0
      have h2 : 1 ≤ cntH ps w t.nh a i j := cc_some.2 ⟨t, ht, Nat.le_refl _⟩
      have := cntH_le h t.nh a i j
      omega
    · obtain ⟨t, u, hn, ht, hu⟩ := cc_two.1 h1
      have h2 : 2 ≤ cntH ps w (max t.nh u.nh) a i j := cc_two.2 ⟨t, u, hn, ⟨ht, by omega⟩, ⟨hu, by omega⟩⟩
      have := cntH_le h (max t.nh u.nh) a i j
      have := cc_le fun t => Sp ps w t (2, a) i j
      have e : cnt ps w a i j ≤ 2 := this
      omega
/-- A table below the numbers that its own rule makes no greater is the numbers. -/
theorem cnt_is {ps : List Pd} {w : List Int} {f : Int → Nat → Nat → Nat} (h : ∀ a i j, f a i j ≤ cnt ps w a i j) (k : ∀ a i j, stp ps w f a i j ≤ f a i j) (a : Int) (i j : Nat) : f a i j = cnt ps w a i j := Nat.le_antisymm (h a i j) (cnt_le k a i j)
end Cg
end Go.Proofs.Ytpbnnmfjahckmaa
