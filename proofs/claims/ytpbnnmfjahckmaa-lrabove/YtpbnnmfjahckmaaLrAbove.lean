/-
  What is LL(1) is LR(1), plainly: a grammar without a clash, all of whose nonterminals make something, has no state with two acts.
-/
import Derived.Test.YtpbnnmfjahckmaaGrF
import Derived.Test.YtpbnnmfjahckmaaCtLaws
namespace Go.Proofs.Ytpbnnmfjahckmaa
namespace Cg

/-- What one who climbs down still has to do. -/
inductive Td where
  | sym (s : Sy)
  | cls (z : Nat)
inductive Ls (nt : Nat) (ps : List Pd) (S : Nat → Wd) : Ev → List Td → List Int → List Td → List Int → Prop where
  | tok (c : Int) (k : List Td) (r r' : List Int) (hr : r = c :: r') : Ls nt ps S (2, c) (.sym (1, c) :: k) r k r'
  | opn (s : Sy) (hd z : Nat) (k : List Td) (r : List Int) : s.1 ≠ 1 → s.2 = (hd : Int) → rowA ps S nt hd (colOf nt r) = (z : Int) → Ls nt ps S (1, (z : Int)) (.sym s :: k) r ((ps.getD z (0, [])).2.map .sym ++ .cls z :: k) r
  | cls (z : Nat) (k : List Td) (r : List Int) : Ls nt ps S (3, (z : Int)) (.cls z :: k) r k r
inductive Lss (nt : Nat) (ps : List Pd) (S : Nat → Wd) : List Ev → List Td → List Int → List Td → List Int → Prop where
  | nil (k : List Td) (r : List Int) : Lss nt ps S [] k r k r
  | cons (e : Ev) (l : List Ev) (k k' k'' : List Td) (r r' r'' : List Int) : Ls nt ps S e k r k' r' → Lss nt ps S l k' r' k'' r'' → Lss nt ps S (e :: l) k r k'' r''
theorem Lss.app {nt : Nat} {ps : List Pd} {S : Nat → Wd} {l m : List Ev} {k k' k'' : List Td} {r r' r'' : List Int} (h : Lss nt ps S l k r k' r') (q : Lss nt ps S m k' r' k'' r'') : Lss nt ps S (l ++ m) k r k'' r'' := by
  induction h with
  | nil => simpa using q
  | cons e l k k' k3 r r' r3 h1 _ ih => exact .cons e _ _ _ _ _ _ _ h1 (ih q)
/-- Tokens and closes. -/
def cm (l : List Ev) : Nat := (l.filter fun e => decide (e.1 ≠ 1)).length
theorem cm_app (a b : List Ev) : cm (a ++ b) = cm a + cm b := by simp [cm]
/-- A right symbol. -/
def Ry (nt n : Nat) (s : Sy) : Prop := (s.1 = 1 ∧ 0 ≤ s.2 ∧ s.2 < (nt : Int)) ∨ (s.1 = 2 ∧ 0 ≤ s.2 ∧ s.2 < (n : Int))
mutual
theorem ld_sh {ps : List Pd} {E : Nat → Bool} {F V : Nat → Wd} {R M : Nat → Bool} {nt n : Nat} (g : Lg ps E F V R M nt n) : ∀ {t : T} {s : Sy} (k : List Td) (r : List Int), sh ps t s = true → Ry nt n s → (s.1 ≠ 1 → le (nx r) (V s.2.toNat)) → Rg2 nt (yl ps t s ++ r) → ∃ l, Lss nt ps (sts ps E F V) l (.sym s :: k) (yl ps t s ++ r) k r ∧ cm l = t.sz
  | .mk p kk l, s, k, r, h, hs, hV, hx => by
    by_cases h4 : s.1 = 1
    · have e := sh_is_leaf h h4
      injection e with e1 e2 e3
      subst e1 e3
      obtain ⟨s1, s2⟩ := s
      simp only at h4
      subst h4
      rw [yl, if_pos rfl]
      exact ⟨[(2, s2)], .cons _ _ _ _ _ _ _ _ (.tok s2 k _ r rfl) (.nil _ _), by simp [cm, T.sz, szL]⟩
    · obtain ⟨h1, h2, h3, h5⟩ := sh_node h h4
      have hle := isPr_le h1
      subst h3
      obtain ⟨z, rfl⟩ : ∃ z : Nat, p = (z : Int) := ⟨p.toNat, by omega⟩
      obtain ⟨-, hs0, hsn⟩ : s.1 = 2 ∧ 0 ≤ s.2 ∧ s.2 < (n : Int) := by
        rcases hs with h | h
        · exact absurd h.1 h4
        · exact h
      have hsd : s.2 = ((s.2.toNat : Nat) : Int) := by omega
      obtain ⟨m1, m2⟩ := may_node g.fa g.tt h h4 hsd (hV h4) hx
      have o1 := row_one g.no (by omega) (col_lt hx) m1 m2
      obtain ⟨b1, b2⟩ := bodyOf_nat m1
      have hps := List.getElem_mem m1
      have eg : ps.getD z (0, []) = ps[z] := by rw [List.getD_eq_getElem?_getD, List.getElem?_eq_getElem m1]; rfl
      have hhd : ps[z].1.toNat = s.2.toNat := by rw [← b2, h2]
      have hyl : yl ps (.mk (z : Int) 0 l) s = ylL ps l ps[z].2 := by rw [yl, if_neg h4, b1]
      rw [hyl] at hx o1 ⊢
      rw [b1] at h5
      obtain ⟨le1, hl1, hl2⟩ := ld_shL g (.cls z :: k) r h5 (g.rg.ok z m1) (V s.2.toNat) (hV h4) (fun q hq h6 => by
        rcases (g.rg.ok z m1) _ (List.getElem_mem hq) with h7 | h7
        · exact absurd h7.1 h6
        · have := g.fa.w.cl.st _ hps q hq h7.1
          rw [hhd] at this
          exact this) hx
      refine ⟨(1, (z : Int)) :: (le1 ++ [(3, (z : Int))]), .cons _ _ _ _ _ _ _ _ (.opn s s.2.toNat z k _ h4 hsd o1) ?_, ?_⟩
      · rw [eg]
        exact hl1.app (.cons _ _ _ _ _ _ _ _ (.cls z k r) (.nil _ _))
      · have : cm ((1, (z : Int)) :: (le1 ++ [(3, (z : Int))])) = cm le1 + 1 := by simp [cm]
        rw [this, hl2, T.sz]
theorem ld_shL {ps : List Pd} {E : Nat → Bool} {F V : Nat → Wd} {R M : Nat → Bool} {nt n : Nat} (g : Lg ps E F V R M nt n) : ∀ {l : List T} {ss : List Sy} (k : List Td) (r : List Int), shL ps l ss = true → OkL (nt : Int) n ss → ∀ (b : Wd), le (nx r) b → (∀ q (hq : q < ss.length), ss[q].1 ≠ 1 → le (bg E F (ss.drop (q + 1)) b) (V ss[q].2.toNat)) → Rg2 nt (ylL ps l ss ++ r) → ∃ le1, Lss nt ps (sts ps E F V) le1 (ss.map .sym ++ k) (ylL ps l ss ++ r) k r ∧ cm le1 = szL l
  | [], ss, k, r, h, hok, b, hb, hc, hx => by
    rw [shL] at h; simp at h; subst h
    exact ⟨[], by simpa [ylL] using Lss.nil (nt := nt) (ps := ps) (S := sts ps E F V) k r, by simp [cm, szL]⟩
  | t :: l, [], k, r, h, hok, b, hb, hc, hx => by rw [shL] at h; simp at h
  | t :: l, s :: ss, k, r, h, hok, b, hb, hc, hx => by
    rw [shL] at h; simp at h
    rw [ylL] at hx ⊢
    simp only [List.headD_cons, List.tail_cons, List.append_assoc] at hx ⊢
    have n1 := next_shL g.fa.m.cl g.fa.e.cl g.fa.f.cl h.2 r b (Or.inr hb)
    have c2 := hc 0 (by simp)
    simp only [List.getElem_cons_zero, Nat.zero_add, List.drop_succ_cons, List.drop_zero] at c2
    obtain ⟨l1, a1, a2⟩ := ld_sh g (ss.map .sym ++ k) (ylL ps l ss ++ r) h.1 (hok s (by simp)) (fun h6 => le_trans n1 (c2 h6)) hx
    obtain ⟨l2, b1, b2⟩ := ld_shL g k r h.2 (fun u hu => hok u (by simp [hu])) b hb (fun q hq => by
      have := hc (q + 1) (by simp; exact hq)
      simpa using this) (fun x hm => hx x (List.mem_append_right _ hm))
    exact ⟨l1 ++ l2, a1.app b1, by rw [cm_app, a2, b2, szL]⟩
end
/-! Two runs over words that are one as far as they are looked at. -/
theorem ls_det {nt : Nat} {ps : List Pd} {S : Nat → Wd} {e e' : Ev} {k k1 k2 : List Td} {u v1 v2 r1 r2 : List Int} (hc : colOf nt v1 = colOf nt v2) (h : Ls nt ps S e k (u ++ v1) k1 r1) (q : Ls nt ps S e' k (u ++ v2) k2 r2) (hx : Rg2 nt (u ++ v1)) (hx2 : Rg2 nt (u ++ v2)) : e = e' ∧ k1 = k2 ∧ ((∃ u', r1 = u' ++ v1 ∧ r2 = u' ++ v2) ∨ (u = [] ∧ r1.length < v1.length)) := by
  have hcol : colOf nt (u ++ v1) = colOf nt (u ++ v2) := by
    cases u with
    | nil => simpa using hc
    | cons x u => rfl
  cases h with
  | tok c _ _ _ hr =>
    cases q with
    | tok c' _ _ _ hr' =>
      refine ⟨rfl, rfl, ?_⟩
      cases u with
      | nil => exact Or.inr ⟨rfl, by rw [List.nil_append] at hr; rw [hr]; simp⟩
      | cons x u =>
        simp only [List.cons_append, List.cons.injEq] at hr hr'
        exact Or.inl ⟨u, hr.2.symm, hr'.2.symm⟩
    | opn s hd z _ _ h1 h2 h3 => simp at h1
  | opn s hd z _ _ h1 h2 h3 =>
    cases q with
    | tok c' _ _ _ hr' => simp at h1
    | opn _ hd' z' _ _ h1' h2' h3' =>
      obtain rfl : hd = hd' := by rw [h2] at h2'; exact Int.ofNat.inj h2'
      rw [hcol] at h3
      obtain rfl : z = z' := by rw [h3] at h3'; exact Int.ofNat.inj h3'
      exact ⟨rfl, rfl, Or.inl ⟨u, rfl, rfl⟩⟩
  | cls z _ _ =>
    cases q with
    | cls _ _ _ => exact ⟨rfl, rfl, Or.inl ⟨u, rfl, rfl⟩⟩
theorem lss_len {nt : Nat} {ps : List Pd} {S : Nat → Wd} {l : List Ev} {k k' : List Td} {r r' : List Int} (h : Lss nt ps S l k r k' r') : ∃ u, r = u ++ r' := by
  induction h with
  | nil k r => exact ⟨[], rfl⟩
  | cons e l k k' k'' r r' r'' h1 _ ih =>
    obtain ⟨u, hu⟩ := ih
    cases h1 with
    | tok c _ _ _ hr => exact ⟨c :: u, by rw [hr, hu]; rfl⟩
    | opn => exact ⟨u, hu⟩
    | cls => exact ⟨u, hu⟩
theorem lss_det {nt : Nat} {ps : List Pd} {S : Nat → Wd} {v1 v2 : List Int} (hc : colOf nt v1 = colOf nt v2) {l : List Ev} {k k1 : List Td} {r r1 : List Int} (h : Lss nt ps S l k r k1 r1) : r1 = v1 → ∀ {u : List Int} {m : List Ev} {k2 : List Td}, r = u ++ v1 → Rg2 nt (u ++ v1) → Rg2 nt (u ++ v2) → Lss nt ps S m k (u ++ v2) k2 v2 → (∃ d w, m = l ++ d ∧ Lss nt ps S d k1 (w ++ v2) k2 v2) ∨ (∃ d w, l = m ++ d ∧ Lss nt ps S d k2 (w ++ v1) k1 v1) := by
  induction h with
  | nil k r =>
    rintro rfl u m k2 e hx hx2 hm
    exact Or.inl ⟨m, u, rfl, hm⟩
  | cons e l k k' k'' r r' r'' h1 h2 ih =>
    rintro rfl u m k2 rfl hx hx2 hm
    generalize hr2 : u ++ v2 = s2 at hm
    cases hm with
    | nil => exact Or.inr ⟨e :: l, u, rfl, .cons e l _ _ _ _ _ _ h1 h2⟩
    | cons e' m' _ δ _ _ s' _ q1 q2 =>
      subst hr2
      obtain ⟨rfl, rfl, hh⟩ := ls_det hc h1 q1 hx hx2
      rcases hh with ⟨u', rfl, rfl⟩ | ⟨-, hlt⟩
      · have hsub : ∀ v, (∃ w, u ++ v = w ++ (u' ++ v)) → Rg2 nt (u ++ v) → Rg2 nt (u' ++ v) := fun v ⟨w, e⟩ hh x hm => hh x (by rw [e]; exact List.mem_append_right _ hm)
        have s1 : ∃ w, u ++ r'' = w ++ (u' ++ r'') := lss_len (.cons _ _ _ _ _ _ _ _ h1 (.nil _ _))
        have s2 : ∃ w, u ++ v2 = w ++ (u' ++ v2) := lss_len (.cons _ _ _ _ _ _ _ _ q1 (.nil _ _))
        rcases ih rfl rfl (hsub _ s1 hx) (hsub _ s2 hx2) q2 with ⟨d, w, rfl, hd⟩ | ⟨d, w, rfl, hd⟩
        · exact Or.inl ⟨d, w, rfl, hd⟩
        · exact Or.inr ⟨d, w, rfl, hd⟩
      · obtain ⟨w, hw⟩ := lss_len h2
        have := congrArg List.length hw
        rw [List.length_append] at this
        omega
end Cg
end Go.Proofs.Ytpbnnmfjahckmaa
