/-
  LEWIS, STEARNS, plainly: of a grammar without a clash each word has one tree at most. Counting up to two, plainly: of how many there are, none, one or more; and how many trees stand over a part of a word, by their height. Trees over a part of a word, plainly: how many, up to two, is the least table that its own rule leaves as it is. A tree turned round, plainly: it is one of the grammar turned round, as large and as deep, and its word is turned round. What the numbers of trees are like, plainly: one production more; the grammar turned round; without a clash; what may be empty, and what makes a word. What begins so, plainly: a table of beginnings that its own rule leaves as it is. Climbing down, plainly: who climbs by the rows of a grammar without a clash tells the events of the tree, if there is one; and
  what he has had begins a tree of whatever is ahead. Climbing down a whole word, plainly: a word of the grammar tells its tree's events; what was had begins a word; what is refused begins none.
-/
import Derived.Test.YtpfehghicaaghaaGrM
import Derived.Test.YtpfehghicaaghaaFcW
namespace Go.Proofs.Ytpfehghicaaghaa
namespace Cg

/-- A right grammar without a clash. -/
structure Lg (ps : List Pd) (E : Nat → Bool) (F V : Nat → Wd) (R M : Nat → Bool) (nt n : Nat) : Prop where
  fa : Fa ps E F V R M
  no : clsN ps (sts ps E F V) nt n = []
  tt : nt ≤ 60
  rg : Rg (nt : Int) n ps
theorem bodyOf_nat {ps : List Pd} {z : Nat} (h : z < ps.length) : bodyOf ps (z : Int) = ps[z].2 ∧ headOf ps (z : Int) = ps[z].1 := by
  have eg : ps.getD z (0, []) = ps[z] := by rw [List.getD_eq_getElem?_getD, List.getElem?_eq_getElem h]; rfl
  unfold bodyOf headOf
  rw [Int.toNat_natCast, eg]
  exact ⟨rfl, rfl⟩
theorem col_lt {nt : Nat} {l : List Int} (h : ∀ x ∈ l, 0 ≤ x ∧ x < (nt : Int)) : colOf nt l < nt + 1 := by
  cases l with
  | nil => simp [colOf]
  | cons x r => have := h x (by simp); simp only [colOf]; omega
/-- What is known of a symbol ahead of what comes behind it. -/
def Ahd (V : Nat → Wd) (n : Nat) (s : Sy) (post : List Int) : Prop := s.1 ≠ 1 → (∃ hd : Nat, s.2 = (hd : Int) ∧ hd < n) ∧ le (nx post) (V s.2.toNat)
mutual
theorem ll_sh {ps : List Pd} {E : Nat → Bool} {F V : Nat → Wd} {R M : Nat → Bool} {nt n : Nat} (g : Lg ps E F V R M nt n) : ∀ {t u : T} {s : Sy} {post post2 : List Int} {a : Nat}, sh ps t s = true → sh ps u s = true → tk t = nums a (tk t).length → tk u = nums a (tk u).length → Ahd V n s post → Ahd V n s post2 → yl ps t s ++ post = yl ps u s ++ post2 → (∀ x ∈ yl ps t s ++ post, 0 ≤ x ∧ x < (nt : Int)) → t = u ∧ post = post2
  | .mk p k l, .mk p2 k2 l2, s, post, post2, a, h, h', ht, ht', ha, ha', e, hx => by
    by_cases h4 : s.1 = 1
    · have e1 := sh_is_leaf h h4
      have e2 := sh_is_leaf h' h4
      injection e1 with q1 q2 q3
      injection e2 with r1 r2 r3
      subst q1 q3 r1 r3
      rw [tk, if_pos rfl] at ht ht'
      simp [nums] at ht ht'
      subst ht ht'
      rw [yl, if_pos h4] at e
      simp only [List.cons_append, List.nil_append, List.cons.injEq, true_and] at e
      exact ⟨rfl, e⟩
    · obtain ⟨h1, h2, h3, h5⟩ := sh_node h h4
      obtain ⟨h1', h2', h3', h5'⟩ := sh_node h' h4
      subst h3 h3'
      obtain ⟨⟨hd, hs, hdn⟩, hV⟩ := ha h4
      obtain ⟨-, hV'⟩ := ha' h4
      have hle := isPr_le h1
      have hle' := isPr_le h1'
      obtain ⟨z, rfl⟩ : ∃ z : Nat, p = (z : Int) := ⟨p.toNat, by omega⟩
      obtain ⟨z', rfl⟩ : ∃ z : Nat, p2 = (z : Int) := ⟨p2.toNat, by omega⟩
      rw [hs, Int.toNat_natCast] at hV hV'
      obtain ⟨m1, m2⟩ := may_node g.fa g.tt h h4 hs hV hx
      obtain ⟨m1', m2'⟩ := may_node g.fa g.tt h' h4 hs hV' (by rw [← e]; exact hx)
      have o1 := row_one g.no hdn (col_lt hx) m1 m2
      rw [e] at o1
      have o2 := row_one g.no hdn (col_lt (by rw [← e]; exact hx)) m1' m2'
      obtain rfl : z = z' := by rw [o1] at o2; exact Int.ofNat.inj o2
      rw [yl, yl, if_neg h4, if_neg h4] at e
      rw [yl, if_neg h4] at hx
      rw [tk, if_neg (by omega)] at ht ht'
      obtain ⟨b1, b2⟩ := bodyOf_nat m1
      have hps := List.getElem_mem m1
      have hhd : ps[z].1.toNat = hd := by rw [← b2, h2, hs, Int.toNat_natCast]
      rw [b1] at h5 h5' e hx
      obtain ⟨rfl, rfl⟩ := ll_shL g h5 h5' ht ht' (V hd) hV hV' (fun q hq => by
        have hok := (g.rg.ok z m1) _ (List.getElem_mem hq)
        refine ⟨fun h6 => ?_, fun h6 => ?_⟩
        · rcases hok with h7 | h7
          · exact absurd h7.1 h6
          · exact ⟨ps[z].2[q].2.toNat, by omega, by omega⟩
        · rcases hok with h7 | h7
          · exact absurd h7.1 h6
          · have := g.fa.w.cl.st _ hps q hq h7.1
            rw [hhd] at this
            exact this) e hx
      exact ⟨rfl, rfl⟩
theorem ll_shL {ps : List Pd} {E : Nat → Bool} {F V : Nat → Wd} {R M : Nat → Bool} {nt n : Nat} (g : Lg ps E F V R M nt n) : ∀ {l m : List T} {ss : List Sy} {post post2 : List Int} {a : Nat}, shL ps l ss = true → shL ps m ss = true → tkL l = nums a (tkL l).length → tkL m = nums a (tkL m).length → ∀ (b : Wd), le (nx post) b → le (nx post2) b → (∀ q (hq : q < ss.length), (ss[q].1 ≠ 1 → ∃ hd : Nat, ss[q].2 = (hd : Int) ∧ hd < n) ∧ (ss[q].1 ≠ 1 → le (bg E F (ss.drop (q + 1)) b) (V ss[q].2.toNat))) → ylL ps l ss ++ post = ylL ps m ss ++ post2 → (∀ x ∈ ylL ps l ss ++ post, 0 ≤ x ∧ x < (nt : Int)) → l = m ∧ post = post2
  | [], [], ss, post, post2, a, h, h', ht, ht', b, hb, hb', hc, e, hx => by
    simp only [ylL, List.nil_append] at e
    exact ⟨rfl, e⟩
  | [], u :: m, [], post, post2, a, h, h', ht, ht', b, hb, hb', hc, e, hx => by rw [shL] at h'; simp at h'
  | [], u :: m, s :: ss, post, post2, a, h, h', ht, ht', b, hb, hb', hc, e, hx => by rw [shL] at h; simp at h
  | t :: l, m, [], post, post2, a, h, h', ht, ht', b, hb, hb', hc, e, hx => by rw [shL] at h; simp at h
  | t :: l, [], s :: ss, post, post2, a, h, h', ht, ht', b, hb, hb', hc, e, hx => by rw [shL] at h'; simp at h'
  | t :: l, u :: m, s :: ss, post, post2, a, h, h', ht, ht', b, hb, hb', hc, e, hx => by
    rw [shL] at h h'
    simp at h h'
    rw [ylL, ylL] at e
    rw [ylL] at hx
    simp only [List.headD_cons, List.tail_cons, List.append_assoc] at e hx
    rw [tkL] at ht ht'
    obtain ⟨q1, q2⟩ := nums_split ht
    obtain ⟨q1', q2'⟩ := nums_split ht'
    obtain ⟨c1, c2⟩ := hc 0 (by simp)
    simp only [List.getElem_cons_zero, Nat.zero_add, List.drop_succ_cons, List.drop_zero] at c1 c2
    have n1 := next_shL g.fa.m.cl g.fa.e.cl g.fa.f.cl h.2 post b (Or.inr hb)
    have n2 := next_shL g.fa.m.cl g.fa.e.cl g.fa.f.cl h'.2 post2 b (Or.inr hb')
    obtain ⟨rfl, e2⟩ := ll_sh g h.1 h'.1 q1 q1' (fun h6 => ⟨c1 h6, le_trans n1 (c2 h6)⟩) (fun h6 => ⟨c1 h6, le_trans n2 (c2 h6)⟩) e hx
    obtain ⟨rfl, rfl⟩ := ll_shL g h.2 h'.2 q2 q2' b hb hb' (fun q hq => by
      have := hc (q + 1) (by simp; exact hq)
      simpa using this) e2 (fun x hm => hx x (List.mem_append_right _ hm))
    exact ⟨rfl, rfl⟩
end
/-- LEWIS, STEARNS. -/
theorem ll_one {ps : List Pd} {E : Nat → Bool} {F V : Nat → Wd} {R M : Nat → Bool} {nt n : Nat} (g : Lg ps E F V R M nt n) {t u : T} (h : sh ps t (2, 0) = true) (h' : sh ps u (2, 0) = true) (ht : tk t = nums 0 (tk t).length) (ht' : tk u = nums 0 (tk u).length) (e : yl ps t (2, 0) = yl ps u (2, 0)) (hx : ∀ x ∈ yl ps t (2, 0), 0 ≤ x ∧ x < (nt : Int)) : t = u := by
  have ha : Ahd V n (2, 0) [] := fun _ => ⟨⟨0, rfl, g.rg.n1⟩, g.fa.w.cl.z⟩
  exact (ll_sh g h h' ht ht' ha ha (by rw [e]) (by simpa using hx)).1
end Cg
end Go.Proofs.Ytpfehghicaaghaa

namespace Go.Proofs.Ytpfehghicaaghaa
namespace Cg

open Classical in
/-- How many there are, up to two. -/
noncomputable def cc {α : Type} (P : α → Prop) : Nat := if ∃ a b, a ≠ b ∧ P a ∧ P b then 2 else if ∃ a, P a then 1 else 0
theorem cc_le {α : Type} (P : α → Prop) : cc P ≤ 2 := by unfold cc; split; omega; split <;> omega
theorem cc_two {α : Type} {P : α → Prop} : 2 ≤ cc P ↔ ∃ a b, a ≠ b ∧ P a ∧ P b := by
  unfold cc
  by_cases h : ∃ a b, a ≠ b ∧ P a ∧ P b
  · simp [h]
  · rw [if_neg h]
    by_cases h2 : ∃ a, P a
    · rw [if_pos h2]; exact ⟨fun h3 => by omega, fun h3 => absurd h3 h⟩
    · rw [if_neg h2]; exact ⟨fun h3 => by omega, fun h3 => absurd h3 h⟩
theorem cc_some {α : Type} {P : α → Prop} : 1 ≤ cc P ↔ ∃ a, P a := by
  unfold cc
  by_cases h : ∃ a b, a ≠ b ∧ P a ∧ P b
  · rw [if_pos h]; obtain ⟨a, b, -, ha, -⟩ := h; exact ⟨fun _ => ⟨a, ha⟩, fun _ => by omega⟩
  · rw [if_neg h]
    by_cases h2 : ∃ a, P a
    · rw [if_pos h2]; exact ⟨fun _ => h2, fun _ => Nat.le_refl _⟩
    · rw [if_neg h2]; exact ⟨fun h3 => by omega, fun h3 => absurd h3 h2⟩
/-- A number up to two is told by whether it is one at least, and two. -/
theorem two_ext {x y : Nat} (hx : x ≤ 2) (hy : y ≤ 2) (h1 : 1 ≤ x ↔ 1 ≤ y) (h2 : 2 ≤ x ↔ 2 ≤ y) : x = y := by omega
theorem cc_congr {α : Type} {P Q : α → Prop} (h : ∀ a, P a ↔ Q a) : cc P = cc Q := by
  have : P = Q := funext fun a => propext (h a)
  rw [this]
theorem cc_mono {α : Type} {P Q : α → Prop} (h : ∀ a, P a → Q a) : cc P ≤ cc Q := by
  rcases Nat.lt_or_ge (cc P) 1 with h0 | h0
  · omega
  · rcases Nat.lt_or_ge (cc P) 2 with h1 | h1
    · have := cc_some.2 ((cc_some.1 h0).imp h); omega
    · obtain ⟨a, b, hn, ha, hb⟩ := cc_two.1 h1
      have := cc_two.2 ⟨a, b, hn, h a ha, h b hb⟩
      have := cc_le P
      omega
theorem cc_none {α : Type} {P : α → Prop} (h : ∀ a, ¬ P a) : cc P = 0 := by
  rcases Nat.lt_or_ge (cc P) 1 with h0 | h0
  · omega
  · obtain ⟨a, ha⟩ := cc_some.1 h0; exact absurd ha (h a)
theorem cc_only {α : Type} {P : α → Prop} (a : α) (ha : P a) (h : ∀ b, P b → b = a) : cc P = 1 := by
  have h1 := cc_some.2 ⟨a, ha⟩
  rcases Nat.lt_or_ge (cc P) 2 with h0 | h0
  · omega
  · obtain ⟨x, y, hn, hx, hy⟩ := cc_two.1 h0; exact absurd ((h x hx).trans (h y hy).symm) hn
theorem cc_or {α : Type} {P Q : α → Prop} (h : ∀ a, P a → Q a → False) : cc (fun a => P a ∨ Q a) = min 2 (cc P + cc Q) := by
  have hp := cc_le P
  have hq := cc_le Q
  refine two_ext (cc_le _) (by omega) ?_ ?_
  · rw [cc_some]
    constructor
    · rintro ⟨a, ha | ha⟩
      · have := cc_some.2 ⟨a, ha⟩; omega
      · have := cc_some.2 ⟨a, ha⟩; omega
    · intro h1
      rcases Nat.lt_or_ge (cc P) 1 with h0 | h0
      · obtain ⟨a, ha⟩ := cc_some.1 (show 1 ≤ cc Q by omega); exact ⟨a, Or.inr ha⟩
      · obtain ⟨a, ha⟩ := cc_some.1 h0; exact ⟨a, Or.inl ha⟩
  · rw [cc_two]
    constructor
    · rintro ⟨a, b, hn, ha | ha, hb | hb⟩
      · have := cc_two.2 ⟨a, b, hn, ha, hb⟩; omega
      · have := cc_some.2 ⟨a, ha⟩; have := cc_some.2 ⟨b, hb⟩; omega
      · have := cc_some.2 ⟨a, ha⟩; have := cc_some.2 ⟨b, hb⟩; omega
      · have := cc_two.2 ⟨a, b, hn, ha, hb⟩; omega
    · intro h1
      rcases Nat.lt_or_ge (cc P) 1 with h0 | h0
      · obtain ⟨a, b, hn, ha, hb⟩ := cc_two.1 (show 2 ≤ cc Q by omega); exact ⟨a, b, hn, Or.inr ha, Or.inr hb⟩
      · rcases Nat.lt_or_ge (cc Q) 1 with h2 | h2
        · obtain ⟨a, b, hn, ha, hb⟩ := cc_two.1 (show 2 ≤ cc P by omega); exact ⟨a, b, hn, Or.inl ha, Or.inl hb⟩
        · obtain ⟨a, ha⟩ := cc_some.1 h0
          obtain ⟨b, hb⟩ := cc_some.1 h2
          exact ⟨a, b, fun e => h a ha (by rw [e]; exact hb), Or.inl ha, Or.inr hb⟩
theorem cc_inj {α β : Type} {P : α → Prop} {R : β → Prop} (f : α → β) (hf : ∀ a a', f a = f a' → a = a') (h : ∀ c, R c ↔ ∃ a, P a ∧ c = f a) : cc R = cc P := by
  refine two_ext (cc_le _) (cc_le _) ?_ ?_
  · rw [cc_some, cc_some]
    exact ⟨fun ⟨c, hc⟩ => (h c).1 hc |>.imp fun a ha => ha.1, fun ⟨a, ha⟩ => ⟨f a, (h _).2 ⟨a, ha, rfl⟩⟩⟩
  · rw [cc_two, cc_two]
    constructor
    · rintro ⟨c, d, hn, hc, hd⟩
      obtain ⟨a, ha, rfl⟩ := (h c).1 hc
      obtain ⟨b, hb, rfl⟩ := (h d).1 hd
      exact ⟨a, b, fun e => hn (by rw [e]), ha, hb⟩
    · rintro ⟨a, b, hn, ha, hb⟩
      exact ⟨f a, f b, fun e => hn (hf _ _ e), (h _).2 ⟨a, ha, rfl⟩, (h _).2 ⟨b, hb, rfl⟩⟩
theorem cc_prod {α β γ : Type} {P : α → Prop} {Q : β → Prop} {R : γ → Prop} (f : α → β → γ) (hf : ∀ a b a' b', f a b = f a' b' → a = a' ∧ b = b') (h : ∀ c, R c ↔ ∃ a b, P a ∧ Q b ∧ c = f a b) : cc R = min 2 (cc P * cc Q) := by
  have hp := cc_le P
  have hq := cc_le Q
  have mul1 : 1 ≤ cc P → 1 ≤ cc Q → 1 ≤ cc P * cc Q := fun a b => Nat.mul_pos a b
  refine two_ext (cc_le _) (by omega) ?_ ?_
  · rw [cc_some]
    constructor
    · rintro ⟨c, hc⟩
      obtain ⟨a, b, ha, hb, -⟩ := (h c).1 hc
      have := mul1 (cc_some.2 ⟨a, ha⟩) (cc_some.2 ⟨b, hb⟩)
      omega
    · intro h1
      have h2 : cc P * cc Q ≠ 0 := by omega
      have hP : 1 ≤ cc P := Nat.pos_of_ne_zero fun e => h2 (by rw [e, Nat.zero_mul])
      have hQ : 1 ≤ cc Q := Nat.pos_of_ne_zero fun e => h2 (by rw [e, Nat.mul_zero])
      obtain ⟨a, ha⟩ := cc_some.1 hP
      obtain ⟨b, hb⟩ := cc_some.1 hQ
      exact ⟨f a b, (h _).2 ⟨a, b, ha, hb, rfl⟩⟩
  · rw [cc_two]
    constructor
    · rintro ⟨c, d, hn, hc, hd⟩
      obtain ⟨a, b, ha, hb, rfl⟩ := (h c).1 hc
      obtain ⟨a', b', ha', hb', rfl⟩ := (h d).1 hd
      have h1 := cc_some.2 ⟨a, ha⟩
      have h2 := cc_some.2 ⟨b, hb⟩
      by_cases e : a = a'
      · subst e
        have h3 := cc_two.2 ⟨b, b', fun e => hn (by rw [e]), hb, hb'⟩
        have h4 := Nat.mul_le_mul h1 h3
        omega
      · have h3 := cc_two.2 ⟨a, a', e, ha, ha'⟩
        have h4 := Nat.mul_le_mul h3 h2
        omega
    · intro h0
      have h1 : 2 ≤ cc P * cc Q := by omega
      have hP : 1 ≤ cc P := Nat.pos_of_ne_zero fun e => by rw [e, Nat.zero_mul] at h1; omega
      have hQ : 1 ≤ cc Q := Nat.pos_of_ne_zero fun e => by rw [e, Nat.mul_zero] at h1; omega
      rcases Nat.lt_or_ge (cc P) 2 with h2 | h2
      · have e : cc P = 1 := by omega
        rw [e, Nat.one_mul] at h1
        obtain ⟨b, b', hn, hb, hb'⟩ := cc_two.1 h1
        obtain ⟨a, ha⟩ := cc_some.1 hP
        exact ⟨f a b, f a b', fun e => hn (hf _ _ _ _ e).2, (h _).2 ⟨a, b, ha, hb, rfl⟩, (h _).2 ⟨a, b', ha, hb', rfl⟩⟩
      · obtain ⟨a, a', hn, ha, ha'⟩ := cc_two.1 h2
        obtain ⟨b, hb⟩ := cc_some.1 hQ
        exact ⟨f a b, f a' b, fun e => hn (hf _ _ _ _ e).1, (h _).2 ⟨a, b, ha, hb, rfl⟩, (h _).2 ⟨a', b, ha', hb, rfl⟩⟩
/-- A sum. -/
def sm (n : Nat) (g : Nat → Nat) : Nat := match n with | 0 => 0 | n + 1 => sm n g + g n
theorem sm_congr {n : Nat} {g g' : Nat → Nat} (h : ∀ i, i < n → g i = g' i) : sm n g = sm n g' := by
  induction n with
  | zero => rfl
  | succ n ih => rw [sm, sm, ih fun i hi => h i (by omega), h n (by omega)]
theorem min_sm {n : Nat} {g : Nat → Nat} : min 2 (sm n fun i => min 2 (g i)) = min 2 (sm n g) := by
  induction n with
  | zero => rfl
  | succ n ih => rw [sm, sm]; omega
theorem cc_sum {α : Type} {n : Nat} {P : Nat → α → Prop} (h : ∀ i j a, i < n → j < n → P i a → P j a → i = j) : cc (fun a => ∃ i, i < n ∧ P i a) = min 2 (sm n fun i => cc (P i)) := by
  induction n with
  | zero =>
    rw [cc_none fun a ha => by obtain ⟨i, hi, -⟩ := ha; omega]; rfl
  | succ n ih =>
    have e : cc (fun a => ∃ i, i < n + 1 ∧ P i a) = cc (fun a => (∃ i, i < n ∧ P i a) ∨ P n a) := cc_congr fun a => by
      constructor
      · rintro ⟨i, hi, hp⟩
        by_cases e : i = n
        · subst e; exact Or.inr hp
        · exact Or.inl ⟨i, by omega, hp⟩
      · rintro (⟨i, hi, hp⟩ | hp)
        · exact ⟨i, by omega, hp⟩
        · exact ⟨n, by omega, hp⟩
    rw [e, cc_or (fun a ha hb => by obtain ⟨i, hi, hp⟩ := ha; have := h i n a (by omega) (by omega) hp hb; omega), ih fun i j a hi hj => h i j a (by omega) (by omega), sm]
    omega
end Cg
end Go.Proofs.Ytpfehghicaaghaa

namespace Go.Proofs.Ytpfehghicaaghaa
namespace Cg

/-- A tree of a symbol over the part of w from i to j; its tokens are numbered as in w. -/
structure Sp (ps : List Pd) (w : List Int) (t : T) (s : Sy) (i j : Nat) : Prop where
  s0 : sh ps t s = true
  ij : i ≤ j
  jl : j ≤ w.length
  tk0 : tk t = nums i (j - i)
  yl0 : yl ps t s = (w.drop i).take (j - i)
structure SpL (ps : List Pd) (w : List Int) (l : List T) (ss : List Sy) (i j : Nat) : Prop where
  s0 : shL ps l ss = true
  ij : i ≤ j
  jl : j ≤ w.length
  tk0 : tkL l = nums i (j - i)
  yl0 : ylL ps l ss = (w.drop i).take (j - i)
theorem part_len {w : List Int} {i j : Nat} (h : i ≤ j) (k : j ≤ w.length) : ((w.drop i).take (j - i)).length = j - i := by rw [List.length_take, List.length_drop]; omega
theorem part_app {w : List Int} {i m j : Nat} (h : i ≤ m) (k : m ≤ j) (_l : j ≤ w.length) : (w.drop i).take (j - i) = (w.drop i).take (m - i) ++ (w.drop m).take (j - m) := by
  rw [show j - i = (m - i) + (j - m) by omega, List.take_add, List.drop_drop, show i + (m - i) = m by omega]
mutual
theorem tk_len {ps : List Pd} : ∀ {t : T} {s : Sy}, sh ps t s = true → (tk t).length = (yl ps t s).length
  | .mk p k l, s, h => by
    by_cases h4 : s.1 = 1
    · have e := sh_is_leaf h h4
      injection e with e1 e2 e3
      subst e1 e3
      simp [tk, yl, h4]
    · obtain ⟨h1, -, -, h5⟩ := sh_node h h4
      have := isPr_le h1
      rw [tk, yl, if_neg (by omega), if_neg h4]
      exact tk_lenL h5
theorem tk_lenL {ps : List Pd} : ∀ {l : List T} {ss : List Sy}, shL ps l ss = true → (tkL l).length = (ylL ps l ss).length
  | [], ss, h => by simp [tkL, ylL]
  | t :: l, [], h => by rw [shL] at h; simp at h
  | t :: l, s :: ss, h => by
    rw [shL] at h; simp at h
    rw [tkL, ylL, List.length_append, List.length_append, tk_len (s := s) h.1, tk_lenL h.2]
    rfl
end
theorem sp_leaf {ps : List Pd} {w : List Int} {t : T} {s : Sy} {i j : Nat} (h4 : s.1 = 1) : Sp ps w t s i j ↔ (j = i + 1 ∧ w[i]? = some s.2) ∧ t = .mk (-1) (i : Int) [] := by
  constructor
  · intro h
    have e := sh_is_leaf h.s0 h4
    have hy := h.yl0
    have ht := h.tk0
    rw [e] at hy ht
    rw [yl, if_pos h4] at hy
    have hl := congrArg List.length hy
    rw [part_len h.ij h.jl] at hl
    simp at hl
    have hj : j = i + 1 := by have := h.ij; omega
    subst hj
    rw [tk, if_pos rfl, show i + 1 - i = 1 by omega, nums_one] at ht
    simp at ht
    refine ⟨⟨rfl, ?_⟩, by rw [e, ht]⟩
    have hw : i < w.length := by have := h.jl; omega
    rw [show i + 1 - i = 1 by omega, List.drop_eq_getElem_cons hw, List.take_succ_cons, List.take_zero] at hy
    simp only [List.cons.injEq, and_true] at hy
    rw [List.getElem?_eq_getElem hw, hy]
  · rintro ⟨⟨rfl, hw⟩, rfl⟩
    obtain ⟨hl, hv⟩ := List.getElem?_eq_some_iff.1 hw
    refine ⟨sh_of_leaf h4, by omega, by omega, ?_, ?_⟩
    · rw [show i + 1 - i = 1 by omega, nums_one]; simp [tk]
    · rw [yl, if_pos h4, show i + 1 - i = 1 by omega, List.drop_eq_getElem_cons hl, ← hv, List.take_succ_cons, List.take_zero]
theorem sp_node {ps : List Pd} {w : List Int} {t : T} {s : Sy} {i j : Nat} (h4 : s.1 ≠ 1) : Sp ps w t s i j ↔ ∃ z : Nat, z < ps.length ∧ (ps.getD z (0, [])).1 = s.2 ∧ ∃ l, SpL ps w l (ps.getD z (0, [])).2 i j ∧ t = T.mk (z : Int) 0 l := by
  constructor
  · intro h
    obtain ⟨p, k, l⟩ := t
    obtain ⟨h1, h2, h3, h5⟩ := sh_node h.s0 h4
    have hle := isPr_le h1
    obtain ⟨z, rfl⟩ : ∃ z : Nat, p = (z : Int) := ⟨p.toNat, by omega⟩
    subst h3
    have hy := h.yl0
    have ht := h.tk0
    rw [yl, if_neg h4] at hy
    rw [tk, if_neg (by omega)] at ht
    exact ⟨z, by omega, by simpa [headOf] using h2, l, ⟨by simpa [bodyOf] using h5, h.ij, h.jl, ht, by simpa [bodyOf] using hy⟩, rfl⟩
  · rintro ⟨z, hz, hh, l, h, rfl⟩
    refine ⟨sh_of_node h4 (by unfold isPr; simp; omega) (by simpa [headOf] using hh) (by simpa [bodyOf] using h.s0), h.ij, h.jl, ?_, ?_⟩
    · rw [tk, if_neg (by omega)]; exact h.tk0
    · rw [yl, if_neg h4]; simpa [bodyOf] using h.yl0
theorem spL_nil {ps : List Pd} {w : List Int} {l : List T} {i j : Nat} : SpL ps w l [] i j ↔ (i = j ∧ j ≤ w.length) ∧ l = [] := by
  constructor
  · intro h
    cases l with
    | cons t l => have := h.s0; rw [shL] at this; simp at this
    | nil =>
      have hy := congrArg List.length h.yl0
      rw [part_len h.ij h.jl] at hy
      simp [ylL] at hy
      exact ⟨⟨by have := h.ij; omega, h.jl⟩, rfl⟩
  · rintro ⟨⟨rfl, h⟩, rfl⟩
    exact ⟨by simp [shL], Nat.le_refl _, h, by simp [tkL, nums], by simp [ylL]⟩
theorem spL_cons {ps : List Pd} {w : List Int} {c : List T} {s : Sy} {ss : List Sy} {i j : Nat} : SpL ps w c (s :: ss) i j ↔ ∃ m, m < j + 1 ∧ ∃ t l, Sp ps w t s i m ∧ SpL ps w l ss m j ∧ c = t :: l := by
  constructor
  · intro h
    cases c with
    | nil => have := h.s0; rw [shL] at this; simp at this
    | cons t l =>
      have h0 := h.s0
      rw [shL] at h0; simp at h0
      have hy := h.yl0
      have ht := h.tk0
      rw [ylL] at hy
      simp only [List.headD_cons, List.tail_cons] at hy
      rw [tkL] at ht
      have e1 := tk_len h0.1
      have e2 := congrArg List.length hy
      rw [part_len h.ij h.jl, List.length_append] at e2
      have hij := h.ij
      have hjl := h.jl
      have hm : i + (yl ps t s).length ≤ j := by omega
      have hp := part_app (w := w) (i := i) (m := i + (yl ps t s).length) (j := j) (by omega) hm h.jl
      rw [hp] at hy
      obtain ⟨y1, y2⟩ := List.append_inj hy (by rw [part_len (by omega) (by omega)]; omega)
      rw [show j - i = (tk t).length + (j - (i + (yl ps t s).length)) by omega, nums_append] at ht
      obtain ⟨t1, t2⟩ := List.append_inj ht (by rw [nums_length])
      refine ⟨i + (yl ps t s).length, by omega, t, l, ⟨h0.1, by omega, by omega, ?_, y1⟩, ⟨h0.2, hm, h.jl, ?_, y2⟩, rfl⟩
      · rw [show i + (yl ps t s).length - i = (tk t).length by omega]; exact t1
      · rw [t2, e1]
  · rintro ⟨m, hm, t, l, h1, h2, rfl⟩
    have := h1.ij
    refine ⟨shL_cons h1.s0 h2.s0, by have := h2.ij; omega, h2.jl, ?_, ?_⟩
    · rw [tkL, h1.tk0, h2.tk0, show j - i = (m - i) + (j - m) by have := h2.ij; omega, nums_append, show i + (m - i) = m by omega]
    · rw [ylL]
      simp only [List.headD_cons, List.tail_cons]
      rw [h1.yl0, h2.yl0, part_app h1.ij h2.ij h2.jl]
theorem sp_end {ps : List Pd} {w : List Int} {t : T} {s : Sy} {i j j' : Nat} (h : Sp ps w t s i j) (k : Sp ps w t s i j') : j = j' := by
  have h1 := congrArg List.length h.tk0
  have h2 := congrArg List.length k.tk0
  rw [nums_length] at h1 h2
  have := h.ij
  have := k.ij
  omega
/-! The table's own rule. -/
def one1 (f : Int → Nat → Nat → Nat) (w : List Int) (s : Sy) (i j : Nat) : Nat := if s.1 = 1 then (if j = i + 1 ∧ w[i]? = some s.2 then 1 else 0) else f s.2 i j
def row1 (f : Int → Nat → Nat → Nat) (w : List Int) : List Sy → Nat → Nat → Nat
  | [], i, j => if i = j ∧ j ≤ w.length then 1 else 0
  | s :: l, i, j => min 2 (sm (j + 1) fun m => min 2 (one1 f w s i m * row1 f w l m j))
def stp (ps : List Pd) (w : List Int) (f : Int → Nat → Nat → Nat) (a : Int) (i j : Nat) : Nat := min 2 (sm ps.length fun q => if (ps.getD q (0, [])).1 = a then row1 f w (ps.getD q (0, [])).2 i j else 0)
/-- Which trees are looked at: all, or those up to a height. -/
structure Lk2 (A : T → Prop) (AL : List T → Prop) : Prop where
  leaf : ∀ k, A (.mk (-1) k [])
  nil : AL []
  cons : ∀ t l, AL (t :: l) ↔ A t ∧ AL l
theorem row1_cc {ps : List Pd} {w : List Int} {A : T → Prop} {AL : List T → Prop} (hA : Lk2 A AL) {f : Int → Nat → Nat → Nat} (hf : ∀ s : Sy, s.1 ≠ 1 → ∀ i j, f s.2 i j = cc fun t => Sp ps w t s i j ∧ A t) : ∀ (ss : List Sy) (i j : Nat), row1 f w ss i j = cc fun l => SpL ps w l ss i j ∧ AL l
  | [], i, j => by
    rw [row1]
    by_cases h : i = j ∧ j ≤ w.length
    · rw [if_pos h]
      exact (cc_only [] ⟨spL_nil.2 ⟨h, rfl⟩, hA.nil⟩ fun b hb => (spL_nil.1 hb.1).2).symm
    · rw [if_neg h]
      exact (cc_none fun l hl => h (spL_nil.1 hl.1).1).symm
  | s :: ss, i, j => by
    rw [row1]
    have h1 : cc (fun l => SpL ps w l (s :: ss) i j ∧ AL l) = cc fun c => ∃ m, m < j + 1 ∧ ∃ t l, (Sp ps w t s i m ∧ A t) ∧ (SpL ps w l ss m j ∧ AL l) ∧ c = t :: l := cc_congr fun c => by
      rw [spL_cons]
      constructor
      · rintro ⟨⟨m, hm, t, l, h1, h2, rfl⟩, ha⟩
        obtain ⟨a1, a2⟩ := (hA.cons t l).1 ha
        exact ⟨m, hm, t, l, ⟨h1, a1⟩, ⟨h2, a2⟩, rfl⟩
      · rintro ⟨m, hm, t, l, ⟨h1, a1⟩, ⟨h2, a2⟩, rfl⟩
        exact ⟨⟨m, hm, t, l, h1, h2, rfl⟩, (hA.cons t l).2 ⟨a1, a2⟩⟩
    rw [h1, cc_sum (fun m m' c hm hm' ⟨t, l, a, _, e⟩ ⟨t', l', a', _, e'⟩ => by
      rw [e] at e'
      simp only [List.cons.injEq] at e'
      obtain ⟨rfl, -⟩ := e'
      exact sp_end a.1 a'.1)]
    congr 1
    refine sm_congr fun m hm => ?_
    rw [cc_prod (P := fun t => Sp ps w t s i m ∧ A t) (Q := fun l => SpL ps w l ss m j ∧ AL l) (fun t l => t :: l) (fun a b a' b' e => by simpa using e) (fun c => Iff.rfl), row1_cc hA hf ss m j]
    congr 2
    unfold one1
    by_cases h4 : s.1 = 1
    · rw [if_pos h4]
      by_cases h5 : m = i + 1 ∧ w[i]? = some s.2
      · rw [if_pos h5]
        exact (cc_only (.mk (-1) (i : Int) []) ⟨(sp_leaf h4).2 ⟨h5, rfl⟩, hA.leaf _⟩ fun b hb => ((sp_leaf h4).1 hb.1).2).symm
      · rw [if_neg h5]
        exact (cc_none fun t ht => h5 ((sp_leaf h4).1 ht.1).1).symm
    · rw [if_neg h4]
      exact hf s h4 i m
theorem stp_cc {ps : List Pd} {w : List Int} {A : T → Prop} {AL : List T → Prop} {A' : T → Prop} (hA : Lk2 A AL) (hA' : ∀ (z : Nat) l, A' (.mk (z : Int) 0 l) ↔ AL l) {f : Int → Nat → Nat → Nat} (hf : ∀ s : Sy, s.1 ≠ 1 → ∀ i j, f s.2 i j = cc fun t => Sp ps w t s i j ∧ A t) (s : Sy) (h4 : s.1 ≠ 1) (i j : Nat) : stp ps w f s.2 i j = cc fun t => Sp ps w t s i j ∧ A' t := by
  unfold stp
  have h1 : cc (fun t => Sp ps w t s i j ∧ A' t) = cc fun t => ∃ z, z < ps.length ∧ ((ps.getD z (0, [])).1 = s.2 ∧ ∃ l, (SpL ps w l (ps.getD z (0, [])).2 i j ∧ AL l) ∧ t = T.mk (z : Int) 0 l) := cc_congr fun t => by
    rw [sp_node h4]
    constructor
    · rintro ⟨⟨z, hz, hh, l, h1, rfl⟩, ha⟩
      exact ⟨z, hz, hh, l, ⟨h1, (hA' z l).1 ha⟩, rfl⟩
    · rintro ⟨z, hz, hh, l, ⟨h1, ha⟩, rfl⟩
      exact ⟨⟨z, hz, hh, l, h1, rfl⟩, (hA' z l).2 ha⟩
  rw [h1, cc_sum (fun z z' t _ _ ⟨_, l, _, e⟩ ⟨_, l', _, e'⟩ => by
    rw [e] at e'
    injection e' with e1 _ _
    omega)]
  congr 1
  refine sm_congr fun z hz => ?_
  by_cases hh : (ps.getD z (0, [])).1 = s.2
  · rw [if_pos hh, row1_cc hA hf]
    exact (cc_inj (fun l => T.mk (z : Int) 0 l) (fun a b e => by injection e) fun t => ⟨fun ht => ht.2, fun ht => ⟨hh, ht⟩⟩).symm
  · rw [if_neg hh]
    exact (cc_none fun t ht => hh ht.1).symm
/-- How many trees, of whatever height. -/
noncomputable def cnt (ps : List Pd) (w : List Int) (a : Int) (i j : Nat) : Nat := cc fun t => Sp ps w t (2, a) i j
theorem sp_kind {ps : List Pd} {w : List Int} {t : T} {s : Sy} {i j : Nat} (h4 : s.1 ≠ 1) : Sp ps w t s i j ↔ Sp ps w t (2, s.2) i j := by
  rw [sp_node h4, sp_node (s := (2, s.2)) (by show (2 : Int) ≠ 1; decide)]
theorem lk_all : Lk2 (fun _ => True) (fun _ => True) := ⟨fun _ => trivial, trivial, fun _ _ => by simp⟩
theorem cnt_all {ps : List Pd} {w : List Int} (s : Sy) (h4 : s.1 ≠ 1) (i j : Nat) : cnt ps w s.2 i j = cc fun t => Sp ps w t s i j ∧ True := by
  unfold cnt; exact cc_congr fun t => by rw [sp_kind h4]; simp
/-- The table of the numbers is left as it is by its own rule. -/
theorem cnt_fix {ps : List Pd} {w : List Int} (a : Int) (i j : Nat) : stp ps w (cnt ps w) a i j = cnt ps w a i j := by
  have := stp_cc (ps := ps) (w := w) lk_all (A' := fun _ => True) (fun _ _ => Iff.rfl) (fun s h4 i j => cnt_all s h4 i j) (2, a) (by show (2 : Int) ≠ 1; decide) i j
  rw [this, cnt_all (2, a) (by show (2 : Int) ≠ 1; decide)]
mutual
/-- The height, leaves left out. -/
def T.nh : T → Nat
  | .mk p _ l => if p = -1 then 0 else nhL l + 1
def nhL : List T → Nat
  | [] => 0
  | t :: l => max t.nh (nhL l)
end
noncomputable def cntH (ps : List Pd) (w : List Int) (h : Nat) (a : Int) (i j : Nat) : Nat := cc fun t => Sp ps w t (2, a) i j ∧ t.nh ≤ h
theorem lk_h (h : Nat) : Lk2 (fun t => t.nh ≤ h) (fun l => nhL l ≤ h) := ⟨fun k => by rw [T.nh, if_pos rfl]; omega, by rw [nhL]; omega, fun t l => by rw [nhL]; omega⟩
theorem cntH_zero {ps : List Pd} {w : List Int} (a : Int) (i j : Nat) : cntH ps w 0 a i j = 0 := cc_none fun t ⟨h, k⟩ => by
  obtain ⟨z, -, -, l, -, rfl⟩ := (sp_node (by show (2 : Int) ≠ 1; decide)).1 h
  rw [T.nh, if_neg (by omega)] at k
  omega
theorem cntH_succ {ps : List Pd} {w : List Int} (h : Nat) (a : Int) (i j : Nat) : cntH ps w (h + 1) a i j = stp ps w (cntH ps w h) a i j := by
  have := stp_cc (ps := ps) (w := w) (lk_h h) (A' := fun t => t.nh ≤ h + 1) (fun z l => by rw [T.nh, if_neg (by omega)]; omega) (f := cntH ps w h) (fun s h4 i j => by unfold cntH; exact cc_congr fun t => by rw [sp_kind h4]) (2, a) (by show (2 : Int) ≠ 1; decide) i j
  rw [this]; rfl
/-! What the rule does to lesser tables. -/
theorem sm_mono {n : Nat} {g g' : Nat → Nat} (h : ∀ i, i < n → g i ≤ g' i) : sm n g ≤ sm n g' := by
  induction n with
  | zero => exact Nat.le_refl _
  | succ n ih => rw [sm, sm]; have := ih fun i hi => h i (by omega); have := h n (by omega); omega
theorem one1_mono {f g : Int → Nat → Nat → Nat} {w : List Int} (h : ∀ a i j, f a i j ≤ g a i j) (s : Sy) (i j : Nat) : one1 f w s i j ≤ one1 g w s i j := by
  unfold one1
  split
  · exact Nat.le_refl _
  · exact h _ _ _
theorem row1_mono {f g : Int → Nat → Nat → Nat} {w : List Int} (h : ∀ a i j, f a i j ≤ g a i j) : ∀ (l : List Sy) (i j : Nat), row1 f w l i j ≤ row1 g w l i j
  | [], i, j => Nat.le_refl _
  | s :: l, i, j => by
    rw [row1, row1]
    have := sm_mono (n := j + 1) (g := fun m => min 2 (one1 f w s i m * row1 f w l m j)) (g' := fun m => min 2 (one1 g w s i m * row1 g w l m j)) fun m _ => by
      have : one1 f w s i m * row1 f w l m j ≤ one1 g w s i m * row1 g w l m j := Nat.mul_le_mul (one1_mono h s i m) (row1_mono h l m j)
      omega
    omega
theorem stp_mono {ps : List Pd} {f g : Int → Nat → Nat → Nat} {w : List Int} (h : ∀ a i j, f a i j ≤ g a i j) (a : Int) (i j : Nat) : stp ps w f a i j ≤ stp ps w g a i j := by
  unfold stp
  have := sm_mono (n := ps.length) (g := fun q => if (ps.getD q (0, [])).1 = a then row1 f w (ps.getD q (0, [])).2 i j else 0) (g' := fun q => if (ps.getD q (0, [])).1 = a then row1 g w (ps.getD q (0, [])).2 i j else 0) fun q _ => by
    split
    · exact row1_mono h _ _ _
    · exact Nat.le_refl _
  omega
/-- What is below the numbers stays below them. -/
theorem below_cnt {ps : List Pd} {w : List Int} {f : Int → Nat → Nat → Nat} (h : ∀ a i j, f a i j ≤ cnt ps w a i j) (a : Int) (i j : Nat) : stp ps w f a i j ≤ cnt ps w a i j := by
  rw [← cnt_fix]; exact stp_mono h a i j
theorem cntH_le {ps : List Pd} {w : List Int} {f : Int → Nat → Nat → Nat} (h : ∀ a i j, stp ps w f a i j ≤ f a i j) (k : Nat) : ∀ a i j, cntH ps w k a i j ≤ f a i j := by
  induction k with
  | zero => intro a i j; rw [cntH_zero]; omega
  | succ k ih => intro a i j; rw [cntH_succ]; exact Nat.le_trans (stp_mono ih a i j) (h a i j)
/-- What its own rule makes no greater is the numbers at least. -/
theorem cnt_le {ps : List Pd} {w : List Int} {f : Int → Nat → Nat → Nat} (h : ∀ a i j, stp ps w f a i j ≤ f a i j) (a : Int) (i j : Nat) : cnt ps w a i j ≤ f a i j := by
  rcases Nat.lt_or_ge (cnt ps w a i j) 1 with h0 | h0
  · omega
  · rcases Nat.lt_or_ge (cnt ps w a i j) 2 with h1 | h1
    · obtain ⟨t, ht⟩ := cc_some.1 h0
      have h2 : 1 ≤ cntH ps w t.nh a i j := cc_some.2 ⟨t, ht, Nat.le_refl _⟩
      have := cntH_le h t.nh a i j
      omega
    · obtain ⟨t, u, hn, ht, hu⟩ := cc_two.1 h1
      have h2 : 2 ≤ cntH ps w (max t.nh u.nh) a i j := cc_two.2 ⟨t, u, hn, ⟨ht, by omega⟩, ⟨hu, by omega⟩⟩
      have := cntH_le h (max t.nh u.nh) a i j
      have := cc_le fun t => Sp ps w t (2, a) i j
      have e : cnt ps w a i j ≤ 2 := this
      omega
/-- A table below the numbers that its own rule makes no greater is the numbers. -/
theorem cnt_is {ps : List Pd} {w : List Int} {f : Int → Nat → Nat → Nat} (h : ∀ a i j, f a i j ≤ cnt ps w a i j) (k : ∀ a i j, stp ps w f a i j ≤ f a i j) (a : Int) (i j : Nat) : f a i j = cnt ps w a i j := Nat.le_antisymm (h a i j) (cnt_le k a i j)
end Cg
end Go.Proofs.Ytpfehghicaaghaa

namespace Go.Proofs.Ytpfehghicaaghaa
namespace Cg

mutual
def mirT (n : Nat) : T → T
  | .mk p k l => if p < 0 then .mk (-1) ((n : Int) - 1 - k) [] else .mk p 0 (mirL n l)
def mirL (n : Nat) : List T → List T
  | [] => []
  | t :: l => mirL n l ++ [mirT n t]
end
theorem turn_getD (ps : List Pd) (i : Nat) : (turn ps).getD i (0, []) = turnP (ps.getD i (0, [])) := by
  rw [List.getD_eq_getElem?_getD, List.getD_eq_getElem?_getD]
  unfold turn
  rw [List.getElem?_map]
  cases ps[i]? with
  | none => rfl
  | some x => rfl
theorem turn_body (ps : List Pd) (p : Int) : bodyOf (turn ps) p = (bodyOf ps p).reverse := by unfold bodyOf; rw [turn_getD]; rfl
theorem turn_head (ps : List Pd) (p : Int) : headOf (turn ps) p = headOf ps p := by unfold headOf; rw [turn_getD]; rfl
theorem turn_isPr (ps : List Pd) (p : Int) : isPr (turn ps) p = isPr ps p := by unfold isPr; rw [turn_length]
theorem mirL_length (n : Nat) : ∀ (l : List T), (mirL n l).length = l.length
  | [] => by simp [mirL]
  | t :: l => by rw [mirL, List.length_append, mirL_length n l]; simp
theorem htL_append (a b : List T) : htL (a ++ b) = max (htL a) (htL b) := by
  induction a with
  | nil => simp [htL]
  | cons t a ih => simp only [List.cons_append, htL, ih]; omega
theorem ylL_snoc2 (ps : List Pd) (l : List T) (t : T) : ∀ (ss : List Sy), ylL ps (l ++ [t]) ss = ylL ps l ss ++ yl ps t (ss.getD l.length (0, 0)) := by
  induction l with
  | nil => intro ss; cases ss <;> simp [ylL]
  | cons u l ih =>
    intro ss
    have e : ss.getD (l.length + 1) (0, 0) = ss.tail.getD l.length (0, 0) := by cases ss <;> simp
    rw [List.cons_append, ylL, ylL, ih, List.length_cons, e, List.append_assoc]
theorem ylL_more (ps : List Pd) : ∀ (l : List T) (ss m : List Sy), l.length = ss.length → ylL ps l (ss ++ m) = ylL ps l ss
  | [], ss, m, h => by simp [ylL]
  | t :: l, [], m, h => by simp at h
  | t :: l, s :: ss, m, h => by
    rw [List.cons_append, ylL, ylL]
    simp only [List.headD_cons, List.tail_cons]
    rw [ylL_more ps l ss m (by simpa using h)]
theorem shL_snoc2 {ps : List Pd} {t : T} {s : Sy} {l : List T} {ss : List Sy} (h : shL ps l ss = true) (h2 : sh ps t s = true) : shL ps (l ++ [t]) (ss ++ [s]) = true := shL_snoc h h2
mutual
theorem mir_all {ps : List Pd} (n : Nat) : ∀ {t : T} {s : Sy}, sh ps t s = true → sh (turn ps) (mirT n t) s = true ∧ (mirT n t).sz = t.sz ∧ (mirT n t).ht = t.ht ∧ tk (mirT n t) = ((tk t).map fun k => (n : Int) - 1 - k).reverse ∧ yl (turn ps) (mirT n t) s = (yl ps t s).reverse
  | .mk p k l, s, h => by
    by_cases h4 : s.1 = 1
    · have h5 := sh_is_leaf h h4
      injection h5 with e1 e2 e3
      subst e1 e3
      rw [mirT, if_pos (by omega)]
      refine ⟨sh_of_leaf h4, by simp [T.sz, szL], by simp [T.ht, htL], by simp [tk], by simp [yl, h4]⟩
    · obtain ⟨h1, h2, h3, h5⟩ := sh_node h h4
      have hle := isPr_le h1
      subst h3
      obtain ⟨a1, a2, a3, a4, a5⟩ := mirL_all n h5
      rw [mirT, if_neg (by omega)]
      refine ⟨?_, by rw [T.sz, T.sz, a2], by rw [T.ht, T.ht, a3], ?_, ?_⟩
      · refine sh_of_node h4 (by rw [turn_isPr]; exact h1) (by rw [turn_head]; exact h2) ?_
        rw [turn_body]; exact a1
      · rw [tk, tk, if_neg (by omega), if_neg (by omega)]; exact a4
      · rw [yl, yl, if_neg h4, if_neg h4, turn_body]; exact a5
theorem mirL_all {ps : List Pd} (n : Nat) : ∀ {l : List T} {ss : List Sy}, shL ps l ss = true → shL (turn ps) (mirL n l) ss.reverse = true ∧ szL (mirL n l) = szL l ∧ htL (mirL n l) = htL l ∧ tkL (mirL n l) = ((tkL l).map fun k => (n : Int) - 1 - k).reverse ∧ ylL (turn ps) (mirL n l) ss.reverse = (ylL ps l ss).reverse
  | [], ss, h => by
    rw [shL] at h; simp at h; subst h
    simp [mirL, shL, tkL, ylL]
  | t :: l, [], h => by rw [shL] at h; simp at h
  | t :: l, s :: ss, h => by
    rw [shL] at h
    simp at h
    obtain ⟨b1, b2, b3, b4, b5⟩ := mir_all n h.1
    obtain ⟨a1, a2, a3, a4, a5⟩ := mirL_all n h.2
    have hl := shL_length h.2
    rw [mirL, List.reverse_cons]
    refine ⟨shL_snoc2 a1 b1, ?_, ?_, ?_, ?_⟩
    · rw [szL_append, a2, szL, szL, b2, szL]; omega
    · rw [htL_append, a3, htL, htL, b3, htL]; omega
    · rw [tkL_append, a4, tkL, tkL, b4, tkL]; simp
    · have e : (ss.reverse ++ [s]).getD (mirL n l).length (0, 0) = s := by
        rw [List.getD_eq_getElem?_getD, mirL_length, hl, ← List.length_reverse, List.getElem?_concat_length]; rfl
      rw [ylL_snoc2, e, b5, ylL_more _ _ _ _ (by rw [mirL_length, hl, List.length_reverse]), a5, ylL]
      simp
end
theorem nums_mir (n : Nat) : ((nums 0 n).map fun k => (n : Int) - 1 - k).reverse = nums 0 n := by
  apply List.ext_getElem
  · simp [nums]
  · intro i h1 h2
    simp [nums] at h1 h2 ⊢
    omega
/-- Of a tree that is right the tree turned round is right of the grammar turned round. -/
theorem mir_thr {ps : List Pd} {t : T} {n' : Nat} {ws : List Int} (h : thr ps t (2, 0) 1 0 [] = (0, n', ws)) : thr (turn ps) (mirT ws.length t) (2, 0) 1 0 [] = (0, n', ws.reverse) := by
  obtain ⟨h1, h2, h3, h4, h5, h6, h7⟩ := thr_fwd h
  rw [List.nil_append] at h6
  have hl : (tk t).length = ws.length := by rw [h7, ← h6]
  obtain ⟨a1, a2, a3, a4, a5⟩ := mir_all ws.length h1
  have e : tk (mirT ws.length t) = nums 0 ws.length := by
    rw [a4, h2, List.length_nil, hl]
    exact nums_mir ws.length
  have hb := thr_bwd (d := 1) (n := 0) (ws := []) a1 (by rw [e, List.length_nil, nums_length]) (by rw [a2]; omega) (by rw [a3]; omega)
  rw [hb.1, a2, a5, h6, h3, List.nil_append]
end Cg
end Go.Proofs.Ytpfehghicaaghaa

namespace Go.Proofs.Ytpfehghicaaghaa
namespace Cg

theorem cc_inj2 {α β : Type} {P : α → Prop} {R : β → Prop} (f : α → β) (hf : ∀ a a', P a → P a' → f a = f a' → a = a') (h : ∀ c, R c ↔ ∃ a, P a ∧ c = f a) : cc R = cc P := by
  refine two_ext (cc_le _) (cc_le _) ?_ ?_
  · rw [cc_some, cc_some]
    exact ⟨fun ⟨c, hc⟩ => ((h c).1 hc).imp fun a ha => ha.1, fun ⟨a, ha⟩ => ⟨f a, (h _).2 ⟨a, ha, rfl⟩⟩⟩
  · rw [cc_two, cc_two]
    constructor
    · rintro ⟨c, d, hn, hc, hd⟩
      obtain ⟨a, ha, rfl⟩ := (h c).1 hc
      obtain ⟨b, hb, rfl⟩ := (h d).1 hd
      exact ⟨a, b, fun e => hn (by rw [e]), ha, hb⟩
    · rintro ⟨a, b, hn, ha, hb⟩
      exact ⟨f a, f b, fun e => hn (hf _ _ ha hb e), (h _).2 ⟨a, ha, rfl⟩, (h _).2 ⟨b, hb, rfl⟩⟩
/-- A word's trees, whole. -/
theorem sp_whole {ps : List Pd} {w : List Int} {t : T} {s : Sy} : Sp ps w t s 0 w.length ↔ sh ps t s = true ∧ tk t = nums 0 w.length ∧ yl ps t s = w := by
  constructor
  · intro h
    have h1 := h.tk0
    have h2 := h.yl0
    simp only [Nat.sub_zero, List.drop_zero, List.take_length] at h1 h2
    exact ⟨h.s0, h1, h2⟩
  · rintro ⟨h1, h2, h3⟩
    exact ⟨h1, Nat.zero_le _, Nat.le_refl _, by simpa using h2, by simpa using h3⟩
/-- LEWIS, STEARNS: one at most. -/
theorem cnt_ll {ps : List Pd} {E : Nat → Bool} {F V : Nat → Wd} {R M : Nat → Bool} {nt n : Nat} (g : Lg ps E F V R M nt n) {w : List Int} (hw : ∀ x ∈ w, 0 ≤ x ∧ x < (nt : Int)) : cnt ps w 0 0 w.length ≤ 1 := by
  rcases Nat.lt_or_ge (cnt ps w 0 0 w.length) 2 with h | h
  · omega
  · obtain ⟨t, u, hn, ht, hu⟩ := cc_two.1 h
    obtain ⟨t1, t2, t3⟩ := sp_whole.1 ht
    obtain ⟨u1, u2, u3⟩ := sp_whole.1 hu
    exact absurd (ll_one g t1 u1 (by rw [t2, nums_length]) (by rw [u2, nums_length]) (by rw [t3, u3]) (by rw [t3]; exact hw)) hn
/-! One production more. -/
theorem more_at {ps : List Pd} {q : Pd} {p : Int} (h : isPr ps p = true) : isPr (ps ++ [q]) p = true ∧ headOf (ps ++ [q]) p = headOf ps p ∧ bodyOf (ps ++ [q]) p = bodyOf ps p := by
  have hl := isPr_le h
  have h1 : p.toNat < ps.length := by omega
  have e : (ps ++ [q]).getD p.toNat (0, []) = ps.getD p.toNat (0, []) := by
    rw [List.getD_eq_getElem?_getD, List.getD_eq_getElem?_getD, List.getElem?_append_left h1]
  refine ⟨by unfold isPr; simp; omega, by unfold headOf; rw [e], by unfold bodyOf; rw [e]⟩
mutual
theorem sh_more {ps : List Pd} {q : Pd} : ∀ {t : T} {s : Sy}, sh ps t s = true → sh (ps ++ [q]) t s = true ∧ yl (ps ++ [q]) t s = yl ps t s
  | .mk p k l, s, h => by
    by_cases h4 : s.1 = 1
    · have e := sh_is_leaf h h4
      injection e with e1 e2 e3
      subst e1 e3
      exact ⟨sh_of_leaf h4, by rw [yl, yl, if_pos h4, if_pos h4]⟩
    · obtain ⟨h1, h2, h3, h5⟩ := sh_node h h4
      subst h3
      obtain ⟨m1, m2, m3⟩ := more_at (q := q) h1
      obtain ⟨a1, a2⟩ := sh_moreL (q := q) h5
      refine ⟨sh_of_node h4 m1 (by rw [m2]; exact h2) (by rw [m3]; exact a1), ?_⟩
      rw [yl, yl, if_neg h4, if_neg h4, m3]; exact a2
theorem sh_moreL {ps : List Pd} {q : Pd} : ∀ {l : List T} {ss : List Sy}, shL ps l ss = true → shL (ps ++ [q]) l ss = true ∧ ylL (ps ++ [q]) l ss = ylL ps l ss
  | [], ss, h => by
    rw [shL] at h; simp at h; subst h
    exact ⟨by simp [shL], by simp [ylL]⟩
  | t :: l, [], h => by rw [shL] at h; simp at h
  | t :: l, s :: ss, h => by
    rw [shL] at h; simp at h
    obtain ⟨a1, a2⟩ := sh_more (q := q) h.1
    obtain ⟨b1, b2⟩ := sh_moreL (q := q) h.2
    refine ⟨shL_cons a1 b1, ?_⟩
    rw [ylL, ylL]
    simp only [List.headD_cons, List.tail_cons]
    rw [a2, b2]
end
theorem cnt_more {ps : List Pd} (q : Pd) {w : List Int} (a : Int) (i j : Nat) : cnt ps w a i j ≤ cnt (ps ++ [q]) w a i j := cc_mono fun _ h => by
  obtain ⟨a1, a2⟩ := sh_more (q := q) h.s0
  exact ⟨a1, h.ij, h.jl, h.tk0, by rw [a2]; exact h.yl0⟩
/-! The grammar turned round. -/
theorem mirL_append (n : Nat) : ∀ (a b : List T), mirL n (a ++ b) = mirL n b ++ mirL n a
  | [], b => by simp [mirL]
  | t :: a, b => by rw [List.cons_append, mirL, mirL, mirL_append n a b, List.append_assoc]
mutual
theorem mir_mir {ps : List Pd} (n : Nat) : ∀ {t : T} {s : Sy}, sh ps t s = true → mirT n (mirT n t) = t
  | .mk p k l, s, h => by
    by_cases h4 : s.1 = 1
    · have e := sh_is_leaf h h4
      injection e with e1 e2 e3
      subst e1 e3
      rw [mirT, if_pos (by omega), mirT, if_pos (by omega)]
      congr 1
      omega
    · obtain ⟨h1, h2, h3, h5⟩ := sh_node h h4
      have hle := isPr_le h1
      subst h3
      rw [mirT, if_neg (by omega), mirT, if_neg (by omega), mir_mirL n h5]
theorem mir_mirL {ps : List Pd} (n : Nat) : ∀ {l : List T} {ss : List Sy}, shL ps l ss = true → mirL n (mirL n l) = l
  | [], ss, h => by simp [mirL]
  | t :: l, [], h => by rw [shL] at h; simp at h
  | t :: l, s :: ss, h => by
    rw [shL] at h; simp at h
    rw [mirL, mirL_append, mir_mirL n h.2, mirL, mirL, List.nil_append, mir_mir n h.1]
    rfl
end
theorem sp_mir {ps : List Pd} {w : List Int} {t : T} {s : Sy} (h : Sp ps w t s 0 w.length) : Sp (turn ps) w.reverse (mirT w.length t) s 0 w.reverse.length := by
  obtain ⟨h1, h2, h3⟩ := sp_whole.1 h
  obtain ⟨a1, a2, a3, a4, a5⟩ := mir_all w.length h1
  refine sp_whole.2 ⟨a1, ?_, by rw [a5, h3]⟩
  rw [a4, h2, List.length_reverse]; exact nums_mir w.length
theorem cnt_mirror {ps : List Pd} (w : List Int) (a : Int) : cnt (turn ps) w.reverse a 0 w.reverse.length = cnt ps w a 0 w.length := by
  refine cc_inj2 (mirT w.length) (fun t u ht hu e => ?_) fun c => ⟨fun h => ?_, ?_⟩
  · rw [← mir_mir w.length ht.s0, ← mir_mir w.length hu.s0, e]
  · refine ⟨mirT w.length c, ?_, ?_⟩
    · have := sp_mir h
      rw [turn_turn, List.reverse_reverse, List.length_reverse] at this
      exact this
    · rw [mir_mir w.length h.s0]
  · rintro ⟨t, ht, rfl⟩
    exact sp_mir ht
/-! What may be empty, and what makes a word: there are trees of it. -/
theorem shL_of_trees {ps : List Pd} {Q : List Int → Prop} (hnil : Q []) (happ : ∀ a b, Q a → Q b → Q (a ++ b)) : ∀ (l : List Sy), (∀ s ∈ l, ∃ t, sh ps t s = true ∧ Q (yl ps t s)) → ∃ ts, shL ps ts l = true ∧ Q (ylL ps ts l)
  | [], _ => ⟨[], by simp [shL], by simpa [ylL] using hnil⟩
  | s :: l, h => by
    obtain ⟨t, h1, h2⟩ := h s (by simp)
    obtain ⟨ts, h3, h4⟩ := shL_of_trees hnil happ l fun u hu => h u (by simp [hu])
    refine ⟨t :: ts, shL_cons h1 h3, ?_⟩
    rw [ylL]
    exact happ _ _ h2 h4
open Classical in
/-- Whatever the least set has, there is a tree of it. -/
theorem least_tree {ps : List Pd} {terms : Bool} {is : Nat → Bool} (hk : Mk ps terms is) {Q : List Int → Prop} (hnil : Q []) (happ : ∀ a b, Q a → Q b → Q (a ++ b)) (hterm : terms = true → ∀ x, Q [x]) (hk2 : ∀ p ∈ ps, (∀ s ∈ p.2, s.1 = 1 ∨ (s.1 = 2 ∧ 0 ≤ s.2)) ∧ 0 ≤ p.1) {i : Nat} (hi : is i = true) : ∃ t, sh ps t (2, (i : Int)) = true ∧ Q (yl ps t (2, (i : Int))) := by
  have key : ∀ i, is i = true → decide (∃ t, sh ps t (2, (i : Int)) = true ∧ Q (yl ps t (2, (i : Int)))) = true := by
    refine fun i hi => hk.sn (fun i => decide (∃ t, sh ps t (2, (i : Int)) = true ∧ Q (yl ps t (2, (i : Int))))) ?_ i hi
    intro p hp ha
    obtain ⟨hks, hp0⟩ := hk2 p hp
    have hall : ∀ s ∈ p.2, ∃ t, sh ps t s = true ∧ Q (yl ps t s) := fun s hs => by
      have h1 := List.all_eq_true.1 ha s hs
      unfold mks at h1
      rcases hks s hs with h4 | h4
      · have ht : terms = true := by
          cases terms with
          | true => rfl
          | false => simp [h4] at h1
        exact ⟨.mk (-1) 0 [], sh_of_leaf h4, by rw [yl, if_pos h4]; exact hterm ht _⟩
      · have h2 : decide (∃ t, sh ps t (2, (s.2.toNat : Int)) = true ∧ Q (yl ps t (2, (s.2.toNat : Int)))) = true := by simpa [h4.1] using h1
        obtain ⟨t, h5, h6⟩ := of_decide_eq_true h2
        have e : s = (2, (s.2.toNat : Int)) := Prod.ext h4.1 (by show s.2 = _; omega)
        rw [← e] at h5 h6
        exact ⟨t, h5, h6⟩
    obtain ⟨ts, h1, h2⟩ := shL_of_trees hnil happ p.2 hall
    obtain ⟨q, hq, e⟩ := List.mem_iff_getElem.1 hp
    obtain ⟨b1, b2⟩ := bodyOf_nat hq
    rw [e] at b1 b2
    have hpr : isPr ps (q : Int) = true := by unfold isPr; simp; omega
    refine decide_eq_true ⟨.mk (q : Int) 0 ts, ?_, ?_⟩
    · exact sh_of_node (by show (2 : Int) ≠ 1; decide) hpr (by rw [b2]; show p.1 = ((p.1.toNat : Nat) : Int); omega) (by rw [b1]; exact h1)
    · rw [yl, if_neg (by show ¬ (2 : Int) = 1; decide), b1]; exact h2
  exact of_decide_eq_true (key i hi)
/-! A tree with its tokens numbered anew. -/
mutual
def renT : Nat → T → T
  | a, .mk p _ l => if p = -1 then .mk (-1) (a : Int) [] else .mk p 0 (renL a l)
def renL : Nat → List T → List T
  | _, [] => []
  | a, t :: l => renT a t :: renL (a + (tk t).length) l
end
mutual
theorem ren_all {ps : List Pd} : ∀ {t : T} {s : Sy} (a : Nat), sh ps t s = true → sh ps (renT a t) s = true ∧ yl ps (renT a t) s = yl ps t s ∧ tk (renT a t) = nums a (tk t).length
  | .mk p k l, s, a, h => by
    by_cases h4 : s.1 = 1
    · have e := sh_is_leaf h h4
      injection e with e1 e2 e3
      subst e1 e3
      rw [renT, if_pos rfl]
      exact ⟨sh_of_leaf h4, by simp [yl, h4], by simp [tk, nums]⟩
    · obtain ⟨h1, h2, h3, h5⟩ := sh_node h h4
      have hle := isPr_le h1
      subst h3
      obtain ⟨a1, a2, a3⟩ := ren_allL a h5
      rw [renT, if_neg (by omega)]
      refine ⟨sh_of_node h4 h1 h2 a1, by rw [yl, yl, if_neg h4, if_neg h4, a2], ?_⟩
      rw [tk, tk, if_neg (by omega), if_neg (by omega), a3]
theorem ren_allL {ps : List Pd} : ∀ {l : List T} {ss : List Sy} (a : Nat), shL ps l ss = true → shL ps (renL a l) ss = true ∧ ylL ps (renL a l) ss = ylL ps l ss ∧ tkL (renL a l) = nums a (tkL l).length
  | [], ss, a, h => by
    rw [shL] at h; simp at h; subst h
    simp [renL, shL, ylL, tkL, nums]
  | t :: l, [], a, h => by rw [shL] at h; simp at h
  | t :: l, s :: ss, a, h => by
    rw [shL] at h; simp at h
    obtain ⟨a1, a2, a3⟩ := ren_all a h.1
    obtain ⟨b1, b2, b3⟩ := ren_allL (a + (tk t).length) h.2
    rw [renL]
    refine ⟨shL_cons a1 b1, ?_, ?_⟩
    · rw [ylL, ylL]
      simp only [List.headD_cons, List.tail_cons]
      rw [a2, b2]
    · rw [tkL, tkL, a3, b3, List.length_append, nums_append]
end
/-- Of a tree's word there is a tree with its tokens numbered. -/
theorem sp_ren {ps : List Pd} {t : T} {s : Sy} (h : sh ps t s = true) : Sp ps (yl ps t s) (renT 0 t) s 0 (yl ps t s).length := by
  obtain ⟨a1, a2, a3⟩ := ren_all 0 h
  exact sp_whole.2 ⟨a1, by rw [a3, tk_len h], a2⟩
/-- The empty word is there just if Empty says so. -/
theorem cnt_empty {ps : List Pd} {E : Nat → Bool} (hE : Mk ps false E) (hk2 : ∀ p ∈ ps, (∀ s ∈ p.2, s.1 = 1 ∨ (s.1 = 2 ∧ 0 ≤ s.2)) ∧ 0 ≤ p.1) : 1 ≤ cnt ps [] 0 0 0 ↔ E 0 = true := by
  constructor
  · intro h
    obtain ⟨t, ht⟩ := cc_some.1 h
    obtain ⟨h1, -, h3⟩ := (sp_whole (w := [])).1 ht
    exact empty_sh hE.cl h1 (by show (2 : Int) ≠ 1; decide) h3
  · intro h
    obtain ⟨t, h1, h2⟩ := least_tree hE (Q := fun l => l = []) rfl (fun a b ha hb => by rw [ha, hb]; rfl) (fun e => by cases e) hk2 h
    have := sp_ren h1
    rw [h2] at this
    exact cc_some.2 ⟨_, this⟩
/-- There are words just if Makes says so. -/
theorem some_word {ps : List Pd} {M : Nat → Bool} (hM : Mk ps true M) (hk2 : ∀ p ∈ ps, (∀ s ∈ p.2, s.1 = 1 ∨ (s.1 = 2 ∧ 0 ≤ s.2)) ∧ 0 ≤ p.1) (i : Nat) : (∃ w, 1 ≤ cnt ps w (i : Int) 0 w.length) ↔ M i = true := by
  constructor
  · rintro ⟨w, h⟩
    obtain ⟨t, ht⟩ := cc_some.1 h
    have := made_sh hM.cl ht.s0 (by show (2 : Int) ≠ 1; decide)
    simpa using this
  · intro h
    obtain ⟨t, h1, -⟩ := least_tree hM (Q := fun _ => True) trivial (fun _ _ _ _ => trivial) (fun _ _ => trivial) hk2 h
    exact ⟨_, cc_some.2 ⟨_, sp_ren h1⟩⟩
end Cg
end Go.Proofs.Ytpfehghicaaghaa

namespace Go.Proofs.Ytpfehghicaaghaa
namespace Cg

/-- A tree of it begins with the word from i on, or is it. -/
def Bgn (ps : List Pd) (w : List Int) (s : Sy) (i : Nat) : Prop := ∃ t, sh ps t s = true ∧ w.drop i <+: yl ps t s
def BgnL (ps : List Pd) (w : List Int) (ss : List Sy) (i : Nat) : Prop := ∃ l, shL ps l ss = true ∧ w.drop i <+: ylL ps l ss
/-- All of these make something. -/
def MkL (ps : List Pd) (ss : List Sy) : Prop := ∃ l, shL ps l ss = true
/-- A tree of it stands over the word from i to m. -/
def Ov (ps : List Pd) (w : List Int) (s : Sy) (i m : Nat) : Prop := ∃ t, Sp ps w t s i m
/-- What the rule says of a body. -/
def opn (ps : List Pd) (w : List Int) (S : Int → Nat → Prop) : List Sy → Nat → Prop
  | [], i => i = w.length
  | s :: l, i => i = w.length ∨ (s.1 ≠ 1 ∧ S s.2 i) ∨ ∃ m, Ov ps w s i m ∧ opn ps w S l m
theorem ov_of {ps : List Pd} {w : List Int} {t : T} {s : Sy} {i : Nat} (h : sh ps t s = true) (hi : i ≤ w.length) (hp : yl ps t s <+: w.drop i) : Ov ps w s i (i + (yl ps t s).length) := by
  obtain ⟨a1, a2, a3⟩ := ren_all i h
  obtain ⟨r, hr⟩ := hp
  have hl := congrArg List.length hr
  rw [List.length_append, List.length_drop] at hl
  refine ⟨renT i t, a1, by omega, by omega, ?_, ?_⟩
  · rw [a3, tk_len h, show i + (yl ps t s).length - i = (yl ps t s).length by omega]
  · rw [a2, ← hr, show i + (yl ps t s).length - i = (yl ps t s).length by omega, List.take_left]
theorem ov_le {ps : List Pd} {w : List Int} {s : Sy} {i m : Nat} (h : Ov ps w s i m) : i ≤ m ∧ m ≤ w.length := by
  obtain ⟨t, h⟩ := h
  exact ⟨h.ij, h.jl⟩
theorem mkL_cons {ps : List Pd} {s : Sy} {l : List Sy} (h : MkL ps (s :: l)) : (∃ t, sh ps t s = true) ∧ MkL ps l := by
  obtain ⟨ts, h⟩ := h
  cases ts with
  | nil => rw [shL] at h; simp at h
  | cons t ts =>
    rw [shL] at h; simp at h
    exact ⟨⟨t, h.1⟩, ts, h.2⟩
theorem part_pre {w : List Int} {i m : Nat} (h : i ≤ m) (_k : m ≤ w.length) : w.drop i = (w.drop i).take (m - i) ++ w.drop m := by
  have := List.take_append_drop (m - i) (w.drop i)
  rw [List.drop_drop, show i + (m - i) = m by omega] at this
  exact this.symm
theorem opn_sound {ps : List Pd} {w : List Int} {S : Int → Nat → Prop} (hS : ∀ s : Sy, s.1 ≠ 1 → ∀ i, S s.2 i → Bgn ps w s i) : ∀ (l : List Sy) (i : Nat), MkL ps l → opn ps w S l i → BgnL ps w l i
  | [], i, _, h => by
    rw [opn] at h
    subst h
    exact ⟨[], by simp [shL], by simp [ylL]⟩
  | s :: l, i, hm, h => by
    obtain ⟨⟨t0, ht0⟩, ts0, hts0⟩ := mkL_cons hm
    rw [opn] at h
    rcases h with rfl | ⟨h4, h⟩ | ⟨m, ⟨t, ht⟩, h⟩
    · exact ⟨t0 :: ts0, shL_cons ht0 hts0, by rw [List.drop_length]; exact List.nil_prefix⟩
    · obtain ⟨t, h1, h2⟩ := hS s h4 i h
      refine ⟨t :: ts0, shL_cons h1 hts0, ?_⟩
      rw [ylL]
      exact h2.trans (List.prefix_append _ _)
    · obtain ⟨ts, h1, r, hr⟩ := opn_sound hS l m ⟨ts0, hts0⟩ h
      refine ⟨t :: ts, shL_cons ht.s0 h1, r, ?_⟩
      rw [ylL]
      simp only [List.headD_cons, List.tail_cons]
      rw [part_pre ht.ij ht.jl, List.append_assoc, hr, ht.yl0]
mutual
theorem opn_all {ps : List Pd} {w : List Int} {S : Int → Nat → Prop} (hend : ∀ A, (∃ t, sh ps t (2, A) = true) → S A w.length) (hst : ∀ z : Nat, z < ps.length → ∀ i, i < w.length → MkL ps (ps.getD z (0, [])).2 → opn ps w S (ps.getD z (0, [])).2 i → S (ps.getD z (0, [])).1 i) : ∀ {t : T} {s : Sy} {i : Nat}, sh ps t s = true → s.1 ≠ 1 → i ≤ w.length → w.drop i <+: yl ps t s → S s.2 i
  | .mk p k l, s, i, h, h4, hi, hp => by
    by_cases e : i = w.length
    · subst e
      refine hend s.2 ⟨.mk p k l, ?_⟩
      obtain ⟨h1, h2, h3, h5⟩ := sh_node h h4
      subst h3
      exact sh_of_node (by show (2 : Int) ≠ 1; decide) h1 h2 h5
    · obtain ⟨h1, h2, h3, h5⟩ := sh_node h h4
      have hle := isPr_le h1
      obtain ⟨z, rfl⟩ : ∃ z : Nat, p = (z : Int) := ⟨p.toNat, by omega⟩
      rw [yl, if_neg h4] at hp
      have hb : bodyOf ps (z : Int) = (ps.getD z (0, [])).2 := by unfold bodyOf; rw [Int.toNat_natCast]
      have hh : (ps.getD z (0, [])).1 = s.2 := by unfold headOf at h2; rw [Int.toNat_natCast] at h2; exact h2
      rw [hb] at h5 hp
      have := hst z (by omega) i (by omega) ⟨l, h5⟩ (opn_allL hend hst h5 hi hp)
      rw [hh] at this
      exact this
theorem opn_allL {ps : List Pd} {w : List Int} {S : Int → Nat → Prop} (hend : ∀ A, (∃ t, sh ps t (2, A) = true) → S A w.length) (hst : ∀ z : Nat, z < ps.length → ∀ i, i < w.length → MkL ps (ps.getD z (0, [])).2 → opn ps w S (ps.getD z (0, [])).2 i → S (ps.getD z (0, [])).1 i) : ∀ {l : List T} {ss : List Sy} {i : Nat}, shL ps l ss = true → i ≤ w.length → w.drop i <+: ylL ps l ss → opn ps w S ss i
  | [], ss, i, h, hi, hp => by
    rw [shL] at h; simp at h; subst h
    rw [ylL] at hp
    have := hp.length_le
    rw [opn]
    simp at this
    omega
  | t :: l, [], i, h, hi, hp => by rw [shL] at h; simp at h
  | t :: l, s :: ss, i, h, hi, hp => by
    rw [shL] at h; simp at h
    rw [ylL] at hp
    simp only [List.headD_cons, List.tail_cons] at hp
    rw [opn]
    by_cases e : i = w.length
    · exact Or.inl e
    · refine Or.inr ?_
      have keyB : yl ps t s <+: w.drop i → ∃ m, Ov ps w s i m ∧ opn ps w S ss m := fun hb => by
        have hov := ov_of h.1 hi hb
        have hm := ov_le hov
        refine ⟨_, hov, opn_allL hend hst h.2 hm.2 ?_⟩
        obtain ⟨r, hr⟩ := hb
        have hd : w.drop (i + (yl ps t s).length) = r := by
          rw [← List.drop_drop, ← hr, List.drop_left]
        rw [hd]
        rw [← hr] at hp
        exact (List.prefix_append_right_inj _).1 hp
      rcases List.prefix_or_prefix_of_prefix hp (List.prefix_append (yl ps t s) (ylL ps l ss)) with hp1 | hp1
      · by_cases h4 : s.1 = 1
        · refine Or.inr (keyB ?_)
          have e1 := sh_is_leaf h.1 h4
          have e2 : yl ps t s = [s.2] := by rw [e1, yl, if_pos h4]
          rw [e2] at hp1 ⊢
          obtain ⟨r, hr⟩ := hp1
          have hne : w.drop i ≠ [] := fun e0 => by
            have := congrArg List.length e0
            rw [List.length_drop] at this
            simp at this
            omega
          obtain ⟨x, y, e3⟩ := List.exists_cons_of_ne_nil hne
          rw [e3] at hr ⊢
          simp at hr
          obtain ⟨rfl, rfl, rfl⟩ := hr
          exact List.prefix_rfl
        · exact Or.inl ⟨h4, opn_all hend hst h.1 h4 hi hp1⟩
      · exact Or.inr (keyB hp1)
end
end Cg
end Go.Proofs.Ytpfehghicaaghaa

namespace Go.Proofs.Ytpfehghicaaghaa
namespace Cg

/-- Trees for what is ahead: their events, and their leaves, of which the first one has number a. -/
def Fw (ps : List Pd) (V : Nat → Wd) (n : Nat) : List Td → Nat → List Ev → List Int → Prop
  | [], _, E, w => E = [] ∧ w = []
  | (true, p, _) :: r, a, E, w => ∃ E', E = (3, p) :: E' ∧ Fw ps V n r a E' w
  | (false, _, s) :: r, a, E, w => ∃ t E' w', sh ps t s = true ∧ tk t = nums a (tk t).length ∧ E = evD t ++ E' ∧ w = yl ps t s ++ w' ∧ Ahd V n s w' ∧ Fw ps V n r (a + (yl ps t s).length) E' w'
section
variable {ps : List Pd} {E : Nat → Bool} {F V : Nat → Wd} {R M : Nat → Bool} {nt n : Nat}
theorem fw_body (g : Lg ps E F V R M nt n) : ∀ {l : List T} {ss : List Sy} {a : Nat} {r : List Td} {E' : List Ev} {w' : List Int}, shL ps l ss = true → tkL l = nums a (tkL l).length → ∀ (b : Wd), le (nx w') b → (∀ q (hq : q < ss.length), (ss[q].1 ≠ 1 → ∃ hd : Nat, ss[q].2 = (hd : Int) ∧ hd < n) ∧ (ss[q].1 ≠ 1 → le (bg E F (ss.drop (q + 1)) b) (V ss[q].2.toNat))) → Fw ps V n r (a + (ylL ps l ss).length) E' w' → Fw ps V n (ss.map symT ++ r) a (evDL l ++ E') (ylL ps l ss ++ w')
  | [], ss, a, r, E', w', h, _, b, _, _, hr => by
    rw [shL] at h; simp at h; subst h
    simpa [evDL, ylL] using hr
  | t :: l, [], a, r, E', w', h, _, b, _, _, hr => by rw [shL] at h; simp at h
  | t :: l, s :: ss, a, r, E', w', h, ht, b, hb, hc, hr => by
    rw [shL] at h
    simp at h
    rw [tkL] at ht
    obtain ⟨q1, q2⟩ := nums_split ht
    obtain ⟨c1, c2⟩ := hc 0 (by simp)
    simp only [List.getElem_cons_zero, Nat.zero_add, List.drop_succ_cons, List.drop_zero] at c1 c2
    have n1 := next_shL g.fa.m.cl g.fa.e.cl g.fa.f.cl h.2 w' b (Or.inr hb)
    have hlen := tk_len h.1
    rw [hlen] at q2
    rw [ylL, List.headD_cons, List.tail_cons, List.length_append, ← Nat.add_assoc] at hr
    have := fw_body g h.2 q2 b hb (fun q hq => by
      have := hc (q + 1) (by simp; exact hq)
      simpa using this) hr
    rw [List.map_cons, List.cons_append]
    refine ⟨t, evDL l ++ E', ylL ps l ss ++ w', h.1, q1, ?_, ?_, fun h6 => ⟨c1 h6, le_trans n1 (c2 h6)⟩, this⟩
    · rw [evDL, List.append_assoc]
    · rw [ylL, List.headD_cons, List.tail_cons, List.append_assoc]
/-- At a nonterminal the row tells the production of the tree. -/
theorem fw_non (g : Lg ps E F V R M nt n) {q : Int} {s : Sy} {r : List Td} {a : Nat} {Es : List Ev} {w : List Int} (h4 : s.1 ≠ 1) (h : Fw ps V n ((false, q, s) :: r) a Es w) (hx : ∀ x ∈ w, 0 ≤ x ∧ x < (nt : Int)) : ∃ hd z : Nat, s.2 = (hd : Int) ∧ hd < n ∧ rowA ps (sts ps E F V) nt hd (colOf nt w) = (z : Int) ∧ z < ps.length ∧ ∃ E2, Es = (1, (z : Int)) :: E2 ∧ Fw ps V n ((bodyOf ps (z : Int)).map symT ++ endT (z : Int) :: r) a E2 w := by
  obtain ⟨t, E', w', h1, h2, rfl, rfl, ha, hr⟩ := h
  obtain ⟨p, k, l⟩ := t
  obtain ⟨b1, b2, b3, b5⟩ := sh_node h1 h4
  subst b3
  obtain ⟨⟨hd, hs, hdn⟩, hV⟩ := ha h4
  have hle := isPr_le b1
  obtain ⟨z, rfl⟩ : ∃ z : Nat, p = (z : Int) := ⟨p.toNat, by omega⟩
  rw [hs, Int.toNat_natCast] at hV
  obtain ⟨m1, m2⟩ := may_node g.fa g.tt h1 h4 hs hV hx
  have o1 := row_one g.no hdn (col_lt hx) m1 m2
  refine ⟨hd, z, hs, hdn, o1, m1, evDL l ++ (3, (z : Int)) :: E', ?_, ?_⟩
  · rw [evD, if_neg (by omega)]; simp
  · rw [yl, if_neg h4] at hr ⊢
    rw [tk, if_neg (by omega)] at h2
    obtain ⟨c1, c2⟩ := bodyOf_nat m1
    have hps := List.getElem_mem m1
    have hhd : ps[z].1.toNat = hd := by rw [← c2, b2, hs, Int.toNat_natCast]
    rw [c1] at b5 hr ⊢
    refine fw_body g b5 h2 (V hd) hV (fun q hq => ?_) ⟨E', rfl, hr⟩
    have hok := (g.rg.ok z m1) _ (List.getElem_mem hq)
    refine ⟨fun h6 => ?_, fun h6 => ?_⟩
    · rcases hok with h7 | h7
      · exact absurd h7.1 h6
      · exact ⟨ps[z].2[q].2.toNat, by omega, by omega⟩
    · rcases hok with h7 | h7
      · exact absurd h7.1 h6
      · have := g.fa.w.cl.st _ hps q hq h7.1
        rw [hhd] at this
        exact this
variable {rw : Int → Int} {col seen : Int}
/-- Behind the token. -/
theorem fol_had (td : List Td) : ∀ (ev : List Ev) (a : Nat) (Es : List Ev) (w : List Int), Fw ps V n td a Es w → (clm ps rw (nt : Int) col seen td ev true).1 = 14 ∨ ∃ td' E1 E2, clm ps rw (nt : Int) col seen td ev true = (0, td', ev ++ E1, true) ∧ Es = E1 ++ E2 ∧ Fw ps V n td' a E2 w := by
  induction td with
  | nil =>
    intro ev a Es w h
    by_cases hb : 2000 < ev.length
    · rw [clm_big (Or.inl hb)]; exact Or.inl rfl
    · rw [clm_nil (by omega)]
      exact Or.inr ⟨[], [], Es, by simp, by simp, h⟩
  | cons x r ih =>
    intro ev a Es w h
    by_cases hb : 2000 < ev.length ∨ 60 < (x :: r).length
    · rw [clm_big hb]; exact Or.inl rfl
    · obtain ⟨c, p, s⟩ := x
      cases c with
      | true =>
        obtain ⟨E', rfl, h⟩ := h
        rw [clm_end (by omega) (by omega)]
        rcases ih (ev ++ [(3, p)]) a E' w h with h1 | ⟨td', E1, E2, h1, rfl, h3⟩
        · exact Or.inl h1
        · refine Or.inr ⟨td', (3, p) :: E1, E2, ?_, rfl, h3⟩
          rw [h1]; simp
      | false =>
        rw [clm_stop (by omega) (by omega)]
        exact Or.inr ⟨_, [], Es, by simp, by simp, h⟩
/-- A token that comes in the trees of what is ahead is had, with their events. -/
theorem fol_tok (g : Lg ps E F V R M nt n) {x : Int} {w' : List Int} (hrw : ∀ hd : Nat, hd < n → rw (hd : Int) = rowA ps (sts ps E F V) nt hd x.toNat) (hx : ∀ y ∈ x :: w', 0 ≤ y ∧ y < (nt : Int)) {a : Nat} (td : List Td) (ev : List Ev) (had : Bool) : ∀ Es, had = false → Fw ps V n td a Es (x :: w') → (clm ps rw (nt : Int) x (a : Int) td ev had).1 = 14 ∨ ∃ td' E1 E2, clm ps rw (nt : Int) x (a : Int) td ev had = (0, td', ev ++ E1, true) ∧ Es = E1 ++ E2 ∧ Fw ps V n td' (a + 1) E2 w' := by
  refine clm_ind (ps := ps) (rw := rw) (col := x) (seen := (a : Int)) (Q := fun td ev had => ∀ Es, had = false → Fw ps V n td a Es (x :: w') → (clm ps rw (nt : Int) x (a : Int) td ev had).1 = 14 ∨ ∃ td' E1 E2, clm ps rw (nt : Int) x (a : Int) td ev had = (0, td', ev ++ E1, true) ∧ Es = E1 ++ E2 ∧ Fw ps V n td' (a + 1) E2 w') ?_ ?_ ?_ ?_ ?_ ?_ td ev had
  · intro td ev had h Es _ _; rw [clm_big h]; exact Or.inl rfl
  · intro ev had h Es _ hf; exact absurd hf.2 (by simp)
  · rintro p s r ev had h h2 ih Es e ⟨E', rfl, hf⟩
    rw [clm_end h h2]
    rcases ih E' e hf with h1 | ⟨td', E1, E2, h1, rfl, h3⟩
    · exact Or.inl h1
    · refine Or.inr ⟨td', (3, p) :: E1, E2, ?_, rfl, h3⟩
      rw [h1]; simp
  · intro q s r ev h h2 Es e; cases e
  · rintro q s r ev h h2 h4 - Es e ⟨t, E', w2, h1, ht, rfl, hw, -, hf⟩
    have e1 := sh_is_leaf h1 h4
    rw [e1] at hf ht hw ⊢
    rw [yl, if_pos h4] at hf hw
    rw [tk, if_pos rfl] at ht
    simp [nums] at ht
    simp at hw
    obtain ⟨hw1, rfl⟩ := hw
    rw [clm_tok h h2 h4, if_pos hw1.symm]
    rcases fol_had (rw := rw) (nt := nt) (col := x) (seen := (a : Int)) r (ev ++ [(2, (a : Int))]) (a + 1) E' w' hf with h3 | ⟨td', E1, E2, h3, rfl, h5⟩
    · exact Or.inl h3
    · refine Or.inr ⟨td', (2, (a : Int)) :: E1, E2, ?_, ?_, h5⟩
      · rw [h3]; simp
      · rw [evD, if_pos rfl, ht]; rfl
  · rintro q s r ev h h2 h4 ih Es e hf
    obtain ⟨hd, z, hs, hdn, hz, hzl, E2, rfl, hf2⟩ := fw_non g h4 hf hx
    have hr : rw s.2 = (z : Int) := by rw [hs, hrw hd hdn, ← hz]; rfl
    rw [clm_non h h2 h4, hr, if_neg (by omega)]
    rw [hr] at ih
    rcases ih (by omega) E2 rfl hf2 with h1 | ⟨td', E1, E3, h1, rfl, h3⟩
    · exact Or.inl h1
    · refine Or.inr ⟨td', (1, (z : Int)) :: E1, E3, ?_, rfl, h3⟩
      rw [h1]; simp
/-- At the end. -/
theorem fol_end (g : Lg ps E F V R M nt n) (hrw : ∀ hd : Nat, hd < n → rw (hd : Int) = rowA ps (sts ps E F V) nt hd nt) {a : Nat} (td : List Td) (ev : List Ev) (had : Bool) : ∀ Es, had = false → Fw ps V n td a Es [] → (clm ps rw (nt : Int) (nt : Int) (a : Int) td ev had).1 = 14 ∨ clm ps rw (nt : Int) (nt : Int) (a : Int) td ev had = (0, [], ev ++ Es, false) := by
  refine clm_ind (ps := ps) (rw := rw) (col := (nt : Int)) (seen := (a : Int)) (Q := fun td ev had => ∀ Es, had = false → Fw ps V n td a Es [] → (clm ps rw (nt : Int) (nt : Int) (a : Int) td ev had).1 = 14 ∨ clm ps rw (nt : Int) (nt : Int) (a : Int) td ev had = (0, [], ev ++ Es, false)) ?_ ?_ ?_ ?_ ?_ ?_ td ev had
  · intro td ev had h Es _ _; rw [clm_big h]; exact Or.inl rfl
  · rintro ev had h Es rfl ⟨rfl, -⟩; rw [clm_nil h]; exact Or.inr (by simp)
  · rintro p s r ev had h h2 ih Es e ⟨E', rfl, hf⟩
    rw [clm_end h h2]
    rcases ih E' e hf with h1 | h1
    · exact Or.inl h1
    · exact Or.inr (by rw [h1]; simp)
  · intro q s r ev h h2 Es e; cases e
  · rintro q s r ev h h2 h4 - Es e ⟨t, E', w2, h1, ht, rfl, hw, -, hf⟩
    have e1 := sh_is_leaf h1 h4
    rw [e1, yl, if_pos h4] at hw
    simp at hw
  · rintro q s r ev h h2 h4 ih Es e hf
    obtain ⟨hd, z, hs, hdn, hz, hzl, E2, rfl, hf2⟩ := fw_non g h4 hf (by simp)
    have hr : rw s.2 = (z : Int) := by rw [hs, hrw hd hdn, ← hz]; rfl
    rw [clm_non h h2 h4, hr, if_neg (by omega)]
    rw [hr] at ih
    rcases ih (by omega) E2 rfl hf2 with h1 | h1
    · exact Or.inl h1
    · exact Or.inr (by rw [h1]; simp)
/-! What has been had begins a tree. -/
/-- Words of what is ahead. -/
def Dv (ps : List Pd) : List Td → List Int → Prop
  | [], v => v = []
  | (true, _, _) :: r, v => Dv ps r v
  | (false, _, s) :: r, v => ∃ t v', sh ps t s = true ∧ v = yl ps t s ++ v' ∧ Dv ps r v'
def Bk (ps : List Pd) (td : List Td) (u : List Int) : Prop := ∀ v, Dv ps td v → ∃ t, sh ps t (2, 0) = true ∧ yl ps t (2, 0) = u ++ v
theorem dv_body {ps : List Pd} {r : List Td} : ∀ {ss : List Sy} {v : List Int}, Dv ps (ss.map symT ++ r) v → ∃ l v', shL ps l ss = true ∧ v = ylL ps l ss ++ v' ∧ Dv ps r v'
  | [], v, h => ⟨[], v, by simp [shL], by simp [ylL], h⟩
  | s :: ss, v, h => by
    obtain ⟨t, v1, h1, rfl, h2⟩ := h
    obtain ⟨l, v2, h3, rfl, h4⟩ := dv_body h2
    refine ⟨t :: l, v2, shL_cons h1 h3, ?_, h4⟩
    rw [ylL, List.headD_cons, List.tail_cons, List.append_assoc]
theorem bk_start : Bk ps [symT (2, 0)] [] := by
  rintro v ⟨t, v', h1, rfl, rfl⟩
  exact ⟨t, h1, by simp⟩
theorem clm_bk {T : Int} {u : List Int} (hr : RwOk ps n rw) (td : List Td) (ev : List Ev) (had : Bool) :
    (∀ x ∈ td, tdk T n ps x = true) → (∀ p : Int, isPr ps p = true → ∀ s ∈ bodyOf ps p, (s.1 = 1 ∧ 0 ≤ s.2 ∧ s.2 < T) ∨ (s.1 = 2 ∧ 0 ≤ s.2 ∧ s.2 < (n : Int))) → Bk ps td (if had = true then u ++ [col] else u) → (clm ps rw T col seen td ev had).1 = 0 → Bk ps (clm ps rw T col seen td ev had).2.1 (if (clm ps rw T col seen td ev had).2.2.2 = true then u ++ [col] else u) := by
  refine clm_ind (ps := ps) (rw := rw) (col := col) (seen := seen) (Q := fun td ev had => (∀ x ∈ td, tdk T n ps x = true) → (∀ p : Int, isPr ps p = true → ∀ s ∈ bodyOf ps p, (s.1 = 1 ∧ 0 ≤ s.2 ∧ s.2 < T) ∨ (s.1 = 2 ∧ 0 ≤ s.2 ∧ s.2 < (n : Int))) → Bk ps td (if had = true then u ++ [col] else u) → (clm ps rw T col seen td ev had).1 = 0 → Bk ps (clm ps rw T col seen td ev had).2.1 (if (clm ps rw T col seen td ev had).2.2.2 = true then u ++ [col] else u)) ?_ ?_ ?_ ?_ ?_ ?_ td ev had
  · intro td ev had h _ _ _ e; rw [clm_big h] at e; simp at e
  · intro ev had h _ _ hk e
    rw [clm_nil h] at e ⊢
    cases had with
    | true => simpa using hk
    | false =>
      simp only [Bool.false_eq_true, if_false] at e hk ⊢
      split
      · simpa using hk
      · rename_i h2; rw [if_neg h2] at e; simp at e
  · intro p x r ev had h h2 ih hk hb hu e
    rw [clm_end h h2] at e ⊢
    exact ih (fun y hy => hk y (List.mem_cons_of_mem _ hy)) hb (fun v hv => hu v hv) e
  · intro q s r ev h h2 hk _ hu e; rw [clm_stop h h2]; simpa using hu
  · intro q s r ev h h2 h4 ih hk hb hu e
    rw [clm_tok h h2 h4] at e ⊢
    split
    · rename_i h5
      rw [if_pos h5] at e
      refine ih h5 (fun y hy => hk y (List.mem_cons_of_mem _ hy)) hb (fun v hv => ?_) e
      obtain ⟨t, ht1, ht2⟩ := hu (col :: v) ⟨.mk (-1) 0 [], v, sh_of_leaf h4, by rw [yl, if_pos h4, h5]; rfl, hv⟩
      exact ⟨t, ht1, by rw [ht2]; simp⟩
    · rename_i h5; rw [if_neg h5] at e; simp at e
  · intro q s r ev h h2 h4 ih hk hb hu e
    rw [clm_non h h2 h4] at e ⊢
    split
    · rename_i h5; rw [if_pos h5] at e; simp at e
    · rename_i h5
      rw [if_neg h5] at e
      have hs := hk (false, q, s) (by simp)
      unfold tdk at hs
      simp [h4] at hs
      obtain ⟨g1, g2⟩ := hr s.2 hs.2.1.2 hs.2.2 (by omega)
      refine ih (by omega) (fun y hy => ?_) hb (fun v hv => ?_) e
      · rcases List.mem_append.1 hy with hy | hy
        · obtain ⟨z, hz, rfl⟩ := List.mem_map.1 hy
          have := hb _ g1 z hz
          unfold tdk symT
          simp
          omega
        · rcases List.mem_cons.1 hy with rfl | hy
          · exact tdk_end g1
          · exact hk y (List.mem_cons_of_mem _ hy)
      · obtain ⟨l, v', h6, rfl, h7⟩ := dv_body hv
        refine hu _ ⟨.mk (rw s.2) 0 l, v', sh_of_node h4 g1 g2 h6, ?_, h7⟩
        rw [yl, if_neg h4]
end
end Cg
end Go.Proofs.Ytpfehghicaaghaa

namespace Go.Proofs.Ytpfehghicaaghaa
namespace Cg

theorem cls_nil' {ps : List Pd} {rw : Int → Int → Int} {T : Int} {td : List Td} {seen : Int} {out : List Ev} {had : Nat} : cls ps rw T [] td seen out had = (if (clm ps (rw T) T T seen td [] false).1 = 0 then out ++ (clm ps (rw T) T T seen td [] false).2.2.1 else out, had, (clm ps (rw T) T T seen td [] false).1) := rfl
theorem cls_cons' {ps : List Pd} {rw : Int → Int → Int} {T x : Int} {ws : List Int} {td : List Td} {seen : Int} {out : List Ev} {had : Nat} : cls ps rw T (x :: ws) td seen out had = if (clm ps (rw x) T x seen td [] false).1 = 0 then cls ps rw T ws (clm ps (rw x) T x seen td [] false).2.1 (seen + 1) (out ++ (clm ps (rw x) T x seen td [] false).2.2.1) (had + 1) else (out, had, (clm ps (rw x) T x seen td [] false).1) := rfl
theorem cls_err {ps : List Pd} {rw : Int → Int → Int} {T : Int} : ∀ (ws : List Int) (td : List Td) (seen : Int) (out : List Ev) (had : Nat), (cls ps rw T ws td seen out had).2.2 = 0 ∨ (cls ps rw T ws td seen out had).2.2 = 13 ∨ (cls ps rw T ws td seen out had).2.2 = 14
  | [], td, seen, out, had => by rw [cls_nil']; exact clm_err _ _ _
  | x :: ws, td, seen, out, had => by
    rw [cls_cons']
    split
    · exact cls_err ws _ _ _ _
    · exact clm_err _ _ _
section
variable {ps : List Pd} {E : Nat → Bool} {F V : Nat → Wd} {R M : Nat → Bool} {nt n : Nat} {rw : Int → Int → Int}
/-- A word with its trees ahead is had, with their events. -/
theorem cls_fol (g : Lg ps E F V R M nt n) (hrw : ∀ x : Nat, x ≤ nt → ∀ hd : Nat, hd < n → rw (x : Int) (hd : Int) = rowA ps (sts ps E F V) nt hd x) : ∀ (ws : List Int), (∀ y ∈ ws, 0 ≤ y ∧ y < (nt : Int)) → ∀ (td : List Td) (a : Nat) (out Es : List Ev), Fw ps V n td a Es ws → (cls ps rw (nt : Int) ws td (a : Int) out a).2.2 = 14 ∨ cls ps rw (nt : Int) ws td (a : Int) out a = (out ++ Es, a + ws.length, 0)
  | [], _, td, a, out, Es, h => by
    rw [cls_nil']
    rcases fol_end g (rw := rw (nt : Int)) (fun hd h => hrw nt (Nat.le_refl _) hd h) td [] false Es rfl h with h1 | h1
    · exact Or.inl h1
    · rw [h1]; exact Or.inr (by simp)
  | x :: ws, hx, td, a, out, Es, h => by
    obtain ⟨x1, x2⟩ := hx x (by simp)
    obtain ⟨m, rfl⟩ : ∃ m : Nat, x = (m : Int) := ⟨x.toNat, by omega⟩
    rw [cls_cons']
    rcases fol_tok g (rw := rw (m : Int)) (fun hd h => by rw [Int.toNat_natCast]; exact hrw m (by omega) hd h) hx td [] false Es rfl h with h1 | ⟨td', E1, E2, h1, rfl, h3⟩
    · rw [if_neg (by omega)]; exact Or.inl h1
    · rw [h1, if_pos rfl]
      have e : (a : Int) + 1 = ((a + 1 : Nat) : Int) := by omega
      rw [e]
      rcases cls_fol g hrw ws (fun y hy => hx y (by simp [hy])) td' (a + 1) (out ++ ([] ++ E1)) E2 h3 with h4 | h4
      · exact Or.inl h4
      · refine Or.inr (h4.trans ?_)
        simp; omega
/-- A word with a tree. -/
theorem cls_tree (g : Lg ps E F V R M nt n) (hrw : ∀ x : Nat, x ≤ nt → ∀ hd : Nat, hd < n → rw (x : Int) (hd : Int) = rowA ps (sts ps E F V) nt hd x) {t : T} (h1 : sh ps t (2, 0) = true) (h2 : tk t = nums 0 (tk t).length) (hw : ∀ y ∈ yl ps t (2, 0), 0 ≤ y ∧ y < (nt : Int)) : (cls ps rw (nt : Int) (yl ps t (2, 0)) [symT (2, 0)] 0 [] 0).2.2 = 14 ∨ cls ps rw (nt : Int) (yl ps t (2, 0)) [symT (2, 0)] 0 [] 0 = (evD t, (yl ps t (2, 0)).length, 0) := by
  have ha : Ahd V n (2, 0) [] := fun _ => ⟨⟨0, rfl, g.rg.n1⟩, g.fa.w.cl.z⟩
  have := cls_fol g hrw (yl ps t (2, 0)) hw [symT (2, 0)] 0 [] (evD t) ⟨t, [], [], h1, h2, by simp, by simp, ha, rfl, rfl⟩
  simpa using this
/-- A token that is refused goes on to no word. -/
theorem cls_not (g : Lg ps E F V R M nt n) (hrw : ∀ x : Nat, x ≤ nt → ∀ hd : Nat, hd < n → rw (x : Int) (hd : Int) = rowA ps (sts ps E F V) nt hd x) : ∀ (ws : List Int), (∀ y ∈ ws, 0 ≤ y ∧ y < (nt : Int)) → ∀ (td : List Td) (a : Nat) (out : List Ev), (cls ps rw (nt : Int) ws td (a : Int) out a).2.2 = 13 → a ≤ (cls ps rw (nt : Int) ws td (a : Int) out a).2.1 ∧ (∀ (Es : List Ev) (v : List Int), (cls ps rw (nt : Int) ws td (a : Int) out a).2.1 < a + ws.length → (∀ y ∈ v, 0 ≤ y ∧ y < (nt : Int)) → ¬ Fw ps V n td a Es (ws.take ((cls ps rw (nt : Int) ws td (a : Int) out a).2.1 - a + 1) ++ v))
  | [], _, td, a, out, h => ⟨Nat.le_refl _, fun Es v h1 _ => absurd h1 (by rw [cls_nil']; simp)⟩
  | x :: ws, hx, td, a, out, h => by
    obtain ⟨x1, x2⟩ := hx x (by simp)
    obtain ⟨m, rfl⟩ : ∃ m : Nat, x = (m : Int) := ⟨x.toNat, by omega⟩
    have hr1 : ∀ hd : Nat, hd < n → rw (m : Int) (hd : Int) = rowA ps (sts ps E F V) nt hd ((m : Int)).toNat := fun hd h => by rw [Int.toNat_natCast]; exact hrw m (by omega) hd h
    rw [cls_cons'] at h ⊢
    by_cases h0 : (clm ps (rw (m : Int)) (nt : Int) (m : Int) (a : Int) td [] false).1 = 0
    · rw [if_pos h0] at h ⊢
      have e : (a : Int) + 1 = ((a + 1 : Nat) : Int) := by omega
      rw [e] at h ⊢
      obtain ⟨i1, i2⟩ := cls_not g hrw ws (fun y hy => hx y (by simp [hy])) _ (a + 1) _ h
      refine ⟨by omega, fun Es v h1 hv hf => ?_⟩
      generalize hk : (cls ps rw (nt : Int) ws (clm ps (rw (m : Int)) (nt : Int) (m : Int) (a : Int) td [] false).2.1 ((a + 1 : Nat) : Int) (out ++ (clm ps (rw (m : Int)) (nt : Int) (m : Int) (a : Int) td [] false).2.2.1) (a + 1)).2.1 = k at i1 i2 h1 hf
      obtain ⟨j, rfl⟩ : ∃ j, k = a + 1 + j := ⟨k - (a + 1), by omega⟩
      rw [show a + 1 + j - a + 1 = (j + 1) + 1 by omega, List.take_succ_cons, List.cons_append] at hf
      rw [show a + 1 + j - (a + 1) + 1 = j + 1 by omega] at i2
      rcases fol_tok g hr1 (fun y hy => by
        rcases List.mem_cons.1 hy with rfl | hy
        · exact ⟨x1, x2⟩
        · rcases List.mem_append.1 hy with hy | hy
          · exact hx y (by simp [List.mem_of_mem_take hy])
          · exact hv y hy) td [] false Es rfl hf with h2 | ⟨td', E1, E2, h2, -, h3⟩
      · omega
      · rw [h2] at i2
        exact i2 E2 v (by simp at h1; omega) hv h3
    · rw [if_neg h0] at h ⊢
      refine ⟨Nat.le_refl _, fun Es v _ hv hf => ?_⟩
      rw [show a - a + 1 = 0 + 1 by omega, List.take_succ_cons, List.take_zero, List.cons_append, List.nil_append] at hf
      rcases fol_tok g hr1 (fun y hy => by
        rcases List.mem_cons.1 hy with rfl | hy
        · exact ⟨x1, x2⟩
        · exact hv y hy) td [] false Es rfl hf with h2 | ⟨td', E1, E2, h2, -, -⟩
      · change (clm ps (rw (m : Int)) (nt : Int) (m : Int) (a : Int) td [] false).1 = 13 at h
        omega
      · rw [h2] at h0; exact h0 rfl
end
section
variable {ps : List Pd} {rw : Int → Int → Int} {T : Int} {n : Nat}
theorem clm_had_tok {rw : Int → Int} {col sn : Int} (hT : col ≠ T) (td : List Td) (ev : List Ev) (had : Bool) : (clm ps rw T col sn td ev had).1 = 0 → (clm ps rw T col sn td ev had).2.2.2 = true := by
  refine clm_ind (ps := ps) (rw := rw) (col := col) (seen := sn) (Q := fun td ev had => (clm ps rw T col sn td ev had).1 = 0 → (clm ps rw T col sn td ev had).2.2.2 = true) ?_ ?_ ?_ ?_ ?_ ?_ td ev had
  · intro td ev had h e; rw [clm_big h] at e; simp at e
  · intro ev had h e
    rw [clm_nil h] at e ⊢
    split
    · rfl
    · rename_i h1; rw [if_neg h1, if_neg hT] at e; simp at e
  · intro p x r ev had h h2 ih; rw [clm_end h h2]; exact ih
  · intro q s r ev h h2 _; rw [clm_stop h h2]
  · intro q s r ev h h2 h4 ih e
    rw [clm_tok h h2 h4] at e ⊢
    split
    · rename_i h5; rw [if_pos h5] at e; exact ih h5 e
    · rename_i h5; rw [if_neg h5] at e; simp at e
  · intro q s r ev h h2 h4 ih e
    rw [clm_non h h2 h4] at e ⊢
    split
    · rename_i h5; rw [if_pos h5] at e; simp at e
    · rename_i h5; rw [if_neg h5] at e; exact ih (by omega) e
theorem clm_had_end {rw : Int → Int} {sn : Int} (hb : ∀ p : Int, isPr ps p = true → ∀ s ∈ bodyOf ps p, (s.1 = 1 ∧ 0 ≤ s.2 ∧ s.2 < T) ∨ (s.1 = 2 ∧ 0 ≤ s.2 ∧ s.2 < (n : Int))) (hr : RwOk ps n rw) (td : List Td) (ev : List Ev) (had : Bool) : (∀ x ∈ td, tdk T n ps x = true) → had = false → (clm ps rw T T sn td ev had).1 = 0 → (clm ps rw T T sn td ev had).2.2.2 = false := by
  refine clm_ind (ps := ps) (rw := rw) (col := T) (seen := sn) (Q := fun td ev had => (∀ x ∈ td, tdk T n ps x = true) → had = false → (clm ps rw T T sn td ev had).1 = 0 → (clm ps rw T T sn td ev had).2.2.2 = false) ?_ ?_ ?_ ?_ ?_ ?_ td ev had
  · intro td ev had h _ _ e; rw [clm_big h] at e; simp at e
  · intro ev had h _ hf _; rw [clm_nil h, if_neg (by rw [hf]; decide), if_pos rfl]
  · intro p x r ev had h h2 ih hk hf; rw [clm_end h h2]; exact ih (fun y hy => hk y (List.mem_cons_of_mem _ hy)) hf
  · intro q s r ev h h2 _ hf; cases hf
  · intro q s r ev h h2 h4 ih hk _ e
    have := hk (false, q, s) (by simp)
    unfold tdk at this
    simp [h4] at this
    rw [clm_tok h h2 h4, if_neg (by omega)] at e
    simp at e
  · intro q s r ev h h2 h4 ih hk _ e
    rw [clm_non h h2 h4] at e ⊢
    split
    · rfl
    · rename_i h5
      rw [if_neg h5] at e
      have hs := hk (false, q, s) (by simp)
      unfold tdk at hs
      simp [h4] at hs
      obtain ⟨g1, g2⟩ := hr s.2 hs.2.1.2 hs.2.2 (by omega)
      refine ih (by omega) (fun y hy => ?_) rfl e
      rcases List.mem_append.1 hy with hy | hy
      · obtain ⟨z, hz, rfl⟩ := List.mem_map.1 hy
        have := hb _ g1 z hz
        unfold tdk symT
        simp
        omega
      · rcases List.mem_cons.1 hy with rfl | hy
        · exact tdk_end g1
        · exact hk y (List.mem_cons_of_mem _ hy)
/-- What was had begins a tree of whatever is ahead. -/
theorem cls_bk (hb : ∀ p : Int, isPr ps p = true → ∀ s ∈ bodyOf ps p, (s.1 = 1 ∧ 0 ≤ s.2 ∧ s.2 < T) ∨ (s.1 = 2 ∧ 0 ≤ s.2 ∧ s.2 < (n : Int))) (hr : ∀ x, 0 ≤ x → x ≤ T → RwOk ps n (rw x)) (hT : 0 ≤ T) : ∀ (ws : List Int), (∀ y ∈ ws, 0 ≤ y ∧ y < T) → ∀ (td : List Td) (sn : Int) (out : List Ev) (had : Nat) (u : List Int), Bk ps td u → (∀ x ∈ td, tdk T n ps x = true) →
    ∃ k td', (cls ps rw T ws td sn out had).2.1 = had + k ∧ k ≤ ws.length ∧ Bk ps td' (u ++ ws.take k) ∧ (∀ x ∈ td', tdk T n ps x = true) ∧ ((cls ps rw T ws td sn out had).2.2 = 0 → k = ws.length ∧ ∃ t, sh ps t (2, 0) = true ∧ yl ps t (2, 0) = u ++ ws)
  | [], _, td, sn, out, had, u, h, hk => by
    refine ⟨0, td, rfl, Nat.le_refl _, by simpa using h, hk, fun h0 => ⟨rfl, ?_⟩⟩
    rw [cls_nil'] at h0
    change (clm ps (rw T) T T sn td [] false).1 = 0 at h0
    have h1 := clm_bk (T := T) (col := T) (seen := sn) (u := u) (hr T hT (Int.le_refl _)) td [] false hk hb (by simpa using h) h0
    have h2 := clm_had_end hb (hr T hT (Int.le_refl _)) td [] false hk rfl h0
    have h3 := (clm_tdk hb (hr T hT (Int.le_refl _)) td [] false hk h0).2.2.1 h2
    rw [h2, h3.1] at h1
    obtain ⟨t, ht1, ht2⟩ := h1 [] rfl
    exact ⟨t, ht1, by simpa using ht2⟩
  | x :: ws, hx, td, sn, out, had, u, h, hk => by
    obtain ⟨x1, x2⟩ := hx x (by simp)
    rw [cls_cons']
    by_cases h0 : (clm ps (rw x) T x sn td [] false).1 = 0
    · rw [if_pos h0]
      have h1 := clm_bk (T := T) (col := x) (seen := sn) (u := u) (hr x x1 (by omega)) td [] false hk hb (by simpa using h) h0
      rw [clm_had_tok (by omega) td [] false h0, if_pos rfl] at h1
      have h2 := (clm_tdk hb (hr x x1 (by omega)) td [] false hk h0).1
      obtain ⟨k, td', i1, i2, i3, i4, i5⟩ := cls_bk hb hr hT ws (fun y hy => hx y (by simp [hy])) _ (sn + 1) (out ++ (clm ps (rw x) T x sn td [] false).2.2.1) (had + 1) _ h1 h2
      refine ⟨k + 1, td', by omega, by simp; omega, by rw [List.take_succ_cons]; simpa using i3, i4, fun h6 => ?_⟩
      obtain ⟨j1, t, j2, j3⟩ := i5 h6
      exact ⟨by simp; omega, t, j2, by rw [j3]; simp⟩
    · rw [if_neg h0]
      refine ⟨0, td, rfl, Nat.zero_le _, by simpa using h, hk, fun h6 => absurd h6 h0⟩
/-- All of what is ahead makes something. -/
theorem dv_some {ps : List Pd} {T : Int} {n : Nat} (hm : ∀ a : Nat, a < n → ∃ t, sh ps t (2, (a : Int)) = true) : ∀ (td : List Td), (∀ x ∈ td, tdk T n ps x = true) → ∃ v, Dv ps td v
  | [], _ => ⟨[], rfl⟩
  | (true, p, s) :: r, h => by
    obtain ⟨v, hv⟩ := dv_some hm r fun x hx => h x (by simp [hx])
    exact ⟨v, hv⟩
  | (false, p, s) :: r, h => by
    obtain ⟨v, hv⟩ := dv_some hm r fun x hx => h x (by simp [hx])
    have hs := h (false, p, s) (by simp)
    unfold tdk at hs
    by_cases h4 : s.1 = 1
    · exact ⟨_, .mk (-1) 0 [], v, sh_of_leaf h4, rfl, hv⟩
    · simp [h4] at hs
      obtain ⟨t, ht⟩ := hm s.2.toNat (by omega)
      have e : s = (2, (s.2.toNat : Int)) := by
        obtain ⟨a, b⟩ := s
        simp at hs ⊢
        omega
      rw [e]
      exact ⟨_, t, v, by simpa using ht, rfl, hv⟩
end
end Cg
end Go.Proofs.Ytpfehghicaaghaa
