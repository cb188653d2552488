/-
  LEWIS, STEARNS, plainly: of a grammar without a clash each word has one tree at most.
-/
import Derived.Test.YtpbnnmfjahckmaaGrF
import Derived.Test.YtpbnnmfjahckmaaGrB
namespace Go.Proofs.Ytpbnnmfjahckmaa
namespace Cg

/-- A right grammar without a clash. -/
structure Lg (ps : List Pd) (E : Nat → Bool) (F V : Nat → Wd) (R M : Nat → Bool) (nt n : Nat) : Prop where
  fa : Fa ps E F V R M
  no : clsN ps (sts ps E F V) nt n = []
  tt : nt ≤ 60
  rg : Rg (nt : Int) n ps
theorem bodyOf_nat {ps : List Pd} {z : Nat} (h : z < ps.length) : bodyOf ps (z : Int) = ps[z].2 ∧ headOf ps (z : Int) = ps[z].1 := by
  have eg : ps.getD z (0, []) = ps[z] := by rw [List.getD_eq_getElem?_getD, List.getElem?_eq_getElem h]; rfl
  unfold bodyOf headOf
  rw [Int.toNat_natCast, eg]
  exact ⟨rfl, rfl⟩
theorem col_lt {nt : Nat} {l : List Int} (h : ∀ x ∈ l, 0 ≤ x ∧ x < (nt : Int)) : colOf nt l < nt + 1 := by
  cases l with
  | nil => simp [colOf]
  | cons x r => have := h x (by simp); simp only [colOf]; omega
/-- What is known of a symbol ahead of what comes behind it. -/
def Ahd (V : Nat → Wd) (n : Nat) (s : Sy) (post : List Int) : Prop := s.1 ≠ 1 → (∃ hd : Nat, s.2 = (hd : Int) ∧ hd < n) ∧ le (nx post) (V s.2.toNat)
mutual
theorem ll_sh {ps : List Pd} {E : Nat → Bool} {F V : Nat → Wd} {R M : Nat → Bool} {nt n : Nat} (g : Lg ps E F V R M nt n) : ∀ {t u : T} {s : Sy} {post post2 : List Int} {a : Nat}, sh ps t s = true → sh ps u s = true → tk t = nums a (tk t).length → tk u = nums a (tk u).length → Ahd V n s post → Ahd V n s post2 → yl ps t s ++ post = yl ps u s ++ post2 → (∀ x ∈ yl ps t s ++ post, 0 ≤ x ∧ x < (nt : Int)) → t = u ∧ post = post2
  | .mk p k l, .mk p2 k2 l2, s, post, post2, a, h, h', ht, ht', ha, ha', e, hx => by
    by_cases h4 : s.1 = 1
    · have e1 := sh_is_leaf h h4
      have e2 := sh_is_leaf h' h4
      injection e1 with q1 q2 q3
      injection e2 with r1 r2 r3
      subst q1 q3 r1 r3
      rw [tk, if_pos rfl] at ht ht'
      simp [nums] at ht ht'
      subst ht ht'
      rw [yl, if_pos h4] at e
      simp only [List.cons_append, List.nil_append, List.cons.injEq, true_and] at e
      exact ⟨rfl, e⟩
    · obtain ⟨h1, h2, h3, h5⟩ := sh_node h h4
      obtain ⟨h1', h2', h3', h5'⟩ := sh_node h' h4
      subst h3 h3'
      obtain ⟨⟨hd, hs, hdn⟩, hV⟩ := ha h4
      obtain ⟨-, hV'⟩ := ha' h4
      have hle := isPr_le h1
      have hle' := isPr_le h1'
      obtain ⟨z, rfl⟩ : ∃ z : Nat, p = (z : Int) := ⟨p.toNat, by omega⟩
      obtain ⟨z', rfl⟩ : ∃ z : Nat, p2 = (z : Int) := ⟨p2.toNat, by omega⟩
      rw [hs, Int.toNat_natCast] at hV hV'
      obtain ⟨m1, m2⟩ := may_node g.fa g.tt h h4 hs hV hx
      obtain ⟨m1', m2'⟩ := may_node g.fa g.tt h' h4 hs hV' (by rw [← e]; exact hx)
      have o1 := row_one g.no hdn (col_lt hx) m1 m2
      rw [e] at o1
      have o2 := row_one g.no hdn (col_lt (by rw [← e]; exact hx)) m1' m2'
      obtain rfl : z = z' := by rw [o1] at o2; exact Int.ofNat.inj o2
      rw [yl, yl, if_neg h4, if_neg h4] at e
      rw [yl, if_neg h4] at hx
      rw [tk, if_neg (by omega)] at ht ht'
      obtain ⟨b1, b2⟩ := bodyOf_nat m1
      have hps := List.getElem_mem m1
      have hhd : ps[z].1.toNat = hd := by rw [← b2, h2, hs, Int.toNat_natCast]
      rw [b1] at h5 h5' e hx
      obtain ⟨rfl, rfl⟩ := ll_shL g h5 h5' ht ht' (V hd) hV hV' (fun q hq => by
        have hok := (g.rg.ok z m1) _ (List.getElem_mem hq)
        refine ⟨fun h6 => ?_, fun h6 => ?_⟩
        · rcases hok with h7 | h7
          · exact absurd h7.1 h6
          · exact ⟨ps[z].2[q].2.toNat, by omega, by omega⟩
        · rcases hok with h7 | h7
          · exact absurd h7.1 h6
          · have := g.fa.w.cl.st _ hps q hq h7.1
            rw [hhd] at this
            exact this) e hx
      exact ⟨rfl, rfl⟩
theorem ll_shL {ps : List Pd} {E : Nat → Bool} {F V : Nat → Wd} {R M : Nat → Bool} {nt n : Nat} (g : Lg ps E F V R M nt n) : ∀ {l m : List T} {ss : List Sy} {post post2 : List Int} {a : Nat}, shL ps l ss = true → shL ps m ss = true → tkL l = nums a (tkL l).length → tkL m = nums a (tkL m).length → ∀ (b : Wd), le (nx post) b → le (nx post2) b → (∀ q (hq : q < ss.length), (ss[q].1 ≠ 1 → ∃ hd : Nat, ss[q].2 = (hd : Int) ∧ hd < n) ∧ (ss[q].1 ≠ 1 → le (bg E F (ss.drop (q + 1)) b) (V ss[q].2.toNat))) → ylL ps l ss ++ post = ylL ps m ss ++ post2 → (∀ x ∈ ylL ps l ss ++ post, 0 ≤ x ∧ x < (nt : Int)) → l = m ∧ post = post2
  | [], [], ss, post, post2, a, h, h', ht, ht', b, hb, hb', hc, e, hx => by
    simp only [ylL, List.nil_append] at e
    exact ⟨rfl, e⟩
  | [], u :: m, [], post, post2, a, h, h', ht, ht', b, hb, hb', hc, e, hx => by rw [shL] at h'; simp at h'
  | [], u :: m, s :: ss, post, post2, a, h, h', ht, ht', b, hb, hb', hc, e, hx => by rw [shL] at h; simp at h
  | t :: l, m, [], post, post2, a, h, h', ht, ht', b, hb, hb', hc, e, hx => by rw [shL] at h; simp at h
  | t :: l, [], s :: ss, post, post2, a, h, h', ht, ht', b, hb, hb', hc, e, hx => by rw [shL] at h'; simp at h'
  | t :: l, u :: m, s :: ss, post, post2, a, h, h', ht, ht', b, hb, hb', hc, e, hx => by
    rw [shL] at h h'
    simp at h h'
    rw [ylL, ylL] at e
    rw [ylL] at hx
    simp only [List.headD_cons, List.tail_cons, List.append_assoc] at e hx
    rw [tkL] at ht ht'
    obtain ⟨q1, q2⟩ := nums_split ht
    obtain ⟨q1', q2'⟩ := nums_split ht'
    obtain ⟨c1, c2⟩ := hc 0 (by simp)
    simp only [List.getElem_cons_zero, Nat.zero_add, List.drop_succ_cons, List.drop_zero] at c1 c2
    have n1 := next_shL g.fa.m.cl g.fa.e.cl g.fa.f.cl h.2 post b (Or.inr hb)
    have n2 := next_shL g.fa.m.cl g.fa.e.cl g.fa.f.cl h'.2 post2 b (Or.inr hb')
    obtain ⟨rfl, e2⟩ := ll_sh g h.1 h'.1 q1 q1' (fun h6 => ⟨c1 h6, le_trans n1 (c2 h6)⟩) (fun h6 => ⟨c1 h6, le_trans n2 (c2 h6)⟩) e hx
    obtain ⟨rfl, rfl⟩ := ll_shL g h.2 h'.2 q2 q2' b hb hb' (fun q hq => by
      have := hc (q + 1) (by simp; exact hq)
      simpa using this) e2 (fun x hm => hx x (List.mem_append_right _ hm))
    exact ⟨rfl, rfl⟩
end
/-- LEWIS, STEARNS. -/
theorem ll_one {ps : List Pd} {E : Nat → Bool} {F V : Nat → Wd} {R M : Nat → Bool} {nt n : Nat} (g : Lg ps E F V R M nt n) {t u : T} (h : sh ps t (2, 0) = true) (h' : sh ps u (2, 0) = true) (ht : tk t = nums 0 (tk t).length) (ht' : tk u = nums 0 (tk u).length) (e : yl ps t (2, 0) = yl ps u (2, 0)) (hx : ∀ x ∈ yl ps t (2, 0), 0 ≤ x ∧ x < (nt : Int)) : t = u := by
  have ha : Ahd V n (2, 0) [] := fun _ => ⟨⟨0, rfl, g.rg.n1⟩, g.fa.w.cl.z⟩
  exact (ll_sh g h h' ht ht' ha ha (by rw [e]) (by simpa using hx)).1
end Cg
end Go.Proofs.Ytpbnnmfjahckmaa
