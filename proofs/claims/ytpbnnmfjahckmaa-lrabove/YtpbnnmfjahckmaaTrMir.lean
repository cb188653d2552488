/-
  A tree turned round, plainly: it is one of the grammar turned round, as large and as deep, and its word is turned round.
-/
import Derived.Test.YtpbnnmfjahckmaaGrF
namespace Go.Proofs.Ytpbnnmfjahckmaa
namespace Cg

mutual
def mirT (n : Nat) : T → T
  | .mk p k l => if p < 0 then .mk (-1) ((n : Int) - 1 - k) [] else .mk p 0 (mirL n l)
def mirL (n : Nat) : List T → List T
  | [] => []
  | t :: l => mirL n l ++ [mirT n t]
end
theorem turn_getD (ps : List Pd) (i : Nat) : (turn ps).getD i (0, []) = turnP (ps.getD i (0, [])) := by
  rw [List.getD_eq_getElem?_getD, List.getD_eq_getElem?_getD]
  unfold turn
  rw [List.getElem?_map]
  cases ps[i]? with
  | none => rfl
  | some x => rfl
theorem turn_body (ps : List Pd) (p : Int) : bodyOf (turn ps) p = (bodyOf ps p).reverse := by unfold bodyOf; rw [turn_getD]; rfl
theorem turn_head (ps : List Pd) (p : Int) : headOf (turn ps) p = headOf ps p := by unfold headOf; rw [turn_getD]; rfl
theorem turn_isPr (ps : List Pd) (p : Int) : isPr (turn ps) p = isPr ps p := by unfold isPr; rw [turn_length]
theorem mirL_length (n : Nat) : ∀ (l : List T), (mirL n l).length = l.length
  | [] => by simp [mirL]
  | t :: l => by rw [mirL, List.length_append, mirL_length n l]; simp
theorem htL_append (a b : List T) : htL (a ++ b) = max (htL a) (htL b) := by
  induction a with
  | nil => simp [htL]
  | cons t a ih => simp only [List.cons_append, htL, ih]; omega
theorem ylL_snoc2 (ps : List Pd) (l : List T) (t : T) : ∀ (ss : List Sy), ylL ps (l ++ [t]) ss = ylL ps l ss ++ yl ps t (ss.getD l.length (0, 0)) := by
  induction l with
  | nil => intro ss; cases ss <;> simp [ylL]
  | cons u l ih =>
    intro ss
    have e : ss.getD (l.length + 1) (0, 0) = ss.tail.getD l.length (0, 0) := by cases ss <;> simp
    rw [List.cons_append, ylL, ylL, ih, List.length_cons, e, List.append_assoc]
theorem ylL_more (ps : List Pd) : ∀ (l : List T) (ss m : List Sy), l.length = ss.length → ylL ps l (ss ++ m) = ylL ps l ss
  | [], ss, m, h => by simp [ylL]
  | t :: l, [], m, h => by simp at h
  | t :: l, s :: ss, m, h => by
    rw [List.cons_append, ylL, ylL]
    simp only [List.headD_cons, List.tail_cons]
    rw [ylL_more ps l ss m (by simpa using h)]
theorem shL_snoc2 {ps : List Pd} {t : T} {s : Sy} {l : List T} {ss : List Sy} (h : shL ps l ss = true) (h2 : sh ps t s = true) : shL ps (l ++ [t]) (ss ++ [s]) = true := shL_snoc h h2
mutual
theorem mir_all {ps : List Pd} (n : Nat) : ∀ {t : T} {s : Sy}, sh ps t s = true → sh (turn ps) (mirT n t) s = true ∧ (mirT n t).sz = t.sz ∧ (mirT n t).ht = t.ht ∧ tk (mirT n t) = ((tk t).map fun k => (n : Int) - 1 - k).reverse ∧ yl (turn ps) (mirT n t) s = (yl ps t s).reverse
  | .mk p k l, s, h => by
    by_cases h4 : s.1 = 1
    · have h5 := sh_is_leaf h h4
      injection h5 with e1 e2 e3
      subst e1 e3
      rw [mirT, if_pos (by omega)]
      refine ⟨sh_of_leaf h4, by simp [T.sz, szL], by simp [T.ht, htL], by simp [tk], by simp [yl, h4]⟩
    · obtain ⟨h1, h2, h3, h5⟩ := sh_node h h4
      have hle := isPr_le h1
      subst h3
      obtain ⟨a1, a2, a3, a4, a5⟩ := mirL_all n h5
      rw [mirT, if_neg (by omega)]
      refine ⟨?_, by rw [T.sz, T.sz, a2], by rw [T.ht, T.ht, a3], ?_, ?_⟩
      · refine sh_of_node h4 (by rw [turn_isPr]; exact h1) (by rw [turn_head]; exact h2) ?_
        rw [turn_body]; exact a1
      · rw [tk, tk, if_neg (by omega), if_neg (by omega)]; exact a4
      · rw [yl, yl, if_neg h4, if_neg h4, turn_body]; exact a5
theorem mirL_all {ps : List Pd} (n : Nat) : ∀ {l : List T} {ss : List Sy}, shL ps l ss = true → shL (turn ps) (mirL n l) ss.reverse = true ∧ szL (mirL n l) = szL l ∧ htL (mirL n l) = htL l ∧ tkL (mirL n l) = ((tkL l).map fun k => (n : Int) - 1 - k).reverse ∧ ylL (turn ps) (mirL n l) ss.reverse = (ylL ps l ss).reverse
  | [], ss, h => by
    rw [shL] at h; simp at h; subst h
    simp [mirL, shL, tkL, ylL]
  | t :: l, [], h => by rw [shL] at h; simp at h
  | t :: l, s :: ss, h => by
    rw [shL] at h
    simp at h
    obtain ⟨b1, b2, b3, b4, b5⟩ := mir_all n h.1
    obtain ⟨a1, a2, a3, a4, a5⟩ := mirL_all n h.2
    have hl := shL_length h.2
    rw [mirL, List.reverse_cons]
    refine ⟨shL_snoc2 a1 b1, ?_, ?_, ?_, ?_⟩
    · rw [szL_append, a2, szL, szL, b2, szL]; omega
    · rw [htL_append, a3, htL, htL, b3, htL]; omega
    · rw [tkL_append, a4, tkL, tkL, b4, tkL]; simp
    · have e : (ss.reverse ++ [s]).getD (mirL n l).length (0, 0) = s := by
        rw [List.getD_eq_getElem?_getD, mirL_length, hl, ← List.length_reverse, List.getElem?_concat_length]; rfl
      rw [ylL_snoc2, e, b5, ylL_more _ _ _ _ (by rw [mirL_length, hl, List.length_reverse]), a5, ylL]
      simp
end
theorem nums_mir (n : Nat) : ((nums 0 n).map fun k => (n : Int) - 1 - k).reverse = nums 0 n := by
  apply List.ext_getElem
  · simp [nums]
  · intro i h1 h2
    simp [nums] at h1 h2 ⊢
    omega
/-- Of a tree that is right the tree turned round is right of the grammar turned round. -/
theorem mir_thr {ps : List Pd} {t : T} {n' : Nat} {ws : List Int} (h : thr ps t (2, 0) 1 0 [] = (0, n', ws)) : thr (turn ps) (mirT ws.length t) (2, 0) 1 0 [] = (0, n', ws.reverse) := by
  obtain ⟨h1, h2, h3, h4, h5, h6, h7⟩ := thr_fwd h
  rw [List.nil_append] at h6
  have hl : (tk t).length = ws.length := by rw [h7, ← h6]
  obtain ⟨a1, a2, a3, a4, a5⟩ := mir_all ws.length h1
  have e : tk (mirT ws.length t) = nums 0 ws.length := by
    rw [a4, h2, List.length_nil, hl]
    exact nums_mir ws.length
  have hb := thr_bwd (d := 1) (n := 0) (ws := []) a1 (by rw [e, List.length_nil, nums_length]) (by rw [a2]; omega) (by rw [a3]; omega)
  rw [hb.1, a2, a5, h6, h3, List.nil_append]
end Cg
end Go.Proofs.Ytpbnnmfjahckmaa
