/-
  Trees from their events, plainly: who builds from below (brun) comes to the one tree whose events they are, if there is one; events tell their tree.
-/
import Derived.Test.YtldfiofgknmcgabTrMath
namespace Go.Proofs.Ytldfiofgknmcgab
namespace Cg

/-- Do the last of these stand for the symbols of body? -/
def endsW (ps : List Pd) (st : List T) (body : List Sy) : Bool := decide (body.length ≤ st.length) && ((st.drop (st.length - body.length)).zip body).all fun x => isOf ps x.1.p x.2
def bstep (ps : List Pd) (st : List T) (lv : Nat) (e : Ev) : Option (List T × Nat) :=
  if e.1 = 2 ∧ e.2 = (lv : Int) then some (st ++ [.mk (-1) (lv : Int) []], lv + 1)
  else if e.1 = 4 ∧ isPr ps e.2 = true ∧ endsW ps st (bodyOf ps e.2) = true then some (st.take (st.length - (bodyOf ps e.2).length) ++ [.mk e.2 0 (st.drop (st.length - (bodyOf ps e.2).length))], lv)
  else none
def brun (ps : List Pd) : List Ev → List T → Nat → Option (List T × Nat)
  | [], st, lv => some (st, lv)
  | e :: l, st, lv => match bstep ps st lv e with
    | none => none
    | some r => brun ps l r.1 r.2
theorem brun_append (ps : List Pd) (b : List Ev) : ∀ (a : List Ev) st lv, brun ps (a ++ b) st lv = match brun ps a st lv with | none => none | some r => brun ps b r.1 r.2
  | [], st, lv => rfl
  | e :: a, st, lv => by
    rw [List.cons_append, brun, brun]
    cases bstep ps st lv e with
    | none => rfl
    | some r => exact brun_append ps b a r.1 r.2
/-- A tree of the right form, for whatever symbol it is. -/
def Gd (ps : List Pd) (t : T) : Prop := (t.p = -1 ∧ t.kids = []) ∨ (isPr ps t.p = true ∧ t.k = 0 ∧ shL ps t.kids (bodyOf ps t.p) = true)
theorem Gd.sh {ps : List Pd} {t : T} {s : Sy} (h : Gd ps t) (h2 : isOf ps t.p s = true) : sh ps t s = true := by
  obtain ⟨p, k, l⟩ := t
  unfold isOf at h2
  rcases h with ⟨h3, h4⟩ | ⟨h3, h4, h5⟩
  · simp only [T.p, T.kids] at h2 h3 h4
    subst h3 h4
    by_cases h6 : s.1 = 1
    · exact sh_of_leaf h6
    · rw [if_neg h6] at h2
      simp [isPr] at h2
  · simp only [T.p, T.k, T.kids] at h2 h3 h4 h5
    subst h4
    have := isPr_le h3
    by_cases h6 : s.1 = 1
    · rw [if_pos h6] at h2
      have := of_decide_eq_true h2; omega
    · rw [if_neg h6, h3, Bool.true_and] at h2
      exact sh_of_node h6 h3 (of_decide_eq_true h2) h5
theorem sh_gd {ps : List Pd} {t : T} {s : Sy} (h : sh ps t s = true) : Gd ps t ∧ isOf ps t.p s = true := by
  obtain ⟨p, k, l⟩ := t
  unfold Gd isOf
  by_cases h6 : s.1 = 1
  · rw [sh] at h
    simp [h6] at h
    simp [T.p, T.kids, h6, h.1, h.2]
  · obtain ⟨h1, h2, h3, h4⟩ := sh_node h h6
    simp [T.p, T.k, T.kids, h6, h1, h2, h3, h4]
theorem shL_of {ps : List Pd} : ∀ {l : List T} {ss : List Sy}, l.length = ss.length → (∀ t ∈ l, Gd ps t) → (l.zip ss).all (fun x => isOf ps x.1.p x.2) = true → shL ps l ss = true
  | [], [], _, _, _ => by rw [shL]; rfl
  | [], s :: ss, h, _, _ => by simp at h
  | t :: l, [], h, _, _ => by simp at h
  | t :: l, s :: ss, h, hg, ha => by
    simp only [List.zip_cons_cons, List.all_cons, Bool.and_eq_true] at ha
    exact shL_cons ((hg t (by simp)).sh ha.1) (shL_of (by simpa using h) (fun u hu => hg u (by simp [hu])) ha.2)
theorem shL_all {ps : List Pd} : ∀ {l : List T} {ss : List Sy}, shL ps l ss = true → (∀ t ∈ l, Gd ps t) ∧ (l.zip ss).all (fun x => isOf ps x.1.p x.2) = true
  | [], ss, h => by simp
  | t :: l, [], h => by rw [shL] at h; simp at h
  | t :: l, s :: ss, h => by
    rw [shL] at h
    simp at h
    obtain ⟨a, b⟩ := shL_all h.2
    obtain ⟨c, d⟩ := sh_gd h.1
    refine ⟨fun u hu => ?_, by simp [d]; simpa using b⟩
    rcases List.mem_cons.1 hu with rfl | hu
    · exact c
    · exact a u hu
/-- What is true all along. -/
def Binv (ps : List Pd) (l : List Ev) (st : List T) (lv : Nat) : Prop := (∀ t ∈ st, Gd ps t) ∧ evUL st = l ∧ tkL st = nums 0 lv
theorem Binv.start (ps : List Pd) : Binv ps [] [] 0 := ⟨fun t h => (by simp at h), rfl, rfl⟩
theorem Binv.step {ps : List Pd} {l : List Ev} {st : List T} {lv : Nat} {e : Ev} {r : List T × Nat} (h : Binv ps l st lv) (hs : bstep ps st lv e = some r) : Binv ps (l ++ [e]) r.1 r.2 := by
  obtain ⟨h1, h2, h3⟩ := h
  obtain ⟨k, x⟩ := e
  unfold bstep at hs
  split at hs
  · rename_i hc
    obtain ⟨rfl, rfl⟩ := hc
    simp at hs
    subst hs
    refine ⟨fun t ht => ?_, ?_, ?_⟩
    · rcases List.mem_append.1 ht with h | h
      · exact h1 t h
      · simp at h; subst h; exact Or.inl ⟨rfl, rfl⟩
    · rw [evUL_append, h2]; simp [evUL, evU]
    · rw [tkL_append, h3, nums_append]; simp [tkL, tk, nums]
  · split at hs
    · rename_i _ hc
      obtain ⟨rfl, hp, he⟩ := hc
      simp at hs
      subst hs
      simp only at hp he
      unfold endsW at he
      simp only [Bool.and_eq_true, decide_eq_true_eq] at he
      have hsp := List.take_append_drop (st.length - (bodyOf ps x).length) st
      have hpm := isPr_le hp
      have hx1 : x ≠ -1 := by omega
      refine ⟨fun t ht => ?_, ?_, ?_⟩
      · rcases List.mem_append.1 ht with h | h
        · exact h1 t (List.mem_of_mem_take h)
        · simp at h
          subst h
          exact Or.inr ⟨hp, rfl, shL_of (by simp [T.kids, T.p]; omega) (fun t ht => h1 t (List.mem_of_mem_drop ht)) he.2⟩
      · rw [evUL_append, evUL, evUL, evU, if_neg hx1, List.append_nil, ← List.append_assoc, ← evUL_append, hsp, h2]
      · rw [tkL_append, tkL, tkL, tk, if_neg hx1, List.append_nil, ← tkL_append, hsp, h3]
    · cases hs
theorem Binv.run {ps : List Pd} : ∀ {m : List Ev} {l : List Ev} {st : List T} {lv : Nat} {r : List T × Nat}, Binv ps l st lv → brun ps m st lv = some r → Binv ps (l ++ m) r.1 r.2
  | [], l, st, lv, r, h, hr => by
    rw [brun] at hr; simp at hr; subst hr; simpa using h
  | e :: m, l, st, lv, r, h, hr => by
    rw [brun] at hr
    cases hb : bstep ps st lv e with
    | none => rw [hb] at hr; cases hr
    | some q =>
      rw [hb] at hr
      have := Binv.run (h.step hb) hr
      simpa using this
mutual
theorem brun_tree {ps : List Pd} : ∀ {t : T} {s : Sy} {st : List T} {lv : Nat} {rest : List Ev}, sh ps t s = true → tk t = nums lv (tk t).length → brun ps (evU t ++ rest) st lv = brun ps rest (st ++ [t]) (lv + (tk t).length)
  | .mk p k l, s, st, lv, rest, h, ht => by
    by_cases h4 : s.1 = 1
    · have h5 := sh_is_leaf h h4
      injection h5 with e1 e2 e3
      subst e1 e3
      have : k = (lv : Int) := by
        rw [tk] at ht
        simp [nums] at ht
        exact ht
      subst this
      simp [evU, tk, brun, bstep]
    · obtain ⟨h1, h2, h3, h5⟩ := sh_node h h4
      subst h3
      have hpm := isPr_le h1
      have hx1 : p ≠ -1 := by omega
      rw [tk, if_neg hx1] at ht ⊢
      rw [evU, if_neg hx1, List.append_assoc, brun_list h5 ht, List.singleton_append, brun]
      have hl := shL_length h5
      obtain ⟨-, h7⟩ := shL_all h5
      have e1 : (st ++ l).length - (bodyOf ps p).length = st.length := by rw [List.length_append, hl]; omega
      have he : endsW ps (st ++ l) (bodyOf ps p) = true := by
        unfold endsW
        rw [e1, List.drop_left, h7, List.length_append, hl]
        simp
      unfold bstep
      simp only [he, h1, e1]
      simp
theorem brun_list {ps : List Pd} : ∀ {l : List T} {ss : List Sy} {st : List T} {lv : Nat} {rest : List Ev}, shL ps l ss = true → tkL l = nums lv (tkL l).length → brun ps (evUL l ++ rest) st lv = brun ps rest (st ++ l) (lv + (tkL l).length)
  | [], ss, st, lv, rest, h, ht => by simp [evUL, tkL]
  | t :: l, [], st, lv, rest, h, ht => by rw [shL] at h; simp at h
  | t :: l, s :: ss, st, lv, rest, h, ht => by
    rw [shL] at h
    simp at h
    rw [tkL] at ht ⊢
    obtain ⟨q1, q2⟩ := nums_split ht
    rw [evUL, List.append_assoc, brun_tree h.1 q1, brun_list h.2 q2]
    simp [Nat.add_assoc]
end
/-- What is built of events from below. -/
def built (ps : List Pd) (l : List Ev) : Option T := match brun ps l [] 0 with
  | some ([t], _) => if isOf ps t.p (2, 0) = true then some t else none
  | _ => none
/-- Which tree is of the right form, whatever its size. -/
def Ok (ps : List Pd) (t : T) : Prop := sh ps t (2, 0) = true ∧ tk t = nums 0 (tk t).length
theorem built_iff {ps : List Pd} {l : List Ev} {t : T} : built ps l = some t ↔ Ok ps t ∧ evU t = l := by
  constructor
  · intro h
    unfold built at h
    split at h
    · rename_i u lv hb
      split at h
      · rename_i hi
        simp at h
        subst h
        obtain ⟨h1, h2, h3⟩ := (Binv.start ps).run hb
        simp only [evUL, tkL, List.append_nil, List.nil_append] at h2 h3
        refine ⟨⟨(h1 u (by simp)).sh hi, ?_⟩, h2⟩
        rw [h3, nums_length]
      · cases h
    · cases h
  · rintro ⟨⟨h1, h2⟩, rfl⟩
    have := brun_tree (st := []) (rest := []) h1 h2
    rw [List.append_nil, brun] at this
    unfold built
    rw [this]
    simp [(sh_gd h1).2]
/-- Events from the top as such from below. -/
def ends1 (e : Ev) : List Ev := if e.1 = 1 then [] else if e.1 = 3 then [(4, e.2)] else [e]
def ends (l : List Ev) : List Ev := l.flatMap ends1
theorem ends_append (a b : List Ev) : ends (a ++ b) = ends a ++ ends b := by simp [ends]
theorem ends_len (l : List Ev) : (ends l).length ≤ l.length := by
  induction l with
  | nil => simp [ends]
  | cons e l ih =>
    simp only [ends, List.flatMap_cons, List.length_append, List.length_cons] at ih ⊢
    have : (ends1 e).length ≤ 1 := by unfold ends1; split; simp; split <;> simp
    omega
mutual
theorem ends_evD : ∀ (t : T), ends (evD t) = evU t
  | .mk p k l => by
    rw [evD, evU]
    split
    · simp [ends, ends1]
    · have := ends_evDL l
      have e : ends ((1, p) :: (evDL l ++ [(3, p)])) = ends (evDL l) ++ [(4, p)] := by
        rw [show ((1, p) :: (evDL l ++ [(3, p)]) : List Ev) = [(1, p)] ++ (evDL l ++ [(3, p)]) from rfl, ends_append, ends_append]
        simp [ends, ends1]
      rw [e, this]
theorem ends_evDL : ∀ (l : List T), ends (evDL l) = evUL l
  | [] => by simp [evDL, evUL, ends]
  | t :: l => by rw [evDL, evUL, ends_append, ends_evD t, ends_evDL l]
end
/-- What OfUp and OfDown have, but for size and depth. -/
def ofU (ps : List Pd) (l : List Ev) : Option T := built ps l
def ofD (ps : List Pd) (l : List Ev) : Option T := match built ps (ends l) with
  | some t => if evD t = l then some t else none
  | none => none
theorem ofD_iff {ps : List Pd} {l : List Ev} {t : T} : ofD ps l = some t ↔ Ok ps t ∧ evD t = l := by
  constructor
  · intro h
    unfold ofD at h
    split at h
    · rename_i u hb
      split at h
      · rename_i hi
        simp at h
        subst h
        exact ⟨(built_iff.1 hb).1, hi⟩
      · cases h
    · cases h
  · rintro ⟨h1, rfl⟩
    unfold ofD
    rw [ends_evD, built_iff.2 ⟨h1, rfl⟩]
    simp
/-! Events tell their tree. -/
mutual
theorem evD_one {ps : List Pd} : ∀ {t u : T} {s : Sy} {r q : List Ev}, sh ps t s = true → sh ps u s = true → evD t ++ r = evD u ++ q → t = u ∧ r = q
  | .mk p k l, .mk p2 k2 l2, s, r, q, h, h2, e => by
    by_cases h4 : s.1 = 1
    · have a1 := sh_is_leaf h h4
      have a2 := sh_is_leaf h2 h4
      injection a1 with e1 e2 e3
      injection a2 with f1 f2 f3
      subst e1 e3 f1 f3
      simp [evD] at e
      obtain ⟨rfl, rfl⟩ := e
      exact ⟨rfl, rfl⟩
    · obtain ⟨a1, a2, a3, a4⟩ := sh_node h h4
      obtain ⟨b1, b2, b3, b4⟩ := sh_node h2 h4
      have m1 := isPr_le a1
      have m2 := isPr_le b1
      rw [evD, evD, if_neg (by omega), if_neg (by omega)] at e
      simp only [List.cons_append, List.append_assoc, List.cons.injEq, Prod.mk.injEq, true_and] at e
      obtain ⟨rfl, e⟩ := e
      obtain ⟨rfl, e2⟩ := evDL_one a4 b4 e
      subst a3 b3
      simp at e2
      exact ⟨rfl, e2⟩
theorem evDL_one {ps : List Pd} : ∀ {t u : List T} {s : List Sy} {r q : List Ev}, shL ps t s = true → shL ps u s = true → evDL t ++ r = evDL u ++ q → t = u ∧ r = q
  | [], [], s, r, q, h, h2, e => by simpa [evDL] using e
  | [], u :: us, [], r, q, h, h2, e => by rw [shL] at h2; simp at h2
  | [], u :: us, s :: ss, r, q, h, h2, e => by rw [shL] at h; simp at h
  | t :: ts, [], [], r, q, h, h2, e => by rw [shL] at h; simp at h
  | t :: ts, [], s :: ss, r, q, h, h2, e => by rw [shL] at h2; simp at h2
  | t :: ts, u :: us, [], r, q, h, h2, e => by rw [shL] at h; simp at h
  | t :: ts, u :: us, s :: ss, r, q, h, h2, e => by
    rw [shL] at h h2
    simp at h h2
    rw [evDL, evDL, List.append_assoc, List.append_assoc] at e
    obtain ⟨rfl, e2⟩ := evD_one h.1 h2.1 e
    obtain ⟨rfl, e3⟩ := evDL_one h.2 h2.2 e2
    exact ⟨rfl, e3⟩
end
theorem shL_append {ps : List Pd} {m : List T} {rr : List Sy} : ∀ {l : List T} {ss : List Sy}, l.length = ss.length → shL ps (l ++ m) (ss ++ rr) = (shL ps l ss && shL ps m rr)
  | [], [], _ => by simp [shL]
  | [], s :: ss, h => by simp at h
  | t :: l, [], h => by simp at h
  | t :: l, s :: ss, h => by
    have := shL_append (ps := ps) (m := m) (rr := rr) (l := l) (ss := ss) (by simpa using h)
    rw [List.cons_append, List.cons_append, shL, shL]
    simp only [List.headD_cons, List.tail_cons, List.isEmpty_cons, Bool.not_false, Bool.true_and, this, Bool.and_assoc]
theorem shL_one {ps : List Pd} {t : T} {s : Sy} : shL ps [t] [s] = sh ps t s := by
  rw [shL, shL]; simp
theorem evUL_one {ps : List Pd} : ∀ (n : Nat) {l l2 : List T} {ss : List Sy} {r q : List Ev}, l.length = n → shL ps l ss = true → shL ps l2 ss = true → (∀ t ∈ l, ∀ u s r q, sh ps t s = true → sh ps u s = true → r ++ evU t = q ++ evU u → t = u ∧ r = q) → r ++ evUL l = q ++ evUL l2 → l = l2 ∧ r = q := by
  intro n
  induction n with
  | zero =>
    intro l l2 ss r q hn h h2 hu e
    have := shL_length h
    have := shL_length h2
    obtain rfl : l = [] := List.length_eq_zero_iff.1 hn
    obtain rfl : l2 = [] := List.length_eq_zero_iff.1 (by omega)
    simpa [evUL] using e
  | succ n ih =>
    intro l l2 ss r q hn h h2 hu e
    have k1 := shL_length h
    have k2 := shL_length h2
    rcases List.eq_nil_or_concat l with rfl | ⟨l', t, rfl⟩
    · simp at hn
    rcases List.eq_nil_or_concat l2 with rfl | ⟨l2', u, rfl⟩
    · simp at k1 k2; omega
    rcases List.eq_nil_or_concat ss with rfl | ⟨ss', s, rfl⟩
    · simp at k1
    simp only [List.concat_eq_append, List.length_append, List.length_cons, List.length_nil] at *
    rw [shL_append (by omega), shL_one] at h h2
    simp only [Bool.and_eq_true] at h h2
    rw [evUL_append, evUL_append, evUL, evUL, evUL, evUL, List.append_nil, List.append_nil, ← List.append_assoc, ← List.append_assoc] at e
    obtain ⟨rfl, e2⟩ := hu t (by simp) u s _ _ h.2 h2.2 e
    obtain ⟨rfl, e3⟩ := ih (by omega) h.1 h2.1 (fun t ht => hu t (by simp [ht])) e2
    exact ⟨rfl, e3⟩
theorem evU_one {ps : List Pd} (m : Nat) : ∀ {t u : T} {s : Sy} {r q : List Ev}, t.sz ≤ m → sh ps t s = true → sh ps u s = true → r ++ evU t = q ++ evU u → t = u ∧ r = q := by
  induction m with
  | zero => intro t u s r q hm; have := t.sz_pos; omega
  | succ m ih =>
    intro t u s r q hm h h2 e
    obtain ⟨p, k, l⟩ := t
    obtain ⟨p2, k2, l2⟩ := u
    by_cases h4 : s.1 = 1
    · have a1 := sh_is_leaf h h4
      have a2 := sh_is_leaf h2 h4
      injection a1 with e1 e2 e3
      injection a2 with f1 f2 f3
      subst e1 e3 f1 f3
      simp only [evU, if_true] at e
      obtain ⟨e1, e2⟩ := List.append_inj' e rfl
      simp at e2
      subst e1 e2
      exact ⟨rfl, rfl⟩
    · obtain ⟨a1, a2, a3, a4⟩ := sh_node h h4
      obtain ⟨b1, b2, b3, b4⟩ := sh_node h2 h4
      have m1 := isPr_le a1
      have m2 := isPr_le b1
      rw [evU, evU, if_neg (by omega), if_neg (by omega), ← List.append_assoc, ← List.append_assoc] at e
      obtain ⟨e1, e2⟩ := List.append_inj' e rfl
      simp at e2
      subst e2 a3 b3
      obtain ⟨rfl, e3⟩ := evUL_one l.length rfl a4 b4 (fun t ht u s r q g1 g2 g3 => ih (by have := T.sz_lt (t := .mk p 0 l) ht; omega) g1 g2 g3) e1
      exact ⟨rfl, e3⟩
/-! The tokens among events are those of the tree. -/
def toks (l : List Ev) : List Int := (l.filter fun e => decide (e.1 = 2)).map Prod.snd
theorem toks_append (a b : List Ev) : toks (a ++ b) = toks a ++ toks b := by simp [toks]
mutual
theorem toks_evD : ∀ (t : T), toks (evD t) = tk t
  | .mk p k l => by
    rw [evD, tk]
    split
    · simp [toks]
    · have := toks_evDL l
      rw [show ((1, p) :: (evDL l ++ [(3, p)]) : List Ev) = [(1, p)] ++ (evDL l ++ [(3, p)]) from rfl, toks_append, toks_append, this]
      simp [toks]
theorem toks_evDL : ∀ (l : List T), toks (evDL l) = tkL l
  | [] => by simp [evDL, tkL, toks]
  | t :: l => by rw [evDL, tkL, toks_append, toks_evD t, toks_evDL l]
end
mutual
theorem toks_evU : ∀ (t : T), toks (evU t) = tk t
  | .mk p k l => by
    rw [evU, tk]
    split
    · simp [toks]
    · rw [toks_append, toks_evUL l]
      simp [toks]
theorem toks_evUL : ∀ (l : List T), toks (evUL l) = tkL l
  | [] => by simp [evUL, tkL, toks]
  | t :: l => by rw [evUL, tkL, toks_append, toks_evU t, toks_evUL l]
end
/-- Are all tokens numbered from 0 on? -/
def ord (l : List Ev) : Prop := toks l = nums 0 (toks l).length
end Cg
end Go.Proofs.Ytldfiofgknmcgab
