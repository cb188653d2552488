/-
  A node read from its events: what is there, or that there is none: plainly; rows of trees beside a box that is written. No function is walked here.
-/
import Derived.Test.YtldfiofgknmcgaaTrDone2
import Derived.Test.YtldfiofgknmcgaaTrEnds
namespace Go.Proofs.Ytldfiofgknmcgaa
open Go.RowKit
open Cg

/-- A node of that symbol whose events begin there. -/
def RdD (ps : List Pd) (l : List Ev) (s : Sy) (at0 : Nat) (t : T) : Prop := sh ps t s = true ∧ l.drop at0 = evD t ++ l.drop (at0 + (evD t).length)
def NoD (ps : List Pd) (l : List Ev) (s : Sy) (at0 : Nat) : Prop := ∀ t, sh ps t s = true → ∀ rest, l.drop at0 ≠ evD t ++ rest
theorem Cg.evD_pos (t : T) : evD t ≠ [] := by
  obtain ⟨p, k, l⟩ := t
  rw [evD]; split <;> simp
theorem NoD.past {ps : List Pd} {l : List Ev} {s : Sy} {at0 : Nat} (h : l.length ≤ at0) : NoD ps l s at0 := fun t _ rest e => by
  rw [List.drop_eq_nil_of_le h] at e
  exact evD_pos t (List.append_eq_nil_iff.1 e.symm).1
theorem drop_at {l : List Ev} {i : Nat} (h : i < l.length) : l.drop i = l[i] :: l.drop (i + 1) := List.drop_eq_getElem_cons h
/-- Who is a node begins with its production. -/
theorem evD_node {ps : List Pd} {t : T} {s : Sy} (h : sh ps t s = true) (h4 : s.1 ≠ 1) : ∃ z : Nat, isPr ps (z : Int) = true ∧ headOf ps (z : Int) = s.2 ∧ ∃ kids, t = .mk (z : Int) 0 kids ∧ shL ps kids (bodyOf ps (z : Int)) = true ∧ evD t = (1, (z : Int)) :: (evDL kids ++ [(3, (z : Int))]) := by
  obtain ⟨p, k, l⟩ := t
  obtain ⟨h1, h2, h3, h5⟩ := sh_node h h4
  have hle := isPr_le h1
  obtain ⟨z, rfl⟩ : ∃ z : Nat, p = (z : Int) := ⟨p.toNat, by omega⟩
  subst h3
  exact ⟨z, h1, h2, l, rfl, h5, by rw [evD, if_neg (by omega)]⟩
theorem NoD.kind {ps : List Pd} {l : List Ev} {s : Sy} {at0 : Nat} (hl : at0 < l.length) (h4 : s.1 ≠ 1) (h : ¬ (l[at0].1 = 1 ∧ isPr ps l[at0].2 = true ∧ headOf ps l[at0].2 = s.2)) : NoD ps l s at0 := fun t ht rest e => by
  obtain ⟨z, h1, h2, kids, rfl, h5, h6⟩ := evD_node ht h4
  rw [drop_at hl, h6] at e
  simp only [List.cons_append, List.cons.injEq] at e
  exact h ⟨by rw [e.1], by rw [e.1]; exact h1, by rw [e.1]; exact h2⟩
theorem NoD.leaf {ps : List Pd} {l : List Ev} {s : Sy} {at0 : Nat} (hl : at0 < l.length) (h4 : s.1 = 1) (h : l[at0].1 ≠ 2) : NoD ps l s at0 := fun t ht rest e => by
  rw [drop_at hl, sh_is_leaf ht h4, evD, if_pos rfl] at e
  simp only [List.cons_append, List.cons.injEq] at e
  exact h (by rw [e.1])
theorem RdD.leaf {ps : List Pd} {l : List Ev} {s : Sy} {at0 : Nat} (hl : at0 < l.length) (h4 : s.1 = 1) (h : l[at0].1 = 2) : RdD ps l s at0 (.mk (-1) l[at0].2 []) := by
  refine ⟨sh_of_leaf h4, ?_⟩
  rw [drop_at hl]
  have e : evD (.mk (-1) l[at0].2 []) = [(2, l[at0].2)] := by simp [evD]
  rw [e]
  have e2 : l[at0] = (2, l[at0].2) := by rw [← h]
  rw [List.singleton_append, ← e2]; rfl
/-- Some Kids have been read. -/
structure RdL (ps : List Pd) (l : List Ev) (at0 : Nat) (body : List Sy) (i at1 : Nat) (ks : List T) : Prop where
  s0 : shL ps ks (body.take i) = true
  dr : l.drop (at0 + 1) = evDL ks ++ l.drop at1
  eq1 : at1 = at0 + 1 + (evDL ks).length
  lel : at1 ≤ l.length
theorem RdL.start {ps : List Pd} {l : List Ev} {at0 : Nat} {body : List Sy} (h : at0 < l.length) : RdL ps l at0 body 0 (at0 + 1) [] := ⟨by simp [shL], by simp [evDL], by simp [evDL], by omega⟩
theorem RdL.len {ps : List Pd} {l : List Ev} {at0 : Nat} {body : List Sy} {i at1 : Nat} {ks : List T} (h : RdL ps l at0 body i at1 ks) (hi : i ≤ body.length) : ks.length = i := by
  have := shL_length h.s0
  rw [List.length_take] at this
  omega
theorem RdL.next {ps : List Pd} {l : List Ev} {at0 : Nat} {body : List Sy} {i at1 : Nat} {ks : List T} (h : RdL ps l at0 body i at1 ks) (hi : i < body.length) {t : T} (ht : RdD ps l body[i] at1 t) : RdL ps l at0 body (i + 1) (at1 + (evD t).length) (ks ++ [t]) := by
  refine ⟨?_, ?_, ?_, ?_⟩
  · rw [List.take_succ_eq_append_getElem hi]; exact shL_snoc h.s0 ht.1
  · rw [h.dr, evDL_append, ht.2]; simp [evDL]
  · rw [h.eq1, evDL_append]; simp [evDL]; omega
  · have := congrArg List.length ht.2
    rw [List.length_append, List.length_drop, List.length_drop] at this
    have := h.lel
    omega
theorem shL_take {ps : List Pd} : ∀ (i : Nat) {l : List T} {ss : List Sy}, shL ps l ss = true → shL ps (l.take i) (ss.take i) = true
  | 0, l, ss, h => by simp [shL]
  | i + 1, [], ss, h => by rw [shL] at h; simp at h; subst h; simp [shL]
  | i + 1, t :: l, [], h => by rw [shL] at h; simp at h
  | i + 1, t :: l, s :: ss, h => by
    rw [shL] at h; simp at h
    rw [List.take_succ_cons, List.take_succ_cons]
    exact shL_cons h.1 (shL_take i h.2)
/-- A node that begins there has these Kids first. -/
theorem RdL.same {ps : List Pd} {l : List Ev} {at0 z : Nat} {body : List Sy} {i at1 : Nat} {ks kids : List T} {rest : List Ev} (h : RdL ps l at0 body i at1 ks) (hl : at0 < l.length) (hk : shL ps kids body = true) (e : l.drop at0 = (1, (z : Int)) :: (evDL kids ++ [(3, (z : Int))]) ++ rest) : kids.take i = ks ∧ l.drop at1 = evDL (kids.drop i) ++ ([(3, (z : Int))] ++ rest) := by
  rw [drop_at hl] at e
  simp only [List.cons_append, List.cons.injEq] at e
  have e2 := e.2
  rw [h.dr] at e2
  have e3 : evDL kids = evDL (kids.take i) ++ evDL (kids.drop i) := by rw [← evDL_append, List.take_append_drop]
  rw [e3, List.append_assoc, List.append_assoc] at e2
  obtain ⟨h1, h2⟩ := evDL_one h.s0 (shL_take i hk) e2
  exact ⟨h1.symm, h2⟩
theorem RdL.stop {ps : List Pd} {l : List Ev} {s : Sy} {at0 z : Nat} {i at1 : Nat} {ks : List T} (h : RdL ps l at0 (bodyOf ps (z : Int)) i at1 ks) (hl : at0 < l.length) (h4 : s.1 ≠ 1) (hz : l[at0] = (1, (z : Int))) (hi : i < (bodyOf ps (z : Int)).length) (hn : NoD ps l (bodyOf ps (z : Int))[i] at1) : NoD ps l s at0 := fun t ht rest e => by
  obtain ⟨z2, h1, h2, kids, rfl, h5, h6⟩ := evD_node ht h4
  rw [h6] at e
  have e0 := e
  rw [drop_at hl, hz] at e0
  simp only [List.cons_append, List.cons.injEq, Prod.mk.injEq, true_and] at e0
  have ez : z2 = z := by have := e0.1; omega
  subst ez
  obtain ⟨-, e2⟩ := h.same hl h5 e
  have hkl := shL_length h5
  have hik : i < kids.length := by omega
  rw [List.drop_eq_getElem_cons hik, evDL, List.append_assoc] at e2
  have h7 := shL_at h5 i hik
  rw [List.getD_eq_getElem?_getD, List.getElem?_eq_getElem hi] at h7
  exact hn _ h7 _ e2
theorem RdL.noend {ps : List Pd} {l : List Ev} {s : Sy} {at0 z : Nat} {i at1 : Nat} {ks : List T} (h : RdL ps l at0 (bodyOf ps (z : Int)) i at1 ks) (hl : at0 < l.length) (h4 : s.1 ≠ 1) (hz : l[at0] = (1, (z : Int))) (hi : (bodyOf ps (z : Int)).length ≤ i) (hn : ∀ h : at1 < l.length, l[at1] ≠ (3, (z : Int))) : NoD ps l s at0 := fun t ht rest e => by
  obtain ⟨z2, h1, h2, kids, rfl, h5, h6⟩ := evD_node ht h4
  rw [h6] at e
  have e0 := e
  rw [drop_at hl, hz] at e0
  simp only [List.cons_append, List.cons.injEq, Prod.mk.injEq, true_and] at e0
  have ez : z2 = z := by have := e0.1; omega
  subst ez
  obtain ⟨-, e2⟩ := h.same hl h5 e
  have hkl := shL_length h5
  rw [show kids.drop i = [] from List.drop_eq_nil_of_le (by omega), evDL, List.nil_append, List.singleton_append] at e2
  have ha : at1 < l.length := by
    rcases Nat.lt_or_ge at1 l.length with h' | h'
    · exact h'
    · rw [List.drop_eq_nil_of_le h'] at e2; cases e2
  rw [drop_at ha] at e2
  simp only [List.cons.injEq] at e2
  exact hn ha e2.1
theorem RdL.done {ps : List Pd} {l : List Ev} {s : Sy} {at0 z : Nat} {i at1 : Nat} {ks : List T} (h : RdL ps l at0 (bodyOf ps (z : Int)) i at1 ks) (hl : at0 < l.length) (h4 : s.1 ≠ 1) (hz : l[at0] = (1, (z : Int))) (hp : isPr ps (z : Int) = true) (hh : headOf ps (z : Int) = s.2) (hi : (bodyOf ps (z : Int)).length ≤ i) (ha : at1 < l.length) (he : l[at1] = (3, (z : Int))) : RdD ps l s at0 (.mk (z : Int) 0 ks) ∧ at0 + (evD (.mk (z : Int) 0 ks)).length = at1 + 1 := by
  have hle := isPr_le hp
  have hs := h.s0
  rw [List.take_of_length_le hi] at hs
  have e : evD (.mk (z : Int) 0 ks) = (1, (z : Int)) :: (evDL ks ++ [(3, (z : Int))]) := by rw [evD, if_neg (by omega)]
  have hlen : at0 + (evD (.mk (z : Int) 0 ks)).length = at1 + 1 := by rw [e, h.eq1]; simp; omega
  refine ⟨⟨sh_of_node h4 hp hh hs, ?_⟩, hlen⟩
  rw [hlen, e, drop_at hl, hz, h.dr, drop_at ha, he]
  simp
/-- A box below is written in both worlds. -/
theorem below_both {B : Nat} {w W : World} (h : Below B w W) {p : Addr} (v : Value) : Below B (w.setCell p v) (W.setCell p v) := by
  refine ⟨h.os, h.tape, h.output, by simpa [World.setCell] using h.size, fun k hk => ?_⟩
  by_cases e : k = p.block
  · subst e
    have hb := h.block p.block hk
    simp only [World.setCell, Array.getElem?_modify, hb]
  · rw [Below.heap_setCell _ _ _ _ e, Below.heap_setCell _ _ _ _ e]
    exact h.block k hk
end Go.Proofs.Ytldfiofgknmcgaa
