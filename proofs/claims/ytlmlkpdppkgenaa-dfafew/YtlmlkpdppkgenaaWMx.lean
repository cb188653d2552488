/-
  The plain mathematics of a plan: a regular expression's nodes as steps; from the first step the end is come to by all of a text just if the expression matches it; and a search that goes on from each spot once finds it; no condition. A plan in memory, and the contract of plan.lay: one step more. The contract of plan.layRex: the steps of a right tree, as the mathematics lays them. plan.layRex at an alternation. plan.layRex at a star, and at every right tree. The contract of plan.behind: the spots that come next. The plain mathematics of leads: a search that goes on from each spot once finds the end just if it is come to; no function is walked here. Spots as keys of a map, held against each other, and taken off the end of a row; a least measure. No function is walked here. The contract of plan.leads: is there a way by all of the text from the first step to the end? The contract of rex.Matches. The contracts of pushkeep's star and two: a tree of trees. The contract of pushkeep.is: does it match, and is there an error? The contract of pushkeep.letter.
-/
import Derived.Test.YtlmlkpdppkgenaaTree
import Derived.Test.YtlmlkpdppkgenaaChecks
import Derived.Test.YtlmlkpdppkgenaaInvs
import Derived.OwnWalk
import Derived.Laws.AppendOwn
import Derived.Deep.AppendLies
import Derived.Deep.RegionHeld3
import Derived.Laws.OwnMore
import Derived.Maps.OwnSet
import Derived.Maps.Own
import Derived.DeepKeys4
import Derived.Laws.AppendOwnNone
namespace Go.Proofs.Ytlmlkpdppkgenaa.Rex
open Cls

abbrev St := Cl × List Nat
/-- The steps of x, to be at nx when a text of it is done; and where one begins. -/
def lay : E → List St → Nat → List St × Nat
  | .none, ps, _ => (ps ++ [(empty, [])], ps.length)
  | .emp, ps, nx => (ps, nx)
  | .byte c, ps, nx => (ps ++ [(c, [nx])], ps.length)
  | .cat a b, ps, nx => lay a (lay b ps nx).1 (lay b ps nx).2
  | .alt a b, ps, nx => ((lay b (lay a ps nx).1 nx).1 ++ [(empty, [(lay a ps nx).2, (lay b (lay a ps nx).1 nx).2])], (lay b (lay a ps nx).1 nx).1.length)
  | .star a, ps, nx => ((lay a (ps ++ [(empty, [])]) ps.length).1.set ps.length (empty, [nx, (lay a (ps ++ [(empty, [])]) ps.length).2]), ps.length)
theorem lay_len : ∀ (x : E) (ps : List St) (nx : Nat), ps.length ≤ (lay x ps nx).1.length ∧ (lay x ps nx).1.length ≤ ps.length + x.nodes
  | .none, ps, nx => by simp [lay, E.nodes]
  | .emp, ps, nx => by simp [lay, E.nodes]
  | .byte c, ps, nx => by simp [lay, E.nodes]
  | .cat a b, ps, nx => by
    have h1 := lay_len b ps nx
    have h2 := lay_len a (lay b ps nx).1 (lay b ps nx).2
    simp only [lay, E.nodes]; omega
  | .alt a b, ps, nx => by
    have h1 := lay_len a ps nx
    have h2 := lay_len b (lay a ps nx).1 nx
    simp only [lay, E.nodes, List.length_append, List.length_cons, List.length_nil]; omega
  | .star a, ps, nx => by
    have h1 := lay_len a (ps ++ [(empty, [])]) ps.length
    simp only [List.length_append, List.length_cons, List.length_nil] at h1
    simp only [lay, E.nodes, List.length_set]; omega
theorem lay_keep : ∀ (x : E) (ps : List St) (nx i : Nat), i < ps.length → (lay x ps nx).1[i]? = ps[i]?
  | .none, ps, nx, i, h => by simp [lay, List.getElem?_append_left h]
  | .emp, ps, nx, i, h => rfl
  | .byte c, ps, nx, i, h => by simp [lay, List.getElem?_append_left h]
  | .cat a b, ps, nx, i, h => by
    have h1 := (lay_len b ps nx).1
    simp only [lay]
    rw [lay_keep a _ _ i (by omega), lay_keep b ps nx i h]
  | .alt a b, ps, nx, i, h => by
    have h1 := (lay_len a ps nx).1
    have h2 := (lay_len b (lay a ps nx).1 nx).1
    simp only [lay]
    rw [List.getElem?_append_left (by omega), lay_keep b _ _ i (by omega), lay_keep a ps nx i h]
  | .star a, ps, nx, i, h => by
    simp only [lay]
    rw [List.getElem?_set_ne (by omega), lay_keep a _ _ i (by simp; omega), List.getElem?_append_left h]
theorem lay_entry : ∀ (x : E) (ps : List St) (nx : Nat), nx < ps.length → (lay x ps nx).2 < (lay x ps nx).1.length
  | .none, ps, nx, h => by simp [lay]
  | .emp, ps, nx, h => h
  | .byte c, ps, nx, h => by simp [lay]
  | .cat a b, ps, nx, h => by simp only [lay]; exact lay_entry a _ _ (lay_entry b ps nx h)
  | .alt a b, ps, nx, h => by simp [lay]
  | .star a, ps, nx, h => by
    have h1 := (lay_len a (ps ++ [(empty, [])]) ps.length).1
    simp only [List.length_append, List.length_cons, List.length_nil] at h1
    simp only [lay, List.length_set]; omega
/-- Each step leads to steps that are there, to two at most. -/
def Fine (ps : List St) : Prop := ∀ (i : Nat) (c : Cl) (l : List Nat), ps[i]? = some (c, l) → l.length ≤ 2 ∧ ∀ m ∈ l, m < ps.length
theorem Fine.more {ps qs : List St} (h : Fine ps) (hl : ps.length ≤ qs.length) (hk : ∀ i, i < qs.length → i < ps.length ∧ qs[i]? = ps[i]? ∨ ∃ c l, qs[i]? = some (c, l) ∧ l.length ≤ 2 ∧ ∀ m ∈ l, m < qs.length) : Fine qs := fun i c l hi => by
  have hlt : i < qs.length := (List.getElem?_eq_some_iff.1 hi).1
  rcases hk i hlt with ⟨h1, h2⟩ | ⟨c', l', h1, h2, h3⟩
  · rw [h2] at hi
    obtain ⟨k1, k2⟩ := h i c l hi
    exact ⟨k1, fun m hm => Nat.lt_of_lt_of_le (k2 m hm) hl⟩
  · rw [hi] at h1
    simp only [Option.some.injEq, Prod.mk.injEq] at h1
    obtain ⟨rfl, rfl⟩ := h1
    exact ⟨h2, h3⟩
theorem lay_fine : ∀ (x : E) (ps : List St) (nx : Nat), Fine ps → nx < ps.length → Fine (lay x ps nx).1
  | .none, ps, nx, h, hn => h.more (by simp [lay]) fun i hi => by
      by_cases e : i < ps.length
      · exact Or.inl ⟨e, lay_keep .none ps nx i e⟩
      · right
        have e' : i = ps.length := by simp [lay] at hi; omega
        subst e'
        exact ⟨empty, [], by simp [lay], by simp, by simp⟩
  | .emp, ps, nx, h, hn => h
  | .byte c, ps, nx, h, hn => h.more (by simp [lay]) fun i hi => by
      by_cases e : i < ps.length
      · exact Or.inl ⟨e, lay_keep (.byte c) ps nx i e⟩
      · right
        have e' : i = ps.length := by simp [lay] at hi; omega
        subst e'
        exact ⟨c, [nx], by simp [lay], by simp, fun m hm => by simp at hm; subst hm; simp [lay]; omega⟩
  | .cat a b, ps, nx, h, hn => by
    simp only [lay]
    exact lay_fine a _ _ (lay_fine b ps nx h hn) (lay_entry b ps nx hn)
  | .alt a b, ps, nx, h, hn => by
    have h1 := (lay_len a ps nx).1
    have h2 := (lay_len b (lay a ps nx).1 nx).1
    have e1 := lay_entry a ps nx hn
    have e2 := lay_entry b (lay a ps nx).1 nx (by omega)
    have f2 := lay_fine b (lay a ps nx).1 nx (lay_fine a ps nx h hn) (by omega)
    simp only [lay]
    refine f2.more (by simp) fun i hi => ?_
    by_cases e : i < (lay b (lay a ps nx).1 nx).1.length
    · exact Or.inl ⟨e, by rw [List.getElem?_append_left e]⟩
    · right
      have e' : i = (lay b (lay a ps nx).1 nx).1.length := by simp at hi; omega
      subst e'
      refine ⟨empty, [(lay a ps nx).2, (lay b (lay a ps nx).1 nx).2], by simp, by simp, fun m hm => ?_⟩
      simp at hm
      simp
      rcases hm with rfl | rfl <;> omega
  | .star a, ps, nx, h, hn => by
    have h1 := (lay_len a (ps ++ [(empty, [])]) ps.length).1
    simp only [List.length_append, List.length_cons, List.length_nil] at h1
    have f0 : Fine (ps ++ [(empty, [])]) := h.more (by simp) fun i hi => by
      by_cases e : i < ps.length
      · exact Or.inl ⟨e, List.getElem?_append_left e⟩
      · right
        have e' : i = ps.length := by simp at hi; omega
        subst e'
        exact ⟨empty, [], by simp, by simp, by simp⟩
    have f1 := lay_fine a _ ps.length f0 (by simp)
    have e1 := lay_entry a (ps ++ [(empty, [])]) ps.length (by simp)
    simp only [lay]
    refine f1.more (by simp) fun i hi => ?_
    by_cases e : i = ps.length
    · right
      subst e
      refine ⟨empty, _, List.getElem?_set_self (by omega), by simp, fun m hm => ?_⟩
      simp at hm
      simp
      rcases hm with rfl | rfl <;> omega
    · exact Or.inl ⟨by simpa using hi, by rw [List.getElem?_set_ne (Ne.symm e)]⟩

/-! ### Where one comes -/
/-- From step n at place p one comes to step m at place q. -/
def Next (F : List St) (s : List UInt8) (n p m q : Nat) : Prop := ∃ c l, F[n]? = some (c, l) ∧ m ∈ l ∧ ((c = empty ∧ q = p) ∨ (c ≠ empty ∧ ∃ b, s[p]? = some b ∧ mem c b.toNat = true ∧ q = p + 1))
/-- From there the end is come to, at the end of the text, in so many steps at most. -/
def AccN (F : List St) (en : Nat) (s : List UInt8) : Nat → Nat → Nat → Prop
  | 0, n, p => n = en ∧ p = s.length
  | k + 1, n, p => (n = en ∧ p = s.length) ∨ ∃ m q, Next F s n p m q ∧ AccN F en s k m q
theorem AccN.more {F : List St} {en : Nat} {s : List UInt8} : ∀ {k n p}, AccN F en s k n p → AccN F en s (k + 1) n p
  | 0, _, _, h => Or.inl h
  | k + 1, _, _, h => by
    rcases h with h | ⟨m, q, h1, h2⟩
    · exact Or.inl h
    · exact Or.inr ⟨m, q, h1, AccN.more h2⟩
def Acc (F : List St) (en : Nat) (s : List UInt8) (n p : Nat) : Prop := ∃ k, AccN F en s k n p
theorem Acc.step {F : List St} {en : Nat} {s : List UInt8} {n p m q : Nat} (h : Next F s n p m q) (k : Acc F en s m q) : Acc F en s n p := by
  obtain ⟨j, hj⟩ := k
  exact ⟨j + 1, Or.inr ⟨m, q, h, hj⟩⟩
def At (s : List UInt8) (p : Nat) (u : List UInt8) : Prop := ∃ r, s.drop p = u ++ r
theorem At.nil (s : List UInt8) (p : Nat) : At s p [] := ⟨_, rfl⟩
theorem At.trans {s : List UInt8} {p : Nat} {u v : List UInt8} (h : At s p u) (k : At s (p + u.length) v) : At s p (u ++ v) := by
  obtain ⟨r, hr⟩ := h
  obtain ⟨r', hr'⟩ := k
  rw [← List.drop_drop, hr, List.drop_left] at hr'
  exact ⟨r', by rw [hr, hr', List.append_assoc]⟩
theorem At.split {s : List UInt8} {p : Nat} {u v : List UInt8} (h : At s p (u ++ v)) : At s p u ∧ At s (p + u.length) v := by
  obtain ⟨r, hr⟩ := h
  refine ⟨⟨v ++ r, by rw [hr, List.append_assoc]⟩, ⟨r, ?_⟩⟩
  rw [← List.drop_drop, hr, List.append_assoc, List.drop_left]
/-- No byte's class is empty. -/
def E.ok : E → Prop
  | .none | .emp => True
  | .byte c => c ≠ empty
  | .cat a b | .alt a b => a.ok ∧ b.ok
  | .star a => a.ok
theorem Is.ok {t : T} {x : E} (h : Is t x) : x.ok := by
  induction h with
  | none => trivial
  | emp => trivial
  | byte h => exact h
  | cat _ _ i1 i2 => exact ⟨i1, i2⟩
  | alt _ _ i1 i2 => exact ⟨i1, i2⟩
  | star _ i => exact i

theorem sound : ∀ (x : E), x.ok → ∀ (ps : List St) (nx : Nat) (F : List St) (en : Nat) (s : List UInt8), en < ps.length → (∀ i, ps.length ≤ i → i < (lay x ps nx).1.length → F[i]? = (lay x ps nx).1[i]?) →
    ∀ k p, AccN F en s k (lay x ps nx).2 p → ∃ u k', k' ≤ k ∧ M x u ∧ At s p u ∧ AccN F en s k' nx (p + u.length)
  | .none, _, ps, nx, F, en, s, he, hF, k, p, h => by
    have hf := hF ps.length (Nat.le_refl _) (by simp [lay])
    simp [lay] at hf
    cases k with
    | zero => exact absurd h.1 (by simp [lay]; omega)
    | succ k =>
      rcases h with h | ⟨m, q, ⟨c, l, h1, h2, _⟩, _⟩
      · exact absurd h.1 (by simp [lay]; omega)
      · simp only [lay] at h1
        rw [hf] at h1
        simp only [Option.some.injEq, Prod.mk.injEq] at h1
        obtain ⟨rfl, rfl⟩ := h1
        cases h2
  | .emp, _, ps, nx, F, en, s, he, hF, k, p, h => ⟨[], k, Nat.le_refl _, .emp, At.nil s p, h⟩
  | .byte c, hx, ps, nx, F, en, s, he, hF, k, p, h => by
    have hf := hF ps.length (Nat.le_refl _) (by simp [lay])
    simp [lay] at hf
    cases k with
    | zero => exact absurd h.1 (by simp [lay]; omega)
    | succ k =>
      rcases h with h | ⟨m, q, ⟨c', l, h1, h2, h3⟩, h4⟩
      · exact absurd h.1 (by simp [lay]; omega)
      · simp only [lay] at h1
        rw [hf] at h1
        simp only [Option.some.injEq, Prod.mk.injEq] at h1
        obtain ⟨rfl, rfl⟩ := h1
        simp at h2
        subst h2
        rcases h3 with ⟨h3, _⟩ | ⟨_, b, h5, h6, rfl⟩
        · exact absurd h3 hx
        · refine ⟨[b], k, by omega, .byte h6, ⟨s.drop (p + 1), ?_⟩, h4⟩
          obtain ⟨hlt, e⟩ := List.getElem?_eq_some_iff.1 h5
          rw [List.drop_eq_getElem_cons hlt, e]; rfl
  | .cat a b, hx, ps, nx, F, en, s, he, hF, k, p, h => by
    have l1 := (lay_len b ps nx).1
    have l2 := (lay_len a (lay b ps nx).1 (lay b ps nx).2).1
    simp only [lay] at hF h
    obtain ⟨u, k1, u1, u2, u3, u4⟩ := sound a hx.1 _ _ F en s (by omega) (fun i h1 h2 => hF i (by omega) h2) k p h
    obtain ⟨v, k2, v1, v2, v3, v4⟩ := sound b hx.2 ps nx F en s he (fun i h1 h2 => by rw [hF i h1 (by omega), lay_keep a _ _ i h2]) k1 _ u4
    exact ⟨u ++ v, k2, by omega, .cat u2 v2, u3.trans v3, by rw [List.length_append, ← Nat.add_assoc]; exact v4⟩
  | .alt a b, hx, ps, nx, F, en, s, he, hF, k, p, h => by
    have l1 := (lay_len a ps nx).1
    have l2 := (lay_len b (lay a ps nx).1 nx).1
    simp only [lay] at hF h
    have hf := hF (lay b (lay a ps nx).1 nx).1.length (by omega) (by simp)
    simp at hf
    cases k with
    | zero => exact absurd h.1 (by omega)
    | succ k =>
      rcases h with h | ⟨m, q, ⟨c', l, h1, h2, h3⟩, h4⟩
      · exact absurd h.1 (by omega)
      · rw [hf] at h1
        simp only [Option.some.injEq, Prod.mk.injEq] at h1
        obtain ⟨rfl, rfl⟩ := h1
        rcases h3 with ⟨_, rfl⟩ | ⟨h3, _⟩
        · simp at h2
          rcases h2 with rfl | rfl
          · obtain ⟨u, k1, u1, u2, u3, u4⟩ := sound a hx.1 ps nx F en s he (fun i h1 h2 => by rw [hF i h1 (by simp; omega), List.getElem?_append_left (by omega), lay_keep b _ _ i h2]) k _ h4
            exact ⟨u, k1, by omega, .altl u2, u3, u4⟩
          · obtain ⟨u, k1, u1, u2, u3, u4⟩ := sound b hx.2 (lay a ps nx).1 nx F en s (by omega) (fun i h1 h2 => by rw [hF i (by omega) (by simp; omega), List.getElem?_append_left h2]) k _ h4
            exact ⟨u, k1, by omega, .altr u2, u3, u4⟩
        · exact absurd rfl h3
  | .star a, hx, ps, nx, F, en, s, he, hF, k, p, h => by
    have l1 := (lay_len a (ps ++ [(empty, [])]) ps.length).1
    simp only [List.length_append, List.length_cons, List.length_nil] at l1
    simp only [lay, List.length_set] at hF h
    have hf := hF ps.length (Nat.le_refl _) (by omega)
    rw [List.getElem?_set_self (by omega)] at hf
    have hF' : ∀ i, (ps ++ [((empty, []) : St)]).length ≤ i → i < (lay a (ps ++ [(empty, [])]) ps.length).1.length → F[i]? = (lay a (ps ++ [(empty, [])]) ps.length).1[i]? := fun i h1 h2 => by
      simp at h1
      rw [hF i (by omega) h2, List.getElem?_set_ne (by omega)]
    have main : ∀ k p, AccN F en s k ps.length p → ∃ u k', k' ≤ k ∧ M (.star a) u ∧ At s p u ∧ AccN F en s k' nx (p + u.length) := fun k => by
      induction k using Nat.strongRecOn with
      | ind k ih =>
        intro p h
        cases k with
        | zero => exact absurd h.1 (by omega)
        | succ k =>
          rcases h with h | ⟨m, q, ⟨c', l, h1, h2, h3⟩, h4⟩
          · exact absurd h.1 (by omega)
          · rw [hf] at h1
            simp only [Option.some.injEq, Prod.mk.injEq] at h1
            obtain ⟨rfl, rfl⟩ := h1
            rcases h3 with ⟨_, rfl⟩ | ⟨h3, _⟩
            · simp at h2
              rcases h2 with rfl | rfl
              · exact ⟨[], k, by omega, .star0, At.nil s _, h4⟩
              · obtain ⟨u, k1, u1, u2, u3, u4⟩ := sound a hx _ _ F en s (by simp; omega) hF' k _ h4
                obtain ⟨v, k2, v1, v2, v3, v4⟩ := ih k1 (by omega) _ u4
                exact ⟨u ++ v, k2, by omega, .starS u2 v2, u3.trans v3, by rw [List.length_append, ← Nat.add_assoc]; exact v4⟩
            · exact absurd rfl h3
    exact main k p h

theorem complete : ∀ (x : E), x.ok → ∀ (ps : List St) (nx : Nat) (F : List St) (en : Nat) (s : List UInt8), (∀ i, ps.length ≤ i → i < (lay x ps nx).1.length → F[i]? = (lay x ps nx).1[i]?) →
    ∀ u p, M x u → At s p u → Acc F en s nx (p + u.length) → Acc F en s (lay x ps nx).2 p
  | .none, _, ps, nx, F, en, s, hF, u, p, h, hu, hA => by cases h
  | .emp, _, ps, nx, F, en, s, hF, u, p, h, hu, hA => by cases h; exact hA
  | .byte c, hx, ps, nx, F, en, s, hF, u, p, h, hu, hA => by
    have hf := hF ps.length (Nat.le_refl _) (by simp [lay])
    simp [lay] at hf
    cases h with
    | byte h =>
      rename_i b
      obtain ⟨r, hr⟩ := hu
      have hb : s[p]? = some b := by
        have : (s.drop p)[0]? = some b := by rw [hr]; rfl
        rwa [List.getElem?_drop, Nat.add_zero] at this
      simp only [lay]
      exact Acc.step ⟨c, [nx], hf, by simp, Or.inr ⟨hx, b, hb, h, rfl⟩⟩ hA
  | .cat a b, hx, ps, nx, F, en, s, hF, u, p, h, hu, hA => by
    have l1 := (lay_len b ps nx).1
    have l2 := (lay_len a (lay b ps nx).1 (lay b ps nx).2).1
    simp only [lay] at hF ⊢
    cases h with
    | cat h1 h2 =>
      obtain ⟨k1, k2⟩ := hu.split
      rw [List.length_append, ← Nat.add_assoc] at hA
      exact complete a hx.1 _ _ F en s (fun i h1 h2 => hF i (by omega) h2) _ _ h1 k1 (complete b hx.2 ps nx F en s (fun i h1 h2 => by rw [hF i h1 (by omega), lay_keep a _ _ i h2]) _ _ h2 k2 hA)
  | .alt a b, hx, ps, nx, F, en, s, hF, u, p, h, hu, hA => by
    have l1 := (lay_len a ps nx).1
    have l2 := (lay_len b (lay a ps nx).1 nx).1
    simp only [lay] at hF ⊢
    have hf := hF (lay b (lay a ps nx).1 nx).1.length (by omega) (by simp)
    simp at hf
    cases h with
    | altl h => exact Acc.step ⟨empty, _, hf, by simp, Or.inl ⟨rfl, rfl⟩⟩ (complete a hx.1 ps nx F en s (fun i h1 h2 => by rw [hF i h1 (by simp; omega), List.getElem?_append_left (by omega), lay_keep b _ _ i h2]) _ _ h hu hA)
    | altr h => exact Acc.step ⟨empty, _, hf, by simp, Or.inl ⟨rfl, rfl⟩⟩ (complete b hx.2 (lay a ps nx).1 nx F en s (fun i h1 h2 => by rw [hF i (by omega) (by simp; omega), List.getElem?_append_left h2]) _ _ h hu hA)
  | .star a, hx, ps, nx, F, en, s, hF, u, p, h, hu, hA => by
    have l1 := (lay_len a (ps ++ [(empty, [])]) ps.length).1
    simp only [List.length_append, List.length_cons, List.length_nil] at l1
    simp only [lay, List.length_set] at hF ⊢
    have hf := hF ps.length (Nat.le_refl _) (by omega)
    rw [List.getElem?_set_self (by omega)] at hf
    have hF' : ∀ i, (ps ++ [((empty, []) : St)]).length ≤ i → i < (lay a (ps ++ [(empty, [])]) ps.length).1.length → F[i]? = (lay a (ps ++ [(empty, [])]) ps.length).1[i]? := fun i h1 h2 => by
      simp at h1
      rw [hF i (by omega) h2, List.getElem?_set_ne (by omega)]
    have main : ∀ y u, M y u → y = .star a → ∀ p, At s p u → Acc F en s nx (p + u.length) → Acc F en s ps.length p := fun y u h => by
      induction h with
      | star0 =>
        intro e p _ hA
        exact Acc.step ⟨empty, _, hf, by simp, Or.inl ⟨rfl, rfl⟩⟩ hA
      | starS h1 h2 i1 i2 =>
        intro e p hu hA
        cases e
        obtain ⟨k1, k2⟩ := hu.split
        rw [List.length_append, ← Nat.add_assoc] at hA
        exact Acc.step ⟨empty, _, hf, by simp, Or.inl ⟨rfl, rfl⟩⟩ (complete a hx _ _ F en s hF' _ _ h1 k1 (i2 rfl _ k2 hA))
      | emp => intro e; cases e
      | byte _ => intro e; cases e
      | cat _ _ => intro e; cases e
      | altl _ => intro e; cases e
      | altr _ => intro e; cases e
    exact main _ u h rfl p hu hA

/-- The plan of x, its end being the first of its steps. -/
def plan (x : E) : List St × Nat := lay x [(empty, [])] 0
theorem plan_zero (x : E) : (plan x).1[0]? = some (empty, []) := by unfold plan; rw [lay_keep x _ _ 0 (by simp)]; rfl
/-- The end is come to by all of a text just if x matches it. -/
theorem plan_means (x : E) (hx : x.ok) (s : List UInt8) : Acc (plan x).1 0 s (plan x).2 0 ↔ M x s := by
  constructor
  · rintro ⟨k, h⟩
    obtain ⟨u, k', _, u2, u3, u4⟩ := sound x hx [(empty, [])] 0 (plan x).1 0 s (by simp) (fun i _ _ => rfl) k 0 h
    have hq : 0 + u.length = s.length := by
      cases k' with
      | zero => exact u4.2
      | succ k' =>
        rcases u4 with u4 | ⟨m, q, ⟨c, l, h1, h2, _⟩, _⟩
        · exact u4.2
        · rw [plan_zero] at h1
          simp only [Option.some.injEq, Prod.mk.injEq] at h1
          obtain ⟨rfl, rfl⟩ := h1
          cases h2
    obtain ⟨r, hr⟩ := u3
    have hr0 : r = [] := by
      have := congrArg List.length hr
      simp at this
      exact List.length_eq_zero_iff.1 (by omega)
    rw [List.drop_zero, hr0, List.append_nil] at hr
    rw [hr]; exact u2
  · intro h
    exact complete x hx [(empty, [])] 0 (plan x).1 0 s (fun i _ _ => rfl) s 0 h ⟨[], by simp⟩ ⟨0, rfl, by simp⟩
end Go.Proofs.Ytlmlkpdppkgenaa.Rex

namespace Go.Proofs.Ytlmlkpdppkgenaa
open Go.RowKit
open Cls Rex

theorem rxno_way {p : Prop} (h : false = true) : p := by cases h
theorem rxdep_of {l : List Edge} {d : Nat → Bool} (h : ∀ e ∈ l, Region.binds .any e = true → d e.on = true) (j : Nat) (hj : l.any (fun e => Region.binds .any e && e.on == j) = true) : d j = true := by
  obtain ⟨e, he, h2⟩ := List.any_eq_true.1 hj
  simp only [Bool.and_eq_true, beq_iff_eq] at h2
  rw [← h2.2]; exact h e he h2.1
theorem rxstep_call_append {P : Program} {ops : Array Oper} {o : Oper} {a : Act} {K : Act → World → Prop} {Q : Exit → Act → World → Prop} {E : Prop} {W W1 : World} {v sv xv : Value} (hgd : o.guard = none) (s x : Operand) (t : TypeId) (ho : o.op = .call { callee := .builtin .append, args := #[s, x], argTypes := #[t, t] })
    (hs : a.eval s = sv) (hx : a.eval x = xv) (hr : (Builtin.append_ #[t, t] o.type #[sv, xv]).run P W = .ok v W1) (h : K (a.put o.dst v) W1) : if Region.wanted o (yielded ops a.tmps) = true then Oper.wp P o a W K Q else E := by
  have hw : Region.wanted o (yielded ops a.tmps) = true := by simp [Region.wanted, hgd]
  rw [if_pos hw]
  unfold Oper.wp
  simp [execOp, ho, resolve, invoke, builtin, hs, hx, hr, Result.andThen]
  exact h
theorem info144 : (Try.prog.info? 144).map (fun i => (i.zero, i.size, i.bytes)) = some (some (.agg #[.int .u64 0, .int .u64 0, .int .u64 0, .int .u64 0, .slice none 0 0]), 5, 56) := by kernel_rfl
theorem rxown_ge {w : World} {B : Nat} {e : TypeId} {size : Nat} {v : Value} {n : Nat} {xs : List Value} (h : w.ownsRow B e size v n xs) : ∀ j, v.ownBlock = some j → B ≤ j := by
  obtain ⟨_, h | ⟨g, cap, cur, rfl, hB, _⟩⟩ := h
  · obtain ⟨rfl, _⟩ := h; intro j hj; simp [Value.ownBlock] at hj
  · intro j hj; simp [Value.ownBlock] at hj; omega
/-- A block of another type is not the row's. -/
theorem own_tag {w : World} {B : Nat} {e : TypeId} {size : Nat} {v : Value} {n : Nat} {xs : List Value} (h : w.ownsRow B e size v n xs) {b : Nat} {z : Array Value} {t : TypeId} (hb : w.heap[b]? = some (.cells z t)) (ht : t ≠ e) : some b ≠ v.ownBlock := fun hv => by
  obtain ⟨_, h | ⟨g, cap, cur, rfl, _, hg, _⟩⟩ := h
  · obtain ⟨rfl, _⟩ := h; simp [Value.ownBlock] at hv
  · simp [Value.ownBlock] at hv
    subst hv
    rw [hg] at hb
    simp at hb
    exact ht hb.2.symm
/-- What is no plan and no step stays. -/
def Keep3 (w W : World) : Prop := ∀ (b : Nat) (z : Array Value) (t : TypeId), t ≠ 141 → t ≠ 144 → w.heap[b]? = some (Obj.cells z t) → W.heap[b]? = some (Obj.cells z t)
theorem Keep3.refl (w : World) : Keep3 w w := fun _ _ _ _ _ h => h
theorem Keep3.trans {a b c : World} (h : Keep3 a b) (k : Keep3 b c) : Keep3 a c := fun _ _ _ h1 h2 hz => k _ _ _ h1 h2 (h _ _ _ h1 h2 hz)
theorem Keep3.below {a b c : World} (h : Keep3 a b) (hb : Below b.heap.size b c) : Keep3 a c := fun _ _ _ h1 h2 hz => blk_next hb (h _ _ _ h1 h2 hz)
theorem Keep3.grown {a b c : World} (h : Keep3 a b) {B size n : Nat} {v : Value} {xs : List Value} (hr : b.ownsRow B 144 size v n xs) (hg : b.grownBy c v.ownBlock) : Keep3 a c := fun x z t h1 h2 hz => (hg.block x (blk_lt (h x z t h1 h2 hz)) (own_tag hr (h x z t h1 h2 hz) h2)).trans (h x z t h1 h2 hz)
theorem Keep3.set {a b : World} (h : Keep3 a b) {p o : Nat} {z : Array Value} {t : TypeId} (hp : b.heap[p]? = some (.cells z t)) (ht : t = 141 ∨ t = 144) (v : Value) : Keep3 a (b.setCell ⟨p, o, none⟩ v) := fun x y t' h1 h2 hy => by
  have hb := h x y t' h1 h2 hy
  refine (Below.heap_setCell _ _ _ _ (fun e => ?_)).trans hb
  simp only at e
  subst e
  rw [hp] at hb
  simp at hb
  rcases ht with h3 | h3
  · exact h1 (hb.2.symm.trans h3)
  · exact h2 (hb.2.symm.trans h3)
theorem row_set {w : World} {B : Nat} {size : Nat} {v : Value} {n : Nat} {xs : List Value} (h : w.ownsRow B 144 size v n xs) {p o : Nat} {z : Array Value} {t : TypeId} (hp : w.heap[p]? = some (.cells z t)) (ht : t ≠ 144) (u : Value) : (w.setCell ⟨p, o, none⟩ u).ownsRow B 144 size v n xs := by
  have hn := own_tag h hp ht
  refine ⟨h.1, h.2.imp id ?_⟩
  rintro ⟨g, cap, cur, rfl, h1, h2, h3⟩
  exact ⟨g, cap, cur, rfl, h1, (Below.heap_setCell _ _ _ _ (fun e => hn (by simp [Value.ownBlock, e]))).trans h2, h3⟩
def fl (qs : List (Cl × Value)) : List Value := qs.flatMap fun q => [.int .u64 (q.1.1.toNat : Int), .int .u64 (q.1.2.1.toNat : Int), .int .u64 (q.1.2.2.1.toNat : Int), .int .u64 (q.1.2.2.2.toNat : Int), q.2]
theorem fl_append (a b : List (Cl × Value)) : fl (a ++ b) = fl a ++ fl b := by simp [fl]
/-- A slice of numbers of the plan's own. -/
def Nxs (W : World) (B : Nat) (v : Value) (l : List Nat) : Prop := (l = [] ∧ v = .slice none 0 0) ∨ ∃ b, v = .slice (some ⟨b, 0, none⟩) l.length l.length ∧ B ≤ b ∧ W.heap[b]? = some (.cells (l.map fun n : Nat => Value.int .i64 (n : Int)).toArray 3)
theorem Nxs.keep {W W' : World} {B : Nat} {v : Value} {l : List Nat} (h : Nxs W B v l) (k : Keep3 W W') : Nxs W' B v l := by
  rcases h with h | ⟨b, h1, h2, h3⟩
  · exact Or.inl h
  · exact Or.inr ⟨b, h1, h2, k _ _ _ (by decide) (by decide) h3⟩
theorem Nxs.one {W : World} {B : Nat} {v : Value} {l : List Nat} (h : Nxs W B v l) : v.oneCell' = true := by
  rcases h with ⟨_, rfl⟩ | ⟨b, rfl, _⟩ <;> rfl
/-- A plan in memory: its steps, the two numbers beside them. -/
def Pl (B pp : Nat) (f e : Value) (ps : List St) (W : World) : Prop := ∃ (sv : Value) (qs : List (Cl × Value)), W.heap[pp]? = some (.cells #[sv, f, e] 141) ∧ W.ownsRow B 144 5 sv qs.length (fl qs) ∧ qs.length = ps.length ∧ ∀ i (h1 : i < qs.length) (h2 : i < ps.length), qs[i].1 = ps[i].1 ∧ Nxs W B qs[i].2 ps[i].2
/-- What lay's region keeps, whichever of its operations are done. -/
structure CL (wr : World) (B pp : Nat) (f e sv nv : Value) (c : Cl) (qs : List (Cl × Value)) (d : Nat → Bool) (bx gb gr cr : Nat) (x5 x6 x7 x8 x9 x10 x11 x12 x13 x14 : Value) (W : World) : Prop where
  below : Below B wr W
  size : wr.heap.size ≤ W.heap.size
  ints : Keep3 wr W
  f0 : d 0 = true → x5 = (.pointer (some ⟨pp, 0, none⟩))
  f1 : d 1 = true → x6 = (.pointer (some ⟨pp, 0, none⟩))
  f2 : d 2 = true → x7 = (.pointer (some ⟨pp, 0, none⟩))
  f3 : d 3 = true → x8 = (.pointer (some ⟨pp, 0, none⟩))
  f4 : d 4 = true → x9 = sv
  f5 : d 5 = true → x10 = (.agg #[.int .u64 (c.1.toNat : Int), .int .u64 (c.2.1.toNat : Int), .int .u64 (c.2.2.1.toNat : Int), .int .u64 (c.2.2.2.toNat : Int), nv])
  f6 : d 6 = true → x11 = (.slice (some ⟨gb, 0, none⟩) 1 1)
  f7 : d 7 = true → x12 = (.slice (some ⟨gr, 0, none⟩) (qs.length + 1) cr)
  f8 : d 8 = true → x13 = (.pointer (some ⟨pp, 0, none⟩))
  f9 : d 9 = true → x14 = (.pointer (some ⟨pp, 0, none⟩))
  r0 : d 7 = false → W.ownsRow B 144 5 sv qs.length (fl qs)
  r1 : d 7 = true → W.ownsRow B 144 5 (.slice (some ⟨gr, 0, none⟩) (qs.length + 1) cr) (qs.length + 1) (fl qs ++ [.int .u64 (c.1.toNat : Int), .int .u64 (c.2.1.toNat : Int), .int .u64 (c.2.2.1.toNat : Int), .int .u64 (c.2.2.2.toNat : Int), nv])
  b0 : d 6 = true → d 7 = false → W.heap[gb]? = some (.cells #[.int .u64 (c.1.toNat : Int), .int .u64 (c.2.1.toNat : Int), .int .u64 (c.2.2.1.toNat : Int), .int .u64 (c.2.2.2.toNat : Int), nv] 144) ∧ wr.heap.size ≤ gb
  p0 : d 10 = false → W.heap[pp]? = some (.cells #[sv, f, e] 141)
  p1 : d 10 = true → W.heap[pp]? = some (.cells #[.slice (some ⟨gr, 0, none⟩) (qs.length + 1) cr, f, e] 141)
  g7 : d 7 = true → d 6 = true
  g10 : d 10 = true → d 7 = true
  g4 : d 7 = true → d 4 = true
  bx : d 7 = false → W.heap[bx]? = some (.cells #[.int .u64 (c.1.toNat : Int), .int .u64 (c.2.1.toNat : Int), .int .u64 (c.2.2.1.toNat : Int), .int .u64 (c.2.2.2.toNat : Int), nv] 144)
  g6 : d 6 = true → d 5 = true
set_option maxHeartbeats 4000000 in
set_option maxRecDepth 20000 in
theorem lay_any (B pp : Nat) (f e : Value) (ps : List St) (c : Cl) (nv : Value) (l : List Nat) (w : World) (hP : Pl B pp f e ps w) (hBp : B ≤ pp) (hBw' : B ≤ w.heap.size) (hn : Nxs w B nv l) (hlen : ps.length ≤ 200) :
    Calls Try.prog 75 #[.pointer (some ⟨pp, 0, none⟩), .agg #[.int .u64 (c.1.toNat : Int), .int .u64 (c.2.1.toNat : Int), .int .u64 (c.2.2.1.toNat : Int), .int .u64 (c.2.2.2.toNat : Int), nv]] w fun e' w' => e' = .returned (.int .i64 (ps.length : Int)) ∧ Pl B pp f e (ps ++ [(c, l)]) w' ∧ Below B w w' ∧ Keep3 w w' := by
  obtain ⟨i0, hi, hz0, hz1, hz2⟩ := info_parts info144
  obtain ⟨sv, qs, hp, hrow, hql, hqs⟩ := hP
  have hone := hn.one
  have HN : Hid (Nxs w B nv l ∧ ∀ i (h1 : i < qs.length) (h2 : i < ps.length), qs[i].1 = ps[i].1 ∧ Nxs w B qs[i].2 ps[i].2) := ⟨hn, hqs⟩
  have hpl := blk_lt hp
  have hq2 : qs.length ≤ 200 := by omega
  obtain ⟨bx, HBX⟩ : ∃ bx, Hid (w.heap.size = bx) := ⟨_, (rfl : w.heap.size = w.heap.size)⟩
  obtain ⟨wr, HWR⟩ : ∃ wr, Hid (w.alloc (.cells #[.int .u64 (c.1.toNat : Int), .int .u64 (c.2.1.toNat : Int), .int .u64 (c.2.2.1.toNat : Int), .int .u64 (c.2.2.2.toNat : Int), nv] 144) = wr) := ⟨_, (rfl : w.alloc (.cells #[.int .u64 (c.1.toNat : Int), .int .u64 (c.2.1.toNat : Int), .int .u64 (c.2.2.1.toNat : Int), .int .u64 (c.2.2.2.toNat : Int), nv] 144) = w.alloc (.cells #[.int .u64 (c.1.toNat : Int), .int .u64 (c.2.1.toNat : Int), .int .u64 (c.2.2.1.toNat : Int), .int .u64 (c.2.2.2.toNat : Int), nv] 144))⟩
  have hb0 : Below w.heap.size w wr := HWR.out ▸ (Below.refl _ w).alloc (Nat.le_refl _) _
  have HP : Hid (wr.heap[pp]? = some (.cells #[sv, f, e] 141) ∧ wr.ownsRow B 144 5 sv qs.length (fl qs) ∧ wr.heap[bx]? = some (.cells #[.int .u64 (c.1.toNat : Int), .int .u64 (c.2.1.toNat : Int), .int .u64 (c.2.2.1.toNat : Int), .int .u64 (c.2.2.2.toNat : Int), nv] 144)) := ⟨blk_next hb0 hp, HWR.out ▸ hrow.alloc _, by rw [← HBX.out, ← HWR.out]; exact block_new w _⟩
  have hBw : B ≤ wr.heap.size := Nat.le_trans hBw' hb0.size
  have HQL : Hid (qs.length = ps.length) := hql
  clear hn hqs hp hrow hql
  go_enter Try.func75, Try.ntmps75
  go_upto_region 1 with fail
  rw [HBX.out, HWR.out]
  go_cut [12] (fun x12 wx => ∃ gr cr, x12 = .slice (some ⟨gr, 0, none⟩) (qs.length + 1) cr ∧ Hid (Below B wr wx ∧ Keep3 wr wx ∧ wx.ownsRow B 144 5 (.slice (some ⟨gr, 0, none⟩) (qs.length + 1) cr) (qs.length + 1) (fl qs ++ [.int .u64 (c.1.toNat : Int), .int .u64 (c.2.1.toNat : Int), .int .u64 (c.2.2.1.toNat : Int), .int .u64 (c.2.2.2.toNat : Int), nv]) ∧ wx.heap[pp]? = some (.cells #[.slice (some ⟨gr, 0, none⟩) (qs.length + 1) cr, f, e] 141)))
  case first =>
    refine wp_region_inv mixed (fun a0 d a W => ∃ (gb gr cr : Nat) (x5 x6 x7 x8 x9 x10 x11 x12 x13 x14 : Value), a = ((((((((((a0.put (some 5) x5).put (some 6) x6).put (some 7) x7).put (some 8) x8).put (some 9) x9).put (some 10) x10).put (some 11) x11).put (some 12) x12).put (some 13) x13).put (some 14) x14) ∧ Hid (CL wr B pp f e sv nv c qs d bx gb gr cr x5 x6 x7 x8 x9 x10 x11 x12 x13 x14 W)) (by kernel_rfl) ⟨0, 0, 0, undef, undef, undef, undef, undef, undef, undef, undef, undef, undef, by simp only [Act.put, List.setIfInBounds_toArray, List.set_cons_zero, List.set_cons_succ], ?_⟩ ?_ ?_
    · exact ⟨(Below.refl _ wr).drew, Nat.le_refl _, fun _ _ _ _ _ h => h, fun h => rxno_way h, fun h => rxno_way h, fun h => rxno_way h, fun h => rxno_way h, fun h => rxno_way h, fun h => rxno_way h, fun h => rxno_way h, fun h => rxno_way h, fun h => rxno_way h, fun h => rxno_way h, fun _ => HP.out.2.1, fun h => rxno_way h, fun h _ => rxno_way h, fun _ => HP.out.1, fun h => rxno_way h, fun h => rxno_way h, fun h => rxno_way h, fun h => rxno_way h, fun _ => HP.out.2.2, fun h => rxno_way h⟩
    · simp only [StepAll, and_true]
      refine ⟨?_, ?_, ?_, ?_, ?_, ?_, ?_, ?_, ?_, ?_, ?_⟩
      · intro d a W hI hd hdep
        obtain ⟨gb, gr, cr, x5, x6, x7, x8, x9, x10, x11, x12, x13, x14, rfl, hF⟩ := hI
        have hB := hF.out.below
        clear hB hdep hd
        intro K hK
        simp only [Act.put, List.setIfInBounds_toArray, List.set_cons_zero, List.set_cons_succ]
        go_simp
        refine hK.out _ _ ⟨gb, gr, cr, (.pointer (some ⟨pp, 0, none⟩)), x6, x7, x8, x9, x10, x11, x12, x13, x14, by simp only [Act.put, List.setIfInBounds_toArray, List.set_cons_zero, List.set_cons_succ], ?_⟩
        have hB := hF.out.below
        exact ⟨hB, hF.out.size, hF.out.ints, fun _ => rfl, fun h => hF.out.f1 (by simpa using h), fun h => hF.out.f2 (by simpa using h), fun h => hF.out.f3 (by simpa using h), fun h => hF.out.f4 (by simpa using h), fun h => hF.out.f5 (by simpa using h), fun h => hF.out.f6 (by simpa using h), fun h => hF.out.f7 (by simpa using h), fun h => hF.out.f8 (by simpa using h), fun h => hF.out.f9 (by simpa using h), fun h => hF.out.r0 (by simpa using h), fun h => hF.out.r1 (by simpa using h), fun h h2 => hF.out.b0 (by simpa using h) (by simpa using h2), fun h => hF.out.p0 (by simpa using h), fun h => hF.out.p1 (by simpa using h), fun h => by simpa using hF.out.g7 (by simpa using h), fun h => by simpa using hF.out.g10 (by simpa using h), fun h => by simpa using hF.out.g4 (by simpa using h), fun h => hF.out.bx (by simpa using h), fun h => by simpa using hF.out.g6 (by simpa using h)⟩
      · intro d a W hI hd hdep
        obtain ⟨gb, gr, cr, x5, x6, x7, x8, x9, x10, x11, x12, x13, x14, rfl, hF⟩ := hI
        have hB := hF.out.below
        clear hB hdep hd
        intro K hK
        simp only [Act.put, List.setIfInBounds_toArray, List.set_cons_zero, List.set_cons_succ]
        go_simp
        refine hK.out _ _ ⟨gb, gr, cr, x5, (.pointer (some ⟨pp, 0, none⟩)), x7, x8, x9, x10, x11, x12, x13, x14, by simp only [Act.put, List.setIfInBounds_toArray, List.set_cons_zero, List.set_cons_succ], ?_⟩
        have hB := hF.out.below
        exact ⟨hB, hF.out.size, hF.out.ints, fun h => hF.out.f0 (by simpa using h), fun _ => rfl, fun h => hF.out.f2 (by simpa using h), fun h => hF.out.f3 (by simpa using h), fun h => hF.out.f4 (by simpa using h), fun h => hF.out.f5 (by simpa using h), fun h => hF.out.f6 (by simpa using h), fun h => hF.out.f7 (by simpa using h), fun h => hF.out.f8 (by simpa using h), fun h => hF.out.f9 (by simpa using h), fun h => hF.out.r0 (by simpa using h), fun h => hF.out.r1 (by simpa using h), fun h h2 => hF.out.b0 (by simpa using h) (by simpa using h2), fun h => hF.out.p0 (by simpa using h), fun h => hF.out.p1 (by simpa using h), fun h => by simpa using hF.out.g7 (by simpa using h), fun h => by simpa using hF.out.g10 (by simpa using h), fun h => by simpa using hF.out.g4 (by simpa using h), fun h => hF.out.bx (by simpa using h), fun h => by simpa using hF.out.g6 (by simpa using h)⟩
      · intro d a W hI hd hdep
        obtain ⟨gb, gr, cr, x5, x6, x7, x8, x9, x10, x11, x12, x13, x14, rfl, hF⟩ := hI
        have hd1 : d 1 = true := rxdep_of hdep 1 (by kernel_rfl)
        have hB := hF.out.below
        obtain rfl := hF.out.f1 hd1
        clear hB hdep hd
        intro K hK
        simp only [Act.put, List.setIfInBounds_toArray, List.set_cons_zero, List.set_cons_succ]
        go_simp
        refine hK.out _ _ ⟨gb, gr, cr, x5, (.pointer (some ⟨pp, 0, none⟩)), (.pointer (some ⟨pp, 0, none⟩)), x8, x9, x10, x11, x12, x13, x14, by simp only [Act.put, List.setIfInBounds_toArray, List.set_cons_zero, List.set_cons_succ], ?_⟩
        have hB := hF.out.below
        exact ⟨hB, hF.out.size, hF.out.ints, fun h => hF.out.f0 (by simpa using h), fun h => hF.out.f1 (by simpa using h), fun _ => rfl, fun h => hF.out.f3 (by simpa using h), fun h => hF.out.f4 (by simpa using h), fun h => hF.out.f5 (by simpa using h), fun h => hF.out.f6 (by simpa using h), fun h => hF.out.f7 (by simpa using h), fun h => hF.out.f8 (by simpa using h), fun h => hF.out.f9 (by simpa using h), fun h => hF.out.r0 (by simpa using h), fun h => hF.out.r1 (by simpa using h), fun h h2 => hF.out.b0 (by simpa using h) (by simpa using h2), fun h => hF.out.p0 (by simpa using h), fun h => hF.out.p1 (by simpa using h), fun h => by simpa using hF.out.g7 (by simpa using h), fun h => by simpa using hF.out.g10 (by simpa using h), fun h => by simpa using hF.out.g4 (by simpa using h), fun h => hF.out.bx (by simpa using h), fun h => by simpa using hF.out.g6 (by simpa using h)⟩
      · intro d a W hI hd hdep
        obtain ⟨gb, gr, cr, x5, x6, x7, x8, x9, x10, x11, x12, x13, x14, rfl, hF⟩ := hI
        have hd2 : d 2 = true := rxdep_of hdep 2 (by kernel_rfl)
        have hB := hF.out.below
        obtain rfl := hF.out.f2 hd2
        clear hB hdep hd
        intro K hK
        simp only [Act.put, List.setIfInBounds_toArray, List.set_cons_zero, List.set_cons_succ]
        go_simp
        refine hK.out _ _ ⟨gb, gr, cr, x5, x6, (.pointer (some ⟨pp, 0, none⟩)), (.pointer (some ⟨pp, 0, none⟩)), x9, x10, x11, x12, x13, x14, by simp only [Act.put, List.setIfInBounds_toArray, List.set_cons_zero, List.set_cons_succ], ?_⟩
        have hB := hF.out.below
        exact ⟨hB, hF.out.size, hF.out.ints, fun h => hF.out.f0 (by simpa using h), fun h => hF.out.f1 (by simpa using h), fun h => hF.out.f2 (by simpa using h), fun _ => rfl, fun h => hF.out.f4 (by simpa using h), fun h => hF.out.f5 (by simpa using h), fun h => hF.out.f6 (by simpa using h), fun h => hF.out.f7 (by simpa using h), fun h => hF.out.f8 (by simpa using h), fun h => hF.out.f9 (by simpa using h), fun h => hF.out.r0 (by simpa using h), fun h => hF.out.r1 (by simpa using h), fun h h2 => hF.out.b0 (by simpa using h) (by simpa using h2), fun h => hF.out.p0 (by simpa using h), fun h => hF.out.p1 (by simpa using h), fun h => by simpa using hF.out.g7 (by simpa using h), fun h => by simpa using hF.out.g10 (by simpa using h), fun h => by simpa using hF.out.g4 (by simpa using h), fun h => hF.out.bx (by simpa using h), fun h => by simpa using hF.out.g6 (by simpa using h)⟩
      · intro d a W hI hd hdep
        obtain ⟨gb, gr, cr, x5, x6, x7, x8, x9, x10, x11, x12, x13, x14, rfl, hF⟩ := hI
        have hd3 : d 3 = true := rxdep_of hdep 3 (by kernel_rfl)
        have hB := hF.out.below
        obtain rfl := hF.out.f3 hd3
        have h10 : d 10 = false := by
          cases hx : d 10 with
          | false => rfl
          | true => have := hF.out.g10 hx; have h7 := hF.out.g7 this; exact absurd (hF.out.g4 this) (by rw [hd]; simp)
        have s0 : W.cell? ⟨pp, 0, none⟩ = some sv := by simp [World.cell?, hF.out.p0 h10]
        clear hB hdep h10 hd
        intro K hK
        simp only [Act.put, List.setIfInBounds_toArray, List.set_cons_zero, List.set_cons_succ]
        go_simp
        refine hK.out _ _ ⟨gb, gr, cr, x5, x6, x7, (.pointer (some ⟨pp, 0, none⟩)), sv, x10, x11, x12, x13, x14, by simp only [Act.put, List.setIfInBounds_toArray, List.set_cons_zero, List.set_cons_succ], ?_⟩
        have hB := hF.out.below
        exact ⟨hB, hF.out.size, hF.out.ints, fun h => hF.out.f0 (by simpa using h), fun h => hF.out.f1 (by simpa using h), fun h => hF.out.f2 (by simpa using h), fun h => hF.out.f3 (by simpa using h), fun _ => rfl, fun h => hF.out.f5 (by simpa using h), fun h => hF.out.f6 (by simpa using h), fun h => hF.out.f7 (by simpa using h), fun h => hF.out.f8 (by simpa using h), fun h => hF.out.f9 (by simpa using h), fun h => hF.out.r0 (by simpa using h), fun h => hF.out.r1 (by simpa using h), fun h h2 => hF.out.b0 (by simpa using h) (by simpa using h2), fun h => hF.out.p0 (by simpa using h), fun h => hF.out.p1 (by simpa using h), fun h => by simpa using hF.out.g7 (by simpa using h), fun h => by simpa using hF.out.g10 (by simpa using h), fun _ => by simp, fun h => hF.out.bx (by simpa using h), fun h => by simpa using hF.out.g6 (by simpa using h)⟩
      · intro d a W hI hd hdep
        obtain ⟨gb, gr, cr, x5, x6, x7, x8, x9, x10, x11, x12, x13, x14, rfl, hF⟩ := hI
        have hB := hF.out.below
        have HX := hF.out.bx (by cases h7 : d 7 with | false => rfl | true => exact absurd (hF.out.g6 (hF.out.g7 h7)) (by rw [hd]; simp))
        have s0 : W.cell? ⟨bx, 0, none⟩ = some (.int .u64 (c.1.toNat : Int)) := by simp [World.cell?, HX]
        have s1 : W.cell? ⟨bx, 1, none⟩ = some (.int .u64 (c.2.1.toNat : Int)) := by simp [World.cell?, HX]
        have s2 : W.cell? ⟨bx, 2, none⟩ = some (.int .u64 (c.2.2.1.toNat : Int)) := by simp [World.cell?, HX]
        have s3 : W.cell? ⟨bx, 3, none⟩ = some (.int .u64 (c.2.2.2.toNat : Int)) := by simp [World.cell?, HX]
        have s4 : W.cell? ⟨bx, 4, none⟩ = some (nv) := by simp [World.cell?, HX]
        clear HX
        clear hB hdep hd
        intro K hK
        simp only [Act.put, List.setIfInBounds_toArray, List.set_cons_zero, List.set_cons_succ]
        go_simp
        refine hK.out _ _ ⟨gb, gr, cr, x5, x6, x7, x8, x9, (.agg #[.int .u64 (c.1.toNat : Int), .int .u64 (c.2.1.toNat : Int), .int .u64 (c.2.2.1.toNat : Int), .int .u64 (c.2.2.2.toNat : Int), nv]), x11, x12, x13, x14, by simp only [Act.put, List.setIfInBounds_toArray, List.set_cons_zero, List.set_cons_succ], ?_⟩
        have hB := hF.out.below
        exact ⟨hB, hF.out.size, hF.out.ints, fun h => hF.out.f0 (by simpa using h), fun h => hF.out.f1 (by simpa using h), fun h => hF.out.f2 (by simpa using h), fun h => hF.out.f3 (by simpa using h), fun h => hF.out.f4 (by simpa using h), fun _ => rfl, fun h => hF.out.f6 (by simpa using h), fun h => hF.out.f7 (by simpa using h), fun h => hF.out.f8 (by simpa using h), fun h => hF.out.f9 (by simpa using h), fun h => hF.out.r0 (by simpa using h), fun h => hF.out.r1 (by simpa using h), fun h h2 => hF.out.b0 (by simpa using h) (by simpa using h2), fun h => hF.out.p0 (by simpa using h), fun h => hF.out.p1 (by simpa using h), fun h => by simpa using hF.out.g7 (by simpa using h), fun h => by simpa using hF.out.g10 (by simpa using h), fun h => by simpa using hF.out.g4 (by simpa using h), fun h => hF.out.bx (by simpa using h), fun _ => by simp⟩
      · intro d a W hI hd hdep
        obtain ⟨gb, gr, cr, x5, x6, x7, x8, x9, x10, x11, x12, x13, x14, rfl, hF⟩ := hI
        have hd5 : d 5 = true := rxdep_of hdep 5 (by kernel_rfl)
        have hB := hF.out.below
        obtain rfl := hF.out.f5 hd5
        have h7 : d 7 = false := by
          cases hx : d 7 with
          | false => rfl
          | true => have := hF.out.g7 hx; rw [hd] at this; cases this
        have h10 : d 10 = false := by
          cases hx : d 10 with
          | false => rfl
          | true => have := hF.out.g10 hx; rw [h7] at this; cases this
        have HD : Hid (d 7 = false ∧ d 10 = false) := ⟨h7, h10⟩
        have hd5' := hd5
        have HD5 : Hid (d 5 = true) := hd5
        clear hB hdep hd h7 h10 hd5 hd5'
        intro K hK
        simp only [Act.put, List.setIfInBounds_toArray, List.set_cons_zero, List.set_cons_succ]
        go_simp
        refine hK.out _ _ ⟨W.heap.size, gr, cr, x5, x6, x7, x8, x9, (.agg #[.int .u64 (c.1.toNat : Int), .int .u64 (c.2.1.toNat : Int), .int .u64 (c.2.2.1.toNat : Int), .int .u64 (c.2.2.2.toNat : Int), nv]), (.slice (some ⟨W.heap.size, 0, none⟩) 1 1), x12, x13, x14, by simp only [Act.put, List.setIfInBounds_toArray, List.set_cons_zero, List.set_cons_succ], ?_⟩
        have hB := hF.out.below
        have hb : Below W.heap.size W (W.alloc (.cells #[.int .u64 (c.1.toNat : Int), .int .u64 (c.2.1.toNat : Int), .int .u64 (c.2.2.1.toNat : Int), .int .u64 (c.2.2.2.toNat : Int), nv] 144)) := (Below.refl _ W).alloc (Nat.le_refl _) _
        have hBW : B ≤ W.heap.size := Nat.le_trans hBw hF.out.size
        exact ⟨hB.trans (hb.mono hBW), Nat.le_trans hF.out.size hb.size, hF.out.ints.below hb, fun h => hF.out.f0 (by simpa using h), fun h => hF.out.f1 (by simpa using h), fun h => hF.out.f2 (by simpa using h), fun h => hF.out.f3 (by simpa using h), fun h => hF.out.f4 (by simpa using h), fun h => hF.out.f5 (by simpa using h), fun _ => rfl, fun h => rxno_way (HD.out.1.symm.trans (by simpa using h)), fun h => hF.out.f8 (by simpa using h), fun h => hF.out.f9 (by simpa using h), fun h => (hF.out.r0 (by simpa using h)).alloc _, fun h => rxno_way (HD.out.1.symm.trans (by simpa using h)), fun _ _ => ⟨block_new W _, hF.out.size⟩, fun h => blk_next hb (hF.out.p0 (by simpa using h)), fun h => rxno_way (HD.out.2.symm.trans (by simpa using h)), fun h => rxno_way (HD.out.1.symm.trans (by simpa using h)), fun h => rxno_way (HD.out.2.symm.trans (by simpa using h)), fun h => rxno_way (HD.out.1.symm.trans (by simpa using h)), fun h => blk_next hb (hF.out.bx (by simpa using h)), fun _ => by simpa using HD5.out⟩
      · intro d a W hI hd hdep
        obtain ⟨gb, gr, cr, x5, x6, x7, x8, x9, x10, x11, x12, x13, x14, rfl, hF⟩ := hI
        have hd4 : d 4 = true := rxdep_of hdep 4 (by kernel_rfl)
        have hd6 : d 6 = true := rxdep_of hdep 6 (by kernel_rfl)
        have hB := hF.out.below
        obtain rfl := (hF.out.f4 hd4).symm
        obtain rfl := hF.out.f6 hd6
        have h10 : d 10 = false := by
          cases hx : d 10 with
          | false => rfl
          | true => have := hF.out.g10 hx; rw [hd] at this; cases this
        have hm := run_append_lies (P := Try.prog) W 139 139 B 144 i0 _ 5 56 Try.underlying139 hi hz0 hz1 hz2 rfl (by omega) sv qs.length (fl qs) (hF.out.r0 hd) ⟨gb, 0, none⟩ 1 1 [.int .u64 (c.1.toNat : Int), .int .u64 (c.2.1.toNat : Int), .int .u64 (c.2.2.1.toNat : Int), .int .u64 (c.2.2.2.toNat : Int), nv] rfl (World.news_of_block (t := 144) (fr := (0, 0)) (hF.out.b0 hd6 hd).1) (by simp [Value.oneCell']; exact hone) (by omega) (by unfold maxLen; omega) (by omega) (Nat.le_trans hBw hF.out.size) W.heap.size rfl
        have hmm := hm.choose_spec.choose_spec.choose_spec
        generalize hm.choose_spec.choose_spec.choose = W1 at hmm
        generalize hm.choose_spec.choose = cr1 at hmm
        generalize hm.choose = gr1 at hmm
        have hrun := hmm.1
        have HM : Hid (W1.ownsRow B 144 5 (.slice (some ⟨gr1, 0, none⟩) (qs.length + 1) cr1) (qs.length + 1) (fl qs ++ [.int .u64 (c.1.toNat : Int), .int .u64 (c.2.1.toNat : Int), .int .u64 (c.2.2.1.toNat : Int), .int .u64 (c.2.2.2.toNat : Int), nv]) ∧ W.grownBy W1 sv.ownBlock) := ⟨hmm.2.1, hmm.2.2.1⟩
        have HD : Hid (d 10 = false ∧ d 7 = false ∧ d 6 = true ∧ d 4 = true) := ⟨h10, hd, hd6, hd4⟩
        clear hmm hm hB hdep hd hd4 hd6 h10
        intro K hK
        refine rxstep_call_append (sv := sv) (xv := (.slice (some ⟨gb, 0, none⟩) 1 1)) (v := (.slice (some ⟨gr1, 0, none⟩) (qs.length + 1) cr1)) (W1 := W1) (by rfl) _ _ 139 (by rfl) (by simp only [Act.put, List.setIfInBounds_toArray, List.set_cons_zero, List.set_cons_succ]; rfl) (by simp only [Act.put, List.setIfInBounds_toArray, List.set_cons_zero, List.set_cons_succ]; rfl) (by exact hrun) ?_
        simp only [Act.put, List.setIfInBounds_toArray, List.set_cons_zero, List.set_cons_succ]
        refine hK.out _ _ ⟨gb, gr1, cr1, x5, x6, x7, x8, sv, x10, (.slice (some ⟨gb, 0, none⟩) 1 1), (.slice (some ⟨gr1, 0, none⟩) (qs.length + 1) cr1), x13, x14, by simp only [Act.put, List.setIfInBounds_toArray, List.set_cons_zero, List.set_cons_succ], ?_⟩
        have hB := hF.out.below
        have hBW : B ≤ W.heap.size := Nat.le_trans hBw hF.out.size
        have hrow := hF.out.r0 HD.out.2.1
        exact ⟨hB.grown HM.out.2 hBW (rxown_ge hrow), Nat.le_trans hF.out.size HM.out.2.size, hF.out.ints.grown hrow HM.out.2, fun h => hF.out.f0 (by simpa using h), fun h => hF.out.f1 (by simpa using h), fun h => hF.out.f2 (by simpa using h), fun h => hF.out.f3 (by simpa using h), fun h => hF.out.f4 (by simpa using h), fun h => hF.out.f5 (by simpa using h), fun h => hF.out.f6 (by simpa using h), fun _ => rfl, fun h => hF.out.f8 (by simpa using h), fun h => hF.out.f9 (by simpa using h), fun h => by simp at h, fun _ => HM.out.1, fun _ h => by simp at h, fun h => (HM.out.2.block pp (blk_lt (hF.out.p0 (by simpa using h))) (own_tag hrow (hF.out.p0 (by simpa using h)) (by decide))).trans (hF.out.p0 (by simpa using h)), fun h => rxno_way (HD.out.1.symm.trans (by simpa using h)), fun _ => by simpa using HD.out.2.2.1, fun h => rxno_way (HD.out.1.symm.trans (by simpa using h)), fun _ => by simpa using HD.out.2.2.2, fun h => by simp at h, fun h => by simpa using hF.out.g6 (by simpa using h)⟩
      · intro d a W hI hd hdep
        obtain ⟨gb, gr, cr, x5, x6, x7, x8, x9, x10, x11, x12, x13, x14, rfl, hF⟩ := hI
        have hd0 : d 0 = true := rxdep_of hdep 0 (by kernel_rfl)
        have hB := hF.out.below
        obtain rfl := hF.out.f0 hd0
        clear hB hdep hd
        intro K hK
        simp only [Act.put, List.setIfInBounds_toArray, List.set_cons_zero, List.set_cons_succ]
        go_simp
        refine hK.out _ _ ⟨gb, gr, cr, (.pointer (some ⟨pp, 0, none⟩)), x6, x7, x8, x9, x10, x11, x12, (.pointer (some ⟨pp, 0, none⟩)), x14, by simp only [Act.put, List.setIfInBounds_toArray, List.set_cons_zero, List.set_cons_succ], ?_⟩
        have hB := hF.out.below
        exact ⟨hB, hF.out.size, hF.out.ints, fun h => hF.out.f0 (by simpa using h), fun h => hF.out.f1 (by simpa using h), fun h => hF.out.f2 (by simpa using h), fun h => hF.out.f3 (by simpa using h), fun h => hF.out.f4 (by simpa using h), fun h => hF.out.f5 (by simpa using h), fun h => hF.out.f6 (by simpa using h), fun h => hF.out.f7 (by simpa using h), fun _ => rfl, fun h => hF.out.f9 (by simpa using h), fun h => hF.out.r0 (by simpa using h), fun h => hF.out.r1 (by simpa using h), fun h h2 => hF.out.b0 (by simpa using h) (by simpa using h2), fun h => hF.out.p0 (by simpa using h), fun h => hF.out.p1 (by simpa using h), fun h => by simpa using hF.out.g7 (by simpa using h), fun h => by simpa using hF.out.g10 (by simpa using h), fun h => by simpa using hF.out.g4 (by simpa using h), fun h => hF.out.bx (by simpa using h), fun h => by simpa using hF.out.g6 (by simpa using h)⟩
      · intro d a W hI hd hdep
        obtain ⟨gb, gr, cr, x5, x6, x7, x8, x9, x10, x11, x12, x13, x14, rfl, hF⟩ := hI
        have hd8 : d 8 = true := rxdep_of hdep 8 (by kernel_rfl)
        have hB := hF.out.below
        obtain rfl := hF.out.f8 hd8
        clear hB hdep hd
        intro K hK
        simp only [Act.put, List.setIfInBounds_toArray, List.set_cons_zero, List.set_cons_succ]
        go_simp
        refine hK.out _ _ ⟨gb, gr, cr, x5, x6, x7, x8, x9, x10, x11, x12, (.pointer (some ⟨pp, 0, none⟩)), (.pointer (some ⟨pp, 0, none⟩)), by simp only [Act.put, List.setIfInBounds_toArray, List.set_cons_zero, List.set_cons_succ], ?_⟩
        have hB := hF.out.below
        exact ⟨hB, hF.out.size, hF.out.ints, fun h => hF.out.f0 (by simpa using h), fun h => hF.out.f1 (by simpa using h), fun h => hF.out.f2 (by simpa using h), fun h => hF.out.f3 (by simpa using h), fun h => hF.out.f4 (by simpa using h), fun h => hF.out.f5 (by simpa using h), fun h => hF.out.f6 (by simpa using h), fun h => hF.out.f7 (by simpa using h), fun h => hF.out.f8 (by simpa using h), fun _ => rfl, fun h => hF.out.r0 (by simpa using h), fun h => hF.out.r1 (by simpa using h), fun h h2 => hF.out.b0 (by simpa using h) (by simpa using h2), fun h => hF.out.p0 (by simpa using h), fun h => hF.out.p1 (by simpa using h), fun h => by simpa using hF.out.g7 (by simpa using h), fun h => by simpa using hF.out.g10 (by simpa using h), fun h => by simpa using hF.out.g4 (by simpa using h), fun h => hF.out.bx (by simpa using h), fun h => by simpa using hF.out.g6 (by simpa using h)⟩
      · intro d a W hI hd hdep
        obtain ⟨gb, gr, cr, x5, x6, x7, x8, x9, x10, x11, x12, x13, x14, rfl, hF⟩ := hI
        have hd7 : d 7 = true := rxdep_of hdep 7 (by kernel_rfl)
        have hd9 : d 9 = true := rxdep_of hdep 9 (by kernel_rfl)
        have hB := hF.out.below
        obtain rfl := hF.out.f7 hd7
        obtain rfl := hF.out.f9 hd9
        have hp0 := hF.out.p0 hd
        have s0 : W.cell? ⟨pp, 0, none⟩ = some sv := by simp [World.cell?, hp0]
        have s1 : W.frozen? ⟨pp, 0, none⟩ = false := by simp [World.frozen?, hp0]
        have HD : Hid (d 10 = false ∧ d 7 = true) := ⟨hd, hd7⟩
        clear hB hdep hd hp0 hd7 hd9
        intro K hK
        simp only [Act.put, List.setIfInBounds_toArray, List.set_cons_zero, List.set_cons_succ]
        go_simp
        refine hK.out _ _ ⟨gb, gr, cr, x5, x6, x7, x8, x9, x10, x11, (.slice (some ⟨gr, 0, none⟩) (qs.length + 1) cr), x13, (.pointer (some ⟨pp, 0, none⟩)), by simp only [Act.put, List.setIfInBounds_toArray, List.set_cons_zero, List.set_cons_succ], ?_⟩
        have hB := hF.out.below
        have hp0 := hF.out.p0 HD.out.1
        have hr1 := hF.out.r1 HD.out.2
        exact ⟨hB.setCell hBp _, by simpa [World.setCell] using hF.out.size, hF.out.ints.set hp0 (Or.inl rfl) _, fun h => hF.out.f0 (by simpa using h), fun h => hF.out.f1 (by simpa using h), fun h => hF.out.f2 (by simpa using h), fun h => hF.out.f3 (by simpa using h), fun h => hF.out.f4 (by simpa using h), fun h => hF.out.f5 (by simpa using h), fun h => hF.out.f6 (by simpa using h), fun h => hF.out.f7 (by simpa using h), fun h => hF.out.f8 (by simpa using h), fun h => hF.out.f9 (by simpa using h), fun h => rxno_way ((show d 7 = false by simpa using h).symm.trans HD.out.2), fun _ => row_set hr1 hp0 (by decide) _, fun _ h => rxno_way ((show d 7 = false by simpa using h).symm.trans HD.out.2), fun h => by simp at h, fun _ => by simp [World.setCell, Array.getElem?_modify, hp0], fun h => by simpa using hF.out.g7 (by simpa using h), fun _ => by simpa using HD.out.2, fun h => by simpa using hF.out.g4 (by simpa using h), fun h => rxno_way ((show d 7 = false by simpa using h).symm.trans HD.out.2), fun h => by simpa using hF.out.g6 (by simpa using h)⟩
    · intro d a W hI hall
      obtain ⟨gb, gr, cr, x5, x6, x7, x8, x9, x10, x11, x12, x13, x14, rfl, hF⟩ := hI
      simp only [List.length_cons, List.length_nil] at hall
      obtain rfl := hF.out.f0 (hall 0 (by omega))
      obtain rfl := hF.out.f1 (hall 1 (by omega))
      obtain rfl := hF.out.f2 (hall 2 (by omega))
      obtain rfl := hF.out.f3 (hall 3 (by omega))
      obtain rfl := (hF.out.f4 (hall 4 (by omega))).symm
      obtain rfl := hF.out.f5 (hall 5 (by omega))
      obtain rfl := hF.out.f6 (hall 6 (by omega))
      obtain rfl := hF.out.f7 (hall 7 (by omega))
      obtain rfl := hF.out.f8 (hall 8 (by omega))
      obtain rfl := hF.out.f9 (hall 9 (by omega))
      have HF : Hid (Below B wr W ∧ Keep3 wr W ∧ W.ownsRow B 144 5 (.slice (some ⟨gr, 0, none⟩) (qs.length + 1) cr) (qs.length + 1) (fl qs ++ [.int .u64 (c.1.toNat : Int), .int .u64 (c.2.1.toNat : Int), .int .u64 (c.2.2.1.toNat : Int), .int .u64 (c.2.2.2.toNat : Int), nv]) ∧ W.heap[pp]? = some (.cells #[.slice (some ⟨gr, 0, none⟩) (qs.length + 1) cr, f, e] 141)) := ⟨hF.out.below, hF.out.ints, hF.out.r1 (hall 7 (by omega)), hF.out.p1 (hall 10 (by omega))⟩
      clear hF hall
      simp only [Act.put, List.setIfInBounds_toArray, List.set_cons_zero, List.set_cons_succ]
      go_wp2_with fail
      go_meet
      case rel => exact ⟨gr, cr, rfl, HF⟩
  case rest =>
    obtain ⟨gr, cr, rfl, HX⟩ := hcut
    have hc0 : wc.cell? ⟨pp, 0, none⟩ = some (.slice (some ⟨gr, 0, none⟩) (qs.length + 1) cr) := by simp [World.cell?, HX.out.2.2.2]
    go_wp2_with fail
    go_ret
    refine ⟨ret_i64 (by have := HQL.out; simp [this]), ?_, (hb0.mono hBw').trans HX.out.1, (Keep3.refl w).below hb0 |>.trans HX.out.2.1⟩
    have hk : Keep3 w wc := ((Keep3.refl w).below hb0).trans HX.out.2.1
    refine ⟨_, qs ++ [(c, nv)], HX.out.2.2.2, ?_, by simp [HQL.out], fun i h1 h2 => ?_⟩
    · rw [fl_append, List.length_append]; exact HX.out.2.2.1
    · by_cases e1 : i < qs.length
      · obtain ⟨k1, k2⟩ := HN.out.2 i e1 (by have := HQL.out; omega)
        rw [List.getElem_append_left e1, List.getElem_append_left (by have := HQL.out; omega)]
        exact ⟨k1, k2.keep hk⟩
      · have e2 : i = qs.length := by simp at h1; omega
        subst e2
        simp only [List.getElem_append_right (Nat.le_refl _), Nat.sub_self]
        have e3 : (ps ++ [(c, l)])[qs.length]'h2 = (c, l) := by rw [List.getElem_append_right (by have := HQL.out; omega)]; simp [HQL.out]
        rw [e3]
        exact ⟨rfl, HN.out.1.keep hk⟩
end Go.Proofs.Ytlmlkpdppkgenaa

namespace Go.Proofs.Ytlmlkpdppkgenaa
open Go.RowKit
open Cls Rex

theorem Pl.keep {B pp : Nat} {f e : Value} {ps : List St} {W W' : World} (h : Pl B pp f e ps W) (hb : Below W.heap.size W W') : Pl B pp f e ps W' := by
  obtain ⟨sv, qs, h1, h2, h3, h4⟩ := h
  refine ⟨sv, qs, blk_next hb h1, ?_, h3, fun i k1 k2 => ⟨(h4 i k1 k2).1, (h4 i k1 k2).2.keep ((Keep3.refl W).below hb)⟩⟩
  refine ⟨h2.1, h2.2.imp id ?_⟩
  rintro ⟨g, cap, cur, rfl, k1, k2, k3⟩
  exact ⟨g, cap, cur, rfl, k1, blk_next hb k2, k3⟩
theorem keep_cell {W W' : World} {b o : Nat} {v : Value} {z : Array Value} {t : TypeId} (hz : W.heap[b]? = some (.cells z t)) (h : W.cell? ⟨b, o, none⟩ = some v) (h1 : t ≠ 141) (h2 : t ≠ 144) (hk : Keep3 W W') : W'.cell? ⟨b, o, none⟩ = some v := by
  have := hk b z t h1 h2 hz
  simp only [World.cell?, this]
  simp only [World.cell?, hz] at h
  exact h
/-- The contract, for a tree that is x. -/
def LR (t : T) (x : E) : Prop := ∀ (v : Value) (ps : List St) (nx B pp : Nat) (f e : Value) (w : World), Rx w B v t → Pl B pp f e ps w → B ≤ pp → B ≤ w.heap.size → ps.length + x.nodes ≤ 200 →
    Calls Try.prog 76 #[.pointer (some ⟨pp, 0, none⟩), v, .int .i64 (nx : Int)] w fun e' w' => e' = .returned (.int .i64 ((lay x ps nx).2 : Int)) ∧ Pl B pp f e (lay x ps nx).1 w' ∧ Below B w w' ∧ Keep3 w w'
theorem lay_empty (B pp : Nat) (f e : Value) (ps : List St) (w : World) (hP : Pl B pp f e ps w) (hBp : B ≤ pp) (hBw : B ≤ w.heap.size) (hlen : ps.length ≤ 200) :
    Calls Try.prog 75 #[.pointer (some ⟨pp, 0, none⟩), .agg #[.int .u64 0, .int .u64 0, .int .u64 0, .int .u64 0, .slice none 0 0]] w fun e' w' => e' = .returned (.int .i64 (ps.length : Int)) ∧ Pl B pp f e (ps ++ [(empty, [])]) w' ∧ Below B w w' ∧ Keep3 w w' :=
  lay_any B pp f e ps empty (.slice none 0 0) [] w hP hBp hBw (Or.inl ⟨rfl, rfl⟩) hlen
theorem box_keep (w : World) (o : Obj) : Below w.heap.size w (w.alloc o) := (Below.refl _ w).alloc (Nat.le_refl _) o

set_option maxHeartbeats 2000000 in
set_option maxRecDepth 20000 in
theorem lr_none : LR (.mk 1 empty []) .none := by
  intro v ps nx B pp f e w hx hP hBp hBw hlen
  obtain ⟨k, c, ao, cap, kids, vals, rfl, ht, _⟩ := hx.shape
  simp only [T.mk.injEq] at ht
  obtain ⟨rfl, rfl, rfl⟩ := ht
  have hcall := fun W (h : Below w.heap.size w W) => lay_empty B pp f e ps W (hP.keep h) hBp (Nat.le_trans hBw h.size) (by simp only [E.nodes] at hlen; omega)
  have HC : Hid (∀ W, Below w.heap.size w W → Calls Try.prog 75 #[.pointer (some ⟨pp, 0, none⟩), .agg #[.int .u64 0, .int .u64 0, .int .u64 0, .int .u64 0, .slice none 0 0]] W fun e' w' => e' = .returned (.int .i64 (ps.length : Int)) ∧ Pl B pp f e (ps ++ [(empty, [])]) w' ∧ Below B W w' ∧ Keep3 W w') := hcall
  clear hcall hx hP
  go_enter Try.func76, Try.ntmps76
  go_wp2_with fail
  refine (HC.out _ (box_keep w _)).mono ?_
  rintro e1 W1 ⟨rfl, hp1, hb1, hk1⟩
  go_wp2_with fail
  go_ret
  exact ⟨rfl, hp1, ((Below.refl B w).alloc hBw _).trans hb1, ((Keep3.refl w).below (box_keep w _)).trans hk1⟩
set_option maxHeartbeats 2000000 in
theorem lr_emp : LR (.mk 2 empty []) .emp := by
  intro v ps nx B pp f e w hx hP hBp hBw hlen
  obtain ⟨k, c, ao, cap, kids, vals, rfl, ht, _⟩ := hx.shape
  simp only [T.mk.injEq] at ht
  obtain ⟨rfl, rfl, rfl⟩ := ht
  have HP : Hid (Pl B pp f e ps w) := hP
  clear hx hP
  go_enter Try.func76, Try.ntmps76
  go_wp2_with fail
  go_ret
  exact ⟨rfl, HP.out.keep (box_keep w _), (Below.refl B w).alloc hBw _, (Keep3.refl w).below (box_keep w _)⟩
set_option maxHeartbeats 2000000 in
set_option maxRecDepth 20000 in
theorem lr_byte {c : Cl} (_h : c ≠ empty) : LR (.mk 3 c []) (.byte c) := by
  intro v ps nx B pp f e w hx hP hBp hBw hlen
  obtain ⟨k, c', ao, cap, kids, vals, rfl, ht, _⟩ := hx.shape
  simp only [T.mk.injEq] at ht
  obtain ⟨rfl, rfl, rfl⟩ := ht
  have HC : Hid (∀ W b, Below w.heap.size w W → B ≤ b → W.heap[b]? = some (.cells #[.int .i64 (nx : Int)] 3) → Calls Try.prog 75 #[.pointer (some ⟨pp, 0, none⟩), .agg #[.int .u64 (c.1.toNat : Int), .int .u64 (c.2.1.toNat : Int), .int .u64 (c.2.2.1.toNat : Int), .int .u64 (c.2.2.2.toNat : Int), .slice (some ⟨b, 0, none⟩) 1 1]] W fun e' w' => e' = .returned (.int .i64 (ps.length : Int)) ∧ Pl B pp f e (ps ++ [(c, [nx])]) w' ∧ Below B W w' ∧ Keep3 W w') := fun W b h hb hz => lay_any B pp f e ps c _ [nx] W (hP.keep h) hBp (Nat.le_trans hBw h.size) (Or.inr ⟨b, rfl, hb, hz⟩) (by simp only [E.nodes] at hlen; omega)
  clear hx hP
  go_enter Try.func76, Try.ntmps76
  go_wp2_with fail
  refine (HC.out _ (w.heap.size + 1) ((box_keep w _).trans ((box_keep _ _).mono (by simp))) (by omega) ?_).mono ?_
  · have h := block_new (w.alloc (.cells #[.int .i64 3, .int .u64 (c.1.toNat : Int), .int .u64 (c.2.1.toNat : Int), .int .u64 (c.2.2.1.toNat : Int), .int .u64 (c.2.2.2.toNat : Int), .slice ao ([] : List T).length cap] 44)) (.cells #[.int .i64 (nx : Int)] 3)
    have e : (w.alloc (.cells #[.int .i64 3, .int .u64 (c.1.toNat : Int), .int .u64 (c.2.1.toNat : Int), .int .u64 (c.2.2.1.toNat : Int), .int .u64 (c.2.2.2.toNat : Int), .slice ao ([] : List T).length cap] 44)).heap.size = w.heap.size + 1 := by simp
    rw [e] at h; exact h
  · rintro e1 W1 ⟨rfl, hp1, hb1, hk1⟩
    go_wp2_with fail
    go_ret
    exact ⟨rfl, hp1, (((Below.refl B w).alloc hBw _).alloc (by simp; omega) _).trans hb1, (((Keep3.refl w).below (box_keep w _)).below (box_keep _ _)).trans hk1⟩
/-- What the regions with two Kids read. -/
theorem s2_next {W W' : World} {B bx b o cap : Nat} {k0 k1 : Int} {c0 c1 : Cl} {a0 a1 : Option Addr} {n0 p0 n1 p1 : Nat} {z : Array Value} (hz : W.heap[bx]? = some (.cells z 44)) (hb : b < B) (h : W.cell? ⟨bx, 5, none⟩ = some (.slice (some ⟨b, o, none⟩) 2 cap) ∧ W.cell? ⟨b, o, none⟩ = some (.int .i64 k0) ∧ W.cell? ⟨b, o + 1, none⟩ = some (.int .u64 (c0.1.toNat : Int)) ∧ W.cell? ⟨b, o + 2, none⟩ = some (.int .u64 (c0.2.1.toNat : Int)) ∧ W.cell? ⟨b, o + 3, none⟩ = some (.int .u64 (c0.2.2.1.toNat : Int)) ∧ W.cell? ⟨b, o + 4, none⟩ = some (.int .u64 (c0.2.2.2.toNat : Int)) ∧ W.cell? ⟨b, o + 5, none⟩ = some (.slice a0 n0 p0) ∧ W.cell? ⟨b, o + 6, none⟩ = some (.int .i64 k1) ∧ W.cell? ⟨b, o + 6 + 1, none⟩ = some (.int .u64 (c1.1.toNat : Int)) ∧ W.cell? ⟨b, o + 6 + 2, none⟩ = some (.int .u64 (c1.2.1.toNat : Int)) ∧ W.cell? ⟨b, o + 6 + 3, none⟩ = some (.int .u64 (c1.2.2.1.toNat : Int)) ∧ W.cell? ⟨b, o + 6 + 4, none⟩ = some (.int .u64 (c1.2.2.2.toNat : Int)) ∧ W.cell? ⟨b, o + 6 + 5, none⟩ = some (.slice a1 n1 p1)) (hB : Below B W W') (hk : Keep3 W W') : W'.cell? ⟨bx, 5, none⟩ = some (.slice (some ⟨b, o, none⟩) 2 cap) ∧ W'.cell? ⟨b, o, none⟩ = some (.int .i64 k0) ∧ W'.cell? ⟨b, o + 1, none⟩ = some (.int .u64 (c0.1.toNat : Int)) ∧ W'.cell? ⟨b, o + 2, none⟩ = some (.int .u64 (c0.2.1.toNat : Int)) ∧ W'.cell? ⟨b, o + 3, none⟩ = some (.int .u64 (c0.2.2.1.toNat : Int)) ∧ W'.cell? ⟨b, o + 4, none⟩ = some (.int .u64 (c0.2.2.2.toNat : Int)) ∧ W'.cell? ⟨b, o + 5, none⟩ = some (.slice a0 n0 p0) ∧ W'.cell? ⟨b, o + 6, none⟩ = some (.int .i64 k1) ∧ W'.cell? ⟨b, o + 6 + 1, none⟩ = some (.int .u64 (c1.1.toNat : Int)) ∧ W'.cell? ⟨b, o + 6 + 2, none⟩ = some (.int .u64 (c1.2.1.toNat : Int)) ∧ W'.cell? ⟨b, o + 6 + 3, none⟩ = some (.int .u64 (c1.2.2.1.toNat : Int)) ∧ W'.cell? ⟨b, o + 6 + 4, none⟩ = some (.int .u64 (c1.2.2.2.toNat : Int)) ∧ W'.cell? ⟨b, o + 6 + 5, none⟩ = some (.slice a1 n1 p1) := by
  obtain ⟨h0, h1, h2, h3, h4, h5, h6, h7, h8, h9, h10, h11, h12⟩ := h
  exact ⟨keep_cell hz h0 (by decide) (by decide) hk, (hB.cell hb).trans h1, (hB.cell hb).trans h2, (hB.cell hb).trans h3, (hB.cell hb).trans h4, (hB.cell hb).trans h5, (hB.cell hb).trans h6, (hB.cell hb).trans h7, (hB.cell hb).trans h8, (hB.cell hb).trans h9, (hB.cell hb).trans h10, (hB.cell hb).trans h11, (hB.cell hb).trans h12⟩
/-- Two Kids, opened. -/
theorem rxtwo_kids {w : World} {B : Nat} {v : Value} {k : Int} {s t : T} (hx : Rx w B v (.mk k empty [s, t])) : ∃ (b o cap : Nat) (k0 k1 : Int) (c0 c1 : Cl) (a0 a1 : Option Addr) (n0 p0 n1 p1 : Nat), v = .agg #[.int .i64 k, .int .u64 0, .int .u64 0, .int .u64 0, .int .u64 0, .slice (some ⟨b, o, none⟩) 2 cap] ∧ b < B ∧ Rx w B (.agg #[.int .i64 k0, .int .u64 (c0.1.toNat : Int), .int .u64 (c0.2.1.toNat : Int), .int .u64 (c0.2.2.1.toNat : Int), .int .u64 (c0.2.2.2.toNat : Int), .slice a0 n0 p0]) s ∧ Rx w B (.agg #[.int .i64 k1, .int .u64 (c1.1.toNat : Int), .int .u64 (c1.2.1.toNat : Int), .int .u64 (c1.2.2.1.toNat : Int), .int .u64 (c1.2.2.2.toNat : Int), .slice a1 n1 p1]) t ∧ w.cell? ⟨b, o, none⟩ = some (.int .i64 k0) ∧ w.cell? ⟨b, o + 1, none⟩ = some (.int .u64 (c0.1.toNat : Int)) ∧ w.cell? ⟨b, o + 2, none⟩ = some (.int .u64 (c0.2.1.toNat : Int)) ∧ w.cell? ⟨b, o + 3, none⟩ = some (.int .u64 (c0.2.2.1.toNat : Int)) ∧ w.cell? ⟨b, o + 4, none⟩ = some (.int .u64 (c0.2.2.2.toNat : Int)) ∧ w.cell? ⟨b, o + 5, none⟩ = some (.slice a0 n0 p0) ∧ w.cell? ⟨b, o + 6, none⟩ = some (.int .i64 k1) ∧ w.cell? ⟨b, o + 6 + 1, none⟩ = some (.int .u64 (c1.1.toNat : Int)) ∧ w.cell? ⟨b, o + 6 + 2, none⟩ = some (.int .u64 (c1.2.1.toNat : Int)) ∧ w.cell? ⟨b, o + 6 + 3, none⟩ = some (.int .u64 (c1.2.2.1.toNat : Int)) ∧ w.cell? ⟨b, o + 6 + 4, none⟩ = some (.int .u64 (c1.2.2.2.toNat : Int)) ∧ w.cell? ⟨b, o + 6 + 5, none⟩ = some (.slice a1 n1 p1) := by
  obtain ⟨k', c, ao, cap, kids, vals, rfl, ht, _, _, hc, hr⟩ := hx.shape
  simp only [T.mk.injEq] at ht
  obtain ⟨rfl, rfl, rfl⟩ := ht
  rcases hc with h | ⟨b, o, rfl, hbB, hcl⟩
  · cases h
  have r0 := hr 0 (by simp)
  have r1 := hr 1 (by simp)
  have hc0 := hcl 0 (by simp)
  have hc1 := hcl 1 (by simp)
  obtain ⟨k0, c0, a0, n0, p0, e0, q0⟩ := kid_cells r0 hc0
  obtain ⟨k1, c1, a1, n1, p1, e1, q1⟩ := kid_cells r1 hc1
  simp only [Nat.zero_mul, Nat.add_zero, Nat.one_mul] at q0 q1
  refine ⟨b, o, cap, k0, k1, c0, c1, a0, a1, n0, p0, n1, p1, rfl, hbB, ?_, ?_, ?_⟩
  · rw [← e0]; exact r0
  · rw [← e1]; exact r1
  · obtain ⟨x0, x1, x2, x3, x4, x5⟩ := q0
    obtain ⟨y0, y1, y2, y3, y4, y5⟩ := q1
    exact ⟨x0, x1, x2, x3, x4, x5, y0, y1, y2, y3, y4, y5⟩

/-- What the region of two Kids keeps, whichever of its operations are done. -/
structure CC (wr : World) (B pp bx b o cap nx r1v r2v : Nat) (f e : Value) (ps : List St) (x y : E) (k0 k1 : Int) (c0 c1 : Cl) (a0 a1 : Option Addr) (n0 p0 n1 p1 : Nat) (d : Nat → Bool) (x6 x25 x26 x27 x28 x29 x30 x31 x32 x33 x34 x35 x36 x37 : Value) (W : World) : Prop where
  f0 : d 0 = true → x25 = (.pointer (some ⟨pp, 0, none⟩))
  f1 : d 1 = true → x26 = (.pointer (some ⟨bx, 5, none⟩))
  f2 : d 2 = true → x27 = (.slice (some ⟨b, o, none⟩) 2 cap)
  f3 : d 3 = true → x28 = (.pointer (some ⟨b, o, none⟩))
  f4 : d 4 = true → x29 = (.agg #[.int .i64 k0, .int .u64 (c0.1.toNat : Int), .int .u64 (c0.2.1.toNat : Int), .int .u64 (c0.2.2.1.toNat : Int), .int .u64 (c0.2.2.2.toNat : Int), .slice a0 n0 p0])
  f5 : d 5 = true → x30 = (.pointer (some ⟨pp, 0, none⟩))
  f6 : d 6 = true → x31 = (.pointer (some ⟨bx, 5, none⟩))
  f7 : d 7 = true → x32 = (.slice (some ⟨b, o, none⟩) 2 cap)
  f8 : d 8 = true → x33 = (.pointer (some ⟨b, o + 6, none⟩))
  f9 : d 9 = true → x34 = (.agg #[.int .i64 k1, .int .u64 (c1.1.toNat : Int), .int .u64 (c1.2.1.toNat : Int), .int .u64 (c1.2.2.1.toNat : Int), .int .u64 (c1.2.2.2.toNat : Int), .slice a1 n1 p1])
  f10 : d 10 = true → x35 = (.int .i64 (nx : Int))
  f11 : d 11 = true → x36 = (.int .i64 (r1v : Int))
  f12 : d 12 = true → x37 = (.int .i64 (r2v : Int))
  f13 : d 13 = true → x6 = (.int .i64 (r2v : Int))
  below : Below B wr W
  size : wr.heap.size ≤ W.heap.size
  keep : Keep3 wr W
  q0 : d 11 = false → Pl B pp f e ps W
  q1 : d 11 = true → d 12 = false → Pl B pp f e (lay y ps nx).1 W
  q2 : d 12 = true → Pl B pp f e (lay (.cat x y) ps nx).1 W
  g12 : d 12 = true → d 11 = true
set_option maxHeartbeats 4000000 in
set_option maxRecDepth 20000 in
theorem lr_cat {s t : T} {x y : E} (h1 : LR s x) (h2 : LR t y) : LR (.mk 4 empty [s, t]) (.cat x y) := by
  intro v ps nx B pp f e w hx hP hBp hBw hlen
  obtain ⟨b, o, cap, k0, k1, c0, c1, a0, a1, n0, p0, n1, p1, rfl, hbB, r0, r1, hcl⟩ := rxtwo_kids hx
  simp only [E.nodes] at hlen
  obtain ⟨bx, HBX⟩ : ∃ bx, Hid (w.heap.size = bx) := ⟨_, (rfl : w.heap.size = w.heap.size)⟩
  have HR : Hid (Rx w B (.agg #[.int .i64 k0, .int .u64 (c0.1.toNat : Int), .int .u64 (c0.2.1.toNat : Int), .int .u64 (c0.2.2.1.toNat : Int), .int .u64 (c0.2.2.2.toNat : Int), .slice a0 n0 p0]) s ∧ Rx w B (.agg #[.int .i64 k1, .int .u64 (c1.1.toNat : Int), .int .u64 (c1.2.1.toNat : Int), .int .u64 (c1.2.2.1.toNat : Int), .int .u64 (c1.2.2.2.toNat : Int), .slice a1 n1 p1]) t ∧ Pl B pp f e ps w) := ⟨r0, r1, hP⟩
  have hb0 := box_keep w (.cells #[.int .i64 4, .int .u64 0, .int .u64 0, .int .u64 0, .int .u64 0, .slice (some ⟨b, o, none⟩) 2 cap] 44)
  have HZ : Hid ((w.alloc (.cells #[.int .i64 4, .int .u64 0, .int .u64 0, .int .u64 0, .int .u64 0, .slice (some ⟨b, o, none⟩) 2 cap] 44)).heap[bx]? = some (.cells #[.int .i64 4, .int .u64 0, .int .u64 0, .int .u64 0, .int .u64 0, .slice (some ⟨b, o, none⟩) 2 cap] 44)) := by
    show _ = _
    rw [← HBX.out]; exact block_new w _
  generalize hwr : w.alloc (.cells #[.int .i64 4, .int .u64 0, .int .u64 0, .int .u64 0, .int .u64 0, .slice (some ⟨b, o, none⟩) 2 cap] 44) = wr at hb0 HZ
  have HWR : Hid (w.alloc (.cells #[.int .i64 4, .int .u64 0, .int .u64 0, .int .u64 0, .int .u64 0, .slice (some ⟨b, o, none⟩) 2 cap] 44) = wr) := hwr
  clear hwr
  have hS : wr.cell? ⟨bx, 5, none⟩ = some (.slice (some ⟨b, o, none⟩) 2 cap) ∧ wr.cell? ⟨b, o, none⟩ = some (.int .i64 k0) ∧ wr.cell? ⟨b, o + 1, none⟩ = some (.int .u64 (c0.1.toNat : Int)) ∧ wr.cell? ⟨b, o + 2, none⟩ = some (.int .u64 (c0.2.1.toNat : Int)) ∧ wr.cell? ⟨b, o + 3, none⟩ = some (.int .u64 (c0.2.2.1.toNat : Int)) ∧ wr.cell? ⟨b, o + 4, none⟩ = some (.int .u64 (c0.2.2.2.toNat : Int)) ∧ wr.cell? ⟨b, o + 5, none⟩ = some (.slice a0 n0 p0) ∧ wr.cell? ⟨b, o + 6, none⟩ = some (.int .i64 k1) ∧ wr.cell? ⟨b, o + 6 + 1, none⟩ = some (.int .u64 (c1.1.toNat : Int)) ∧ wr.cell? ⟨b, o + 6 + 2, none⟩ = some (.int .u64 (c1.2.1.toNat : Int)) ∧ wr.cell? ⟨b, o + 6 + 3, none⟩ = some (.int .u64 (c1.2.2.1.toNat : Int)) ∧ wr.cell? ⟨b, o + 6 + 4, none⟩ = some (.int .u64 (c1.2.2.2.toNat : Int)) ∧ wr.cell? ⟨b, o + 6 + 5, none⟩ = some (.slice a1 n1 p1) := by
    have hw : ∀ j v, w.cell? ⟨b, j, none⟩ = some v → wr.cell? ⟨b, j, none⟩ = some v := fun j v h => cell_next h hb0
    obtain ⟨x0, x1, x2, x3, x4, x5, y0, y1, y2, y3, y4, y5⟩ := hcl
    exact ⟨by simp [World.cell?, HZ.out], hw _ _ x0, hw _ _ x1, hw _ _ x2, hw _ _ x3, hw _ _ x4, hw _ _ x5, hw _ _ y0, hw _ _ y1, hw _ _ y2, hw _ _ y3, hw _ _ y4, hw _ _ y5⟩
  have HC1 : Hid (∀ W1, Below B wr W1 → Pl B pp f e ps W1 → B ≤ W1.heap.size → Calls Try.prog 76 #[.pointer (some ⟨pp, 0, none⟩), .agg #[.int .i64 k1, .int .u64 (c1.1.toNat : Int), .int .u64 (c1.2.1.toNat : Int), .int .u64 (c1.2.2.1.toNat : Int), .int .u64 (c1.2.2.2.toNat : Int), .slice a1 n1 p1], .int .i64 (nx : Int)] W1 fun e' w' => e' = .returned (.int .i64 ((lay y ps nx).2 : Int)) ∧ Pl B pp f e (lay y ps nx).1 w' ∧ Below B W1 w' ∧ Keep3 W1 w') := fun W1 hb hp hB =>
    h2 _ ps nx B pp f e W1 ((HR.out.2.1.next (hb0.mono hBw)).next hb) hp hBp hB (by omega)
  have HC2 : Hid (∀ W1, Below B wr W1 → Pl B pp f e (lay y ps nx).1 W1 → B ≤ W1.heap.size → Calls Try.prog 76 #[.pointer (some ⟨pp, 0, none⟩), .agg #[.int .i64 k0, .int .u64 (c0.1.toNat : Int), .int .u64 (c0.2.1.toNat : Int), .int .u64 (c0.2.2.1.toNat : Int), .int .u64 (c0.2.2.2.toNat : Int), .slice a0 n0 p0], .int .i64 ((lay y ps nx).2 : Int)] W1 fun e' w' => e' = .returned (.int .i64 ((lay (.cat x y) ps nx).2 : Int)) ∧ Pl B pp f e (lay (.cat x y) ps nx).1 w' ∧ Below B W1 w' ∧ Keep3 W1 w') := fun W1 hb hp hB =>
    h1 _ _ _ B pp f e W1 ((HR.out.1.next (hb0.mono hBw)).next hb) hp hBp hB (by have := (lay_len y ps nx).2; omega)
  have HS : Hid (wr.cell? ⟨bx, 5, none⟩ = some (.slice (some ⟨b, o, none⟩) 2 cap) ∧ wr.cell? ⟨b, o, none⟩ = some (.int .i64 k0) ∧ wr.cell? ⟨b, o + 1, none⟩ = some (.int .u64 (c0.1.toNat : Int)) ∧ wr.cell? ⟨b, o + 2, none⟩ = some (.int .u64 (c0.2.1.toNat : Int)) ∧ wr.cell? ⟨b, o + 3, none⟩ = some (.int .u64 (c0.2.2.1.toNat : Int)) ∧ wr.cell? ⟨b, o + 4, none⟩ = some (.int .u64 (c0.2.2.2.toNat : Int)) ∧ wr.cell? ⟨b, o + 5, none⟩ = some (.slice a0 n0 p0) ∧ wr.cell? ⟨b, o + 6, none⟩ = some (.int .i64 k1) ∧ wr.cell? ⟨b, o + 6 + 1, none⟩ = some (.int .u64 (c1.1.toNat : Int)) ∧ wr.cell? ⟨b, o + 6 + 2, none⟩ = some (.int .u64 (c1.2.1.toNat : Int)) ∧ wr.cell? ⟨b, o + 6 + 3, none⟩ = some (.int .u64 (c1.2.2.1.toNat : Int)) ∧ wr.cell? ⟨b, o + 6 + 4, none⟩ = some (.int .u64 (c1.2.2.2.toNat : Int)) ∧ wr.cell? ⟨b, o + 6 + 5, none⟩ = some (.slice a1 n1 p1)) := hS
  have hBW : B ≤ wr.heap.size := Nat.le_trans hBw hb0.size
  have HP0 : Hid (Pl B pp f e ps wr) := HR.out.2.2.keep hb0
  obtain ⟨r1v, HV1⟩ : ∃ r : Nat, Hid ((lay y ps nx).2 = r) := ⟨_, (rfl : (lay y ps nx).2 = (lay y ps nx).2)⟩
  obtain ⟨r2v, HV2⟩ : ∃ r : Nat, Hid ((lay (.cat x y) ps nx).2 = r) := ⟨_, (rfl : (lay (.cat x y) ps nx).2 = (lay (.cat x y) ps nx).2)⟩
  rw [HV1.out] at HC1
  rw [HV1.out, HV2.out] at HC2
  clear r0 r1 hP hx hcl hS
  go_enter Try.func76, Try.ntmps76
  go_upto_region 7 with fail
  rw [HBX.out, HWR.out]
  go_cut [6] (fun z wx => z = .int .i64 (r2v : Int) ∧ Hid (Below B wr wx ∧ Keep3 wr wx ∧ Pl B pp f e (lay (.cat x y) ps nx).1 wx))
  case first =>
    refine wp_region_inv mixed (fun aa0 d a W => ∃ (x6 x25 x26 x27 x28 x29 x30 x31 x32 x33 x34 x35 x36 x37 : Value), a = ((((((((((((((aa0.put (some 6) x6).put (some 25) x25).put (some 26) x26).put (some 27) x27).put (some 28) x28).put (some 29) x29).put (some 30) x30).put (some 31) x31).put (some 32) x32).put (some 33) x33).put (some 34) x34).put (some 35) x35).put (some 36) x36).put (some 37) x37) ∧ Hid (CC wr B pp bx b o cap nx r1v r2v f e ps x y k0 k1 c0 c1 a0 a1 n0 p0 n1 p1 d x6 x25 x26 x27 x28 x29 x30 x31 x32 x33 x34 x35 x36 x37 W)) (by kernel_rfl) ⟨(.int .i64 0), undef, undef, undef, undef, undef, undef, undef, undef, undef, undef, undef, undef, undef, by simp only [Act.put, List.setIfInBounds_toArray, List.set_cons_zero, List.set_cons_succ], ?_⟩ ?_ ?_
    · exact ⟨fun h => rxno_way h, fun h => rxno_way h, fun h => rxno_way h, fun h => rxno_way h, fun h => rxno_way h, fun h => rxno_way h, fun h => rxno_way h, fun h => rxno_way h, fun h => rxno_way h, fun h => rxno_way h, fun h => rxno_way h, fun h => rxno_way h, fun h => rxno_way h, fun h => rxno_way h, (Below.refl _ wr).drew, Nat.le_refl _, fun _ _ _ _ _ h => h, fun _ => HP0.out.keep (Below.refl _ wr).drew, fun h _ => rxno_way h, fun h => rxno_way h, fun h => rxno_way h⟩
    · simp only [StepAll, and_true]
      refine ⟨?_, ?_, ?_, ?_, ?_, ?_, ?_, ?_, ?_, ?_, ?_, ?_, ?_, ?_⟩
      · intro d a W hI hd hdep
        obtain ⟨x6, x25, x26, x27, x28, x29, x30, x31, x32, x33, x34, x35, x36, x37, rfl, hF⟩ := hI
        clear hdep hd
        intro K hK
        simp only [Act.put, List.setIfInBounds_toArray, List.set_cons_zero, List.set_cons_succ]
        go_simp
        refine hK.out _ _ ⟨x6, (.pointer (some ⟨pp, 0, none⟩)), x26, x27, x28, x29, x30, x31, x32, x33, x34, x35, x36, x37, by simp only [Act.put, List.setIfInBounds_toArray, List.set_cons_zero, List.set_cons_succ], ?_⟩
        exact ⟨fun _ => rfl, fun h => hF.out.f1 (by simpa using h), fun h => hF.out.f2 (by simpa using h), fun h => hF.out.f3 (by simpa using h), fun h => hF.out.f4 (by simpa using h), fun h => hF.out.f5 (by simpa using h), fun h => hF.out.f6 (by simpa using h), fun h => hF.out.f7 (by simpa using h), fun h => hF.out.f8 (by simpa using h), fun h => hF.out.f9 (by simpa using h), fun h => hF.out.f10 (by simpa using h), fun h => hF.out.f11 (by simpa using h), fun h => hF.out.f12 (by simpa using h), fun h => hF.out.f13 (by simpa using h), hF.out.below, hF.out.size, hF.out.keep, fun h => hF.out.q0 (by simpa using h), fun h h2 => hF.out.q1 (by simpa using h) (by simpa using h2), fun h => hF.out.q2 (by simpa using h), fun h => by simpa using hF.out.g12 (by simpa using h)⟩
      · intro d a W hI hd hdep
        obtain ⟨x6, x25, x26, x27, x28, x29, x30, x31, x32, x33, x34, x35, x36, x37, rfl, hF⟩ := hI
        clear hdep hd
        intro K hK
        simp only [Act.put, List.setIfInBounds_toArray, List.set_cons_zero, List.set_cons_succ]
        go_simp
        refine hK.out _ _ ⟨x6, x25, (.pointer (some ⟨bx, 5, none⟩)), x27, x28, x29, x30, x31, x32, x33, x34, x35, x36, x37, by simp only [Act.put, List.setIfInBounds_toArray, List.set_cons_zero, List.set_cons_succ], ?_⟩
        exact ⟨fun h => hF.out.f0 (by simpa using h), fun _ => rfl, fun h => hF.out.f2 (by simpa using h), fun h => hF.out.f3 (by simpa using h), fun h => hF.out.f4 (by simpa using h), fun h => hF.out.f5 (by simpa using h), fun h => hF.out.f6 (by simpa using h), fun h => hF.out.f7 (by simpa using h), fun h => hF.out.f8 (by simpa using h), fun h => hF.out.f9 (by simpa using h), fun h => hF.out.f10 (by simpa using h), fun h => hF.out.f11 (by simpa using h), fun h => hF.out.f12 (by simpa using h), fun h => hF.out.f13 (by simpa using h), hF.out.below, hF.out.size, hF.out.keep, fun h => hF.out.q0 (by simpa using h), fun h h2 => hF.out.q1 (by simpa using h) (by simpa using h2), fun h => hF.out.q2 (by simpa using h), fun h => by simpa using hF.out.g12 (by simpa using h)⟩
      · intro d a W hI hd hdep
        obtain ⟨x6, x25, x26, x27, x28, x29, x30, x31, x32, x33, x34, x35, x36, x37, rfl, hF⟩ := hI
        have hd1 : d 1 = true := rxdep_of hdep 1 (by kernel_rfl)
        obtain rfl := hF.out.f1 hd1
        have HSW : Hid (W.cell? ⟨bx, 5, none⟩ = some (.slice (some ⟨b, o, none⟩) 2 cap) ∧ W.cell? ⟨b, o, none⟩ = some (.int .i64 k0) ∧ W.cell? ⟨b, o + 1, none⟩ = some (.int .u64 (c0.1.toNat : Int)) ∧ W.cell? ⟨b, o + 2, none⟩ = some (.int .u64 (c0.2.1.toNat : Int)) ∧ W.cell? ⟨b, o + 3, none⟩ = some (.int .u64 (c0.2.2.1.toNat : Int)) ∧ W.cell? ⟨b, o + 4, none⟩ = some (.int .u64 (c0.2.2.2.toNat : Int)) ∧ W.cell? ⟨b, o + 5, none⟩ = some (.slice a0 n0 p0) ∧ W.cell? ⟨b, o + 6, none⟩ = some (.int .i64 k1) ∧ W.cell? ⟨b, o + 6 + 1, none⟩ = some (.int .u64 (c1.1.toNat : Int)) ∧ W.cell? ⟨b, o + 6 + 2, none⟩ = some (.int .u64 (c1.2.1.toNat : Int)) ∧ W.cell? ⟨b, o + 6 + 3, none⟩ = some (.int .u64 (c1.2.2.1.toNat : Int)) ∧ W.cell? ⟨b, o + 6 + 4, none⟩ = some (.int .u64 (c1.2.2.2.toNat : Int)) ∧ W.cell? ⟨b, o + 6 + 5, none⟩ = some (.slice a1 n1 p1)) := s2_next HZ.out hbB HS.out hF.out.below hF.out.keep
        have s5 := HSW.out.1
        clear HSW
        clear hdep hd hd1
        intro K hK
        simp only [Act.put, List.setIfInBounds_toArray, List.set_cons_zero, List.set_cons_succ]
        go_simp
        refine hK.out _ _ ⟨x6, x25, (.pointer (some ⟨bx, 5, none⟩)), (.slice (some ⟨b, o, none⟩) 2 cap), x28, x29, x30, x31, x32, x33, x34, x35, x36, x37, by simp only [Act.put, List.setIfInBounds_toArray, List.set_cons_zero, List.set_cons_succ], ?_⟩
        exact ⟨fun h => hF.out.f0 (by simpa using h), fun h => hF.out.f1 (by simpa using h), fun _ => rfl, fun h => hF.out.f3 (by simpa using h), fun h => hF.out.f4 (by simpa using h), fun h => hF.out.f5 (by simpa using h), fun h => hF.out.f6 (by simpa using h), fun h => hF.out.f7 (by simpa using h), fun h => hF.out.f8 (by simpa using h), fun h => hF.out.f9 (by simpa using h), fun h => hF.out.f10 (by simpa using h), fun h => hF.out.f11 (by simpa using h), fun h => hF.out.f12 (by simpa using h), fun h => hF.out.f13 (by simpa using h), hF.out.below, hF.out.size, hF.out.keep, fun h => hF.out.q0 (by simpa using h), fun h h2 => hF.out.q1 (by simpa using h) (by simpa using h2), fun h => hF.out.q2 (by simpa using h), fun h => by simpa using hF.out.g12 (by simpa using h)⟩
      · intro d a W hI hd hdep
        obtain ⟨x6, x25, x26, x27, x28, x29, x30, x31, x32, x33, x34, x35, x36, x37, rfl, hF⟩ := hI
        have hd2 : d 2 = true := rxdep_of hdep 2 (by kernel_rfl)
        obtain rfl := hF.out.f2 hd2
        clear hdep hd hd2
        intro K hK
        simp only [Act.put, List.setIfInBounds_toArray, List.set_cons_zero, List.set_cons_succ]
        go_simp
        refine hK.out _ _ ⟨x6, x25, x26, (.slice (some ⟨b, o, none⟩) 2 cap), (.pointer (some ⟨b, o, none⟩)), x29, x30, x31, x32, x33, x34, x35, x36, x37, by simp only [Act.put, List.setIfInBounds_toArray, List.set_cons_zero, List.set_cons_succ], ?_⟩
        exact ⟨fun h => hF.out.f0 (by simpa using h), fun h => hF.out.f1 (by simpa using h), fun h => hF.out.f2 (by simpa using h), fun _ => rfl, fun h => hF.out.f4 (by simpa using h), fun h => hF.out.f5 (by simpa using h), fun h => hF.out.f6 (by simpa using h), fun h => hF.out.f7 (by simpa using h), fun h => hF.out.f8 (by simpa using h), fun h => hF.out.f9 (by simpa using h), fun h => hF.out.f10 (by simpa using h), fun h => hF.out.f11 (by simpa using h), fun h => hF.out.f12 (by simpa using h), fun h => hF.out.f13 (by simpa using h), hF.out.below, hF.out.size, hF.out.keep, fun h => hF.out.q0 (by simpa using h), fun h h2 => hF.out.q1 (by simpa using h) (by simpa using h2), fun h => hF.out.q2 (by simpa using h), fun h => by simpa using hF.out.g12 (by simpa using h)⟩
      · intro d a W hI hd hdep
        obtain ⟨x6, x25, x26, x27, x28, x29, x30, x31, x32, x33, x34, x35, x36, x37, rfl, hF⟩ := hI
        have hd3 : d 3 = true := rxdep_of hdep 3 (by kernel_rfl)
        obtain rfl := hF.out.f3 hd3
        have HSW : Hid (W.cell? ⟨bx, 5, none⟩ = some (.slice (some ⟨b, o, none⟩) 2 cap) ∧ W.cell? ⟨b, o, none⟩ = some (.int .i64 k0) ∧ W.cell? ⟨b, o + 1, none⟩ = some (.int .u64 (c0.1.toNat : Int)) ∧ W.cell? ⟨b, o + 2, none⟩ = some (.int .u64 (c0.2.1.toNat : Int)) ∧ W.cell? ⟨b, o + 3, none⟩ = some (.int .u64 (c0.2.2.1.toNat : Int)) ∧ W.cell? ⟨b, o + 4, none⟩ = some (.int .u64 (c0.2.2.2.toNat : Int)) ∧ W.cell? ⟨b, o + 5, none⟩ = some (.slice a0 n0 p0) ∧ W.cell? ⟨b, o + 6, none⟩ = some (.int .i64 k1) ∧ W.cell? ⟨b, o + 6 + 1, none⟩ = some (.int .u64 (c1.1.toNat : Int)) ∧ W.cell? ⟨b, o + 6 + 2, none⟩ = some (.int .u64 (c1.2.1.toNat : Int)) ∧ W.cell? ⟨b, o + 6 + 3, none⟩ = some (.int .u64 (c1.2.2.1.toNat : Int)) ∧ W.cell? ⟨b, o + 6 + 4, none⟩ = some (.int .u64 (c1.2.2.2.toNat : Int)) ∧ W.cell? ⟨b, o + 6 + 5, none⟩ = some (.slice a1 n1 p1)) := s2_next HZ.out hbB HS.out hF.out.below hF.out.keep
        have s0 := HSW.out.2.1
        have s1 := HSW.out.2.2.1
        have s2 := HSW.out.2.2.2.1
        have s3 := HSW.out.2.2.2.2.1
        have s4 := HSW.out.2.2.2.2.2.1
        have s5 := HSW.out.2.2.2.2.2.2.1
        clear HSW
        clear hdep hd hd3
        intro K hK
        simp only [Act.put, List.setIfInBounds_toArray, List.set_cons_zero, List.set_cons_succ]
        go_simp
        refine hK.out _ _ ⟨x6, x25, x26, x27, (.pointer (some ⟨b, o, none⟩)), (.agg #[.int .i64 k0, .int .u64 (c0.1.toNat : Int), .int .u64 (c0.2.1.toNat : Int), .int .u64 (c0.2.2.1.toNat : Int), .int .u64 (c0.2.2.2.toNat : Int), .slice a0 n0 p0]), x30, x31, x32, x33, x34, x35, x36, x37, by simp only [Act.put, List.setIfInBounds_toArray, List.set_cons_zero, List.set_cons_succ], ?_⟩
        exact ⟨fun h => hF.out.f0 (by simpa using h), fun h => hF.out.f1 (by simpa using h), fun h => hF.out.f2 (by simpa using h), fun h => hF.out.f3 (by simpa using h), fun _ => rfl, fun h => hF.out.f5 (by simpa using h), fun h => hF.out.f6 (by simpa using h), fun h => hF.out.f7 (by simpa using h), fun h => hF.out.f8 (by simpa using h), fun h => hF.out.f9 (by simpa using h), fun h => hF.out.f10 (by simpa using h), fun h => hF.out.f11 (by simpa using h), fun h => hF.out.f12 (by simpa using h), fun h => hF.out.f13 (by simpa using h), hF.out.below, hF.out.size, hF.out.keep, fun h => hF.out.q0 (by simpa using h), fun h h2 => hF.out.q1 (by simpa using h) (by simpa using h2), fun h => hF.out.q2 (by simpa using h), fun h => by simpa using hF.out.g12 (by simpa using h)⟩
      · intro d a W hI hd hdep
        obtain ⟨x6, x25, x26, x27, x28, x29, x30, x31, x32, x33, x34, x35, x36, x37, rfl, hF⟩ := hI
        clear hdep hd
        intro K hK
        simp only [Act.put, List.setIfInBounds_toArray, List.set_cons_zero, List.set_cons_succ]
        go_simp
        refine hK.out _ _ ⟨x6, x25, x26, x27, x28, x29, (.pointer (some ⟨pp, 0, none⟩)), x31, x32, x33, x34, x35, x36, x37, by simp only [Act.put, List.setIfInBounds_toArray, List.set_cons_zero, List.set_cons_succ], ?_⟩
        exact ⟨fun h => hF.out.f0 (by simpa using h), fun h => hF.out.f1 (by simpa using h), fun h => hF.out.f2 (by simpa using h), fun h => hF.out.f3 (by simpa using h), fun h => hF.out.f4 (by simpa using h), fun _ => rfl, fun h => hF.out.f6 (by simpa using h), fun h => hF.out.f7 (by simpa using h), fun h => hF.out.f8 (by simpa using h), fun h => hF.out.f9 (by simpa using h), fun h => hF.out.f10 (by simpa using h), fun h => hF.out.f11 (by simpa using h), fun h => hF.out.f12 (by simpa using h), fun h => hF.out.f13 (by simpa using h), hF.out.below, hF.out.size, hF.out.keep, fun h => hF.out.q0 (by simpa using h), fun h h2 => hF.out.q1 (by simpa using h) (by simpa using h2), fun h => hF.out.q2 (by simpa using h), fun h => by simpa using hF.out.g12 (by simpa using h)⟩
      · intro d a W hI hd hdep
        obtain ⟨x6, x25, x26, x27, x28, x29, x30, x31, x32, x33, x34, x35, x36, x37, rfl, hF⟩ := hI
        clear hdep hd
        intro K hK
        simp only [Act.put, List.setIfInBounds_toArray, List.set_cons_zero, List.set_cons_succ]
        go_simp
        refine hK.out _ _ ⟨x6, x25, x26, x27, x28, x29, x30, (.pointer (some ⟨bx, 5, none⟩)), x32, x33, x34, x35, x36, x37, by simp only [Act.put, List.setIfInBounds_toArray, List.set_cons_zero, List.set_cons_succ], ?_⟩
        exact ⟨fun h => hF.out.f0 (by simpa using h), fun h => hF.out.f1 (by simpa using h), fun h => hF.out.f2 (by simpa using h), fun h => hF.out.f3 (by simpa using h), fun h => hF.out.f4 (by simpa using h), fun h => hF.out.f5 (by simpa using h), fun _ => rfl, fun h => hF.out.f7 (by simpa using h), fun h => hF.out.f8 (by simpa using h), fun h => hF.out.f9 (by simpa using h), fun h => hF.out.f10 (by simpa using h), fun h => hF.out.f11 (by simpa using h), fun h => hF.out.f12 (by simpa using h), fun h => hF.out.f13 (by simpa using h), hF.out.below, hF.out.size, hF.out.keep, fun h => hF.out.q0 (by simpa using h), fun h h2 => hF.out.q1 (by simpa using h) (by simpa using h2), fun h => hF.out.q2 (by simpa using h), fun h => by simpa using hF.out.g12 (by simpa using h)⟩
      · intro d a W hI hd hdep
        obtain ⟨x6, x25, x26, x27, x28, x29, x30, x31, x32, x33, x34, x35, x36, x37, rfl, hF⟩ := hI
        have hd6 : d 6 = true := rxdep_of hdep 6 (by kernel_rfl)
        obtain rfl := hF.out.f6 hd6
        have HSW : Hid (W.cell? ⟨bx, 5, none⟩ = some (.slice (some ⟨b, o, none⟩) 2 cap) ∧ W.cell? ⟨b, o, none⟩ = some (.int .i64 k0) ∧ W.cell? ⟨b, o + 1, none⟩ = some (.int .u64 (c0.1.toNat : Int)) ∧ W.cell? ⟨b, o + 2, none⟩ = some (.int .u64 (c0.2.1.toNat : Int)) ∧ W.cell? ⟨b, o + 3, none⟩ = some (.int .u64 (c0.2.2.1.toNat : Int)) ∧ W.cell? ⟨b, o + 4, none⟩ = some (.int .u64 (c0.2.2.2.toNat : Int)) ∧ W.cell? ⟨b, o + 5, none⟩ = some (.slice a0 n0 p0) ∧ W.cell? ⟨b, o + 6, none⟩ = some (.int .i64 k1) ∧ W.cell? ⟨b, o + 6 + 1, none⟩ = some (.int .u64 (c1.1.toNat : Int)) ∧ W.cell? ⟨b, o + 6 + 2, none⟩ = some (.int .u64 (c1.2.1.toNat : Int)) ∧ W.cell? ⟨b, o + 6 + 3, none⟩ = some (.int .u64 (c1.2.2.1.toNat : Int)) ∧ W.cell? ⟨b, o + 6 + 4, none⟩ = some (.int .u64 (c1.2.2.2.toNat : Int)) ∧ W.cell? ⟨b, o + 6 + 5, none⟩ = some (.slice a1 n1 p1)) := s2_next HZ.out hbB HS.out hF.out.below hF.out.keep
        have s5 := HSW.out.1
        clear HSW
        clear hdep hd hd6
        intro K hK
        simp only [Act.put, List.setIfInBounds_toArray, List.set_cons_zero, List.set_cons_succ]
        go_simp
        refine hK.out _ _ ⟨x6, x25, x26, x27, x28, x29, x30, (.pointer (some ⟨bx, 5, none⟩)), (.slice (some ⟨b, o, none⟩) 2 cap), x33, x34, x35, x36, x37, by simp only [Act.put, List.setIfInBounds_toArray, List.set_cons_zero, List.set_cons_succ], ?_⟩
        exact ⟨fun h => hF.out.f0 (by simpa using h), fun h => hF.out.f1 (by simpa using h), fun h => hF.out.f2 (by simpa using h), fun h => hF.out.f3 (by simpa using h), fun h => hF.out.f4 (by simpa using h), fun h => hF.out.f5 (by simpa using h), fun h => hF.out.f6 (by simpa using h), fun _ => rfl, fun h => hF.out.f8 (by simpa using h), fun h => hF.out.f9 (by simpa using h), fun h => hF.out.f10 (by simpa using h), fun h => hF.out.f11 (by simpa using h), fun h => hF.out.f12 (by simpa using h), fun h => hF.out.f13 (by simpa using h), hF.out.below, hF.out.size, hF.out.keep, fun h => hF.out.q0 (by simpa using h), fun h h2 => hF.out.q1 (by simpa using h) (by simpa using h2), fun h => hF.out.q2 (by simpa using h), fun h => by simpa using hF.out.g12 (by simpa using h)⟩
      · intro d a W hI hd hdep
        obtain ⟨x6, x25, x26, x27, x28, x29, x30, x31, x32, x33, x34, x35, x36, x37, rfl, hF⟩ := hI
        have hd7 : d 7 = true := rxdep_of hdep 7 (by kernel_rfl)
        obtain rfl := hF.out.f7 hd7
        clear hdep hd hd7
        intro K hK
        simp only [Act.put, List.setIfInBounds_toArray, List.set_cons_zero, List.set_cons_succ]
        go_simp
        refine hK.out _ _ ⟨x6, x25, x26, x27, x28, x29, x30, x31, (.slice (some ⟨b, o, none⟩) 2 cap), (.pointer (some ⟨b, o + 6, none⟩)), x34, x35, x36, x37, by simp only [Act.put, List.setIfInBounds_toArray, List.set_cons_zero, List.set_cons_succ], ?_⟩
        exact ⟨fun h => hF.out.f0 (by simpa using h), fun h => hF.out.f1 (by simpa using h), fun h => hF.out.f2 (by simpa using h), fun h => hF.out.f3 (by simpa using h), fun h => hF.out.f4 (by simpa using h), fun h => hF.out.f5 (by simpa using h), fun h => hF.out.f6 (by simpa using h), fun h => hF.out.f7 (by simpa using h), fun _ => rfl, fun h => hF.out.f9 (by simpa using h), fun h => hF.out.f10 (by simpa using h), fun h => hF.out.f11 (by simpa using h), fun h => hF.out.f12 (by simpa using h), fun h => hF.out.f13 (by simpa using h), hF.out.below, hF.out.size, hF.out.keep, fun h => hF.out.q0 (by simpa using h), fun h h2 => hF.out.q1 (by simpa using h) (by simpa using h2), fun h => hF.out.q2 (by simpa using h), fun h => by simpa using hF.out.g12 (by simpa using h)⟩
      · intro d a W hI hd hdep
        obtain ⟨x6, x25, x26, x27, x28, x29, x30, x31, x32, x33, x34, x35, x36, x37, rfl, hF⟩ := hI
        have hd8 : d 8 = true := rxdep_of hdep 8 (by kernel_rfl)
        obtain rfl := hF.out.f8 hd8
        have HSW : Hid (W.cell? ⟨bx, 5, none⟩ = some (.slice (some ⟨b, o, none⟩) 2 cap) ∧ W.cell? ⟨b, o, none⟩ = some (.int .i64 k0) ∧ W.cell? ⟨b, o + 1, none⟩ = some (.int .u64 (c0.1.toNat : Int)) ∧ W.cell? ⟨b, o + 2, none⟩ = some (.int .u64 (c0.2.1.toNat : Int)) ∧ W.cell? ⟨b, o + 3, none⟩ = some (.int .u64 (c0.2.2.1.toNat : Int)) ∧ W.cell? ⟨b, o + 4, none⟩ = some (.int .u64 (c0.2.2.2.toNat : Int)) ∧ W.cell? ⟨b, o + 5, none⟩ = some (.slice a0 n0 p0) ∧ W.cell? ⟨b, o + 6, none⟩ = some (.int .i64 k1) ∧ W.cell? ⟨b, o + 6 + 1, none⟩ = some (.int .u64 (c1.1.toNat : Int)) ∧ W.cell? ⟨b, o + 6 + 2, none⟩ = some (.int .u64 (c1.2.1.toNat : Int)) ∧ W.cell? ⟨b, o + 6 + 3, none⟩ = some (.int .u64 (c1.2.2.1.toNat : Int)) ∧ W.cell? ⟨b, o + 6 + 4, none⟩ = some (.int .u64 (c1.2.2.2.toNat : Int)) ∧ W.cell? ⟨b, o + 6 + 5, none⟩ = some (.slice a1 n1 p1)) := s2_next HZ.out hbB HS.out hF.out.below hF.out.keep
        have s0 := HSW.out.2.2.2.2.2.2.2.1
        have s1 := HSW.out.2.2.2.2.2.2.2.2.1
        have s2 := HSW.out.2.2.2.2.2.2.2.2.2.1
        have s3 := HSW.out.2.2.2.2.2.2.2.2.2.2.1
        have s4 := HSW.out.2.2.2.2.2.2.2.2.2.2.2.1
        have s5 := HSW.out.2.2.2.2.2.2.2.2.2.2.2.2
        clear HSW
        clear hdep hd hd8
        intro K hK
        simp only [Act.put, List.setIfInBounds_toArray, List.set_cons_zero, List.set_cons_succ]
        go_simp
        refine hK.out _ _ ⟨x6, x25, x26, x27, x28, x29, x30, x31, x32, (.pointer (some ⟨b, o + 6, none⟩)), (.agg #[.int .i64 k1, .int .u64 (c1.1.toNat : Int), .int .u64 (c1.2.1.toNat : Int), .int .u64 (c1.2.2.1.toNat : Int), .int .u64 (c1.2.2.2.toNat : Int), .slice a1 n1 p1]), x35, x36, x37, by simp only [Act.put, List.setIfInBounds_toArray, List.set_cons_zero, List.set_cons_succ], ?_⟩
        exact ⟨fun h => hF.out.f0 (by simpa using h), fun h => hF.out.f1 (by simpa using h), fun h => hF.out.f2 (by simpa using h), fun h => hF.out.f3 (by simpa using h), fun h => hF.out.f4 (by simpa using h), fun h => hF.out.f5 (by simpa using h), fun h => hF.out.f6 (by simpa using h), fun h => hF.out.f7 (by simpa using h), fun h => hF.out.f8 (by simpa using h), fun _ => rfl, fun h => hF.out.f10 (by simpa using h), fun h => hF.out.f11 (by simpa using h), fun h => hF.out.f12 (by simpa using h), fun h => hF.out.f13 (by simpa using h), hF.out.below, hF.out.size, hF.out.keep, fun h => hF.out.q0 (by simpa using h), fun h h2 => hF.out.q1 (by simpa using h) (by simpa using h2), fun h => hF.out.q2 (by simpa using h), fun h => by simpa using hF.out.g12 (by simpa using h)⟩
      · intro d a W hI hd hdep
        obtain ⟨x6, x25, x26, x27, x28, x29, x30, x31, x32, x33, x34, x35, x36, x37, rfl, hF⟩ := hI
        clear hdep hd
        intro K hK
        simp only [Act.put, List.setIfInBounds_toArray, List.set_cons_zero, List.set_cons_succ]
        go_simp
        refine hK.out _ _ ⟨x6, x25, x26, x27, x28, x29, x30, x31, x32, x33, x34, (.int .i64 (nx : Int)), x36, x37, by simp only [Act.put, List.setIfInBounds_toArray, List.set_cons_zero, List.set_cons_succ], ?_⟩
        exact ⟨fun h => hF.out.f0 (by simpa using h), fun h => hF.out.f1 (by simpa using h), fun h => hF.out.f2 (by simpa using h), fun h => hF.out.f3 (by simpa using h), fun h => hF.out.f4 (by simpa using h), fun h => hF.out.f5 (by simpa using h), fun h => hF.out.f6 (by simpa using h), fun h => hF.out.f7 (by simpa using h), fun h => hF.out.f8 (by simpa using h), fun h => hF.out.f9 (by simpa using h), fun _ => rfl, fun h => hF.out.f11 (by simpa using h), fun h => hF.out.f12 (by simpa using h), fun h => hF.out.f13 (by simpa using h), hF.out.below, hF.out.size, hF.out.keep, fun h => hF.out.q0 (by simpa using h), fun h h2 => hF.out.q1 (by simpa using h) (by simpa using h2), fun h => hF.out.q2 (by simpa using h), fun h => by simpa using hF.out.g12 (by simpa using h)⟩
      · intro d a W hI hd hdep
        obtain ⟨x6, x25, x26, x27, x28, x29, x30, x31, x32, x33, x34, x35, x36, x37, rfl, hF⟩ := hI
        have hd5 : d 5 = true := rxdep_of hdep 5 (by kernel_rfl)
        have hd9 : d 9 = true := rxdep_of hdep 9 (by kernel_rfl)
        have hd10 : d 10 = true := rxdep_of hdep 10 (by kernel_rfl)
        obtain rfl := hF.out.f5 hd5
        obtain rfl := hF.out.f9 hd9
        obtain rfl := hF.out.f10 hd10
        have h12 : d 12 = false := by
          cases hx : d 12 with
          | false => rfl
          | true => have := hF.out.g12 hx; rw [hd] at this; cases this
        have hcl := HC1.out W hF.out.below (hF.out.q0 hd) (Nat.le_trans hBW hF.out.size)
        have HD : Hid (d 12 = false) := h12
        clear h12
        clear hdep hd hd5 hd9 hd10
        intro K hK
        simp only [Act.put, List.setIfInBounds_toArray, List.set_cons_zero, List.set_cons_succ]
        go_simp
        refine hcl.mono ?_
        rintro e1 W1 ⟨rfl, hp1, hb1, hk1⟩
        go_simp
        refine hK.out _ _ ⟨x6, x25, x26, x27, x28, x29, (.pointer (some ⟨pp, 0, none⟩)), x31, x32, x33, (.agg #[.int .i64 k1, .int .u64 (c1.1.toNat : Int), .int .u64 (c1.2.1.toNat : Int), .int .u64 (c1.2.2.1.toNat : Int), .int .u64 (c1.2.2.2.toNat : Int), .slice a1 n1 p1]), (.int .i64 (nx : Int)), (.int .i64 (r1v : Int)), x37, by simp only [Act.put, List.setIfInBounds_toArray, List.set_cons_zero, List.set_cons_succ], ?_⟩
        exact ⟨fun h => hF.out.f0 (by simpa using h), fun h => hF.out.f1 (by simpa using h), fun h => hF.out.f2 (by simpa using h), fun h => hF.out.f3 (by simpa using h), fun h => hF.out.f4 (by simpa using h), fun h => hF.out.f5 (by simpa using h), fun h => hF.out.f6 (by simpa using h), fun h => hF.out.f7 (by simpa using h), fun h => hF.out.f8 (by simpa using h), fun h => hF.out.f9 (by simpa using h), fun h => hF.out.f10 (by simpa using h), fun _ => rfl, fun h => hF.out.f12 (by simpa using h), fun h => hF.out.f13 (by simpa using h), hF.out.below.trans hb1, Nat.le_trans hF.out.size hb1.size, hF.out.keep.trans hk1, fun h => by simp at h, fun _ _ => hp1, fun h => rxno_way (HD.out.symm.trans (by simpa using h)), fun _ => by simp⟩
      · intro d a W hI hd hdep
        obtain ⟨x6, x25, x26, x27, x28, x29, x30, x31, x32, x33, x34, x35, x36, x37, rfl, hF⟩ := hI
        have hd0 : d 0 = true := rxdep_of hdep 0 (by kernel_rfl)
        have hd4 : d 4 = true := rxdep_of hdep 4 (by kernel_rfl)
        have hd11 : d 11 = true := rxdep_of hdep 11 (by kernel_rfl)
        obtain rfl := hF.out.f0 hd0
        obtain rfl := hF.out.f4 hd4
        obtain rfl := hF.out.f11 hd11
        have hcl := HC2.out W hF.out.below (hF.out.q1 hd11 hd) (Nat.le_trans hBW hF.out.size)
        have HD : Hid (d 11 = true) := hd11
        clear hdep hd hd0 hd4 hd11
        intro K hK
        simp only [Act.put, List.setIfInBounds_toArray, List.set_cons_zero, List.set_cons_succ]
        go_simp
        refine hcl.mono ?_
        rintro e1 W1 ⟨rfl, hp1, hb1, hk1⟩
        go_simp
        refine hK.out _ _ ⟨x6, (.pointer (some ⟨pp, 0, none⟩)), x26, x27, x28, (.agg #[.int .i64 k0, .int .u64 (c0.1.toNat : Int), .int .u64 (c0.2.1.toNat : Int), .int .u64 (c0.2.2.1.toNat : Int), .int .u64 (c0.2.2.2.toNat : Int), .slice a0 n0 p0]), x30, x31, x32, x33, x34, x35, (.int .i64 (r1v : Int)), (.int .i64 (r2v : Int)), by simp only [Act.put, List.setIfInBounds_toArray, List.set_cons_zero, List.set_cons_succ], ?_⟩
        exact ⟨fun h => hF.out.f0 (by simpa using h), fun h => hF.out.f1 (by simpa using h), fun h => hF.out.f2 (by simpa using h), fun h => hF.out.f3 (by simpa using h), fun h => hF.out.f4 (by simpa using h), fun h => hF.out.f5 (by simpa using h), fun h => hF.out.f6 (by simpa using h), fun h => hF.out.f7 (by simpa using h), fun h => hF.out.f8 (by simpa using h), fun h => hF.out.f9 (by simpa using h), fun h => hF.out.f10 (by simpa using h), fun h => hF.out.f11 (by simpa using h), fun _ => rfl, fun h => hF.out.f13 (by simpa using h), hF.out.below.trans hb1, Nat.le_trans hF.out.size hb1.size, hF.out.keep.trans hk1, fun h => rxno_way ((show d 11 = false by simpa using h).symm.trans HD.out), fun _ h => by simp at h, fun _ => hp1, fun _ => by simpa using HD.out⟩
      · intro d a W hI hd hdep
        obtain ⟨x6, x25, x26, x27, x28, x29, x30, x31, x32, x33, x34, x35, x36, x37, rfl, hF⟩ := hI
        have hd12 : d 12 = true := rxdep_of hdep 12 (by kernel_rfl)
        obtain rfl := hF.out.f12 hd12
        clear hdep hd hd12
        intro K hK
        simp only [Act.put, List.setIfInBounds_toArray, List.set_cons_zero, List.set_cons_succ]
        go_simp
        refine hK.out _ _ ⟨(.int .i64 (r2v : Int)), x25, x26, x27, x28, x29, x30, x31, x32, x33, x34, x35, x36, (.int .i64 (r2v : Int)), by simp only [Act.put, List.setIfInBounds_toArray, List.set_cons_zero, List.set_cons_succ], ?_⟩
        exact ⟨fun h => hF.out.f0 (by simpa using h), fun h => hF.out.f1 (by simpa using h), fun h => hF.out.f2 (by simpa using h), fun h => hF.out.f3 (by simpa using h), fun h => hF.out.f4 (by simpa using h), fun h => hF.out.f5 (by simpa using h), fun h => hF.out.f6 (by simpa using h), fun h => hF.out.f7 (by simpa using h), fun h => hF.out.f8 (by simpa using h), fun h => hF.out.f9 (by simpa using h), fun h => hF.out.f10 (by simpa using h), fun h => hF.out.f11 (by simpa using h), fun h => hF.out.f12 (by simpa using h), fun _ => rfl, hF.out.below, hF.out.size, hF.out.keep, fun h => hF.out.q0 (by simpa using h), fun h h2 => hF.out.q1 (by simpa using h) (by simpa using h2), fun h => hF.out.q2 (by simpa using h), fun h => by simpa using hF.out.g12 (by simpa using h)⟩
    · intro d a W hI hall
      obtain ⟨x6, x25, x26, x27, x28, x29, x30, x31, x32, x33, x34, x35, x36, x37, rfl, hF⟩ := hI
      simp only [List.length_cons, List.length_nil] at hall
      obtain rfl := hF.out.f0 (hall 0 (by omega))
      obtain rfl := hF.out.f1 (hall 1 (by omega))
      obtain rfl := hF.out.f2 (hall 2 (by omega))
      obtain rfl := hF.out.f3 (hall 3 (by omega))
      obtain rfl := hF.out.f4 (hall 4 (by omega))
      obtain rfl := hF.out.f5 (hall 5 (by omega))
      obtain rfl := hF.out.f6 (hall 6 (by omega))
      obtain rfl := hF.out.f7 (hall 7 (by omega))
      obtain rfl := hF.out.f8 (hall 8 (by omega))
      obtain rfl := hF.out.f9 (hall 9 (by omega))
      obtain rfl := hF.out.f10 (hall 10 (by omega))
      obtain rfl := hF.out.f11 (hall 11 (by omega))
      obtain rfl := hF.out.f12 (hall 12 (by omega))
      obtain rfl := hF.out.f13 (hall 13 (by omega))
      have HF : Hid (Below B wr W ∧ Keep3 wr W ∧ Pl B pp f e (lay (.cat x y) ps nx).1 W) := ⟨hF.out.below, hF.out.keep, hF.out.q2 (hall 12 (by omega))⟩
      clear hF hall
      simp only [Act.put, List.setIfInBounds_toArray, List.set_cons_zero, List.set_cons_succ]
      go_wp2_with fail
      go_meet
      case rel => exact ⟨rfl, HF⟩
  case rest =>
    obtain ⟨rfl, HX⟩ := hcut
    go_wp2_with fail
    go_ret
    exact ⟨by rw [HV2.out]; rfl, HX.out.2.2, (hb0.mono hBw).trans HX.out.1, ((Keep3.refl w).below hb0).trans HX.out.2.1⟩
end Go.Proofs.Ytlmlkpdppkgenaa

namespace Go.Proofs.Ytlmlkpdppkgenaa
open Go.RowKit
open Cls Rex
/-- What the region of an alternation keeps, whichever of its operations are done. -/
structure CA (wr : World) (B pp bx b o cap nx r1v r2v r3v : Nat) (f e : Value) (ps : List St) (x y : E) (k0 k1 : Int) (c0 c1 : Cl) (a0 a1 : Option Addr) (n0 p0 n1 p1 nb : Nat) (d : Nat → Bool) (x6 x40 x41 x42 x43 x44 x45 x46 x47 x48 x49 x50 x51 x52 x53 x54 x55 x56 x57 : Value) (W : World) : Prop where
  f0 : d 0 = true → x40 = (.pointer (some ⟨pp, 0, none⟩))
  f1 : d 1 = true → x41 = (.pointer (some ⟨pp, 0, none⟩))
  f2 : d 2 = true → x42 = (.pointer (some ⟨bx, 5, none⟩))
  f3 : d 3 = true → x43 = (.slice (some ⟨b, o, none⟩) 2 cap)
  f4 : d 4 = true → x44 = (.pointer (some ⟨b, o, none⟩))
  f5 : d 5 = true → x45 = (.agg #[.int .i64 k0, .int .u64 (c0.1.toNat : Int), .int .u64 (c0.2.1.toNat : Int), .int .u64 (c0.2.2.1.toNat : Int), .int .u64 (c0.2.2.2.toNat : Int), .slice a0 n0 p0])
  f6 : d 6 = true → x46 = (.int .i64 (nx : Int))
  f7 : d 7 = true → x47 = (.int .i64 (r1v : Int))
  f8 : d 8 = true → x48 = (.pointer (some ⟨pp, 0, none⟩))
  f9 : d 9 = true → x49 = (.pointer (some ⟨bx, 5, none⟩))
  f10 : d 10 = true → x50 = (.slice (some ⟨b, o, none⟩) 2 cap)
  f11 : d 11 = true → x51 = (.pointer (some ⟨b, o + 6, none⟩))
  f12 : d 12 = true → x52 = (.agg #[.int .i64 k1, .int .u64 (c1.1.toNat : Int), .int .u64 (c1.2.1.toNat : Int), .int .u64 (c1.2.2.1.toNat : Int), .int .u64 (c1.2.2.2.toNat : Int), .slice a1 n1 p1])
  f13 : d 13 = true → x53 = (.int .i64 (nx : Int))
  f14 : d 14 = true → x54 = (.int .i64 (r2v : Int))
  f15 : d 15 = true → x55 = (.slice (some ⟨nb, 0, none⟩) 2 2)
  f16 : d 16 = true → x56 = (.agg #[.int .u64 0, .int .u64 0, .int .u64 0, .int .u64 0, .slice (some ⟨nb, 0, none⟩) 2 2])
  f17 : d 17 = true → x57 = (.int .i64 (r3v : Int))
  f18 : d 18 = true → x6 = (.int .i64 (r3v : Int))
  below : Below B wr W
  size : wr.heap.size ≤ W.heap.size
  keep : Keep3 wr W
  q0 : d 7 = false → Pl B pp f e ps W
  q1 : d 7 = true → d 14 = false → Pl B pp f e (lay x ps nx).1 W
  q2 : d 14 = true → d 17 = false → Pl B pp f e (lay y (lay x ps nx).1 nx).1 W
  q3 : d 17 = true → Pl B pp f e (lay (.alt x y) ps nx).1 W
  nblk : d 15 = true → d 17 = false → W.heap[nb]? = some (.cells #[.int .i64 (r1v : Int), .int .i64 (r2v : Int)] 3) ∧ B ≤ nb
  g14 : d 14 = true → d 7 = true
  g15 : d 15 = true → d 14 = true
  g16 : d 16 = true → d 15 = true
  g17 : d 17 = true → d 15 = true
set_option maxHeartbeats 4000000 in
set_option maxRecDepth 20000 in
theorem lr_alt {s t : T} {x y : E} (h1 : LR s x) (h2 : LR t y) : LR (.mk 5 empty [s, t]) (.alt x y) := by
  intro v ps nx B pp f e w hx hP hBp hBw hlen
  obtain ⟨b, o, cap, k0, k1, c0, c1, a0, a1, n0, p0, n1, p1, rfl, hbB, r0, r1, hcl⟩ := rxtwo_kids hx
  simp only [E.nodes] at hlen
  obtain ⟨bx, HBX⟩ : ∃ bx, Hid (w.heap.size = bx) := ⟨_, (rfl : w.heap.size = w.heap.size)⟩
  have HR : Hid (Rx w B (.agg #[.int .i64 k0, .int .u64 (c0.1.toNat : Int), .int .u64 (c0.2.1.toNat : Int), .int .u64 (c0.2.2.1.toNat : Int), .int .u64 (c0.2.2.2.toNat : Int), .slice a0 n0 p0]) s ∧ Rx w B (.agg #[.int .i64 k1, .int .u64 (c1.1.toNat : Int), .int .u64 (c1.2.1.toNat : Int), .int .u64 (c1.2.2.1.toNat : Int), .int .u64 (c1.2.2.2.toNat : Int), .slice a1 n1 p1]) t ∧ Pl B pp f e ps w) := ⟨r0, r1, hP⟩
  have hb0 := box_keep w (.cells #[.int .i64 5, .int .u64 0, .int .u64 0, .int .u64 0, .int .u64 0, .slice (some ⟨b, o, none⟩) 2 cap] 44)
  have HZ : Hid ((w.alloc (.cells #[.int .i64 5, .int .u64 0, .int .u64 0, .int .u64 0, .int .u64 0, .slice (some ⟨b, o, none⟩) 2 cap] 44)).heap[bx]? = some (.cells #[.int .i64 5, .int .u64 0, .int .u64 0, .int .u64 0, .int .u64 0, .slice (some ⟨b, o, none⟩) 2 cap] 44)) := by
    show _ = _
    rw [← HBX.out]; exact block_new w _
  generalize hwr : w.alloc (.cells #[.int .i64 5, .int .u64 0, .int .u64 0, .int .u64 0, .int .u64 0, .slice (some ⟨b, o, none⟩) 2 cap] 44) = wr at hb0 HZ
  have HWR : Hid (w.alloc (.cells #[.int .i64 5, .int .u64 0, .int .u64 0, .int .u64 0, .int .u64 0, .slice (some ⟨b, o, none⟩) 2 cap] 44) = wr) := hwr
  clear hwr
  have hS : wr.cell? ⟨bx, 5, none⟩ = some (.slice (some ⟨b, o, none⟩) 2 cap) ∧ wr.cell? ⟨b, o, none⟩ = some (.int .i64 k0) ∧ wr.cell? ⟨b, o + 1, none⟩ = some (.int .u64 (c0.1.toNat : Int)) ∧ wr.cell? ⟨b, o + 2, none⟩ = some (.int .u64 (c0.2.1.toNat : Int)) ∧ wr.cell? ⟨b, o + 3, none⟩ = some (.int .u64 (c0.2.2.1.toNat : Int)) ∧ wr.cell? ⟨b, o + 4, none⟩ = some (.int .u64 (c0.2.2.2.toNat : Int)) ∧ wr.cell? ⟨b, o + 5, none⟩ = some (.slice a0 n0 p0) ∧ wr.cell? ⟨b, o + 6, none⟩ = some (.int .i64 k1) ∧ wr.cell? ⟨b, o + 6 + 1, none⟩ = some (.int .u64 (c1.1.toNat : Int)) ∧ wr.cell? ⟨b, o + 6 + 2, none⟩ = some (.int .u64 (c1.2.1.toNat : Int)) ∧ wr.cell? ⟨b, o + 6 + 3, none⟩ = some (.int .u64 (c1.2.2.1.toNat : Int)) ∧ wr.cell? ⟨b, o + 6 + 4, none⟩ = some (.int .u64 (c1.2.2.2.toNat : Int)) ∧ wr.cell? ⟨b, o + 6 + 5, none⟩ = some (.slice a1 n1 p1) := by
    have hw : ∀ j v, w.cell? ⟨b, j, none⟩ = some v → wr.cell? ⟨b, j, none⟩ = some v := fun j v h => cell_next h hb0
    obtain ⟨x0, x1, x2, x3, x4, x5, y0, y1, y2, y3, y4, y5⟩ := hcl
    exact ⟨by simp [World.cell?, HZ.out], hw _ _ x0, hw _ _ x1, hw _ _ x2, hw _ _ x3, hw _ _ x4, hw _ _ x5, hw _ _ y0, hw _ _ y1, hw _ _ y2, hw _ _ y3, hw _ _ y4, hw _ _ y5⟩
  have HC1 : Hid (∀ W1, Below B wr W1 → Pl B pp f e ps W1 → B ≤ W1.heap.size → Calls Try.prog 76 #[.pointer (some ⟨pp, 0, none⟩), .agg #[.int .i64 k0, .int .u64 (c0.1.toNat : Int), .int .u64 (c0.2.1.toNat : Int), .int .u64 (c0.2.2.1.toNat : Int), .int .u64 (c0.2.2.2.toNat : Int), .slice a0 n0 p0], .int .i64 (nx : Int)] W1 fun e' w' => e' = .returned (.int .i64 ((lay x ps nx).2 : Int)) ∧ Pl B pp f e (lay x ps nx).1 w' ∧ Below B W1 w' ∧ Keep3 W1 w') := fun W1 hb hp hB =>
    h1 _ ps nx B pp f e W1 ((HR.out.1.next (hb0.mono hBw)).next hb) hp hBp hB (by omega)
  have HC2 : Hid (∀ W1, Below B wr W1 → Pl B pp f e (lay x ps nx).1 W1 → B ≤ W1.heap.size → Calls Try.prog 76 #[.pointer (some ⟨pp, 0, none⟩), .agg #[.int .i64 k1, .int .u64 (c1.1.toNat : Int), .int .u64 (c1.2.1.toNat : Int), .int .u64 (c1.2.2.1.toNat : Int), .int .u64 (c1.2.2.2.toNat : Int), .slice a1 n1 p1], .int .i64 (nx : Int)] W1 fun e' w' => e' = .returned (.int .i64 ((lay y (lay x ps nx).1 nx).2 : Int)) ∧ Pl B pp f e (lay y (lay x ps nx).1 nx).1 w' ∧ Below B W1 w' ∧ Keep3 W1 w') := fun W1 hb hp hB =>
    h2 _ _ nx B pp f e W1 ((HR.out.2.1.next (hb0.mono hBw)).next hb) hp hBp hB (by have := (lay_len x ps nx).2; omega)
  obtain ⟨r1v, HV1⟩ : ∃ r : Nat, Hid ((lay x ps nx).2 = r) := ⟨_, (rfl : (lay x ps nx).2 = (lay x ps nx).2)⟩
  obtain ⟨r3v, HV3⟩ : ∃ r : Nat, Hid ((lay y (lay x ps nx).1 nx).1.length = r) := ⟨_, (rfl : (lay y (lay x ps nx).1 nx).1.length = (lay y (lay x ps nx).1 nx).1.length)⟩
  obtain ⟨r2v, HV2⟩ : ∃ r : Nat, Hid ((lay y (lay x ps nx).1 nx).2 = r) := ⟨_, (rfl : (lay y (lay x ps nx).1 nx).2 = (lay y (lay x ps nx).1 nx).2)⟩
  have HC3 : Hid (∀ W1 nb, Pl B pp f e (lay y (lay x ps nx).1 nx).1 W1 → B ≤ W1.heap.size → B ≤ nb → W1.heap[nb]? = some (.cells #[.int .i64 (r1v : Int), .int .i64 (r2v : Int)] 3) → Calls Try.prog 75 #[.pointer (some ⟨pp, 0, none⟩), (.agg #[.int .u64 0, .int .u64 0, .int .u64 0, .int .u64 0, .slice (some ⟨nb, 0, none⟩) 2 2])] W1 fun e' w' => e' = .returned (.int .i64 (r3v : Int)) ∧ Pl B pp f e (lay (.alt x y) ps nx).1 w' ∧ Below B W1 w' ∧ Keep3 W1 w') := fun W1 nb hp hB hnb hz => by
    have h := lay_any B pp f e (lay y (lay x ps nx).1 nx).1 empty (.slice (some ⟨nb, 0, none⟩) 2 2) [r1v, r2v] W1 hp hBp hB (Or.inr ⟨nb, rfl, hnb, hz⟩) (by have := (lay_len x ps nx).2; have := (lay_len y (lay x ps nx).1 nx).2; omega)
    rw [HV3.out] at h
    simp only [lay]
    rw [HV1.out, HV2.out]
    exact h
  rw [HV1.out] at HC1
  rw [HV2.out] at HC2
  have HS : Hid (wr.cell? ⟨bx, 5, none⟩ = some (.slice (some ⟨b, o, none⟩) 2 cap) ∧ wr.cell? ⟨b, o, none⟩ = some (.int .i64 k0) ∧ wr.cell? ⟨b, o + 1, none⟩ = some (.int .u64 (c0.1.toNat : Int)) ∧ wr.cell? ⟨b, o + 2, none⟩ = some (.int .u64 (c0.2.1.toNat : Int)) ∧ wr.cell? ⟨b, o + 3, none⟩ = some (.int .u64 (c0.2.2.1.toNat : Int)) ∧ wr.cell? ⟨b, o + 4, none⟩ = some (.int .u64 (c0.2.2.2.toNat : Int)) ∧ wr.cell? ⟨b, o + 5, none⟩ = some (.slice a0 n0 p0) ∧ wr.cell? ⟨b, o + 6, none⟩ = some (.int .i64 k1) ∧ wr.cell? ⟨b, o + 6 + 1, none⟩ = some (.int .u64 (c1.1.toNat : Int)) ∧ wr.cell? ⟨b, o + 6 + 2, none⟩ = some (.int .u64 (c1.2.1.toNat : Int)) ∧ wr.cell? ⟨b, o + 6 + 3, none⟩ = some (.int .u64 (c1.2.2.1.toNat : Int)) ∧ wr.cell? ⟨b, o + 6 + 4, none⟩ = some (.int .u64 (c1.2.2.2.toNat : Int)) ∧ wr.cell? ⟨b, o + 6 + 5, none⟩ = some (.slice a1 n1 p1)) := hS
  have hBW : B ≤ wr.heap.size := Nat.le_trans hBw hb0.size
  have HP0 : Hid (Pl B pp f e ps wr) := HR.out.2.2.keep hb0
  clear r0 r1 hP hx hcl hS
  go_enter Try.func76, Try.ntmps76
  go_upto_region 9 with fail
  rw [HBX.out, HWR.out]
  go_cut [6] (fun z wx => z = .int .i64 (r3v : Int) ∧ Hid (Below B wr wx ∧ Keep3 wr wx ∧ Pl B pp f e (lay (.alt x y) ps nx).1 wx))
  case first =>
    refine wp_region_inv mixed (fun aa0 d a W => ∃ (nb : Nat) (x6 x40 x41 x42 x43 x44 x45 x46 x47 x48 x49 x50 x51 x52 x53 x54 x55 x56 x57 : Value), a = (((((((((((((((((((aa0.put (some 6) x6).put (some 40) x40).put (some 41) x41).put (some 42) x42).put (some 43) x43).put (some 44) x44).put (some 45) x45).put (some 46) x46).put (some 47) x47).put (some 48) x48).put (some 49) x49).put (some 50) x50).put (some 51) x51).put (some 52) x52).put (some 53) x53).put (some 54) x54).put (some 55) x55).put (some 56) x56).put (some 57) x57) ∧ Hid (CA wr B pp bx b o cap nx r1v r2v r3v f e ps x y k0 k1 c0 c1 a0 a1 n0 p0 n1 p1 nb d x6 x40 x41 x42 x43 x44 x45 x46 x47 x48 x49 x50 x51 x52 x53 x54 x55 x56 x57 W)) (by kernel_rfl) ⟨0, (.int .i64 0), undef, undef, undef, undef, undef, undef, undef, undef, undef, undef, undef, undef, undef, undef, undef, undef, undef, undef, by simp only [Act.put, List.setIfInBounds_toArray, List.set_cons_zero, List.set_cons_succ], ?_⟩ ?_ ?_
    · exact ⟨fun h => rxno_way h, fun h => rxno_way h, fun h => rxno_way h, fun h => rxno_way h, fun h => rxno_way h, fun h => rxno_way h, fun h => rxno_way h, fun h => rxno_way h, fun h => rxno_way h, fun h => rxno_way h, fun h => rxno_way h, fun h => rxno_way h, fun h => rxno_way h, fun h => rxno_way h, fun h => rxno_way h, fun h => rxno_way h, fun h => rxno_way h, fun h => rxno_way h, fun h => rxno_way h, (Below.refl _ wr).drew, Nat.le_refl _, fun _ _ _ _ _ h => h, fun _ => HP0.out.keep (Below.refl _ wr).drew, fun h _ => rxno_way h, fun h _ => rxno_way h, fun h => rxno_way h, fun h _ => rxno_way h, fun h => rxno_way h, fun h => rxno_way h, fun h => rxno_way h, fun h => rxno_way h⟩
    · simp only [StepAll, and_true]
      refine ⟨?_, ?_, ?_, ?_, ?_, ?_, ?_, ?_, ?_, ?_, ?_, ?_, ?_, ?_, ?_, ?_, ?_, ?_, ?_⟩
      · intro d a W hI hd hdep
        obtain ⟨nb, x6, x40, x41, x42, x43, x44, x45, x46, x47, x48, x49, x50, x51, x52, x53, x54, x55, x56, x57, rfl, hF⟩ := hI
        clear hdep hd
        intro K hK
        simp only [Act.put, List.setIfInBounds_toArray, List.set_cons_zero, List.set_cons_succ]
        go_simp
        refine hK.out _ _ ⟨nb, x6, (.pointer (some ⟨pp, 0, none⟩)), x41, x42, x43, x44, x45, x46, x47, x48, x49, x50, x51, x52, x53, x54, x55, x56, x57, by simp only [Act.put, List.setIfInBounds_toArray, List.set_cons_zero, List.set_cons_succ], ?_⟩
        exact ⟨fun _ => rfl, fun h => hF.out.f1 (by simpa using h), fun h => hF.out.f2 (by simpa using h), fun h => hF.out.f3 (by simpa using h), fun h => hF.out.f4 (by simpa using h), fun h => hF.out.f5 (by simpa using h), fun h => hF.out.f6 (by simpa using h), fun h => hF.out.f7 (by simpa using h), fun h => hF.out.f8 (by simpa using h), fun h => hF.out.f9 (by simpa using h), fun h => hF.out.f10 (by simpa using h), fun h => hF.out.f11 (by simpa using h), fun h => hF.out.f12 (by simpa using h), fun h => hF.out.f13 (by simpa using h), fun h => hF.out.f14 (by simpa using h), fun h => hF.out.f15 (by simpa using h), fun h => hF.out.f16 (by simpa using h), fun h => hF.out.f17 (by simpa using h), fun h => hF.out.f18 (by simpa using h), hF.out.below, hF.out.size, hF.out.keep, fun h => hF.out.q0 (by simpa using h), fun h h2 => hF.out.q1 (by simpa using h) (by simpa using h2), fun h h2 => hF.out.q2 (by simpa using h) (by simpa using h2), fun h => hF.out.q3 (by simpa using h), fun h h2 => hF.out.nblk (by simpa using h) (by simpa using h2), fun h => by simpa using hF.out.g14 (by simpa using h), fun h => by simpa using hF.out.g15 (by simpa using h), fun h => by simpa using hF.out.g16 (by simpa using h), fun h => by simpa using hF.out.g17 (by simpa using h)⟩
      · intro d a W hI hd hdep
        obtain ⟨nb, x6, x40, x41, x42, x43, x44, x45, x46, x47, x48, x49, x50, x51, x52, x53, x54, x55, x56, x57, rfl, hF⟩ := hI
        clear hdep hd
        intro K hK
        simp only [Act.put, List.setIfInBounds_toArray, List.set_cons_zero, List.set_cons_succ]
        go_simp
        refine hK.out _ _ ⟨nb, x6, x40, (.pointer (some ⟨pp, 0, none⟩)), x42, x43, x44, x45, x46, x47, x48, x49, x50, x51, x52, x53, x54, x55, x56, x57, by simp only [Act.put, List.setIfInBounds_toArray, List.set_cons_zero, List.set_cons_succ], ?_⟩
        exact ⟨fun h => hF.out.f0 (by simpa using h), fun _ => rfl, fun h => hF.out.f2 (by simpa using h), fun h => hF.out.f3 (by simpa using h), fun h => hF.out.f4 (by simpa using h), fun h => hF.out.f5 (by simpa using h), fun h => hF.out.f6 (by simpa using h), fun h => hF.out.f7 (by simpa using h), fun h => hF.out.f8 (by simpa using h), fun h => hF.out.f9 (by simpa using h), fun h => hF.out.f10 (by simpa using h), fun h => hF.out.f11 (by simpa using h), fun h => hF.out.f12 (by simpa using h), fun h => hF.out.f13 (by simpa using h), fun h => hF.out.f14 (by simpa using h), fun h => hF.out.f15 (by simpa using h), fun h => hF.out.f16 (by simpa using h), fun h => hF.out.f17 (by simpa using h), fun h => hF.out.f18 (by simpa using h), hF.out.below, hF.out.size, hF.out.keep, fun h => hF.out.q0 (by simpa using h), fun h h2 => hF.out.q1 (by simpa using h) (by simpa using h2), fun h h2 => hF.out.q2 (by simpa using h) (by simpa using h2), fun h => hF.out.q3 (by simpa using h), fun h h2 => hF.out.nblk (by simpa using h) (by simpa using h2), fun h => by simpa using hF.out.g14 (by simpa using h), fun h => by simpa using hF.out.g15 (by simpa using h), fun h => by simpa using hF.out.g16 (by simpa using h), fun h => by simpa using hF.out.g17 (by simpa using h)⟩
      · intro d a W hI hd hdep
        obtain ⟨nb, x6, x40, x41, x42, x43, x44, x45, x46, x47, x48, x49, x50, x51, x52, x53, x54, x55, x56, x57, rfl, hF⟩ := hI
        clear hdep hd
        intro K hK
        simp only [Act.put, List.setIfInBounds_toArray, List.set_cons_zero, List.set_cons_succ]
        go_simp
        refine hK.out _ _ ⟨nb, x6, x40, x41, (.pointer (some ⟨bx, 5, none⟩)), x43, x44, x45, x46, x47, x48, x49, x50, x51, x52, x53, x54, x55, x56, x57, by simp only [Act.put, List.setIfInBounds_toArray, List.set_cons_zero, List.set_cons_succ], ?_⟩
        exact ⟨fun h => hF.out.f0 (by simpa using h), fun h => hF.out.f1 (by simpa using h), fun _ => rfl, fun h => hF.out.f3 (by simpa using h), fun h => hF.out.f4 (by simpa using h), fun h => hF.out.f5 (by simpa using h), fun h => hF.out.f6 (by simpa using h), fun h => hF.out.f7 (by simpa using h), fun h => hF.out.f8 (by simpa using h), fun h => hF.out.f9 (by simpa using h), fun h => hF.out.f10 (by simpa using h), fun h => hF.out.f11 (by simpa using h), fun h => hF.out.f12 (by simpa using h), fun h => hF.out.f13 (by simpa using h), fun h => hF.out.f14 (by simpa using h), fun h => hF.out.f15 (by simpa using h), fun h => hF.out.f16 (by simpa using h), fun h => hF.out.f17 (by simpa using h), fun h => hF.out.f18 (by simpa using h), hF.out.below, hF.out.size, hF.out.keep, fun h => hF.out.q0 (by simpa using h), fun h h2 => hF.out.q1 (by simpa using h) (by simpa using h2), fun h h2 => hF.out.q2 (by simpa using h) (by simpa using h2), fun h => hF.out.q3 (by simpa using h), fun h h2 => hF.out.nblk (by simpa using h) (by simpa using h2), fun h => by simpa using hF.out.g14 (by simpa using h), fun h => by simpa using hF.out.g15 (by simpa using h), fun h => by simpa using hF.out.g16 (by simpa using h), fun h => by simpa using hF.out.g17 (by simpa using h)⟩
      · intro d a W hI hd hdep
        obtain ⟨nb, x6, x40, x41, x42, x43, x44, x45, x46, x47, x48, x49, x50, x51, x52, x53, x54, x55, x56, x57, rfl, hF⟩ := hI
        have hd2 : d 2 = true := rxdep_of hdep 2 (by kernel_rfl)
        obtain rfl := hF.out.f2 hd2
        have HSW : Hid (W.cell? ⟨bx, 5, none⟩ = some (.slice (some ⟨b, o, none⟩) 2 cap) ∧ W.cell? ⟨b, o, none⟩ = some (.int .i64 k0) ∧ W.cell? ⟨b, o + 1, none⟩ = some (.int .u64 (c0.1.toNat : Int)) ∧ W.cell? ⟨b, o + 2, none⟩ = some (.int .u64 (c0.2.1.toNat : Int)) ∧ W.cell? ⟨b, o + 3, none⟩ = some (.int .u64 (c0.2.2.1.toNat : Int)) ∧ W.cell? ⟨b, o + 4, none⟩ = some (.int .u64 (c0.2.2.2.toNat : Int)) ∧ W.cell? ⟨b, o + 5, none⟩ = some (.slice a0 n0 p0) ∧ W.cell? ⟨b, o + 6, none⟩ = some (.int .i64 k1) ∧ W.cell? ⟨b, o + 6 + 1, none⟩ = some (.int .u64 (c1.1.toNat : Int)) ∧ W.cell? ⟨b, o + 6 + 2, none⟩ = some (.int .u64 (c1.2.1.toNat : Int)) ∧ W.cell? ⟨b, o + 6 + 3, none⟩ = some (.int .u64 (c1.2.2.1.toNat : Int)) ∧ W.cell? ⟨b, o + 6 + 4, none⟩ = some (.int .u64 (c1.2.2.2.toNat : Int)) ∧ W.cell? ⟨b, o + 6 + 5, none⟩ = some (.slice a1 n1 p1)) := s2_next HZ.out hbB HS.out hF.out.below hF.out.keep
        have s5 := HSW.out.1
        clear HSW
        clear hdep hd hd2
        intro K hK
        simp only [Act.put, List.setIfInBounds_toArray, List.set_cons_zero, List.set_cons_succ]
        go_simp
        refine hK.out _ _ ⟨nb, x6, x40, x41, (.pointer (some ⟨bx, 5, none⟩)), (.slice (some ⟨b, o, none⟩) 2 cap), x44, x45, x46, x47, x48, x49, x50, x51, x52, x53, x54, x55, x56, x57, by simp only [Act.put, List.setIfInBounds_toArray, List.set_cons_zero, List.set_cons_succ], ?_⟩
        exact ⟨fun h => hF.out.f0 (by simpa using h), fun h => hF.out.f1 (by simpa using h), fun h => hF.out.f2 (by simpa using h), fun _ => rfl, fun h => hF.out.f4 (by simpa using h), fun h => hF.out.f5 (by simpa using h), fun h => hF.out.f6 (by simpa using h), fun h => hF.out.f7 (by simpa using h), fun h => hF.out.f8 (by simpa using h), fun h => hF.out.f9 (by simpa using h), fun h => hF.out.f10 (by simpa using h), fun h => hF.out.f11 (by simpa using h), fun h => hF.out.f12 (by simpa using h), fun h => hF.out.f13 (by simpa using h), fun h => hF.out.f14 (by simpa using h), fun h => hF.out.f15 (by simpa using h), fun h => hF.out.f16 (by simpa using h), fun h => hF.out.f17 (by simpa using h), fun h => hF.out.f18 (by simpa using h), hF.out.below, hF.out.size, hF.out.keep, fun h => hF.out.q0 (by simpa using h), fun h h2 => hF.out.q1 (by simpa using h) (by simpa using h2), fun h h2 => hF.out.q2 (by simpa using h) (by simpa using h2), fun h => hF.out.q3 (by simpa using h), fun h h2 => hF.out.nblk (by simpa using h) (by simpa using h2), fun h => by simpa using hF.out.g14 (by simpa using h), fun h => by simpa using hF.out.g15 (by simpa using h), fun h => by simpa using hF.out.g16 (by simpa using h), fun h => by simpa using hF.out.g17 (by simpa using h)⟩
      · intro d a W hI hd hdep
        obtain ⟨nb, x6, x40, x41, x42, x43, x44, x45, x46, x47, x48, x49, x50, x51, x52, x53, x54, x55, x56, x57, rfl, hF⟩ := hI
        have hd3 : d 3 = true := rxdep_of hdep 3 (by kernel_rfl)
        obtain rfl := hF.out.f3 hd3
        clear hdep hd hd3
        intro K hK
        simp only [Act.put, List.setIfInBounds_toArray, List.set_cons_zero, List.set_cons_succ]
        go_simp
        refine hK.out _ _ ⟨nb, x6, x40, x41, x42, (.slice (some ⟨b, o, none⟩) 2 cap), (.pointer (some ⟨b, o, none⟩)), x45, x46, x47, x48, x49, x50, x51, x52, x53, x54, x55, x56, x57, by simp only [Act.put, List.setIfInBounds_toArray, List.set_cons_zero, List.set_cons_succ], ?_⟩
        exact ⟨fun h => hF.out.f0 (by simpa using h), fun h => hF.out.f1 (by simpa using h), fun h => hF.out.f2 (by simpa using h), fun h => hF.out.f3 (by simpa using h), fun _ => rfl, fun h => hF.out.f5 (by simpa using h), fun h => hF.out.f6 (by simpa using h), fun h => hF.out.f7 (by simpa using h), fun h => hF.out.f8 (by simpa using h), fun h => hF.out.f9 (by simpa using h), fun h => hF.out.f10 (by simpa using h), fun h => hF.out.f11 (by simpa using h), fun h => hF.out.f12 (by simpa using h), fun h => hF.out.f13 (by simpa using h), fun h => hF.out.f14 (by simpa using h), fun h => hF.out.f15 (by simpa using h), fun h => hF.out.f16 (by simpa using h), fun h => hF.out.f17 (by simpa using h), fun h => hF.out.f18 (by simpa using h), hF.out.below, hF.out.size, hF.out.keep, fun h => hF.out.q0 (by simpa using h), fun h h2 => hF.out.q1 (by simpa using h) (by simpa using h2), fun h h2 => hF.out.q2 (by simpa using h) (by simpa using h2), fun h => hF.out.q3 (by simpa using h), fun h h2 => hF.out.nblk (by simpa using h) (by simpa using h2), fun h => by simpa using hF.out.g14 (by simpa using h), fun h => by simpa using hF.out.g15 (by simpa using h), fun h => by simpa using hF.out.g16 (by simpa using h), fun h => by simpa using hF.out.g17 (by simpa using h)⟩
      · intro d a W hI hd hdep
        obtain ⟨nb, x6, x40, x41, x42, x43, x44, x45, x46, x47, x48, x49, x50, x51, x52, x53, x54, x55, x56, x57, rfl, hF⟩ := hI
        have hd4 : d 4 = true := rxdep_of hdep 4 (by kernel_rfl)
        obtain rfl := hF.out.f4 hd4
        have HSW : Hid (W.cell? ⟨bx, 5, none⟩ = some (.slice (some ⟨b, o, none⟩) 2 cap) ∧ W.cell? ⟨b, o, none⟩ = some (.int .i64 k0) ∧ W.cell? ⟨b, o + 1, none⟩ = some (.int .u64 (c0.1.toNat : Int)) ∧ W.cell? ⟨b, o + 2, none⟩ = some (.int .u64 (c0.2.1.toNat : Int)) ∧ W.cell? ⟨b, o + 3, none⟩ = some (.int .u64 (c0.2.2.1.toNat : Int)) ∧ W.cell? ⟨b, o + 4, none⟩ = some (.int .u64 (c0.2.2.2.toNat : Int)) ∧ W.cell? ⟨b, o + 5, none⟩ = some (.slice a0 n0 p0) ∧ W.cell? ⟨b, o + 6, none⟩ = some (.int .i64 k1) ∧ W.cell? ⟨b, o + 6 + 1, none⟩ = some (.int .u64 (c1.1.toNat : Int)) ∧ W.cell? ⟨b, o + 6 + 2, none⟩ = some (.int .u64 (c1.2.1.toNat : Int)) ∧ W.cell? ⟨b, o + 6 + 3, none⟩ = some (.int .u64 (c1.2.2.1.toNat : Int)) ∧ W.cell? ⟨b, o + 6 + 4, none⟩ = some (.int .u64 (c1.2.2.2.toNat : Int)) ∧ W.cell? ⟨b, o + 6 + 5, none⟩ = some (.slice a1 n1 p1)) := s2_next HZ.out hbB HS.out hF.out.below hF.out.keep
        have s0 := HSW.out.2.1
        have s1 := HSW.out.2.2.1
        have s2 := HSW.out.2.2.2.1
        have s3 := HSW.out.2.2.2.2.1
        have s4 := HSW.out.2.2.2.2.2.1
        have s5 := HSW.out.2.2.2.2.2.2.1
        clear HSW
        clear hdep hd hd4
        intro K hK
        simp only [Act.put, List.setIfInBounds_toArray, List.set_cons_zero, List.set_cons_succ]
        go_simp
        refine hK.out _ _ ⟨nb, x6, x40, x41, x42, x43, (.pointer (some ⟨b, o, none⟩)), (.agg #[.int .i64 k0, .int .u64 (c0.1.toNat : Int), .int .u64 (c0.2.1.toNat : Int), .int .u64 (c0.2.2.1.toNat : Int), .int .u64 (c0.2.2.2.toNat : Int), .slice a0 n0 p0]), x46, x47, x48, x49, x50, x51, x52, x53, x54, x55, x56, x57, by simp only [Act.put, List.setIfInBounds_toArray, List.set_cons_zero, List.set_cons_succ], ?_⟩
        exact ⟨fun h => hF.out.f0 (by simpa using h), fun h => hF.out.f1 (by simpa using h), fun h => hF.out.f2 (by simpa using h), fun h => hF.out.f3 (by simpa using h), fun h => hF.out.f4 (by simpa using h), fun _ => rfl, fun h => hF.out.f6 (by simpa using h), fun h => hF.out.f7 (by simpa using h), fun h => hF.out.f8 (by simpa using h), fun h => hF.out.f9 (by simpa using h), fun h => hF.out.f10 (by simpa using h), fun h => hF.out.f11 (by simpa using h), fun h => hF.out.f12 (by simpa using h), fun h => hF.out.f13 (by simpa using h), fun h => hF.out.f14 (by simpa using h), fun h => hF.out.f15 (by simpa using h), fun h => hF.out.f16 (by simpa using h), fun h => hF.out.f17 (by simpa using h), fun h => hF.out.f18 (by simpa using h), hF.out.below, hF.out.size, hF.out.keep, fun h => hF.out.q0 (by simpa using h), fun h h2 => hF.out.q1 (by simpa using h) (by simpa using h2), fun h h2 => hF.out.q2 (by simpa using h) (by simpa using h2), fun h => hF.out.q3 (by simpa using h), fun h h2 => hF.out.nblk (by simpa using h) (by simpa using h2), fun h => by simpa using hF.out.g14 (by simpa using h), fun h => by simpa using hF.out.g15 (by simpa using h), fun h => by simpa using hF.out.g16 (by simpa using h), fun h => by simpa using hF.out.g17 (by simpa using h)⟩
      · intro d a W hI hd hdep
        obtain ⟨nb, x6, x40, x41, x42, x43, x44, x45, x46, x47, x48, x49, x50, x51, x52, x53, x54, x55, x56, x57, rfl, hF⟩ := hI
        clear hdep hd
        intro K hK
        simp only [Act.put, List.setIfInBounds_toArray, List.set_cons_zero, List.set_cons_succ]
        go_simp
        refine hK.out _ _ ⟨nb, x6, x40, x41, x42, x43, x44, x45, (.int .i64 (nx : Int)), x47, x48, x49, x50, x51, x52, x53, x54, x55, x56, x57, by simp only [Act.put, List.setIfInBounds_toArray, List.set_cons_zero, List.set_cons_succ], ?_⟩
        exact ⟨fun h => hF.out.f0 (by simpa using h), fun h => hF.out.f1 (by simpa using h), fun h => hF.out.f2 (by simpa using h), fun h => hF.out.f3 (by simpa using h), fun h => hF.out.f4 (by simpa using h), fun h => hF.out.f5 (by simpa using h), fun _ => rfl, fun h => hF.out.f7 (by simpa using h), fun h => hF.out.f8 (by simpa using h), fun h => hF.out.f9 (by simpa using h), fun h => hF.out.f10 (by simpa using h), fun h => hF.out.f11 (by simpa using h), fun h => hF.out.f12 (by simpa using h), fun h => hF.out.f13 (by simpa using h), fun h => hF.out.f14 (by simpa using h), fun h => hF.out.f15 (by simpa using h), fun h => hF.out.f16 (by simpa using h), fun h => hF.out.f17 (by simpa using h), fun h => hF.out.f18 (by simpa using h), hF.out.below, hF.out.size, hF.out.keep, fun h => hF.out.q0 (by simpa using h), fun h h2 => hF.out.q1 (by simpa using h) (by simpa using h2), fun h h2 => hF.out.q2 (by simpa using h) (by simpa using h2), fun h => hF.out.q3 (by simpa using h), fun h h2 => hF.out.nblk (by simpa using h) (by simpa using h2), fun h => by simpa using hF.out.g14 (by simpa using h), fun h => by simpa using hF.out.g15 (by simpa using h), fun h => by simpa using hF.out.g16 (by simpa using h), fun h => by simpa using hF.out.g17 (by simpa using h)⟩
      · intro d a W hI hd hdep
        obtain ⟨nb, x6, x40, x41, x42, x43, x44, x45, x46, x47, x48, x49, x50, x51, x52, x53, x54, x55, x56, x57, rfl, hF⟩ := hI
        have hd1 : d 1 = true := rxdep_of hdep 1 (by kernel_rfl)
        have hd5 : d 5 = true := rxdep_of hdep 5 (by kernel_rfl)
        have hd6 : d 6 = true := rxdep_of hdep 6 (by kernel_rfl)
        obtain rfl := hF.out.f1 hd1
        obtain rfl := hF.out.f5 hd5
        obtain rfl := hF.out.f6 hd6
        have h14 : d 14 = false := by
          cases hx : d 14 with
          | false => rfl
          | true => have := hF.out.g14 hx; rw [hd] at this; cases this
        have h15 : d 15 = false := by
          cases hx : d 15 with
          | false => rfl
          | true => have := hF.out.g14 (hF.out.g15 hx); rw [hd] at this; cases this
        have h17 : d 17 = false := by
          cases hx : d 17 with
          | false => rfl
          | true => have := hF.out.g14 (hF.out.g15 (hF.out.g17 hx)); rw [hd] at this; cases this
        have hcl := HC1.out W hF.out.below (hF.out.q0 hd) (Nat.le_trans hBW hF.out.size)
        have HD : Hid (d 14 = false ∧ d 15 = false ∧ d 17 = false) := ⟨h14, h15, h17⟩
        clear h14 h15 h17
        clear hdep hd hd1 hd5 hd6
        intro K hK
        simp only [Act.put, List.setIfInBounds_toArray, List.set_cons_zero, List.set_cons_succ]
        go_simp
        refine hcl.mono ?_
        rintro e1 W1 ⟨rfl, hp1, hb1, hk1⟩
        go_simp
        refine hK.out _ _ ⟨nb, x6, x40, (.pointer (some ⟨pp, 0, none⟩)), x42, x43, x44, (.agg #[.int .i64 k0, .int .u64 (c0.1.toNat : Int), .int .u64 (c0.2.1.toNat : Int), .int .u64 (c0.2.2.1.toNat : Int), .int .u64 (c0.2.2.2.toNat : Int), .slice a0 n0 p0]), (.int .i64 (nx : Int)), (.int .i64 (r1v : Int)), x48, x49, x50, x51, x52, x53, x54, x55, x56, x57, by simp only [Act.put, List.setIfInBounds_toArray, List.set_cons_zero, List.set_cons_succ], ?_⟩
        exact ⟨fun h => hF.out.f0 (by simpa using h), fun h => hF.out.f1 (by simpa using h), fun h => hF.out.f2 (by simpa using h), fun h => hF.out.f3 (by simpa using h), fun h => hF.out.f4 (by simpa using h), fun h => hF.out.f5 (by simpa using h), fun h => hF.out.f6 (by simpa using h), fun _ => rfl, fun h => hF.out.f8 (by simpa using h), fun h => hF.out.f9 (by simpa using h), fun h => hF.out.f10 (by simpa using h), fun h => hF.out.f11 (by simpa using h), fun h => hF.out.f12 (by simpa using h), fun h => hF.out.f13 (by simpa using h), fun h => hF.out.f14 (by simpa using h), fun h => hF.out.f15 (by simpa using h), fun h => hF.out.f16 (by simpa using h), fun h => hF.out.f17 (by simpa using h), fun h => hF.out.f18 (by simpa using h), hF.out.below.trans hb1, Nat.le_trans hF.out.size hb1.size, hF.out.keep.trans hk1, fun h => by simp at h, fun _ _ => hp1, fun h _ => rxno_way (HD.out.1.symm.trans (show d 14 = true by simpa using h)), fun h => rxno_way (HD.out.2.2.symm.trans (show d 17 = true by simpa using h)), fun h _ => rxno_way (HD.out.2.1.symm.trans (show d 15 = true by simpa using h)), fun _ => by simp, fun h => by simpa using hF.out.g15 (by simpa using h), fun h => by simpa using hF.out.g16 (by simpa using h), fun h => by simpa using hF.out.g17 (by simpa using h)⟩
      · intro d a W hI hd hdep
        obtain ⟨nb, x6, x40, x41, x42, x43, x44, x45, x46, x47, x48, x49, x50, x51, x52, x53, x54, x55, x56, x57, rfl, hF⟩ := hI
        clear hdep hd
        intro K hK
        simp only [Act.put, List.setIfInBounds_toArray, List.set_cons_zero, List.set_cons_succ]
        go_simp
        refine hK.out _ _ ⟨nb, x6, x40, x41, x42, x43, x44, x45, x46, x47, (.pointer (some ⟨pp, 0, none⟩)), x49, x50, x51, x52, x53, x54, x55, x56, x57, by simp only [Act.put, List.setIfInBounds_toArray, List.set_cons_zero, List.set_cons_succ], ?_⟩
        exact ⟨fun h => hF.out.f0 (by simpa using h), fun h => hF.out.f1 (by simpa using h), fun h => hF.out.f2 (by simpa using h), fun h => hF.out.f3 (by simpa using h), fun h => hF.out.f4 (by simpa using h), fun h => hF.out.f5 (by simpa using h), fun h => hF.out.f6 (by simpa using h), fun h => hF.out.f7 (by simpa using h), fun _ => rfl, fun h => hF.out.f9 (by simpa using h), fun h => hF.out.f10 (by simpa using h), fun h => hF.out.f11 (by simpa using h), fun h => hF.out.f12 (by simpa using h), fun h => hF.out.f13 (by simpa using h), fun h => hF.out.f14 (by simpa using h), fun h => hF.out.f15 (by simpa using h), fun h => hF.out.f16 (by simpa using h), fun h => hF.out.f17 (by simpa using h), fun h => hF.out.f18 (by simpa using h), hF.out.below, hF.out.size, hF.out.keep, fun h => hF.out.q0 (by simpa using h), fun h h2 => hF.out.q1 (by simpa using h) (by simpa using h2), fun h h2 => hF.out.q2 (by simpa using h) (by simpa using h2), fun h => hF.out.q3 (by simpa using h), fun h h2 => hF.out.nblk (by simpa using h) (by simpa using h2), fun h => by simpa using hF.out.g14 (by simpa using h), fun h => by simpa using hF.out.g15 (by simpa using h), fun h => by simpa using hF.out.g16 (by simpa using h), fun h => by simpa using hF.out.g17 (by simpa using h)⟩
      · intro d a W hI hd hdep
        obtain ⟨nb, x6, x40, x41, x42, x43, x44, x45, x46, x47, x48, x49, x50, x51, x52, x53, x54, x55, x56, x57, rfl, hF⟩ := hI
        clear hdep hd
        intro K hK
        simp only [Act.put, List.setIfInBounds_toArray, List.set_cons_zero, List.set_cons_succ]
        go_simp
        refine hK.out _ _ ⟨nb, x6, x40, x41, x42, x43, x44, x45, x46, x47, x48, (.pointer (some ⟨bx, 5, none⟩)), x50, x51, x52, x53, x54, x55, x56, x57, by simp only [Act.put, List.setIfInBounds_toArray, List.set_cons_zero, List.set_cons_succ], ?_⟩
        exact ⟨fun h => hF.out.f0 (by simpa using h), fun h => hF.out.f1 (by simpa using h), fun h => hF.out.f2 (by simpa using h), fun h => hF.out.f3 (by simpa using h), fun h => hF.out.f4 (by simpa using h), fun h => hF.out.f5 (by simpa using h), fun h => hF.out.f6 (by simpa using h), fun h => hF.out.f7 (by simpa using h), fun h => hF.out.f8 (by simpa using h), fun _ => rfl, fun h => hF.out.f10 (by simpa using h), fun h => hF.out.f11 (by simpa using h), fun h => hF.out.f12 (by simpa using h), fun h => hF.out.f13 (by simpa using h), fun h => hF.out.f14 (by simpa using h), fun h => hF.out.f15 (by simpa using h), fun h => hF.out.f16 (by simpa using h), fun h => hF.out.f17 (by simpa using h), fun h => hF.out.f18 (by simpa using h), hF.out.below, hF.out.size, hF.out.keep, fun h => hF.out.q0 (by simpa using h), fun h h2 => hF.out.q1 (by simpa using h) (by simpa using h2), fun h h2 => hF.out.q2 (by simpa using h) (by simpa using h2), fun h => hF.out.q3 (by simpa using h), fun h h2 => hF.out.nblk (by simpa using h) (by simpa using h2), fun h => by simpa using hF.out.g14 (by simpa using h), fun h => by simpa using hF.out.g15 (by simpa using h), fun h => by simpa using hF.out.g16 (by simpa using h), fun h => by simpa using hF.out.g17 (by simpa using h)⟩
      · intro d a W hI hd hdep
        obtain ⟨nb, x6, x40, x41, x42, x43, x44, x45, x46, x47, x48, x49, x50, x51, x52, x53, x54, x55, x56, x57, rfl, hF⟩ := hI
        have hd9 : d 9 = true := rxdep_of hdep 9 (by kernel_rfl)
        obtain rfl := hF.out.f9 hd9
        have HSW : Hid (W.cell? ⟨bx, 5, none⟩ = some (.slice (some ⟨b, o, none⟩) 2 cap) ∧ W.cell? ⟨b, o, none⟩ = some (.int .i64 k0) ∧ W.cell? ⟨b, o + 1, none⟩ = some (.int .u64 (c0.1.toNat : Int)) ∧ W.cell? ⟨b, o + 2, none⟩ = some (.int .u64 (c0.2.1.toNat : Int)) ∧ W.cell? ⟨b, o + 3, none⟩ = some (.int .u64 (c0.2.2.1.toNat : Int)) ∧ W.cell? ⟨b, o + 4, none⟩ = some (.int .u64 (c0.2.2.2.toNat : Int)) ∧ W.cell? ⟨b, o + 5, none⟩ = some (.slice a0 n0 p0) ∧ W.cell? ⟨b, o + 6, none⟩ = some (.int .i64 k1) ∧ W.cell? ⟨b, o + 6 + 1, none⟩ = some (.int .u64 (c1.1.toNat : Int)) ∧ W.cell? ⟨b, o + 6 + 2, none⟩ = some (.int .u64 (c1.2.1.toNat : Int)) ∧ W.cell? ⟨b, o + 6 + 3, none⟩ = some (.int .u64 (c1.2.2.1.toNat : Int)) ∧ W.cell? ⟨b, o + 6 + 4, none⟩ = some (.int .u64 (c1.2.2.2.toNat : Int)) ∧ W.cell? ⟨b, o + 6 + 5, none⟩ = some (.slice a1 n1 p1)) := s2_next HZ.out hbB HS.out hF.out.below hF.out.keep
        have s5 := HSW.out.1
        clear HSW
        clear hdep hd hd9
        intro K hK
        simp only [Act.put, List.setIfInBounds_toArray, List.set_cons_zero, List.set_cons_succ]
        go_simp
        refine hK.out _ _ ⟨nb, x6, x40, x41, x42, x43, x44, x45, x46, x47, x48, (.pointer (some ⟨bx, 5, none⟩)), (.slice (some ⟨b, o, none⟩) 2 cap), x51, x52, x53, x54, x55, x56, x57, by simp only [Act.put, List.setIfInBounds_toArray, List.set_cons_zero, List.set_cons_succ], ?_⟩
        exact ⟨fun h => hF.out.f0 (by simpa using h), fun h => hF.out.f1 (by simpa using h), fun h => hF.out.f2 (by simpa using h), fun h => hF.out.f3 (by simpa using h), fun h => hF.out.f4 (by simpa using h), fun h => hF.out.f5 (by simpa using h), fun h => hF.out.f6 (by simpa using h), fun h => hF.out.f7 (by simpa using h), fun h => hF.out.f8 (by simpa using h), fun h => hF.out.f9 (by simpa using h), fun _ => rfl, fun h => hF.out.f11 (by simpa using h), fun h => hF.out.f12 (by simpa using h), fun h => hF.out.f13 (by simpa using h), fun h => hF.out.f14 (by simpa using h), fun h => hF.out.f15 (by simpa using h), fun h => hF.out.f16 (by simpa using h), fun h => hF.out.f17 (by simpa using h), fun h => hF.out.f18 (by simpa using h), hF.out.below, hF.out.size, hF.out.keep, fun h => hF.out.q0 (by simpa using h), fun h h2 => hF.out.q1 (by simpa using h) (by simpa using h2), fun h h2 => hF.out.q2 (by simpa using h) (by simpa using h2), fun h => hF.out.q3 (by simpa using h), fun h h2 => hF.out.nblk (by simpa using h) (by simpa using h2), fun h => by simpa using hF.out.g14 (by simpa using h), fun h => by simpa using hF.out.g15 (by simpa using h), fun h => by simpa using hF.out.g16 (by simpa using h), fun h => by simpa using hF.out.g17 (by simpa using h)⟩
      · intro d a W hI hd hdep
        obtain ⟨nb, x6, x40, x41, x42, x43, x44, x45, x46, x47, x48, x49, x50, x51, x52, x53, x54, x55, x56, x57, rfl, hF⟩ := hI
        have hd10 : d 10 = true := rxdep_of hdep 10 (by kernel_rfl)
        obtain rfl := hF.out.f10 hd10
        clear hdep hd hd10
        intro K hK
        simp only [Act.put, List.setIfInBounds_toArray, List.set_cons_zero, List.set_cons_succ]
        go_simp
        refine hK.out _ _ ⟨nb, x6, x40, x41, x42, x43, x44, x45, x46, x47, x48, x49, (.slice (some ⟨b, o, none⟩) 2 cap), (.pointer (some ⟨b, o + 6, none⟩)), x52, x53, x54, x55, x56, x57, by simp only [Act.put, List.setIfInBounds_toArray, List.set_cons_zero, List.set_cons_succ], ?_⟩
        exact ⟨fun h => hF.out.f0 (by simpa using h), fun h => hF.out.f1 (by simpa using h), fun h => hF.out.f2 (by simpa using h), fun h => hF.out.f3 (by simpa using h), fun h => hF.out.f4 (by simpa using h), fun h => hF.out.f5 (by simpa using h), fun h => hF.out.f6 (by simpa using h), fun h => hF.out.f7 (by simpa using h), fun h => hF.out.f8 (by simpa using h), fun h => hF.out.f9 (by simpa using h), fun h => hF.out.f10 (by simpa using h), fun _ => rfl, fun h => hF.out.f12 (by simpa using h), fun h => hF.out.f13 (by simpa using h), fun h => hF.out.f14 (by simpa using h), fun h => hF.out.f15 (by simpa using h), fun h => hF.out.f16 (by simpa using h), fun h => hF.out.f17 (by simpa using h), fun h => hF.out.f18 (by simpa using h), hF.out.below, hF.out.size, hF.out.keep, fun h => hF.out.q0 (by simpa using h), fun h h2 => hF.out.q1 (by simpa using h) (by simpa using h2), fun h h2 => hF.out.q2 (by simpa using h) (by simpa using h2), fun h => hF.out.q3 (by simpa using h), fun h h2 => hF.out.nblk (by simpa using h) (by simpa using h2), fun h => by simpa using hF.out.g14 (by simpa using h), fun h => by simpa using hF.out.g15 (by simpa using h), fun h => by simpa using hF.out.g16 (by simpa using h), fun h => by simpa using hF.out.g17 (by simpa using h)⟩
      · intro d a W hI hd hdep
        obtain ⟨nb, x6, x40, x41, x42, x43, x44, x45, x46, x47, x48, x49, x50, x51, x52, x53, x54, x55, x56, x57, rfl, hF⟩ := hI
        have hd11 : d 11 = true := rxdep_of hdep 11 (by kernel_rfl)
        obtain rfl := hF.out.f11 hd11
        have HSW : Hid (W.cell? ⟨bx, 5, none⟩ = some (.slice (some ⟨b, o, none⟩) 2 cap) ∧ W.cell? ⟨b, o, none⟩ = some (.int .i64 k0) ∧ W.cell? ⟨b, o + 1, none⟩ = some (.int .u64 (c0.1.toNat : Int)) ∧ W.cell? ⟨b, o + 2, none⟩ = some (.int .u64 (c0.2.1.toNat : Int)) ∧ W.cell? ⟨b, o + 3, none⟩ = some (.int .u64 (c0.2.2.1.toNat : Int)) ∧ W.cell? ⟨b, o + 4, none⟩ = some (.int .u64 (c0.2.2.2.toNat : Int)) ∧ W.cell? ⟨b, o + 5, none⟩ = some (.slice a0 n0 p0) ∧ W.cell? ⟨b, o + 6, none⟩ = some (.int .i64 k1) ∧ W.cell? ⟨b, o + 6 + 1, none⟩ = some (.int .u64 (c1.1.toNat : Int)) ∧ W.cell? ⟨b, o + 6 + 2, none⟩ = some (.int .u64 (c1.2.1.toNat : Int)) ∧ W.cell? ⟨b, o + 6 + 3, none⟩ = some (.int .u64 (c1.2.2.1.toNat : Int)) ∧ W.cell? ⟨b, o + 6 + 4, none⟩ = some (.int .u64 (c1.2.2.2.toNat : Int)) ∧ W.cell? ⟨b, o + 6 + 5, none⟩ = some (.slice a1 n1 p1)) := s2_next HZ.out hbB HS.out hF.out.below hF.out.keep
        have s0 := HSW.out.2.2.2.2.2.2.2.1
        have s1 := HSW.out.2.2.2.2.2.2.2.2.1
        have s2 := HSW.out.2.2.2.2.2.2.2.2.2.1
        have s3 := HSW.out.2.2.2.2.2.2.2.2.2.2.1
        have s4 := HSW.out.2.2.2.2.2.2.2.2.2.2.2.1
        have s5 := HSW.out.2.2.2.2.2.2.2.2.2.2.2.2
        clear HSW
        clear hdep hd hd11
        intro K hK
        simp only [Act.put, List.setIfInBounds_toArray, List.set_cons_zero, List.set_cons_succ]
        go_simp
        refine hK.out _ _ ⟨nb, x6, x40, x41, x42, x43, x44, x45, x46, x47, x48, x49, x50, (.pointer (some ⟨b, o + 6, none⟩)), (.agg #[.int .i64 k1, .int .u64 (c1.1.toNat : Int), .int .u64 (c1.2.1.toNat : Int), .int .u64 (c1.2.2.1.toNat : Int), .int .u64 (c1.2.2.2.toNat : Int), .slice a1 n1 p1]), x53, x54, x55, x56, x57, by simp only [Act.put, List.setIfInBounds_toArray, List.set_cons_zero, List.set_cons_succ], ?_⟩
        exact ⟨fun h => hF.out.f0 (by simpa using h), fun h => hF.out.f1 (by simpa using h), fun h => hF.out.f2 (by simpa using h), fun h => hF.out.f3 (by simpa using h), fun h => hF.out.f4 (by simpa using h), fun h => hF.out.f5 (by simpa using h), fun h => hF.out.f6 (by simpa using h), fun h => hF.out.f7 (by simpa using h), fun h => hF.out.f8 (by simpa using h), fun h => hF.out.f9 (by simpa using h), fun h => hF.out.f10 (by simpa using h), fun h => hF.out.f11 (by simpa using h), fun _ => rfl, fun h => hF.out.f13 (by simpa using h), fun h => hF.out.f14 (by simpa using h), fun h => hF.out.f15 (by simpa using h), fun h => hF.out.f16 (by simpa using h), fun h => hF.out.f17 (by simpa using h), fun h => hF.out.f18 (by simpa using h), hF.out.below, hF.out.size, hF.out.keep, fun h => hF.out.q0 (by simpa using h), fun h h2 => hF.out.q1 (by simpa using h) (by simpa using h2), fun h h2 => hF.out.q2 (by simpa using h) (by simpa using h2), fun h => hF.out.q3 (by simpa using h), fun h h2 => hF.out.nblk (by simpa using h) (by simpa using h2), fun h => by simpa using hF.out.g14 (by simpa using h), fun h => by simpa using hF.out.g15 (by simpa using h), fun h => by simpa using hF.out.g16 (by simpa using h), fun h => by simpa using hF.out.g17 (by simpa using h)⟩
      · intro d a W hI hd hdep
        obtain ⟨nb, x6, x40, x41, x42, x43, x44, x45, x46, x47, x48, x49, x50, x51, x52, x53, x54, x55, x56, x57, rfl, hF⟩ := hI
        clear hdep hd
        intro K hK
        simp only [Act.put, List.setIfInBounds_toArray, List.set_cons_zero, List.set_cons_succ]
        go_simp
        refine hK.out _ _ ⟨nb, x6, x40, x41, x42, x43, x44, x45, x46, x47, x48, x49, x50, x51, x52, (.int .i64 (nx : Int)), x54, x55, x56, x57, by simp only [Act.put, List.setIfInBounds_toArray, List.set_cons_zero, List.set_cons_succ], ?_⟩
        exact ⟨fun h => hF.out.f0 (by simpa using h), fun h => hF.out.f1 (by simpa using h), fun h => hF.out.f2 (by simpa using h), fun h => hF.out.f3 (by simpa using h), fun h => hF.out.f4 (by simpa using h), fun h => hF.out.f5 (by simpa using h), fun h => hF.out.f6 (by simpa using h), fun h => hF.out.f7 (by simpa using h), fun h => hF.out.f8 (by simpa using h), fun h => hF.out.f9 (by simpa using h), fun h => hF.out.f10 (by simpa using h), fun h => hF.out.f11 (by simpa using h), fun h => hF.out.f12 (by simpa using h), fun _ => rfl, fun h => hF.out.f14 (by simpa using h), fun h => hF.out.f15 (by simpa using h), fun h => hF.out.f16 (by simpa using h), fun h => hF.out.f17 (by simpa using h), fun h => hF.out.f18 (by simpa using h), hF.out.below, hF.out.size, hF.out.keep, fun h => hF.out.q0 (by simpa using h), fun h h2 => hF.out.q1 (by simpa using h) (by simpa using h2), fun h h2 => hF.out.q2 (by simpa using h) (by simpa using h2), fun h => hF.out.q3 (by simpa using h), fun h h2 => hF.out.nblk (by simpa using h) (by simpa using h2), fun h => by simpa using hF.out.g14 (by simpa using h), fun h => by simpa using hF.out.g15 (by simpa using h), fun h => by simpa using hF.out.g16 (by simpa using h), fun h => by simpa using hF.out.g17 (by simpa using h)⟩
      · intro d a W hI hd hdep
        obtain ⟨nb, x6, x40, x41, x42, x43, x44, x45, x46, x47, x48, x49, x50, x51, x52, x53, x54, x55, x56, x57, rfl, hF⟩ := hI
        have hd8 : d 8 = true := rxdep_of hdep 8 (by kernel_rfl)
        have hd12 : d 12 = true := rxdep_of hdep 12 (by kernel_rfl)
        have hd13 : d 13 = true := rxdep_of hdep 13 (by kernel_rfl)
        have hd7 : d 7 = true := rxdep_of hdep 7 (by kernel_rfl)
        obtain rfl := hF.out.f8 hd8
        obtain rfl := hF.out.f12 hd12
        obtain rfl := hF.out.f13 hd13
        obtain rfl := hF.out.f7 hd7
        have h15 : d 15 = false := by
          cases hx : d 15 with
          | false => rfl
          | true => have := hF.out.g15 hx; rw [hd] at this; cases this
        have h17 : d 17 = false := by
          cases hx : d 17 with
          | false => rfl
          | true => have := hF.out.g15 (hF.out.g17 hx); rw [hd] at this; cases this
        have hcl := HC2.out W hF.out.below (hF.out.q1 hd7 hd) (Nat.le_trans hBW hF.out.size)
        have HD : Hid (d 7 = true ∧ d 15 = false ∧ d 17 = false) := ⟨hd7, h15, h17⟩
        clear h15 h17
        clear hdep hd hd8 hd12 hd13 hd7
        intro K hK
        simp only [Act.put, List.setIfInBounds_toArray, List.set_cons_zero, List.set_cons_succ]
        go_simp
        refine hcl.mono ?_
        rintro e1 W1 ⟨rfl, hp1, hb1, hk1⟩
        go_simp
        refine hK.out _ _ ⟨nb, x6, x40, x41, x42, x43, x44, x45, x46, (.int .i64 (r1v : Int)), (.pointer (some ⟨pp, 0, none⟩)), x49, x50, x51, (.agg #[.int .i64 k1, .int .u64 (c1.1.toNat : Int), .int .u64 (c1.2.1.toNat : Int), .int .u64 (c1.2.2.1.toNat : Int), .int .u64 (c1.2.2.2.toNat : Int), .slice a1 n1 p1]), (.int .i64 (nx : Int)), (.int .i64 (r2v : Int)), x55, x56, x57, by simp only [Act.put, List.setIfInBounds_toArray, List.set_cons_zero, List.set_cons_succ], ?_⟩
        exact ⟨fun h => hF.out.f0 (by simpa using h), fun h => hF.out.f1 (by simpa using h), fun h => hF.out.f2 (by simpa using h), fun h => hF.out.f3 (by simpa using h), fun h => hF.out.f4 (by simpa using h), fun h => hF.out.f5 (by simpa using h), fun h => hF.out.f6 (by simpa using h), fun h => hF.out.f7 (by simpa using h), fun h => hF.out.f8 (by simpa using h), fun h => hF.out.f9 (by simpa using h), fun h => hF.out.f10 (by simpa using h), fun h => hF.out.f11 (by simpa using h), fun h => hF.out.f12 (by simpa using h), fun h => hF.out.f13 (by simpa using h), fun _ => rfl, fun h => hF.out.f15 (by simpa using h), fun h => hF.out.f16 (by simpa using h), fun h => hF.out.f17 (by simpa using h), fun h => hF.out.f18 (by simpa using h), hF.out.below.trans hb1, Nat.le_trans hF.out.size hb1.size, hF.out.keep.trans hk1, fun h => rxno_way ((show d 7 = false by simpa using h).symm.trans HD.out.1), fun _ h => by simp at h, fun _ _ => hp1, fun h => rxno_way (HD.out.2.2.symm.trans (show d 17 = true by simpa using h)), fun h _ => rxno_way (HD.out.2.1.symm.trans (show d 15 = true by simpa using h)), fun _ => by simpa using HD.out.1, fun _ => by simp, fun h => by simpa using hF.out.g16 (by simpa using h), fun h => by simpa using hF.out.g17 (by simpa using h)⟩
      · intro d a W hI hd hdep
        obtain ⟨nb, x6, x40, x41, x42, x43, x44, x45, x46, x47, x48, x49, x50, x51, x52, x53, x54, x55, x56, x57, rfl, hF⟩ := hI
        have hd7 : d 7 = true := rxdep_of hdep 7 (by kernel_rfl)
        have hd14 : d 14 = true := rxdep_of hdep 14 (by kernel_rfl)
        obtain rfl := hF.out.f7 hd7
        obtain rfl := hF.out.f14 hd14
        have h16 : d 16 = false := by
          cases hx : d 16 with
          | false => rfl
          | true => have := hF.out.g16 hx; rw [hd] at this; cases this
        have h17 : d 17 = false := by
          cases hx : d 17 with
          | false => rfl
          | true => have := hF.out.g17 hx; rw [hd] at this; cases this
        have HD : Hid (d 14 = true ∧ d 16 = false ∧ d 17 = false) := ⟨hd14, h16, h17⟩
        clear h16 h17
        clear hdep hd hd7 hd14
        intro K hK
        simp only [Act.put, List.setIfInBounds_toArray, List.set_cons_zero, List.set_cons_succ]
        go_simp
        refine hK.out _ _ ⟨W.heap.size, x6, x40, x41, x42, x43, x44, x45, x46, (.int .i64 (r1v : Int)), x48, x49, x50, x51, x52, x53, (.int .i64 (r2v : Int)), (.slice (some ⟨W.heap.size, 0, none⟩) 2 2), x56, x57, by simp only [Act.put, List.setIfInBounds_toArray, List.set_cons_zero, List.set_cons_succ], ?_⟩
        have hb := box_keep W (.cells #[.int .i64 (r1v : Int), .int .i64 (r2v : Int)] 3)
        have hBW2 : B ≤ W.heap.size := Nat.le_trans hBW hF.out.size
        exact ⟨fun h => hF.out.f0 (by simpa using h), fun h => hF.out.f1 (by simpa using h), fun h => hF.out.f2 (by simpa using h), fun h => hF.out.f3 (by simpa using h), fun h => hF.out.f4 (by simpa using h), fun h => hF.out.f5 (by simpa using h), fun h => hF.out.f6 (by simpa using h), fun h => hF.out.f7 (by simpa using h), fun h => hF.out.f8 (by simpa using h), fun h => hF.out.f9 (by simpa using h), fun h => hF.out.f10 (by simpa using h), fun h => hF.out.f11 (by simpa using h), fun h => hF.out.f12 (by simpa using h), fun h => hF.out.f13 (by simpa using h), fun h => hF.out.f14 (by simpa using h), fun _ => rfl, fun h => rxno_way (HD.out.2.1.symm.trans (show d 16 = true by simpa using h)), fun h => hF.out.f17 (by simpa using h), fun h => hF.out.f18 (by simpa using h), hF.out.below.alloc hBW2 _, Nat.le_trans hF.out.size hb.size, hF.out.keep.below hb, fun h => (hF.out.q0 (by simpa using h)).keep hb, fun h h2 => (hF.out.q1 (by simpa using h) (by simpa using h2)).keep hb, fun h h2 => (hF.out.q2 (by simpa using h) (by simpa using h2)).keep hb, fun h => rxno_way (HD.out.2.2.symm.trans (show d 17 = true by simpa using h)), fun _ _ => ⟨block_new W _, hBW2⟩, fun h => by simpa using hF.out.g14 (by simpa using h), fun _ => by simpa using HD.out.1, fun _ => by simp, fun _ => by simp⟩
      · intro d a W hI hd hdep
        obtain ⟨nb, x6, x40, x41, x42, x43, x44, x45, x46, x47, x48, x49, x50, x51, x52, x53, x54, x55, x56, x57, rfl, hF⟩ := hI
        have hd15 : d 15 = true := rxdep_of hdep 15 (by kernel_rfl)
        obtain rfl := hF.out.f15 hd15
        have HD : Hid (d 15 = true) := hd15
        clear hdep hd hd15
        intro K hK
        simp only [Act.put, List.setIfInBounds_toArray, List.set_cons_zero, List.set_cons_succ]
        go_simp
        refine hK.out _ _ ⟨nb, x6, x40, x41, x42, x43, x44, x45, x46, x47, x48, x49, x50, x51, x52, x53, x54, (.slice (some ⟨nb, 0, none⟩) 2 2), (.agg #[.int .u64 0, .int .u64 0, .int .u64 0, .int .u64 0, .slice (some ⟨nb, 0, none⟩) 2 2]), x57, by simp only [Act.put, List.setIfInBounds_toArray, List.set_cons_zero, List.set_cons_succ], ?_⟩
        exact ⟨fun h => hF.out.f0 (by simpa using h), fun h => hF.out.f1 (by simpa using h), fun h => hF.out.f2 (by simpa using h), fun h => hF.out.f3 (by simpa using h), fun h => hF.out.f4 (by simpa using h), fun h => hF.out.f5 (by simpa using h), fun h => hF.out.f6 (by simpa using h), fun h => hF.out.f7 (by simpa using h), fun h => hF.out.f8 (by simpa using h), fun h => hF.out.f9 (by simpa using h), fun h => hF.out.f10 (by simpa using h), fun h => hF.out.f11 (by simpa using h), fun h => hF.out.f12 (by simpa using h), fun h => hF.out.f13 (by simpa using h), fun h => hF.out.f14 (by simpa using h), fun h => hF.out.f15 (by simpa using h), fun _ => rfl, fun h => hF.out.f17 (by simpa using h), fun h => hF.out.f18 (by simpa using h), hF.out.below, hF.out.size, hF.out.keep, fun h => hF.out.q0 (by simpa using h), fun h h2 => hF.out.q1 (by simpa using h) (by simpa using h2), fun h h2 => hF.out.q2 (by simpa using h) (by simpa using h2), fun h => hF.out.q3 (by simpa using h), fun h h2 => hF.out.nblk (by simpa using h) (by simpa using h2), fun h => by simpa using hF.out.g14 (by simpa using h), fun h => by simpa using hF.out.g15 (by simpa using h), fun _ => by simpa using HD.out, fun h => by simpa using hF.out.g17 (by simpa using h)⟩
      · intro d a W hI hd hdep
        obtain ⟨nb, x6, x40, x41, x42, x43, x44, x45, x46, x47, x48, x49, x50, x51, x52, x53, x54, x55, x56, x57, rfl, hF⟩ := hI
        have hd0 : d 0 = true := rxdep_of hdep 0 (by kernel_rfl)
        have hd16 : d 16 = true := rxdep_of hdep 16 (by kernel_rfl)
        have hd14 : d 14 = true := rxdep_of hdep 14 (by kernel_rfl)
        obtain rfl := hF.out.f0 hd0
        obtain rfl := hF.out.f16 hd16
        obtain rfl := hF.out.f14 hd14
        have h15 := hF.out.g16 hd16
        have h7 := hF.out.g14 hd14
        have hcl := HC3.out W nb (hF.out.q2 hd14 hd) (Nat.le_trans hBW hF.out.size) (hF.out.nblk h15 hd).2 (hF.out.nblk h15 hd).1
        have HD : Hid (d 7 = true ∧ d 14 = true ∧ d 15 = true) := ⟨h7, hd14, h15⟩
        clear h7 h15
        clear hdep hd hd0 hd16 hd14
        intro K hK
        simp only [Act.put, List.setIfInBounds_toArray, List.set_cons_zero, List.set_cons_succ]
        go_simp
        refine hcl.mono ?_
        rintro e1 W1 ⟨rfl, hp1, hb1, hk1⟩
        go_simp
        refine hK.out _ _ ⟨nb, x6, (.pointer (some ⟨pp, 0, none⟩)), x41, x42, x43, x44, x45, x46, x47, x48, x49, x50, x51, x52, x53, (.int .i64 (r2v : Int)), x55, (.agg #[.int .u64 0, .int .u64 0, .int .u64 0, .int .u64 0, .slice (some ⟨nb, 0, none⟩) 2 2]), (.int .i64 (r3v : Int)), by simp only [Act.put, List.setIfInBounds_toArray, List.set_cons_zero, List.set_cons_succ], ?_⟩
        exact ⟨fun h => hF.out.f0 (by simpa using h), fun h => hF.out.f1 (by simpa using h), fun h => hF.out.f2 (by simpa using h), fun h => hF.out.f3 (by simpa using h), fun h => hF.out.f4 (by simpa using h), fun h => hF.out.f5 (by simpa using h), fun h => hF.out.f6 (by simpa using h), fun h => hF.out.f7 (by simpa using h), fun h => hF.out.f8 (by simpa using h), fun h => hF.out.f9 (by simpa using h), fun h => hF.out.f10 (by simpa using h), fun h => hF.out.f11 (by simpa using h), fun h => hF.out.f12 (by simpa using h), fun h => hF.out.f13 (by simpa using h), fun h => hF.out.f14 (by simpa using h), fun h => hF.out.f15 (by simpa using h), fun h => hF.out.f16 (by simpa using h), fun _ => rfl, fun h => hF.out.f18 (by simpa using h), hF.out.below.trans hb1, Nat.le_trans hF.out.size hb1.size, hF.out.keep.trans hk1, fun h => rxno_way ((show d 7 = false by simpa using h).symm.trans HD.out.1), fun _ h => rxno_way ((show d 14 = false by simpa using h).symm.trans HD.out.2.1), fun _ h => by simp at h, fun _ => hp1, fun _ h => by simp at h, fun h => by simpa using hF.out.g14 (by simpa using h), fun h => by simpa using hF.out.g15 (by simpa using h), fun h => by simpa using hF.out.g16 (by simpa using h), fun _ => by simpa using HD.out.2.2⟩
      · intro d a W hI hd hdep
        obtain ⟨nb, x6, x40, x41, x42, x43, x44, x45, x46, x47, x48, x49, x50, x51, x52, x53, x54, x55, x56, x57, rfl, hF⟩ := hI
        have hd17 : d 17 = true := rxdep_of hdep 17 (by kernel_rfl)
        obtain rfl := hF.out.f17 hd17
        clear hdep hd hd17
        intro K hK
        simp only [Act.put, List.setIfInBounds_toArray, List.set_cons_zero, List.set_cons_succ]
        go_simp
        refine hK.out _ _ ⟨nb, (.int .i64 (r3v : Int)), x40, x41, x42, x43, x44, x45, x46, x47, x48, x49, x50, x51, x52, x53, x54, x55, x56, (.int .i64 (r3v : Int)), by simp only [Act.put, List.setIfInBounds_toArray, List.set_cons_zero, List.set_cons_succ], ?_⟩
        exact ⟨fun h => hF.out.f0 (by simpa using h), fun h => hF.out.f1 (by simpa using h), fun h => hF.out.f2 (by simpa using h), fun h => hF.out.f3 (by simpa using h), fun h => hF.out.f4 (by simpa using h), fun h => hF.out.f5 (by simpa using h), fun h => hF.out.f6 (by simpa using h), fun h => hF.out.f7 (by simpa using h), fun h => hF.out.f8 (by simpa using h), fun h => hF.out.f9 (by simpa using h), fun h => hF.out.f10 (by simpa using h), fun h => hF.out.f11 (by simpa using h), fun h => hF.out.f12 (by simpa using h), fun h => hF.out.f13 (by simpa using h), fun h => hF.out.f14 (by simpa using h), fun h => hF.out.f15 (by simpa using h), fun h => hF.out.f16 (by simpa using h), fun h => hF.out.f17 (by simpa using h), fun _ => rfl, hF.out.below, hF.out.size, hF.out.keep, fun h => hF.out.q0 (by simpa using h), fun h h2 => hF.out.q1 (by simpa using h) (by simpa using h2), fun h h2 => hF.out.q2 (by simpa using h) (by simpa using h2), fun h => hF.out.q3 (by simpa using h), fun h h2 => hF.out.nblk (by simpa using h) (by simpa using h2), fun h => by simpa using hF.out.g14 (by simpa using h), fun h => by simpa using hF.out.g15 (by simpa using h), fun h => by simpa using hF.out.g16 (by simpa using h), fun h => by simpa using hF.out.g17 (by simpa using h)⟩
    · intro d a W hI hall
      obtain ⟨nb, x6, x40, x41, x42, x43, x44, x45, x46, x47, x48, x49, x50, x51, x52, x53, x54, x55, x56, x57, rfl, hF⟩ := hI
      simp only [List.length_cons, List.length_nil] at hall
      obtain rfl := hF.out.f0 (hall 0 (by omega))
      obtain rfl := hF.out.f1 (hall 1 (by omega))
      obtain rfl := hF.out.f2 (hall 2 (by omega))
      obtain rfl := hF.out.f3 (hall 3 (by omega))
      obtain rfl := hF.out.f4 (hall 4 (by omega))
      obtain rfl := hF.out.f5 (hall 5 (by omega))
      obtain rfl := hF.out.f6 (hall 6 (by omega))
      obtain rfl := hF.out.f7 (hall 7 (by omega))
      obtain rfl := hF.out.f8 (hall 8 (by omega))
      obtain rfl := hF.out.f9 (hall 9 (by omega))
      obtain rfl := hF.out.f10 (hall 10 (by omega))
      obtain rfl := hF.out.f11 (hall 11 (by omega))
      obtain rfl := hF.out.f12 (hall 12 (by omega))
      obtain rfl := hF.out.f13 (hall 13 (by omega))
      obtain rfl := hF.out.f14 (hall 14 (by omega))
      obtain rfl := hF.out.f15 (hall 15 (by omega))
      obtain rfl := hF.out.f16 (hall 16 (by omega))
      obtain rfl := hF.out.f17 (hall 17 (by omega))
      obtain rfl := hF.out.f18 (hall 18 (by omega))
      have HF : Hid (Below B wr W ∧ Keep3 wr W ∧ Pl B pp f e (lay (.alt x y) ps nx).1 W) := ⟨hF.out.below, hF.out.keep, hF.out.q3 (hall 17 (by omega))⟩
      clear hF hall
      simp only [Act.put, List.setIfInBounds_toArray, List.set_cons_zero, List.set_cons_succ]
      go_wp2_with fail
      go_meet
      case rel => exact ⟨rfl, HF⟩
  case rest =>
    obtain ⟨rfl, HX⟩ := hcut
    go_wp2_with fail
    go_ret
    exact ⟨by simp only [lay]; rw [HV3.out]; rfl, HX.out.2.2, (hb0.mono hBw).trans HX.out.1, ((Keep3.refl w).below hb0).trans HX.out.2.1⟩
end Go.Proofs.Ytlmlkpdppkgenaa

namespace Go.Proofs.Ytlmlkpdppkgenaa
open Go.RowKit
open Cls Rex
theorem fl_set : ∀ (qs : List (Cl × Value)) (i : Nat) (h : i < qs.length) (v : Value), (fl qs).set (i * 5 + 4) v = fl (qs.set i (qs[i].1, v))
  | q :: qs, 0, _, v => by simp [fl]
  | q :: qs, i + 1, h, v => by
    have e : (i + 1) * 5 + 4 = (i * 5 + 4) + 5 := by omega
    have := fl_set qs i (by simpa using h) v
    rw [e]
    simp [fl, List.set] at this ⊢
    exact this
theorem fl_len (qs : List (Cl × Value)) : (fl qs).length = qs.length * 5 := by
  induction qs with
  | nil => rfl
  | cons q qs ih => simp [fl] at ih ⊢; omega
/-- One step's next numbers, put anew. -/
theorem Pl.openAt {B pp : Nat} {f e : Value} {ps : List St} {W : World} (h : Pl B pp f e ps W) (i : Nat) (hi : i < ps.length) : ∃ (g cap : Nat) (v0 : Value), W.cell? ⟨pp, 0, none⟩ = some (.slice (some ⟨g, 0, none⟩) ps.length cap) ∧ W.cell? ⟨g, i * 5 + 4, none⟩ = some v0 ∧ W.frozen? ⟨g, i * 5 + 4, none⟩ = false ∧ B ≤ g ∧ g < W.heap.size ∧
    ∀ W' nv l, Below W.heap.size W W' → Nxs W' B nv l → Pl B pp f e (ps.set i (ps[i].1, l)) (W'.setCell ⟨g, i * 5 + 4, none⟩ nv) ∧ Keep3 W' (W'.setCell ⟨g, i * 5 + 4, none⟩ nv) := by
  obtain ⟨sv, qs, h1, h2, h3, h4⟩ := h
  have hq : i < qs.length := by omega
  have h2' := h2.2
  rcases h2' with ⟨_, h0⟩ | ⟨g, cap, cur, rfl, hBg, hg, hr⟩
  · omega
  have hj : i * 5 + 4 < (fl qs).length := by rw [fl_len]; omega
  refine ⟨g, cap, (fl qs)[i * 5 + 4], by rw [← h3]; simp [World.cell?, h1], ?_, h2.frozenAt _, hBg, blk_lt hg, ?_⟩
  · rw [h2.cellAt (i * 5 + 4) (by omega)]; exact List.getElem?_eq_getElem hj
  · intro W' nv l hb hn
    have hg' := blk_next hb hg
    have h2' : W'.ownsRow B 144 5 (.slice (some ⟨g, 0, none⟩) qs.length cap) qs.length (fl qs) := ⟨h2.1, .inr ⟨g, cap, cur, rfl, hBg, hg', hr⟩⟩
    have hs := h2'.stored (i * 5 + 4) nv
    have hk : Keep3 W' (W'.setCell ⟨g, i * 5 + 4, none⟩ nv) := (Keep3.refl W').set hg' (Or.inr rfl) nv
    refine ⟨⟨.slice (some ⟨g, 0, none⟩) qs.length cap, qs.set i (qs[i].1, nv), ?_, ?_, by simpa using h3, ?_⟩, hk⟩
    · refine (Below.heap_setCell _ _ _ _ (fun e => ?_)).trans (blk_next hb h1)
      simp only at e
      subst e
      rw [h1] at hg
      simp at hg
    · rw [List.length_set, ← fl_set qs i hq nv]; exact hs.1
    · intro j k1 k2
      rw [List.length_set] at k1 k2
      by_cases e : i = j
      · subst e
        simp only [List.getElem_set_self]
        exact ⟨(h4 i hq hi).1, hn.keep hk⟩
      · simp only [List.getElem_set_ne e]
        exact ⟨(h4 j k1 k2).1, ((h4 j k1 k2).2.keep ((Keep3.refl W).below hb)).keep hk⟩
theorem s1_next {W W' : World} {B bx b o cap : Nat} {k0 : Int} {c0 : Cl} {a0 : Option Addr} {n0 p0 : Nat} {z : Array Value} (hz : W.heap[bx]? = some (.cells z 44)) (hb : b < B) (h : W.cell? ⟨bx, 5, none⟩ = some (.slice (some ⟨b, o, none⟩) 1 cap) ∧ W.cell? ⟨b, o, none⟩ = some (.int .i64 k0) ∧ W.cell? ⟨b, o + 1, none⟩ = some (.int .u64 (c0.1.toNat : Int)) ∧ W.cell? ⟨b, o + 2, none⟩ = some (.int .u64 (c0.2.1.toNat : Int)) ∧ W.cell? ⟨b, o + 3, none⟩ = some (.int .u64 (c0.2.2.1.toNat : Int)) ∧ W.cell? ⟨b, o + 4, none⟩ = some (.int .u64 (c0.2.2.2.toNat : Int)) ∧ W.cell? ⟨b, o + 5, none⟩ = some (.slice a0 n0 p0)) (hB : Below B W W') (hk : Keep3 W W') : W'.cell? ⟨bx, 5, none⟩ = some (.slice (some ⟨b, o, none⟩) 1 cap) ∧ W'.cell? ⟨b, o, none⟩ = some (.int .i64 k0) ∧ W'.cell? ⟨b, o + 1, none⟩ = some (.int .u64 (c0.1.toNat : Int)) ∧ W'.cell? ⟨b, o + 2, none⟩ = some (.int .u64 (c0.2.1.toNat : Int)) ∧ W'.cell? ⟨b, o + 3, none⟩ = some (.int .u64 (c0.2.2.1.toNat : Int)) ∧ W'.cell? ⟨b, o + 4, none⟩ = some (.int .u64 (c0.2.2.2.toNat : Int)) ∧ W'.cell? ⟨b, o + 5, none⟩ = some (.slice a0 n0 p0) := by
  obtain ⟨h0, h1, h2, h3, h4, h5, h6⟩ := h
  exact ⟨keep_cell hz h0 (by decide) (by decide) hk, (hB.cell hb).trans h1, (hB.cell hb).trans h2, (hB.cell hb).trans h3, (hB.cell hb).trans h4, (hB.cell hb).trans h5, (hB.cell hb).trans h6⟩
theorem rxone_kid {w : World} {B : Nat} {v : Value} {k : Int} {s : T} (hx : Rx w B v (.mk k empty [s])) : ∃ (b o cap : Nat) (k0 : Int) (c0 : Cl) (a0 : Option Addr) (n0 p0 : Nat), v = .agg #[.int .i64 k, .int .u64 0, .int .u64 0, .int .u64 0, .int .u64 0, .slice (some ⟨b, o, none⟩) 1 cap] ∧ b < B ∧ Rx w B (.agg #[.int .i64 k0, .int .u64 (c0.1.toNat : Int), .int .u64 (c0.2.1.toNat : Int), .int .u64 (c0.2.2.1.toNat : Int), .int .u64 (c0.2.2.2.toNat : Int), .slice a0 n0 p0]) s ∧ w.cell? ⟨b, o, none⟩ = some (.int .i64 k0) ∧ w.cell? ⟨b, o + 1, none⟩ = some (.int .u64 (c0.1.toNat : Int)) ∧ w.cell? ⟨b, o + 2, none⟩ = some (.int .u64 (c0.2.1.toNat : Int)) ∧ w.cell? ⟨b, o + 3, none⟩ = some (.int .u64 (c0.2.2.1.toNat : Int)) ∧ w.cell? ⟨b, o + 4, none⟩ = some (.int .u64 (c0.2.2.2.toNat : Int)) ∧ w.cell? ⟨b, o + 5, none⟩ = some (.slice a0 n0 p0) := by
  obtain ⟨k', c, ao, cap, kids, vals, rfl, ht, _, _, hc, hr⟩ := hx.shape
  simp only [T.mk.injEq] at ht
  obtain ⟨rfl, rfl, rfl⟩ := ht
  rcases hc with h | ⟨b, o, rfl, hbB, hcl⟩
  · cases h
  have r0 := hr 0 (by simp)
  have hc0 := hcl 0 (by simp)
  obtain ⟨k0, c0, a0, n0, p0, e0, q0⟩ := kid_cells r0 hc0
  simp only [Nat.zero_mul, Nat.add_zero] at q0
  refine ⟨b, o, cap, k0, c0, a0, n0, p0, rfl, hbB, ?_, q0⟩
  rw [← e0]; exact r0
set_option maxHeartbeats 4000000 in
set_option maxRecDepth 20000 in
theorem lr_star {s : T} {x : E} (h1 : LR s x) : LR (.mk 6 empty [s]) (.star x) := by
  intro v ps nx B pp f e w hx hP hBp hBw hlen
  obtain ⟨b, o, cap, k0, c0, a0, n0, p0, rfl, hbB, r0, hcl⟩ := rxone_kid hx
  simp only [E.nodes] at hlen
  obtain ⟨bx, HBX⟩ : ∃ bx, Hid (w.heap.size = bx) := ⟨_, (rfl : w.heap.size = w.heap.size)⟩
  have HR : Hid (Rx w B (.agg #[.int .i64 k0, .int .u64 (c0.1.toNat : Int), .int .u64 (c0.2.1.toNat : Int), .int .u64 (c0.2.2.1.toNat : Int), .int .u64 (c0.2.2.2.toNat : Int), .slice a0 n0 p0]) s ∧ Pl B pp f e ps w) := ⟨r0, hP⟩
  have hb0 := box_keep w (.cells #[.int .i64 6, .int .u64 0, .int .u64 0, .int .u64 0, .int .u64 0, .slice (some ⟨b, o, none⟩) 1 cap] 44)
  have HZ : Hid ((w.alloc (.cells #[.int .i64 6, .int .u64 0, .int .u64 0, .int .u64 0, .int .u64 0, .slice (some ⟨b, o, none⟩) 1 cap] 44)).heap[bx]? = some (.cells #[.int .i64 6, .int .u64 0, .int .u64 0, .int .u64 0, .int .u64 0, .slice (some ⟨b, o, none⟩) 1 cap] 44)) := by
    show _ = _
    rw [← HBX.out]; exact block_new w _
  generalize hwr : w.alloc (.cells #[.int .i64 6, .int .u64 0, .int .u64 0, .int .u64 0, .int .u64 0, .slice (some ⟨b, o, none⟩) 1 cap] 44) = wr at hb0 HZ
  have HWR : Hid (w.alloc (.cells #[.int .i64 6, .int .u64 0, .int .u64 0, .int .u64 0, .int .u64 0, .slice (some ⟨b, o, none⟩) 1 cap] 44) = wr) := hwr
  clear hwr
  have hS : wr.cell? ⟨bx, 5, none⟩ = some (.slice (some ⟨b, o, none⟩) 1 cap) ∧ wr.cell? ⟨b, o, none⟩ = some (.int .i64 k0) ∧ wr.cell? ⟨b, o + 1, none⟩ = some (.int .u64 (c0.1.toNat : Int)) ∧ wr.cell? ⟨b, o + 2, none⟩ = some (.int .u64 (c0.2.1.toNat : Int)) ∧ wr.cell? ⟨b, o + 3, none⟩ = some (.int .u64 (c0.2.2.1.toNat : Int)) ∧ wr.cell? ⟨b, o + 4, none⟩ = some (.int .u64 (c0.2.2.2.toNat : Int)) ∧ wr.cell? ⟨b, o + 5, none⟩ = some (.slice a0 n0 p0) := by
    have hw : ∀ j v, w.cell? ⟨b, j, none⟩ = some v → wr.cell? ⟨b, j, none⟩ = some v := fun j v h => cell_next h hb0
    obtain ⟨x0, x1, x2, x3, x4, x5⟩ := hcl
    exact ⟨by simp [World.cell?, HZ.out], hw _ _ x0, hw _ _ x1, hw _ _ x2, hw _ _ x3, hw _ _ x4, hw _ _ x5⟩
  have HS : Hid (wr.cell? ⟨bx, 5, none⟩ = some (.slice (some ⟨b, o, none⟩) 1 cap) ∧ wr.cell? ⟨b, o, none⟩ = some (.int .i64 k0) ∧ wr.cell? ⟨b, o + 1, none⟩ = some (.int .u64 (c0.1.toNat : Int)) ∧ wr.cell? ⟨b, o + 2, none⟩ = some (.int .u64 (c0.2.1.toNat : Int)) ∧ wr.cell? ⟨b, o + 3, none⟩ = some (.int .u64 (c0.2.2.1.toNat : Int)) ∧ wr.cell? ⟨b, o + 4, none⟩ = some (.int .u64 (c0.2.2.2.toNat : Int)) ∧ wr.cell? ⟨b, o + 5, none⟩ = some (.slice a0 n0 p0)) := hS
  have hBW : B ≤ wr.heap.size := Nat.le_trans hBw hb0.size
  obtain ⟨pn, HPN⟩ : ∃ n : Nat, Hid (ps.length = n) := ⟨_, (rfl : ps.length = ps.length)⟩
  obtain ⟨ps2, HP2⟩ : ∃ l : List St, Hid ((lay x (ps ++ [(empty, [])]) ps.length).1 = l) := ⟨_, (rfl : (lay x (ps ++ [(empty, [])]) ps.length).1 = (lay x (ps ++ [(empty, [])]) ps.length).1)⟩
  obtain ⟨r2v, HV2⟩ : ∃ r : Nat, Hid ((lay x (ps ++ [(empty, [])]) ps.length).2 = r) := ⟨_, (rfl : (lay x (ps ++ [(empty, [])]) ps.length).2 = (lay x (ps ++ [(empty, [])]) ps.length).2)⟩
  have HC1 : Hid (Calls Try.prog 75 #[.pointer (some ⟨pp, 0, none⟩), .agg #[.int .u64 0, .int .u64 0, .int .u64 0, .int .u64 0, .slice none 0 0]] wr fun e' w' => e' = .returned (.int .i64 (pn : Int)) ∧ Pl B pp f e (ps ++ [(empty, [])]) w' ∧ Below B wr w' ∧ Keep3 wr w') := by
    have h := lay_empty B pp f e ps wr (HR.out.2.keep hb0) hBp hBW (by omega)
    rw [HPN.out] at h
    exact h
  have HC2 : Hid (∀ W1, Below B wr W1 → Pl B pp f e (ps ++ [(empty, [])]) W1 → B ≤ W1.heap.size → Calls Try.prog 76 #[.pointer (some ⟨pp, 0, none⟩), .agg #[.int .i64 k0, .int .u64 (c0.1.toNat : Int), .int .u64 (c0.2.1.toNat : Int), .int .u64 (c0.2.2.1.toNat : Int), .int .u64 (c0.2.2.2.toNat : Int), .slice a0 n0 p0], .int .i64 (pn : Int)] W1 fun e' w' => e' = .returned (.int .i64 (r2v : Int)) ∧ Pl B pp f e ps2 w' ∧ Below B W1 w' ∧ Keep3 W1 w') := fun W1 hb hp hB => by
    have h := h1 _ (ps ++ [(empty, [])]) ps.length B pp f e W1 ((HR.out.1.next (hb0.mono hBw)).next hb) hp hBp hB (by simp only [List.length_append, List.length_cons, List.length_nil]; omega)
    rw [HV2.out, HP2.out, HPN.out] at h
    exact h
  have hpl : pn < ps2.length ∧ ps2.length ≤ 200 := by
    have h := lay_len x (ps ++ [(empty, [])]) ps.length
    rw [HP2.out] at h
    have := HPN.out
    simp only [List.length_append, List.length_cons, List.length_nil] at h
    omega
  have HG : Hid (ps2[pn]? = some (empty, [])) := by
    have h := lay_keep x (ps ++ [(empty, [])]) ps.length ps.length (by simp)
    rw [HP2.out, HPN.out] at h
    show _ = _
    rw [h, ← HPN.out]; simp
  have HEND : Hid ((lay (.star x) ps nx).1 = ps2.set pn (empty, [nx, r2v]) ∧ (lay (.star x) ps nx).2 = pn) := by
    show _ ∧ _
    simp only [lay]
    rw [HP2.out, HV2.out, HPN.out]
    exact ⟨rfl, rfl⟩
  clear r0 hP hx hcl hS HPN HP2 HV2
  go_enter Try.func76, Try.ntmps76
  go_wp2_with fail
  rw [HBX.out, HWR.out]
  refine HC1.out.mono ?_
  rintro e1 W1 ⟨rfl, hp1, hb1, hk1⟩
  have HB1 : Hid (Below B wr W1 ∧ Keep3 wr W1) := ⟨hb1, hk1⟩
  have HC2' := HC2.out W1 hb1 hp1 (Nat.le_trans hBW hb1.size)
  have HC2W : Hid (Calls Try.prog 76 #[.pointer (some ⟨pp, 0, none⟩), .agg #[.int .i64 k0, .int .u64 (c0.1.toNat : Int), .int .u64 (c0.2.1.toNat : Int), .int .u64 (c0.2.2.1.toNat : Int), .int .u64 (c0.2.2.2.toNat : Int), .slice a0 n0 p0], .int .i64 (pn : Int)] W1 fun e' w' => e' = .returned (.int .i64 (r2v : Int)) ∧ Pl B pp f e ps2 w' ∧ Below B W1 w' ∧ Keep3 W1 w') := HC2'
  obtain ⟨s0, s1, s2, s3, s4, s5, s6⟩ := s1_next HZ.out hbB HS.out hb1 hk1
  have HBS : Hid (B ≤ W1.heap.size) := Nat.le_trans hBW hb1.size
  clear hb1 hk1 hp1 HC2' HC1 HC2
  go_wp2_with fail
  refine HC2W.out.mono ?_
  rintro e1 W2 ⟨rfl, hp2, hb2, hk2⟩
  have HB2 : Hid (Below B W1 W2 ∧ Keep3 W1 W2 ∧ B ≤ W2.heap.size) := ⟨hb2, hk2, Nat.le_trans HBS.out hb2.size⟩
  obtain ⟨g, gc, v0, t0, t1, t2, hBg, hgs, hset⟩ := hp2.openAt pn hpl.1
  have HSET : Hid (∀ W' nv l, Below W2.heap.size W2 W' → Nxs W' B nv l → Pl B pp f e (ps2.set pn (ps2[pn].1, l)) (W'.setCell ⟨g, pn * 5 + 4, none⟩ nv) ∧ Keep3 W' (W'.setCell ⟨g, pn * 5 + 4, none⟩ nv)) := hset
  have hbz := box_keep W2 (.cells #[.int .i64 (nx : Int), .int .i64 (r2v : Int)] 3)
  have hnew := block_new W2 (.cells #[.int .i64 (nx : Int), .int .i64 (r2v : Int)] 3)
  have u1 := cell_next t1 hbz
  have u2 := (hbz.frozen (p := ⟨g, pn * 5 + 4, none⟩) hgs).trans t2
  have HN : Hid ((W2.alloc (.cells #[.int .i64 (nx : Int), .int .i64 (r2v : Int)] 3)).heap[W2.heap.size]? = some (.cells #[.int .i64 (nx : Int), .int .i64 (r2v : Int)] 3)) := hnew
  have hpn := hpl.1
  clear s0 s1 s2 s3 s4 s5 s6 hb2 hk2 hp2 HC2W hset hnew
  go_wp2_with fail
  go_ret
  have hse := HSET.out _ (.slice (some ⟨W2.heap.size, 0, none⟩) 2 2) [nx, r2v] hbz (Or.inr ⟨W2.heap.size, rfl, HB2.out.2.2, HN.out⟩)
  have heq : (W2.alloc (.cells #[.int .i64 (nx : Int), .int .i64 (r2v : Int)] 3)).setCell ⟨g, pn * 5 + 4, none⟩ (.slice (some ⟨W2.heap.size, 0, none⟩) 2 2) = (W2.setCell ⟨g, pn * 5 + 4, none⟩ (.slice (some ⟨W2.heap.size, 0, none⟩) 2 2)).alloc (.cells #[.int .i64 (nx : Int), .int .i64 (r2v : Int)] 3) := by
    exact World.setCell_alloc_past _ _ _ _ hgs
  rw [heq] at hse
  have hem : ps2[pn].1 = empty := by
    have h := HG.out
    rw [List.getElem?_eq_getElem hpn] at h
    rw [Option.some.inj h]
  rw [hem] at hse
  rw [HEND.out.1, HEND.out.2]
  refine ⟨rfl, hse.1, ?_, ?_⟩
  · refine (hb0.mono hBw).trans (HB1.out.1.trans (HB2.out.1.trans ?_))
    rw [← heq]
    exact ((Below.refl B W2).alloc HB2.out.2.2 _).setCell hBg _
  · exact ((Keep3.refl w).below hb0).trans (HB1.out.2.trans (HB2.out.2.1.trans (((Keep3.refl W2).below hbz).trans hse.2)))
/-- The contract of plan.layRex. -/
theorem layRex_any {t : T} {x : E} (h : Is t x) : LR t x := by
  induction h with
  | none => exact lr_none
  | emp => exact lr_emp
  | byte h => exact lr_byte h
  | cat _ _ h1 h2 => exact lr_cat h1 h2
  | alt _ _ h1 h2 => exact lr_alt h1 h2
  | star _ h => exact lr_star h
end Go.Proofs.Ytlmlkpdppkgenaa

namespace Go.Proofs.Ytlmlkpdppkgenaa
open Go.RowKit
open Cls Rex
theorem info163 : (Try.prog.info? 163).map (fun i => (i.zero, i.size, i.bytes)) = some (some (.agg #[.int .i64 0, .int .i64 0]), 2, 16) := by kernel_rfl
/-- The spots behind one, in their order. -/
def bh (F : List St) (s : ByteArray) (n p : Nat) : List (Nat × Nat) := match F[n]? with
  | none => []
  | some (c, l) => if c = empty then l.map (·, p) else if h : p < s.size then (if mem c (s[p]).toNat then l.map (·, p + 1) else []) else []
def sp (l : List (Nat × Nat)) : List Value := l.flatMap fun q => [.int .i64 (q.1 : Int), .int .i64 (q.2 : Int)]
theorem sp_append (a b : List (Nat × Nat)) : sp (a ++ b) = sp a ++ sp b := by simp [sp]
theorem sp_len (l : List (Nat × Nat)) : (sp l).length = l.length * 2 := by
  induction l with
  | nil => rfl
  | cons q l ih => simp [sp] at ih ⊢; omega
theorem fl_get : ∀ (qs : List (Cl × Value)) (i : Nat) (h : i < qs.length), (fl qs)[i * 5]? = some (.int .u64 (qs[i].1.1.toNat : Int)) ∧ (fl qs)[i * 5 + 1]? = some (.int .u64 (qs[i].1.2.1.toNat : Int)) ∧ (fl qs)[i * 5 + 2]? = some (.int .u64 (qs[i].1.2.2.1.toNat : Int)) ∧ (fl qs)[i * 5 + 3]? = some (.int .u64 (qs[i].1.2.2.2.toNat : Int)) ∧ (fl qs)[i * 5 + 4]? = some qs[i].2
  | q :: qs, 0, _ => by simp [fl]
  | q :: qs, i + 1, h => by
    have := fl_get qs i (by simpa using h)
    have e0 : (i + 1) * 5 = i * 5 + 5 := by omega
    have e1 : (i + 1) * 5 + 1 = i * 5 + 1 + 5 := by omega
    have e2 : (i + 1) * 5 + 2 = i * 5 + 2 + 5 := by omega
    have e3 : (i + 1) * 5 + 3 = i * 5 + 3 + 5 := by omega
    have e4 : (i + 1) * 5 + 4 = i * 5 + 4 + 5 := by omega
    rw [e1, e2, e3, e4, e0]
    have hf : fl (q :: qs) = [.int .u64 (q.1.1.toNat : Int), .int .u64 (q.1.2.1.toNat : Int), .int .u64 (q.1.2.2.1.toNat : Int), .int .u64 (q.1.2.2.2.toNat : Int), q.2] ++ fl qs := by simp [fl]
    have hg : ∀ j, (fl (q :: qs))[j + 5]? = (fl qs)[j]? := fun j => by rw [hf, List.getElem?_append_right (by simp)]; simp
    simp only [hg, List.getElem_cons_succ]
    exact this
/-- One step, read. -/
theorem Pl.readAt {B pp : Nat} {f e : Value} {ps : List St} {W : World} (h : Pl B pp f e ps W) (n : Nat) (c : Cl) (l : List Nat) (hn : ps[n]? = some (c, l)) : ∃ (g cap : Nat) (ao : Option Addr), W.cell? ⟨pp, 0, none⟩ = some (.slice (some ⟨g, 0, none⟩) ps.length cap) ∧ W.cell? ⟨g, n * 5, none⟩ = some (.int .u64 (c.1.toNat : Int)) ∧ W.cell? ⟨g, n * 5 + 1, none⟩ = some (.int .u64 (c.2.1.toNat : Int)) ∧ W.cell? ⟨g, n * 5 + 2, none⟩ = some (.int .u64 (c.2.2.1.toNat : Int)) ∧ W.cell? ⟨g, n * 5 + 3, none⟩ = some (.int .u64 (c.2.2.2.toNat : Int)) ∧ W.cell? ⟨g, n * 5 + 4, none⟩ = some (.slice ao l.length l.length) ∧ (l = [] ∨ ∃ b, ao = some ⟨b, 0, none⟩ ∧ W.heap[b]? = some (.cells (l.map fun n : Nat => Value.int .i64 (n : Int)).toArray 3)) := by
  obtain ⟨hi, hpn⟩ := List.getElem?_eq_some_iff.1 hn
  obtain ⟨sv, qs, h1, h2, h3, h4⟩ := h
  have hq : n < qs.length := by omega
  have h5 := h4 n hq hi
  rw [hpn] at h5
  have h2' := h2.2
  rcases h2' with ⟨_, h0⟩ | ⟨g, cap, cur, rfl, hBg, hg, hr⟩
  · omega
  obtain ⟨e0, e1, e2, e3, e4⟩ := fl_get qs n hq
  rw [h5.1] at e0 e1 e2 e3
  obtain ⟨ao, hnv, hao⟩ : ∃ ao, qs[n].2 = .slice ao l.length l.length ∧ (l = [] ∨ ∃ b, ao = some ⟨b, 0, none⟩ ∧ W.heap[b]? = some (.cells (l.map fun n : Nat => Value.int .i64 (n : Int)).toArray 3)) := by
    rcases h5.2 with ⟨rfl, h⟩ | ⟨b, h, _, hz⟩
    · exact ⟨none, h, Or.inl rfl⟩
    · exact ⟨some ⟨b, 0, none⟩, h, Or.inr ⟨b, rfl, hz⟩⟩
  rw [hnv] at e4
  refine ⟨g, cap, ao, by rw [← h3]; simp [World.cell?, h1], ?_, ?_, ?_, ?_, ?_, hao⟩
  · rw [h2.cellAt _ (by omega)]; exact e0
  · rw [h2.cellAt _ (by omega)]; exact e1
  · rw [h2.cellAt _ (by omega)]; exact e2
  · rw [h2.cellAt _ (by omega)]; exact e3
  · rw [h2.cellAt _ (by omega)]; exact e4
theorem rd_next {W W' : World} {pp bx g cap N n p : Nat} {c : Cl} {l : List Nat} {ao : Option Addr} (h : W.cell? ⟨pp, 0, none⟩ = some (.slice (some ⟨g, 0, none⟩) N cap) ∧ W.cell? ⟨bx, 0, none⟩ = some (.int .i64 (n : Int)) ∧ W.cell? ⟨bx, 1, none⟩ = some (.int .i64 (p : Int)) ∧ W.cell? ⟨g, n * 5, none⟩ = some (.int .u64 (c.1.toNat : Int)) ∧ W.cell? ⟨g, n * 5 + 1, none⟩ = some (.int .u64 (c.2.1.toNat : Int)) ∧ W.cell? ⟨g, n * 5 + 2, none⟩ = some (.int .u64 (c.2.2.1.toNat : Int)) ∧ W.cell? ⟨g, n * 5 + 3, none⟩ = some (.int .u64 (c.2.2.2.toNat : Int)) ∧ W.cell? ⟨g, n * 5 + 4, none⟩ = some (.slice ao l.length l.length)) (hb : Below W.heap.size W W') : W'.cell? ⟨pp, 0, none⟩ = some (.slice (some ⟨g, 0, none⟩) N cap) ∧ W'.cell? ⟨bx, 0, none⟩ = some (.int .i64 (n : Int)) ∧ W'.cell? ⟨bx, 1, none⟩ = some (.int .i64 (p : Int)) ∧ W'.cell? ⟨g, n * 5, none⟩ = some (.int .u64 (c.1.toNat : Int)) ∧ W'.cell? ⟨g, n * 5 + 1, none⟩ = some (.int .u64 (c.2.1.toNat : Int)) ∧ W'.cell? ⟨g, n * 5 + 2, none⟩ = some (.int .u64 (c.2.2.1.toNat : Int)) ∧ W'.cell? ⟨g, n * 5 + 3, none⟩ = some (.int .u64 (c.2.2.2.toNat : Int)) ∧ W'.cell? ⟨g, n * 5 + 4, none⟩ = some (.slice ao l.length l.length) := by
  obtain ⟨h0, h1, h2, h3, h4, h5, h6, h7⟩ := h
  exact ⟨cell_next h0 hb, cell_next h1 hb, cell_next h2 hb, cell_next h3 hb, cell_next h4 hb, cell_next h5 hb, cell_next h6 hb, cell_next h7 hb⟩
/-- What the guarded region keeps. -/
def SB (w0 : World) (hb : Nat) (c : Cl) (W : World) : Prop := Below w0.heap.size w0 W ∧ Bx W hb c
theorem SB.next {w0 : World} {hb : Nat} {c : Cl} (W W' : World) (h : SB w0 hb c W) (hB : Below W.heap.size W W') : SB w0 hb c W' := ⟨h.1.trans (hB.mono h.1.size), h.2.next hB⟩
/-- What behind's first region keeps, whichever of its operations are done. -/
structure CB (wr : World) (pp bx g cap N n p : Nat) (c : Cl) (l : List Nat) (ao : Option Addr) (hb : Nat) (d : Nat → Bool) (x7 x12 x13 x14 x15 x16 x17 x18 x19 : Value) (W : World) : Prop where
  f0 : d 0 = true → x12 = (.pointer (some ⟨pp, 0, none⟩))
  f1 : d 1 = true → x13 = (.pointer (some ⟨pp, 0, none⟩))
  f2 : d 2 = true → x14 = (.pointer (some ⟨pp, 0, none⟩))
  f3 : d 3 = true → x15 = (.slice (some ⟨g, 0, none⟩) N cap)
  f4 : d 4 = true → x16 = (.pointer (some ⟨bx, 0, none⟩))
  f5 : d 5 = true → x17 = (.int .i64 (n : Int))
  f6 : d 6 = true → x18 = (.pointer (some ⟨g, n * 5, none⟩))
  f7 : d 7 = true → x19 = (.agg #[.int .u64 (c.1.toNat : Int), .int .u64 (c.2.1.toNat : Int), .int .u64 (c.2.2.1.toNat : Int), .int .u64 (c.2.2.2.toNat : Int), .slice ao l.length l.length])
  f8 : d 8 = true → x7 = (.pointer (some ⟨hb, 0, none⟩))
  f9 : d 9 = true → True
  below : Below wr.heap.size wr W
  blk0 : d 8 = true → d 9 = false → W.heap[hb]? = some (.cells #[.int .u64 0, .int .u64 0, .int .u64 0, .int .u64 0, .slice none 0 0] 144) ∧ wr.heap.size ≤ hb
  blk1 : d 9 = true → W.heap[hb]? = some (.cells #[.int .u64 (c.1.toNat : Int), .int .u64 (c.2.1.toNat : Int), .int .u64 (c.2.2.1.toNat : Int), .int .u64 (c.2.2.2.toNat : Int), .slice ao l.length l.length] 144) ∧ wr.heap.size ≤ hb
  g9 : d 9 = true → d 8 = true
set_option maxHeartbeats 4000000 in
set_option maxRecDepth 20000 in
theorem rxbehind_any (B pp : Nat) (f e : Value) (F : List St) (s : ByteArray) (n p : Nat) (w : World) (hP : Pl B pp f e F w) (hn : n < F.length) (hF : Fine F) (hp : p ≤ s.size) (hs : s.size ≤ 200) :
    Calls Try.prog 87 #[.pointer (some ⟨pp, 0, none⟩), .agg #[.int .i64 (n : Int), .int .i64 (p : Int)], .string s] w fun e' w' => ∃ v, e' = .returned v ∧ w'.ownsRow w.heap.size 163 2 v (bh F s n p).length (sp (bh F s n p)) ∧ Below w.heap.size w w' ∧ (bh F s n p = [] → v = .slice none 0 0) := by
  obtain ⟨c, l, hnl⟩ : ∃ c l, F[n]? = some (c, l) := ⟨F[n].1, F[n].2, by rw [List.getElem?_eq_getElem hn]⟩
  have hll := (hF n c l hnl).1
  obtain ⟨g, cap, ao, q0, q1, q2, q3, q4, q5, hnx⟩ := hP.readAt n c l hnl
  obtain ⟨N, HN⟩ : ∃ N, Hid (F.length = N) := ⟨_, (rfl : F.length = F.length)⟩
  rw [HN.out] at q0 hn
  obtain ⟨bx, HBX⟩ : ∃ bx, Hid (w.heap.size = bx) := ⟨_, (rfl : w.heap.size = w.heap.size)⟩
  have hb0 := box_keep w (.cells #[.int .i64 (n : Int), .int .i64 (p : Int)] 163)
  have HNX : Hid (∀ k (hk : k < l.length), ∃ b, ao = some ⟨b, 0, none⟩ ∧ b < w.heap.size ∧ w.cell? ⟨b, k, none⟩ = some (.int .i64 (l[k] : Int))) := fun k hk => by
    rcases hnx with h | ⟨b, h1, h2⟩
    · subst h; cases hk
    · refine ⟨b, h1, blk_lt h2, ?_⟩
      rw [cell_of_row w b k _ 3 (0, 0) h2]; simp [hk]
  have HBH : Hid (bh F s n p = if c = empty then l.map (·, p) else if h : p < s.size then (if mem c (s[p]).toNat then l.map (·, p + 1) else []) else []) := by
    show _ = _
    unfold bh
    rw [hnl]
  have hZ := block_new w (.cells #[.int .i64 (n : Int), .int .i64 (p : Int)] 163)
  generalize hwr : w.alloc (.cells #[.int .i64 (n : Int), .int .i64 (p : Int)] 163) = wr at hb0 hZ
  have HWR : Hid (w.alloc (.cells #[.int .i64 (n : Int), .int .i64 (p : Int)] 163) = wr) := hwr
  clear hwr
  rw [HBX.out] at hZ
  have HS : Hid (wr.cell? ⟨pp, 0, none⟩ = some (.slice (some ⟨g, 0, none⟩) N cap) ∧ wr.cell? ⟨bx, 0, none⟩ = some (.int .i64 (n : Int)) ∧ wr.cell? ⟨bx, 1, none⟩ = some (.int .i64 (p : Int)) ∧ wr.cell? ⟨g, n * 5, none⟩ = some (.int .u64 (c.1.toNat : Int)) ∧ wr.cell? ⟨g, n * 5 + 1, none⟩ = some (.int .u64 (c.2.1.toNat : Int)) ∧ wr.cell? ⟨g, n * 5 + 2, none⟩ = some (.int .u64 (c.2.2.1.toNat : Int)) ∧ wr.cell? ⟨g, n * 5 + 3, none⟩ = some (.int .u64 (c.2.2.2.toNat : Int)) ∧ wr.cell? ⟨g, n * 5 + 4, none⟩ = some (.slice ao l.length l.length)) := ⟨cell_next q0 hb0, by simp [World.cell?, hZ], by simp [World.cell?, hZ], cell_next q1 hb0, cell_next q2 hb0, cell_next q3 hb0, cell_next q4 hb0, cell_next q5 hb0⟩
  have hszw : w.heap.size ≤ wr.heap.size := hb0.size
  clear q0 q1 q2 q3 q4 q5 hnx hZ hP hnl hF
  go_enter Try.func87, Try.ntmps87
  go_upto_region 1 with fail
  rw [HBX.out, HWR.out]
  go_cut [7] (fun x7 wx => ∃ hb, x7 = .pointer (some ⟨hb, 0, none⟩) ∧ wr.heap.size ≤ hb ∧ Hid (Below wr.heap.size wr wx ∧ wx.heap[hb]? = some (.cells #[.int .u64 (c.1.toNat : Int), .int .u64 (c.2.1.toNat : Int), .int .u64 (c.2.2.1.toNat : Int), .int .u64 (c.2.2.2.toNat : Int), .slice ao l.length l.length] 144)))
  case first =>
    refine wp_region_inv mixed (fun a0 d a W => ∃ (hb : Nat) (x7 x12 x13 x14 x15 x16 x17 x18 x19 : Value), a = (((((((((a0.put (some 7) x7).put (some 12) x12).put (some 13) x13).put (some 14) x14).put (some 15) x15).put (some 16) x16).put (some 17) x17).put (some 18) x18).put (some 19) x19) ∧ Hid (CB wr pp bx g cap N n p c l ao hb d x7 x12 x13 x14 x15 x16 x17 x18 x19 W)) (by kernel_rfl) ⟨0, undef, undef, undef, undef, undef, undef, undef, undef, undef, by simp only [Act.put, List.setIfInBounds_toArray, List.set_cons_zero, List.set_cons_succ], ?_⟩ ?_ ?_
    · exact ⟨fun h => rxno_way h, fun h => rxno_way h, fun h => rxno_way h, fun h => rxno_way h, fun h => rxno_way h, fun h => rxno_way h, fun h => rxno_way h, fun h => rxno_way h, fun h => rxno_way h, fun _ => trivial, (Below.refl _ wr).drew, fun h _ => rxno_way h, fun h => rxno_way h, fun h => rxno_way h⟩
    · simp only [StepAll, and_true]
      refine ⟨?_, ?_, ?_, ?_, ?_, ?_, ?_, ?_, ?_, ?_⟩
      · intro d a W hI hd hdep
        obtain ⟨hb, x7, x12, x13, x14, x15, x16, x17, x18, x19, rfl, hF⟩ := hI
        clear hdep hd
        intro K hK
        simp only [Act.put, List.setIfInBounds_toArray, List.set_cons_zero, List.set_cons_succ]
        go_simp
        refine hK.out _ _ ⟨hb, x7, (.pointer (some ⟨pp, 0, none⟩)), x13, x14, x15, x16, x17, x18, x19, by simp only [Act.put, List.setIfInBounds_toArray, List.set_cons_zero, List.set_cons_succ], ?_⟩
        exact ⟨fun _ => rfl, fun h => hF.out.f1 (by simpa using h), fun h => hF.out.f2 (by simpa using h), fun h => hF.out.f3 (by simpa using h), fun h => hF.out.f4 (by simpa using h), fun h => hF.out.f5 (by simpa using h), fun h => hF.out.f6 (by simpa using h), fun h => hF.out.f7 (by simpa using h), fun h => hF.out.f8 (by simpa using h), fun h => hF.out.f9 (by simpa using h), hF.out.below, fun h h2 => hF.out.blk0 (by simpa using h) (by simpa using h2), fun h => hF.out.blk1 (by simpa using h), fun h => by simpa using hF.out.g9 (by simpa using h)⟩
      · intro d a W hI hd hdep
        obtain ⟨hb, x7, x12, x13, x14, x15, x16, x17, x18, x19, rfl, hF⟩ := hI
        have hd0 : d 0 = true := rxdep_of hdep 0 (by kernel_rfl)
        obtain rfl := hF.out.f0 hd0
        clear hdep hd hd0
        intro K hK
        simp only [Act.put, List.setIfInBounds_toArray, List.set_cons_zero, List.set_cons_succ]
        go_simp
        refine hK.out _ _ ⟨hb, x7, (.pointer (some ⟨pp, 0, none⟩)), (.pointer (some ⟨pp, 0, none⟩)), x14, x15, x16, x17, x18, x19, by simp only [Act.put, List.setIfInBounds_toArray, List.set_cons_zero, List.set_cons_succ], ?_⟩
        exact ⟨fun h => hF.out.f0 (by simpa using h), fun _ => rfl, fun h => hF.out.f2 (by simpa using h), fun h => hF.out.f3 (by simpa using h), fun h => hF.out.f4 (by simpa using h), fun h => hF.out.f5 (by simpa using h), fun h => hF.out.f6 (by simpa using h), fun h => hF.out.f7 (by simpa using h), fun h => hF.out.f8 (by simpa using h), fun h => hF.out.f9 (by simpa using h), hF.out.below, fun h h2 => hF.out.blk0 (by simpa using h) (by simpa using h2), fun h => hF.out.blk1 (by simpa using h), fun h => by simpa using hF.out.g9 (by simpa using h)⟩
      · intro d a W hI hd hdep
        obtain ⟨hb, x7, x12, x13, x14, x15, x16, x17, x18, x19, rfl, hF⟩ := hI
        have hd1 : d 1 = true := rxdep_of hdep 1 (by kernel_rfl)
        obtain rfl := hF.out.f1 hd1
        clear hdep hd hd1
        intro K hK
        simp only [Act.put, List.setIfInBounds_toArray, List.set_cons_zero, List.set_cons_succ]
        go_simp
        refine hK.out _ _ ⟨hb, x7, x12, (.pointer (some ⟨pp, 0, none⟩)), (.pointer (some ⟨pp, 0, none⟩)), x15, x16, x17, x18, x19, by simp only [Act.put, List.setIfInBounds_toArray, List.set_cons_zero, List.set_cons_succ], ?_⟩
        exact ⟨fun h => hF.out.f0 (by simpa using h), fun h => hF.out.f1 (by simpa using h), fun _ => rfl, fun h => hF.out.f3 (by simpa using h), fun h => hF.out.f4 (by simpa using h), fun h => hF.out.f5 (by simpa using h), fun h => hF.out.f6 (by simpa using h), fun h => hF.out.f7 (by simpa using h), fun h => hF.out.f8 (by simpa using h), fun h => hF.out.f9 (by simpa using h), hF.out.below, fun h h2 => hF.out.blk0 (by simpa using h) (by simpa using h2), fun h => hF.out.blk1 (by simpa using h), fun h => by simpa using hF.out.g9 (by simpa using h)⟩
      · intro d a W hI hd hdep
        obtain ⟨hb, x7, x12, x13, x14, x15, x16, x17, x18, x19, rfl, hF⟩ := hI
        have hd2 : d 2 = true := rxdep_of hdep 2 (by kernel_rfl)
        obtain rfl := hF.out.f2 hd2
        have HSW : Hid (W.cell? ⟨pp, 0, none⟩ = some (.slice (some ⟨g, 0, none⟩) N cap) ∧ W.cell? ⟨bx, 0, none⟩ = some (.int .i64 (n : Int)) ∧ W.cell? ⟨bx, 1, none⟩ = some (.int .i64 (p : Int)) ∧ W.cell? ⟨g, n * 5, none⟩ = some (.int .u64 (c.1.toNat : Int)) ∧ W.cell? ⟨g, n * 5 + 1, none⟩ = some (.int .u64 (c.2.1.toNat : Int)) ∧ W.cell? ⟨g, n * 5 + 2, none⟩ = some (.int .u64 (c.2.2.1.toNat : Int)) ∧ W.cell? ⟨g, n * 5 + 3, none⟩ = some (.int .u64 (c.2.2.2.toNat : Int)) ∧ W.cell? ⟨g, n * 5 + 4, none⟩ = some (.slice ao l.length l.length)) := rd_next HS.out hF.out.below
        have s0 := HSW.out.1
        clear HSW
        clear hdep hd hd2
        intro K hK
        simp only [Act.put, List.setIfInBounds_toArray, List.set_cons_zero, List.set_cons_succ]
        go_simp
        refine hK.out _ _ ⟨hb, x7, x12, x13, (.pointer (some ⟨pp, 0, none⟩)), (.slice (some ⟨g, 0, none⟩) N cap), x16, x17, x18, x19, by simp only [Act.put, List.setIfInBounds_toArray, List.set_cons_zero, List.set_cons_succ], ?_⟩
        exact ⟨fun h => hF.out.f0 (by simpa using h), fun h => hF.out.f1 (by simpa using h), fun h => hF.out.f2 (by simpa using h), fun _ => rfl, fun h => hF.out.f4 (by simpa using h), fun h => hF.out.f5 (by simpa using h), fun h => hF.out.f6 (by simpa using h), fun h => hF.out.f7 (by simpa using h), fun h => hF.out.f8 (by simpa using h), fun h => hF.out.f9 (by simpa using h), hF.out.below, fun h h2 => hF.out.blk0 (by simpa using h) (by simpa using h2), fun h => hF.out.blk1 (by simpa using h), fun h => by simpa using hF.out.g9 (by simpa using h)⟩
      · intro d a W hI hd hdep
        obtain ⟨hb, x7, x12, x13, x14, x15, x16, x17, x18, x19, rfl, hF⟩ := hI
        clear hdep hd
        intro K hK
        simp only [Act.put, List.setIfInBounds_toArray, List.set_cons_zero, List.set_cons_succ]
        go_simp
        refine hK.out _ _ ⟨hb, x7, x12, x13, x14, x15, (.pointer (some ⟨bx, 0, none⟩)), x17, x18, x19, by simp only [Act.put, List.setIfInBounds_toArray, List.set_cons_zero, List.set_cons_succ], ?_⟩
        exact ⟨fun h => hF.out.f0 (by simpa using h), fun h => hF.out.f1 (by simpa using h), fun h => hF.out.f2 (by simpa using h), fun h => hF.out.f3 (by simpa using h), fun _ => rfl, fun h => hF.out.f5 (by simpa using h), fun h => hF.out.f6 (by simpa using h), fun h => hF.out.f7 (by simpa using h), fun h => hF.out.f8 (by simpa using h), fun h => hF.out.f9 (by simpa using h), hF.out.below, fun h h2 => hF.out.blk0 (by simpa using h) (by simpa using h2), fun h => hF.out.blk1 (by simpa using h), fun h => by simpa using hF.out.g9 (by simpa using h)⟩
      · intro d a W hI hd hdep
        obtain ⟨hb, x7, x12, x13, x14, x15, x16, x17, x18, x19, rfl, hF⟩ := hI
        have hd4 : d 4 = true := rxdep_of hdep 4 (by kernel_rfl)
        obtain rfl := hF.out.f4 hd4
        have HSW : Hid (W.cell? ⟨pp, 0, none⟩ = some (.slice (some ⟨g, 0, none⟩) N cap) ∧ W.cell? ⟨bx, 0, none⟩ = some (.int .i64 (n : Int)) ∧ W.cell? ⟨bx, 1, none⟩ = some (.int .i64 (p : Int)) ∧ W.cell? ⟨g, n * 5, none⟩ = some (.int .u64 (c.1.toNat : Int)) ∧ W.cell? ⟨g, n * 5 + 1, none⟩ = some (.int .u64 (c.2.1.toNat : Int)) ∧ W.cell? ⟨g, n * 5 + 2, none⟩ = some (.int .u64 (c.2.2.1.toNat : Int)) ∧ W.cell? ⟨g, n * 5 + 3, none⟩ = some (.int .u64 (c.2.2.2.toNat : Int)) ∧ W.cell? ⟨g, n * 5 + 4, none⟩ = some (.slice ao l.length l.length)) := rd_next HS.out hF.out.below
        have s0 := HSW.out.2.1
        clear HSW
        clear hdep hd hd4
        intro K hK
        simp only [Act.put, List.setIfInBounds_toArray, List.set_cons_zero, List.set_cons_succ]
        go_simp
        refine hK.out _ _ ⟨hb, x7, x12, x13, x14, x15, (.pointer (some ⟨bx, 0, none⟩)), (.int .i64 (n : Int)), x18, x19, by simp only [Act.put, List.setIfInBounds_toArray, List.set_cons_zero, List.set_cons_succ], ?_⟩
        exact ⟨fun h => hF.out.f0 (by simpa using h), fun h => hF.out.f1 (by simpa using h), fun h => hF.out.f2 (by simpa using h), fun h => hF.out.f3 (by simpa using h), fun h => hF.out.f4 (by simpa using h), fun _ => rfl, fun h => hF.out.f6 (by simpa using h), fun h => hF.out.f7 (by simpa using h), fun h => hF.out.f8 (by simpa using h), fun h => hF.out.f9 (by simpa using h), hF.out.below, fun h h2 => hF.out.blk0 (by simpa using h) (by simpa using h2), fun h => hF.out.blk1 (by simpa using h), fun h => by simpa using hF.out.g9 (by simpa using h)⟩
      · intro d a W hI hd hdep
        obtain ⟨hb, x7, x12, x13, x14, x15, x16, x17, x18, x19, rfl, hF⟩ := hI
        have hd3 : d 3 = true := rxdep_of hdep 3 (by kernel_rfl)
        have hd5 : d 5 = true := rxdep_of hdep 5 (by kernel_rfl)
        obtain rfl := hF.out.f3 hd3
        obtain rfl := hF.out.f5 hd5
        clear hdep hd hd3 hd5
        intro K hK
        simp only [Act.put, List.setIfInBounds_toArray, List.set_cons_zero, List.set_cons_succ]
        go_simp
        refine hK.out _ _ ⟨hb, x7, x12, x13, x14, (.slice (some ⟨g, 0, none⟩) N cap), x16, (.int .i64 (n : Int)), (.pointer (some ⟨g, n * 5, none⟩)), x19, by simp only [Act.put, List.setIfInBounds_toArray, List.set_cons_zero, List.set_cons_succ], ?_⟩
        exact ⟨fun h => hF.out.f0 (by simpa using h), fun h => hF.out.f1 (by simpa using h), fun h => hF.out.f2 (by simpa using h), fun h => hF.out.f3 (by simpa using h), fun h => hF.out.f4 (by simpa using h), fun h => hF.out.f5 (by simpa using h), fun _ => rfl, fun h => hF.out.f7 (by simpa using h), fun h => hF.out.f8 (by simpa using h), fun h => hF.out.f9 (by simpa using h), hF.out.below, fun h h2 => hF.out.blk0 (by simpa using h) (by simpa using h2), fun h => hF.out.blk1 (by simpa using h), fun h => by simpa using hF.out.g9 (by simpa using h)⟩
      · intro d a W hI hd hdep
        obtain ⟨hb, x7, x12, x13, x14, x15, x16, x17, x18, x19, rfl, hF⟩ := hI
        have hd6 : d 6 = true := rxdep_of hdep 6 (by kernel_rfl)
        obtain rfl := hF.out.f6 hd6
        have HSW : Hid (W.cell? ⟨pp, 0, none⟩ = some (.slice (some ⟨g, 0, none⟩) N cap) ∧ W.cell? ⟨bx, 0, none⟩ = some (.int .i64 (n : Int)) ∧ W.cell? ⟨bx, 1, none⟩ = some (.int .i64 (p : Int)) ∧ W.cell? ⟨g, n * 5, none⟩ = some (.int .u64 (c.1.toNat : Int)) ∧ W.cell? ⟨g, n * 5 + 1, none⟩ = some (.int .u64 (c.2.1.toNat : Int)) ∧ W.cell? ⟨g, n * 5 + 2, none⟩ = some (.int .u64 (c.2.2.1.toNat : Int)) ∧ W.cell? ⟨g, n * 5 + 3, none⟩ = some (.int .u64 (c.2.2.2.toNat : Int)) ∧ W.cell? ⟨g, n * 5 + 4, none⟩ = some (.slice ao l.length l.length)) := rd_next HS.out hF.out.below
        have s0 := HSW.out.2.2.2.1
        have s1 := HSW.out.2.2.2.2.1
        have s2 := HSW.out.2.2.2.2.2.1
        have s3 := HSW.out.2.2.2.2.2.2.1
        have s4 := HSW.out.2.2.2.2.2.2.2
        clear HSW
        clear hdep hd hd6
        intro K hK
        simp only [Act.put, List.setIfInBounds_toArray, List.set_cons_zero, List.set_cons_succ]
        go_simp
        refine hK.out _ _ ⟨hb, x7, x12, x13, x14, x15, x16, x17, (.pointer (some ⟨g, n * 5, none⟩)), (.agg #[.int .u64 (c.1.toNat : Int), .int .u64 (c.2.1.toNat : Int), .int .u64 (c.2.2.1.toNat : Int), .int .u64 (c.2.2.2.toNat : Int), .slice ao l.length l.length]), by simp only [Act.put, List.setIfInBounds_toArray, List.set_cons_zero, List.set_cons_succ], ?_⟩
        exact ⟨fun h => hF.out.f0 (by simpa using h), fun h => hF.out.f1 (by simpa using h), fun h => hF.out.f2 (by simpa using h), fun h => hF.out.f3 (by simpa using h), fun h => hF.out.f4 (by simpa using h), fun h => hF.out.f5 (by simpa using h), fun h => hF.out.f6 (by simpa using h), fun _ => rfl, fun h => hF.out.f8 (by simpa using h), fun h => hF.out.f9 (by simpa using h), hF.out.below, fun h h2 => hF.out.blk0 (by simpa using h) (by simpa using h2), fun h => hF.out.blk1 (by simpa using h), fun h => by simpa using hF.out.g9 (by simpa using h)⟩
      · intro d a W hI hd hdep
        obtain ⟨hb, x7, x12, x13, x14, x15, x16, x17, x18, x19, rfl, hF⟩ := hI
        have h9 : d 9 = false := by
          cases hx : d 9 with
          | false => rfl
          | true => have := hF.out.g9 hx; rw [hd] at this; cases this
        have HD : Hid (d 9 = false) := h9
        clear h9
        clear hdep hd
        intro K hK
        simp only [Act.put, List.setIfInBounds_toArray, List.set_cons_zero, List.set_cons_succ]
        go_simp
        refine hK.out _ _ ⟨W.heap.size, (.pointer (some ⟨W.heap.size, 0, none⟩)), x12, x13, x14, x15, x16, x17, x18, x19, by simp only [Act.put, List.setIfInBounds_toArray, List.set_cons_zero, List.set_cons_succ], ?_⟩
        have hb := box_keep W (.cells #[.int .u64 0, .int .u64 0, .int .u64 0, .int .u64 0, .slice none 0 0] 144)
        exact ⟨fun h => hF.out.f0 (by simpa using h), fun h => hF.out.f1 (by simpa using h), fun h => hF.out.f2 (by simpa using h), fun h => hF.out.f3 (by simpa using h), fun h => hF.out.f4 (by simpa using h), fun h => hF.out.f5 (by simpa using h), fun h => hF.out.f6 (by simpa using h), fun h => hF.out.f7 (by simpa using h), fun _ => rfl, fun h => hF.out.f9 (by simpa using h), hF.out.below.alloc hF.out.below.size _, fun _ _ => ⟨block_new W _, hF.out.below.size⟩, fun h => rxno_way (HD.out.symm.trans (show d 9 = true by simpa using h)), fun _ => by simp⟩
      · intro d a W hI hd hdep
        obtain ⟨hb, x7, x12, x13, x14, x15, x16, x17, x18, x19, rfl, hF⟩ := hI
        have hd7 : d 7 = true := rxdep_of hdep 7 (by kernel_rfl)
        have hd8 : d 8 = true := rxdep_of hdep 8 (by kernel_rfl)
        obtain rfl := hF.out.f7 hd7
        obtain rfl := hF.out.f8 hd8
        have hz := (hF.out.blk0 hd8 hd).1
        have hlo := (hF.out.blk0 hd8 hd).2
        have b0 := cell_of_row W hb 0 _ 144 (0, 0) hz
        have b1 := cell_of_row W hb 1 _ 144 (0, 0) hz
        have b2 := cell_of_row W hb 2 _ 144 (0, 0) hz
        have b3 := cell_of_row W hb 3 _ 144 (0, 0) hz
        have b4 := cell_of_row W hb 4 _ 144 (0, 0) hz
        have r0 := frozen_of_row W hb 0 _ 144 hz
        have r1 := frozen_of_row W hb 1 _ 144 hz
        have r2 := frozen_of_row W hb 2 _ 144 hz
        have r3 := frozen_of_row W hb 3 _ 144 hz
        have r4 := frozen_of_row W hb 4 _ 144 hz
        have HZB : Hid (W.heap[hb]? = some (.cells #[.int .u64 0, .int .u64 0, .int .u64 0, .int .u64 0, .slice none 0 0] 144)) := hz
        have HD : Hid (d 8 = true) := hd8
        clear hz
        clear hdep hd hd7 hd8
        intro K hK
        simp only [Act.put, List.setIfInBounds_toArray, List.set_cons_zero, List.set_cons_succ]
        go_simp
        refine hK.out _ _ ⟨hb, (.pointer (some ⟨hb, 0, none⟩)), x12, x13, x14, x15, x16, x17, x18, (.agg #[.int .u64 (c.1.toNat : Int), .int .u64 (c.2.1.toNat : Int), .int .u64 (c.2.2.1.toNat : Int), .int .u64 (c.2.2.2.toNat : Int), .slice ao l.length l.length]), by simp only [Act.put, List.setIfInBounds_toArray, List.set_cons_zero, List.set_cons_succ], ?_⟩
        have z0 := heap_setCell_same W hb 0 _ 144 (.int .u64 (c.1.toNat : Int)) HZB.out
        have z1 := heap_setCell_same _ hb 1 _ 144 (.int .u64 (c.2.1.toNat : Int)) z0
        have z2 := heap_setCell_same _ hb 2 _ 144 (.int .u64 (c.2.2.1.toNat : Int)) z1
        have z3 := heap_setCell_same _ hb 3 _ 144 (.int .u64 (c.2.2.2.toNat : Int)) z2
        have z4 := heap_setCell_same _ hb 4 _ 144 (.slice ao l.length l.length) z3
        have hb5 := ((((hF.out.below.setCell (p := ⟨hb, 0, none⟩) hlo (.int .u64 (c.1.toNat : Int))).setCell (p := ⟨hb, 1, none⟩) hlo (.int .u64 (c.2.1.toNat : Int))).setCell (p := ⟨hb, 2, none⟩) hlo (.int .u64 (c.2.2.1.toNat : Int))).setCell (p := ⟨hb, 3, none⟩) hlo (.int .u64 (c.2.2.2.toNat : Int))).setCell (p := ⟨hb, 4, none⟩) hlo (.slice ao l.length l.length)
        exact ⟨fun h => hF.out.f0 (by simpa using h), fun h => hF.out.f1 (by simpa using h), fun h => hF.out.f2 (by simpa using h), fun h => hF.out.f3 (by simpa using h), fun h => hF.out.f4 (by simpa using h), fun h => hF.out.f5 (by simpa using h), fun h => hF.out.f6 (by simpa using h), fun h => hF.out.f7 (by simpa using h), fun h => hF.out.f8 (by simpa using h), fun _ => trivial, hb5, fun _ h => by simp at h, fun _ => ⟨z4, hlo⟩, fun _ => by simpa using HD.out⟩
    · intro d a W hI hall
      obtain ⟨hb, x7, x12, x13, x14, x15, x16, x17, x18, x19, rfl, hF⟩ := hI
      simp only [List.length_cons, List.length_nil] at hall
      obtain rfl := hF.out.f0 (hall 0 (by omega))
      obtain rfl := hF.out.f1 (hall 1 (by omega))
      obtain rfl := hF.out.f2 (hall 2 (by omega))
      obtain rfl := hF.out.f3 (hall 3 (by omega))
      obtain rfl := hF.out.f4 (hall 4 (by omega))
      obtain rfl := hF.out.f5 (hall 5 (by omega))
      obtain rfl := hF.out.f6 (hall 6 (by omega))
      obtain rfl := hF.out.f7 (hall 7 (by omega))
      obtain rfl := hF.out.f8 (hall 8 (by omega))
      have HF : Hid (Below wr.heap.size wr W ∧ W.heap[hb]? = some (.cells #[.int .u64 (c.1.toNat : Int), .int .u64 (c.2.1.toNat : Int), .int .u64 (c.2.2.1.toNat : Int), .int .u64 (c.2.2.2.toNat : Int), .slice ao l.length l.length] 144)) := ⟨hF.out.below, (hF.out.blk1 (hall 9 (by omega))).1⟩
      have hlo := (hF.out.blk1 (hall 9 (by omega))).2
      clear hF hall
      simp only [Act.put, List.setIfInBounds_toArray, List.set_cons_zero, List.set_cons_succ]
      go_wp2_with fail
      go_meet
      case rel => exact ⟨hb, rfl, hlo, HF⟩
  case rest =>
    obtain ⟨hb, rfl, hlo, HX⟩ := hcut
    obtain ⟨hc, HC⟩ : ∃ hc, Hid (decide (c = empty) = hc) := ⟨_, (rfl : decide (c = empty) = decide (c = empty))⟩
    obtain ⟨i0, hi, hz0, hz1, hz2⟩ := info_parts info163
    have hq : ∀ W, (Op.equalIn 10000 42 (.agg #[.int .u64 (c.1.toNat : Int), .int .u64 (c.2.1.toNat : Int), .int .u64 (c.2.2.1.toNat : Int), .int .u64 (c.2.2.2.toNat : Int)]) (.agg #[.int .u64 0, .int .u64 0, .int .u64 0, .int .u64 0])).run Try.prog W = .ok hc W := fun W => by rw [eqIn_zero, HC.out]
    have hgd := guard24
    have HBW : Hid (Below w.heap.size w wc) := hb0.trans (HX.out.1.mono hszw)
    obtain ⟨s0, s1, s2, _⟩ := rd_next HS.out HX.out.1
    have b0 := cell_of_row wc hb 0 _ 144 (0, 0) HX.out.2
    have b1 := cell_of_row wc hb 1 _ 144 (0, 0) HX.out.2
    have b2 := cell_of_row wc hb 2 _ 144 (0, 0) HX.out.2
    have b3 := cell_of_row wc hb 3 _ 144 (0, 0) HX.out.2
    have b4 := cell_of_row wc hb 4 _ 144 (0, 0) HX.out.2
    simp at b0 b1 b2 b3 b4
    by_cases hce : c = empty
    · have hct : hc = true := by rw [← HC.out]; simp [hce]
      subst hct
      have HBE : Hid (bh F s n p = l.map (·, p)) := by
        show _ = _
        rw [HBH.out, if_pos hce]
      clear hce
      go_wp2_with fail
      go_loopw [9, 44] (fun v9 i wx => ∃ k : Nat, k ≤ l.length ∧ i = .int .i64 (k : Int) ∧ Hid (wx.ownsRow w.heap.size 163 2 v9 k (sp ((l.take k).map (·, p))) ∧ Below w.heap.size w wx ∧ (k = 0 → v9 = .slice none 0 0))) (fun _ i _ => l.length - (intOf i).toNat)
      case atStart => exact ⟨0, Nat.zero_le _, rfl, by simpa [sp] using World.ownsRow_nil _ w.heap.size 163 2, HBW.out, fun _ => rfl⟩
      case round =>
        obtain ⟨k, hk, rfl, HR⟩ := hrel
        by_cases hlt : k < l.length
        · obtain ⟨bn, hao, hbn, hcn⟩ := HNX.out k hlt
          subst hao
          have hcw := (HR.out.2.1.cell (p := ⟨bn, k, none⟩) hbn).trans hcn
          have HTK : Hid ((l.take (k + 1)).map (·, p) = (l.take k).map (·, p) ++ [(l[k], p)]) := by
            show _ = _
            rw [List.take_succ_eq_append_getElem hlt, List.map_append]; rfl
          obtain ⟨m, HM⟩ : ∃ m, Hid (l[k] = m) := ⟨_, (rfl : l[k] = l[k])⟩
          rw [HM.out] at hcw HTK
          have hszr := HR.out.2.1.size
          clear hcn
          go_wp2_with (first
            | (at_builtin; refine wpList_append_own _ rfl _ _ 164 rfl w.heap.size 163 i0 (.agg #[.int .i64 0, .int .i64 0]) 2 16 Try.underlying164 hi hz0 hz1 hz2 rfl (by decide) _ _ _ rfl (HR.out.1.alloc _) ⟨wr.heap.size, 0, none⟩ 1 1 [.int .i64 (m : Int), .int .i64 (((p : Nat)) : Int)] rfl rfl (World.news_of_block (t := 163) (fr := (0, 0)) (heap_alloc_new wr _)) (by simp [Value.oneCell']) (by unfold maxLen; omega) (by omega) (by simp; omega) ?_; intro v' w4 hown' hgrow _)
            | go_in)
          have hz4 := hgrow.size
          simp at hz4
          go_roundw
          case rel =>
            refine ⟨k + 1, by omega, by go_num, ?_, ?_, fun h => by omega⟩
            · rw [HTK.out, sp_append]; exact hown'
            · exact (HR.out.2.1.alloc HR.out.2.1.size _).grown hgrow (by simp; omega) (fun j hj => rxown_ge HR.out.1 _ hj)
          case measure => simp [intOf]; omega
        · have e : k = l.length := by omega
          subst e
          go_wp2_with fail
          go_ret
          refine ⟨_, rfl, ?_, HR.out.2.1, fun h => HR.out.2.2 (by rw [HBE.out] at h; simpa using congrArg List.length h)⟩
          have h := HR.out.1
          rw [List.take_length] at h
          rw [HBE.out]
          simpa using h
    · have hct : hc = false := by rw [← HC.out]; simp [hce]
      subst hct
      have HE : Hid (¬ c = empty) := hce
      clear hce
      go_upto_region 4 with fail
      have S1 : SB wc hb c wc.drew := ⟨(Below.refl _ _).drew, b0, b1, b2, b3⟩
      have p0 : ∀ p : Kp (SB wc hb c), p.W.cell? ⟨hb, 0, none⟩ = some (.int .u64 (c.1.toNat : Int)) := fun p => p.h.2.1
      have p1 : ∀ p : Kp (SB wc hb c), p.W.cell? ⟨hb, 1, none⟩ = some (.int .u64 (c.2.1.toNat : Int)) := fun p => p.h.2.2.1
      have p2 : ∀ p : Kp (SB wc hb c), p.W.cell? ⟨hb, 2, none⟩ = some (.int .u64 (c.2.2.1.toNat : Int)) := fun p => p.h.2.2.2.1
      have p3 : ∀ p : Kp (SB wc hb c), p.W.cell? ⟨hb, 3, none⟩ = some (.int .u64 (c.2.2.2.toNat : Int)) := fun p => p.h.2.2.2.2
      have hne : Nonempty (Kp (SB wc hb c)) := ⟨⟨_, S1⟩⟩
      by_cases hps : p < s.size
      · have hpe : ((p : Int) == (s.size : Int)) = false := by simp; omega
        obtain ⟨b, HBB⟩ : ∃ b : Nat, Hid (s[p].toNat = b) := ⟨_, (rfl : s[p].toNat = s[p].toNat)⟩
        have hb256 : b < 256 := by rw [← HBB.out]; exact s[p].toNat_lt
        have hix : ∀ w, (Instr.index 9 (.string s) (.int .i64 (p : Int))).run Try.prog w = .ok (.int .u8 (b : Int)) w := fun w => by
          rw [← HBB.out, run_index_string (h := Try.underlying9), dif_pos ⟨by omega, by omega⟩]
          rfl
        cases hm : mem c b with
        | true =>
          have HHA : Hid (∀ W, Calls Try.prog 72 #[.agg #[.int .u64 (c.1.toNat : Int), .int .u64 (c.2.1.toNat : Int), .int .u64 (c.2.2.1.toNat : Int), .int .u64 (c.2.2.2.toNat : Int)], .int .u8 (b : Int)] W fun e w' => e = .returned (.bool true) ∧ Lays W w') := fun W => by
            have h := has_any c _ b rfl hb256 W
            rw [hm] at h
            exact h
          have HBE : Hid (bh F s n p = l.map (·, p + 1)) := by
            show _ = _
            rw [HBH.out, if_neg HE.out, dif_pos hps, HBB.out, if_pos hm]
          clear hm
          refine wp_region_kept mixed (by kernel_rfl) S1 ?_
          clear S1
          repeat (go_big_quiet_step (first | (go_at_call 72; with_reducible exact Kp.calls_lays _ SB.next (HHA.out _))))
          refine wpQuiet_nil ?_
          intro W1 hw1
          obtain ⟨⟨W1, HS1⟩, rfl⟩ := hw1
          have HBV : Hid (Below w.heap.size w W1) := HBW.out.trans (HS1.1.mono HBW.out.size)
          have b4' := cell_next b4 HS1.1
          clear p0 p1 p2 p3 hne b0 b1 b2 b3 HX
          have HBW : Hid (Below w.heap.size w W1) := HBV.out
          go_wp2_with fail
          go_loopw [9, 44] (fun v9 i wx => ∃ k : Nat, k ≤ l.length ∧ i = .int .i64 (k : Int) ∧ Hid (wx.ownsRow w.heap.size 163 2 v9 k (sp ((l.take k).map (·, p + 1))) ∧ Below w.heap.size w wx ∧ (k = 0 → v9 = .slice none 0 0))) (fun _ i _ => l.length - (intOf i).toNat)
          case atStart => exact ⟨0, Nat.zero_le _, rfl, by simpa [sp] using World.ownsRow_nil _ w.heap.size 163 2, HBW.out, fun _ => rfl⟩
          case round =>
            obtain ⟨k, hk, rfl, HR⟩ := hrel
            by_cases hlt : k < l.length
            · obtain ⟨bn, hao, hbn, hcn⟩ := HNX.out k hlt
              subst hao
              have hcw := (HR.out.2.1.cell (p := ⟨bn, k, none⟩) hbn).trans hcn
              have HTK : Hid ((l.take (k + 1)).map (·, p + 1) = (l.take k).map (·, p + 1) ++ [(l[k], p + 1)]) := by
                show _ = _
                rw [List.take_succ_eq_append_getElem hlt, List.map_append]; rfl
              obtain ⟨m, HM⟩ : ∃ m, Hid (l[k] = m) := ⟨_, (rfl : l[k] = l[k])⟩
              rw [HM.out] at hcw HTK
              have hszr := HR.out.2.1.size
              clear hcn
              go_wp2_with (first
                | (at_builtin; refine wpList_append_own _ rfl _ _ 164 rfl w.heap.size 163 i0 (.agg #[.int .i64 0, .int .i64 0]) 2 16 Try.underlying164 hi hz0 hz1 hz2 rfl (by decide) _ _ _ rfl (HR.out.1.alloc _) ⟨wr.heap.size, 0, none⟩ 1 1 [.int .i64 (m : Int), .int .i64 (((p + 1 : Nat)) : Int)] rfl rfl (World.news_of_block (t := 163) (fr := (0, 0)) (heap_alloc_new wr _)) (by simp [Value.oneCell']) (by unfold maxLen; omega) (by omega) (by simp; omega) ?_; intro v' w4 hown' hgrow _)
                | go_in)
              have hz4 := hgrow.size
              simp at hz4
              go_roundw
              case rel =>
                refine ⟨k + 1, by omega, by go_num, ?_, ?_, fun h => by omega⟩
                · rw [HTK.out, sp_append]; exact hown'
                · exact (HR.out.2.1.alloc HR.out.2.1.size _).grown hgrow (by simp; omega) (fun j hj => rxown_ge HR.out.1 _ hj)
              case measure => simp [intOf]; omega
            · have e : k = l.length := by omega
              subst e
              go_wp2_with fail
              go_ret
              refine ⟨_, rfl, ?_, HR.out.2.1, fun h => HR.out.2.2 (by rw [HBE.out] at h; simpa using congrArg List.length h)⟩
              have h := HR.out.1
              rw [List.take_length] at h
              rw [HBE.out]
              simpa using h
        | false =>
          have HHA : Hid (∀ W, Calls Try.prog 72 #[.agg #[.int .u64 (c.1.toNat : Int), .int .u64 (c.2.1.toNat : Int), .int .u64 (c.2.2.1.toNat : Int), .int .u64 (c.2.2.2.toNat : Int)], .int .u8 (b : Int)] W fun e w' => e = .returned (.bool false) ∧ Lays W w') := fun W => by
            have h := has_any c _ b rfl hb256 W
            rw [hm] at h
            exact h
          have HBE : Hid (bh F s n p = []) := by
            show _ = _
            rw [HBH.out, if_neg HE.out, dif_pos hps, HBB.out, if_neg (by simp [hm])]
          clear hm
          refine wp_region_kept mixed (by kernel_rfl) S1 ?_
          clear S1
          repeat (go_big_quiet_step (first | (go_at_call 72; with_reducible exact Kp.calls_lays _ SB.next (HHA.out _))))
          refine wpQuiet_nil ?_
          intro W1 hw1
          obtain ⟨⟨W1, HS1⟩, rfl⟩ := hw1
          have HBV : Hid (Below w.heap.size w W1) := HBW.out.trans (HS1.1.mono HBW.out.size)
          clear p0 p1 p2 p3 hne
          go_wp2_with fail
          go_ret
          exact ⟨_, rfl, by rw [HBE.out]; exact World.ownsRow_nil _ w.heap.size 163 2, HBV.out, fun _ => rfl⟩
      · have hpe : ((p : Int) == (s.size : Int)) = true := by simp; omega
        have HBE : Hid (bh F s n p = []) := by
          show _ = _
          rw [HBH.out, if_neg HE.out, dif_neg hps]
        refine wp_region_kept mixed (by kernel_rfl) S1 ?_
        clear S1
        repeat (go_big_quiet_step (fail))
        refine wpQuiet_nil ?_
        intro W1 hw1
        obtain ⟨⟨W1, HS1⟩, rfl⟩ := hw1
        have HBV : Hid (Below w.heap.size w W1) := HBW.out.trans (HS1.1.mono HBW.out.size)
        clear p0 p1 p2 p3 hne
        go_wp2_with fail
        go_ret
        exact ⟨_, rfl, by rw [HBE.out]; exact World.ownsRow_nil _ w.heap.size 163 2, HBV.out, fun _ => rfl⟩
end Go.Proofs.Ytlmlkpdppkgenaa

namespace Go.Proofs.Ytlmlkpdppkgenaa
open Cls Rex

theorem few : ∀ (n : Nat) (l : List Nat), l.Nodup → (∀ x ∈ l, x < n) → l.length ≤ n
  | 0, l, _, h => by
    cases l with
    | nil => simp
    | cons a l => exact absurd (h a (by simp)) (Nat.not_lt_zero _)
  | n + 1, l, hd, h => by
    by_cases hn : n ∈ l
    · have hs : ∀ x ∈ l.erase n, x < n := fun x hx => by
        have h1 := h x (List.mem_of_mem_erase hx)
        have h2 : x ≠ n := fun e => by subst e; exact hd.not_mem_erase hx
        omega
      have i1 := few n (l.erase n) (hd.erase n) hs
      have hl := List.length_erase_of_mem hn
      have h0 : 0 < l.length := List.length_pos_of_mem hn
      omega
    · have hs : ∀ x ∈ l, x < n := fun x hx => by
        have h1 := h x hx
        have h2 : x ≠ n := fun e => by subst e; exact hn hx
        omega
      have := few n l hd hs
      omega
theorem mem_bh {F : List St} {s : ByteArray} {n p m q : Nat} : (m, q) ∈ bh F s n p ↔ Rex.Next F s.data.toList n p m q := by
  unfold bh Rex.Next
  cases hF : F[n]? with
  | none => simp
  | some cl =>
    obtain ⟨c, l⟩ := cl
    simp only
    by_cases hc : c = empty
    · simp only [if_pos hc, List.mem_map, Prod.mk.injEq, Option.some.injEq]
      constructor
      · rintro ⟨x, hx, rfl, rfl⟩; exact ⟨c, l, ⟨rfl, rfl⟩, hx, Or.inl ⟨hc, rfl⟩⟩
      · rintro ⟨c', l', ⟨rfl, rfl⟩, hm, h | h⟩
        · exact ⟨m, hm, rfl, h.2.symm⟩
        · exact absurd hc h.1
    · simp only [if_neg hc, Option.some.injEq, Prod.mk.injEq]
      have hz : s.data.toList.length = s.size := by rw [Array.length_toList]; rfl
      by_cases hp : p < s.size
      · have hg : s.data.toList[p]? = some s[p] := by rw [List.getElem?_eq_getElem (by omega)]; rfl
        simp only [dif_pos hp]
        by_cases hb : mem c s[p].toNat = true
        · simp only [if_pos hb, List.mem_map, Prod.mk.injEq]
          constructor
          · rintro ⟨x, hx, rfl, rfl⟩; exact ⟨c, l, ⟨rfl, rfl⟩, hx, Or.inr ⟨hc, s[p], hg, hb, rfl⟩⟩
          · rintro ⟨c', l', ⟨rfl, rfl⟩, hm, h | ⟨_, b, h1, h2, h3⟩⟩
            · exact absurd h.1 hc
            · exact ⟨m, hm, rfl, h3.symm⟩
        · simp only [if_neg hb, List.not_mem_nil, false_iff]
          rintro ⟨c', l', ⟨rfl, rfl⟩, hm, h | ⟨_, b, h1, h2, h3⟩⟩
          · exact hc h.1
          · rw [hg] at h1
            cases h1
            exact hb h2
      · simp only [dif_neg hp, List.not_mem_nil, false_iff]
        rintro ⟨c', l', ⟨rfl, rfl⟩, hm, h | ⟨_, b, h1, h2, h3⟩⟩
        · exact hc h.1
        · have := (List.getElem?_eq_some_iff.1 h1).1
          omega
theorem bh_len {F : List St} {s : ByteArray} {n p : Nat} (hF : Fine F) : (bh F s n p).length ≤ 2 := by
  unfold bh
  cases h : F[n]? with
  | none => simp
  | some cl =>
    obtain ⟨c, l⟩ := cl
    have := (hF n c l h).1
    simp only
    split
    · simpa using this
    · split
      · split
        · simpa using this
        · simp
      · simp
/-- A spot of the plan and the text. -/
def Ok (F : List St) (s : ByteArray) (u : Nat × Nat) : Prop := u.1 < F.length ∧ u.2 ≤ s.size
theorem bh_ok {F : List St} {s : ByteArray} {u v : Nat × Nat} (hF : Fine F) (hu : Ok F s u) (hv : v ∈ bh F s u.1 u.2) : Ok F s v := by
  obtain ⟨m, q⟩ := v
  obtain ⟨c, l, h1, h2, h3⟩ := mem_bh.1 hv
  refine ⟨(hF _ c l h1).2 m h2, ?_⟩
  rcases h3 with ⟨_, rfl⟩ | ⟨_, b, h4, _, rfl⟩
  · exact hu.2
  · have := (List.getElem?_eq_some_iff.1 h4).1
    have hz : s.data.toList.length = s.size := by rw [Array.length_toList]; rfl
    show _ + 1 ≤ _
    omega
/-- What the search keeps: S the spots gone on from, W those to go on from. -/
structure Srch (F : List St) (en : Nat) (s : ByteArray) (st : Nat × Nat) (S W : List (Nat × Nat)) : Prop where
  start : st ∈ S ∨ st ∈ W
  closed : ∀ u ∈ S, u ≠ (en, s.size) ∧ ∀ v ∈ bh F s u.1 u.2, v ∈ S ∨ v ∈ W
  back : ∀ u ∈ W, Acc F en s.data.toList u.1 u.2 → Acc F en s.data.toList st.1 st.2
  nodup : S.Nodup
  okS : ∀ u ∈ S, Ok F s u
  okW : ∀ u ∈ W, Ok F s u
  len : W.length ≤ 2 * S.length + 1
theorem Srch.init {F : List St} {en : Nat} {s : ByteArray} {st : Nat × Nat} (h : Ok F s st) : Srch F en s st [] [st] :=
  ⟨Or.inr (by simp), fun _ h => absurd h List.not_mem_nil, fun u hu k => (List.mem_singleton.1 hu) ▸ k, List.nodup_nil, fun _ h => absurd h List.not_mem_nil, fun u hu => (List.mem_singleton.1 hu).symm ▸ h, by simp⟩
theorem Srch.again {F : List St} {en : Nat} {s : ByteArray} {st u : Nat × Nat} {S W : List (Nat × Nat)} (h : Srch F en s st S (W ++ [u])) (hu : u ∈ S) : Srch F en s st S W := by
  have hw : ∀ v, v ∈ S ∨ v ∈ W ++ [u] → v ∈ S ∨ v ∈ W := fun v hv => by
    rcases hv with hv | hv
    · exact Or.inl hv
    · simp at hv
      rcases hv with hv | rfl
      · exact Or.inr hv
      · exact Or.inl hu
  refine ⟨hw _ h.start, fun v hv => ⟨(h.closed v hv).1, fun x hx => hw _ ((h.closed v hv).2 x hx)⟩, fun v hv => h.back v (by simp [hv]), h.nodup, h.okS, fun v hv => h.okW v (by simp [hv]), ?_⟩
  have := h.len
  simp at this
  omega
theorem Srch.on {F : List St} {en : Nat} {s : ByteArray} {st u : Nat × Nat} {S W : List (Nat × Nat)} (hF : Fine F) (h : Srch F en s st S (W ++ [u])) (hu : u ∉ S) (ht : u ≠ (en, s.size)) : Srch F en s st (u :: S) (W ++ bh F s u.1 u.2) := by
  have hw : ∀ v, v ∈ S ∨ v ∈ W ++ [u] → v ∈ u :: S ∨ v ∈ W ++ bh F s u.1 u.2 := fun v hv => by
    rcases hv with hv | hv
    · exact Or.inl (by simp [hv])
    · simp at hv
      rcases hv with hv | rfl
      · exact Or.inr (by simp [hv])
      · exact Or.inl (by simp)
  have huk := h.okW u (by simp)
  refine ⟨hw _ h.start, fun v hv => ?_, fun v hv => ?_, List.nodup_cons.2 ⟨hu, h.nodup⟩, fun v hv => ?_, fun v hv => ?_, ?_⟩
  · simp at hv
    rcases hv with rfl | hv
    · exact ⟨ht, fun x hx => Or.inr (by simp [hx])⟩
    · exact ⟨(h.closed v hv).1, fun x hx => hw _ ((h.closed v hv).2 x hx)⟩
  · simp at hv
    rcases hv with hv | hv
    · exact h.back v (by simp [hv])
    · obtain ⟨m, q⟩ := v
      exact fun k => h.back u (by simp) (Acc.step (mem_bh.1 hv) k)
  · simp at hv
    rcases hv with rfl | hv
    · exact huk
    · exact h.okS v hv
  · simp at hv
    rcases hv with hv | hv
    · exact h.okW v (by simp [hv])
    · exact bh_ok hF huk hv
  · have := h.len
    have := bh_len (s := s) (n := u.1) (p := u.2) hF
    simp at *
    omega
theorem Srch.found {F : List St} {en : Nat} {s : ByteArray} {st : Nat × Nat} {S W : List (Nat × Nat)} (h : Srch F en s st S (W ++ [(en, s.size)])) : Acc F en s.data.toList st.1 st.2 :=
  h.back (en, s.size) (by simp) ⟨0, rfl, by show s.size = s.data.toList.length; rw [Array.length_toList]; rfl⟩
theorem Srch.gone {F : List St} {en : Nat} {s : ByteArray} {st : Nat × Nat} {S : List (Nat × Nat)} (h : Srch F en s st S []) : ¬ Acc F en s.data.toList st.1 st.2 := by
  have hz : s.data.toList.length = s.size := by rw [Array.length_toList]; rfl
  have key : ∀ (k n p : Nat), (n, p) ∈ S → ¬ AccN F en s.data.toList k n p := by
    intro k
    induction k with
    | zero =>
      rintro n p hm ⟨h1, h2⟩
      exact (h.closed _ hm).1 (by rw [h1, h2, hz])
    | succ k ih =>
      rintro n p hm (⟨h1, h2⟩ | ⟨m, q, h1, h2⟩)
      · exact (h.closed _ hm).1 (by rw [h1, h2, hz])
      · have := (h.closed _ hm).2 (m, q) (mem_bh.2 h1)
        simp at this
        exact ih m q this h2
  rintro ⟨k, hk⟩
  have := h.start
  simp at this
  exact key k st.1 st.2 this hk
theorem Srch.small {F : List St} {en : Nat} {s : ByteArray} {st : Nat × Nat} {S W : List (Nat × Nat)} (h : Srch F en s st S W) : S.length ≤ F.length * (s.size + 1) := by
  have hn : (S.map fun u => u.1 * (s.size + 1) + u.2).Nodup := by
    refine List.pairwise_map.2 (h.nodup.imp_of_mem fun {a b} ha hb hne hab => hne ?_)
    have h1 := (h.okS a ha).2
    have h2 := (h.okS b hb).2
    have e1 : a.1 = b.1 := by
      have x : (a.1 * (s.size + 1) + a.2) / (s.size + 1) = (b.1 * (s.size + 1) + b.2) / (s.size + 1) := congrArg (· / (s.size + 1)) hab
      rw [Nat.mul_comm a.1, Nat.mul_comm b.1, Nat.mul_add_div (by omega), Nat.mul_add_div (by omega), Nat.div_eq_of_lt (by omega), Nat.div_eq_of_lt (by omega)] at x
      omega
    rw [e1] at hab
    exact Prod.ext e1 (by omega)
  have := few (F.length * (s.size + 1)) _ hn (fun x hx => by
    obtain ⟨u, hu, rfl⟩ := List.mem_map.1 hx
    have h1 := (h.okS u hu).1
    have h2 := (h.okS u hu).2
    calc u.1 * (s.size + 1) + u.2 < u.1 * (s.size + 1) + (s.size + 1) := by omega
      _ = (u.1 + 1) * (s.size + 1) := by rw [Nat.add_mul]; omega
      _ ≤ F.length * (s.size + 1) := Nat.mul_le_mul_right _ h1)
  simpa using this
end Go.Proofs.Ytlmlkpdppkgenaa

namespace Go.Proofs.Ytlmlkpdppkgenaa
open Go.RowKit
open Go.Maps
open Cls Rex

theorem laidOut' : laidOutB Try.prog = true := by kernel_rfl
theorem law62 : Maps.Keyed Try.prog 163 := Maps.Keyed.of_law (deep_law_laid laidOut' (m := 2) (by omega) (of_decide_eq_true (by kernel_rfl)) (by kernel_rfl) (by rw [Try.underlying163]))
theorem zero64 (w : World) : (zeroValue 165).run Try.prog w = .ok (.agg #[]) w := by kernel_rfl
theorem cells163 : Try.prog.cellsOf 163 = 2 := by kernel_rfl
theorem nat_wf (n : Nat) (h : n ≤ 9223372036854775807) : (Lit.int .i64 (n : Int)).wf = true := by
  simp [Lit.wf, IntKind.min, IntKind.max, IntKind.signed, IntKind.bits]; omega
theorem key62 (u : Nat × Nat) (h1 : u.1 ≤ 9223372036854775807) (h2 : u.2 ≤ 9223372036854775807) : ∃ kl, keyOf Try.prog 163 (.agg #[.int .i64 (u.1 : Int), .int .i64 (u.2 : Int)]) = some kl := by
  have hk : Try.prog.keyType 163 = true := by kernel_rfl
  obtain ⟨m, hm⟩ : ∃ m, Try.prog.types.size = m + 1 := ⟨Try.prog.types.size - 1, by have : 0 < Try.prog.types.size := of_decide_eq_true (by kernel_rfl); omega⟩
  unfold keyOf
  rw [Try.underlying163]
  simp only [hk, Bool.true_and]
  rw [if_pos (by simp [Value.formed, Try.underlying163, cells163])]
  rw [hm]
  have e0 : Try.prog.keyLits (m + 1 + 1) 163 (Value.agg #[.int .i64 (u.1 : Int), .int .i64 (u.2 : Int)]).cells.toList = some [.int .i64 (u.1 : Int), .int .i64 (u.2 : Int)] := by
    simp [Program.keyLits, Try.underlying163, Try.underlying3, cells163, rxcells3, nat_wf _ h1, nat_wf _ h2, Value.cells]
  rw [e0]
  exact ⟨_, rfl⟩
theorem key62_inj {u v : Nat × Nat} {kl : Lit} (h1 : keyOf Try.prog 163 (.agg #[.int .i64 (u.1 : Int), .int .i64 (u.2 : Int)]) = some kl) (h2 : keyOf Try.prog 163 (.agg #[.int .i64 (v.1 : Int), .int .i64 (v.2 : Int)]) = some kl) : u = v := by
  have := law62.inj h1 h2
  simp only [Value.agg.injEq, Array.mk.injEq, List.cons.injEq, Value.int.injEq, true_and, and_true] at this
  exact Prod.ext (by omega) (by omega)
/-- The map's keys are the spots of S. -/
def Seen (D : DataW Unit) (S : List (Nat × Nat)) : Prop := IsMap D ∧ ∀ u kl, keyOf Try.prog 163 (.agg #[.int .i64 (u.1 : Int), .int .i64 (u.2 : Int)]) = some kl → (Maps.has D kl = true ↔ u ∈ S)
theorem Seen.none : Seen (.map []) [] := ⟨⟨[], rfl⟩, fun u kl _ => by simp [Maps.has_eq]⟩
theorem Seen.put {D : DataW Unit} {S : List (Nat × Nat)} (h : Seen D S) {u : Nat × Nat} {kl : Lit} (hk : keyOf Try.prog 163 (.agg #[.int .i64 (u.1 : Int), .int .i64 (u.2 : Int)]) = some kl) : Seen (D.put kl (.agg [])) (u :: S) := by
  refine ⟨?_, fun v kv hv => ?_⟩
  · obtain ⟨es, rfl⟩ := h.1
    exact ⟨_, rfl⟩
  · by_cases e : kv = kl
    · subst e
      rw [key62_inj hv hk]
      simp [Maps.has_put_same h.1 (law62.key hk)]
    · rw [Maps.has_put_other e, h.2 v kv hv]
      have hne : v ≠ u := fun x => by
        subst x
        rw [hk] at hv
        exact e (Option.some.inj hv).symm
      simp [hne]
/-- A row's beginning. -/
theorem own_front {w : World} {B g k m cap : Nat} {xs ys : List Value} (h : w.ownsRow B 163 2 (.slice (some ⟨g, 0, none⟩) m cap) m (xs ++ ys)) (hx : xs.length = k * 2) (hk : k ≤ m) : w.ownsRow B 163 2 (.slice (some ⟨g, 0, none⟩) k cap) k xs := by
  refine ⟨hx, ?_⟩
  rcases h.2 with ⟨h', _⟩ | ⟨g', cap', cur, h', hb, hg, hnc, hcm, hcs, htake⟩
  · simp at h'
  · simp only [Value.slice.injEq, Option.some.injEq, Addr.mk.injEq, and_true, true_and] at h'
    obtain ⟨rfl, rfl⟩ := h'
    refine Or.inr ⟨g, cap, cur, rfl, hb, hg, by omega, hcm, hcs, ?_⟩
    have := congrArg (List.take (k * 2)) htake
    rw [List.take_take, Nat.min_eq_left (by omega), ← hx, List.take_left] at this
    rw [← hx]; exact this
theorem exists_least {P : Nat → Prop} (h : ∃ n, P n) : ∃ n, P n ∧ ∀ m, P m → n ≤ m := by
  obtain ⟨n, hn⟩ := h
  induction n using Nat.strongRecOn with
  | _ n ih =>
    by_cases h : ∃ m, m < n ∧ P m
    · obtain ⟨m, h1, h2⟩ := h
      exact ih m h1 h2
    · exact ⟨n, hn, fun m hm => Nat.le_of_not_lt fun hl => h ⟨m, hl, hm⟩⟩
open Classical in
/-- The least number of which it holds, for a loop whose measure is not read off the world. -/
noncomputable def leastOf (P : Nat → Prop) : Nat := if h : ∃ n, P n then Classical.choose (exists_least h) else 0
theorem leastOf_holds {P : Nat → Prop} (h : ∃ n, P n) : P (leastOf P) := by
  unfold leastOf; rw [dif_pos h]; exact (Classical.choose_spec (exists_least h)).1
theorem leastOf_le {P : Nat → Prop} {n : Nat} (h : P n) : leastOf P ≤ n := by
  have h' : ∃ n, P n := ⟨n, h⟩
  unfold leastOf; rw [dif_pos h']; exact (Classical.choose_spec (exists_least h')).2 n h
theorem guard62 : Try.prog.eqGuardType Try.prog.depth 163 = false := by kernel_rfl
end Go.Proofs.Ytlmlkpdppkgenaa

namespace Go.Proofs.Ytlmlkpdppkgenaa
open Go.RowKit
open Go.Maps
open Cls Rex

/-- What leads' loop keeps. -/
structure LD (F : List St) (f0 en : Nat) (s : ByteArray) (w : World) (g cap : Nat) (S W : List (Nat × Nat)) (D : DataW Unit) (wr : World) : Prop where
  own : wr.ownsRow w.heap.size 163 2 (.slice (some ⟨g, 0, none⟩) W.length cap) W.length (sp W)
  map : wr.ownsMap Try.prog 163 unitElem w.heap.size S.length D
  seen : Seen D S
  srch : Srch F en s (f0, 0) S W
  below : Below w.heap.size w wr
  hi : w.heap.size < wr.heap.size
  ne : g ≠ w.heap.size
/-- .. with what is left to do. -/
def LDm (F : List St) (f0 en : Nat) (s : ByteArray) (w : World) (v : Value) (wr : World) (m : Nat) : Prop := ∃ g cap S W D, v = .slice (some ⟨g, 0, none⟩) W.length cap ∧ m = 3 * (F.length * (s.size + 1) - S.length) + W.length ∧ LD F f0 en s w g cap S W D wr
theorem cell_grown' {W W' : World} {row : Option Nat} {b o : Nat} {v : Value} (h : W.cell? ⟨b, o, none⟩ = some v) (hg : W.grownBy W' row) (hne : some b ≠ row) : W'.cell? ⟨b, o, none⟩ = some v :=
  (hg.cell_far ⟨b, o, none⟩ (World.block_lt_of_cell? W ⟨b, o, none⟩ h) hne).trans h
theorem row_below {W W' : World} {B g n cap : Nat} {xs : List Value} (h : W.ownsRow B 163 2 (.slice (some ⟨g, 0, none⟩) n cap) n xs) (hb : Below W.heap.size W W') : W'.ownsRow B 163 2 (.slice (some ⟨g, 0, none⟩) n cap) n xs := by
  refine ⟨h.1, h.2.imp id ?_⟩
  rintro ⟨g', cap', cur, h1, h2, h3, h4⟩
  exact ⟨g', cap', cur, h1, h2, blk_next hb h3, h4⟩
theorem map_below {W W' : World} {M n : Nat} {D : DataW Unit} (h : W.ownsMap Try.prog 163 unitElem M n D) (hb : Below W.heap.size W W') : W'.ownsMap Try.prog 163 unitElem M n D :=
  h.kept (row := none) ⟨hb.os, hb.tape, hb.output, hb.size, fun k hk _ => hb.block k hk⟩ (by simp)
theorem sp_one (l : List (Nat × Nat)) : ∀ x ∈ sp l, x.oneCell' = true := fun x hx => by
  simp only [sp, List.mem_flatMap, List.mem_cons, List.not_mem_nil, or_false] at hx
  obtain ⟨q, _, rfl | rfl⟩ := hx <;> rfl
theorem Pl.nums {B pp : Nat} {f e : Value} {ps : List St} {W : World} (h : Pl B pp f e ps W) : W.cell? ⟨pp, 1, none⟩ = some f ∧ W.cell? ⟨pp, 2, none⟩ = some e := by
  obtain ⟨sv, qs, h1, _⟩ := h
  exact ⟨by simp [World.cell?, h1], by simp [World.cell?, h1]⟩
theorem sp_last (W0 : List (Nat × Nat)) (u : Nat × Nat) : (sp (W0 ++ [u]))[W0.length * 2]? = some (.int .i64 (u.1 : Int)) ∧ (sp (W0 ++ [u]))[W0.length * 2 + 1]? = some (.int .i64 (u.2 : Int)) := by
  have h := sp_len W0
  rw [sp_append, List.getElem?_append_right (by omega), List.getElem?_append_right (by omega)]
  have e1 : W0.length * 2 - (sp W0).length = 0 := by omega
  have e2 : W0.length * 2 + 1 - (sp W0).length = 1 := by omega
  rw [e1, e2]
  simp [sp]

set_option maxHeartbeats 4000000 in
set_option maxRecDepth 20000 in
theorem leads_any (B pp f0 en : Nat) (F : List St) (s : ByteArray) (w : World) (hP : Pl B pp (.int .i64 (f0 : Int)) (.int .i64 (en : Int)) F w) (hF : Fine F) (hlen : F.length ≤ 201) (hs : s.size ≤ 200) (hf : f0 < F.length) :
    Calls Try.prog 77 #[.pointer (some ⟨pp, 0, none⟩), .string s] w fun e' w' => ∃ b, e' = .returned (.bool b) ∧ (b = true ↔ Acc F en s.data.toList f0 0) ∧ Below w.heap.size w w' := by
  have HP : Hid (Pl B pp (.int .i64 (f0 : Int)) (.int .i64 (en : Int)) F w ∧ Fine F) := ⟨hP, hF⟩
  obtain ⟨c1, c2⟩ := hP.nums
  have hmm := @run_makeMap Try.prog
  obtain ⟨i0, hi, hz0, hz1, hz2⟩ := info_parts info163
  have hpp := World.block_lt_of_cell? _ _ c1
  simp only at hpp
  clear hP hF
  go_enter Try.func77, Try.ntmps77
  go_wp2_with fail
  go_loopw [6] (fun v6 wr => ∃ m, LDm F f0 en s w v6 wr m) (fun v6 wr => leastOf (LDm F f0 en s w v6 wr))
  case atStart =>
    refine ⟨_, w.heap.size + 1, 1, [], [(f0, 0)], .map [], rfl, rfl, ⟨?_, ?_, Seen.none, Srch.init ⟨hf, Nat.zero_le _⟩, ?_, by simp; omega, by omega⟩⟩
    · refine ⟨rfl, Or.inr ⟨w.heap.size + 1, 1, #[.int .i64 (f0 : Int), .int .i64 0], rfl, by omega, ?_, Nat.le_refl _, by unfold maxLen; omega, rfl, rfl⟩⟩
      have h := block_new (w.alloc (.map #[] 0)) (.cells #[.int .i64 (f0 : Int), .int .i64 0] 163)
      have e : (w.alloc (.map #[] 0)).heap.size = w.heap.size + 1 := by simp
      rw [e] at h; exact h
    · exact (World.ownsMap_made w Try.prog 163 (unitElem (H := Unit))).alloc _
    · exact ((Below.refl _ w).alloc (Nat.le_refl _) _).alloc (by simp) _
  case round =>
    obtain ⟨g, cap, S, W, D, rfl, HM, HR⟩ := leastOf_holds hrel
    have hcases : W = [] ∨ ∃ W0 u, W = W0 ++ [u] := by
      rcases List.eq_nil_or_concat W with h | ⟨W0, u, h⟩
      · exact Or.inl h
      · exact Or.inr ⟨W0, u, by rw [h, List.concat_eq_append]⟩
    rcases hcases with rfl | ⟨W0, u, rfl⟩
    · go_wp2_with fail
      go_ret
      exact ⟨false, rfl, by simpa using HR.srch.gone, HR.below⟩
    · have hlk : (W0 ++ [u]).length = W0.length + 1 := by simp
      rw [hlk] at HM ⊢
      have hown := HR.own
      rw [hlk] at hown
      have HRH : Hid (LD F f0 en s w g cap S (W0 ++ [u]) D wr) := HR
      have HOWN : Hid (wr.ownsRow w.heap.size 163 2 (.slice (some ⟨g, 0, none⟩) (W0.length + 1) cap) (W0.length + 1) (sp (W0 ++ [u]))) := hown
      have q0 := (HOWN.out.cellAt (W0.length * 2) (by omega)).trans (sp_last W0 u).1
      have q1 := (HOWN.out.cellAt (W0.length * 2 + 1) (by omega)).trans (sp_last W0 u).2
      have huk := HR.srch.okW u (by simp)
      obtain ⟨hu1, hu2⟩ := huk
      obtain ⟨kl, hkey⟩ := key62 u (by omega) (by omega)
      have HK : Hid (keyOf Try.prog 163 (.agg #[.int .i64 (u.1 : Int), .int .i64 (u.2 : Int)]) = some kl) := hkey
      have hsm := HR.srch.small
      have hwl := HR.srch.len
      rw [hlk] at hwl
      have hbig : F.length * (s.size + 1) ≤ 201 * 201 := Nat.mul_le_mul hlen (by omega)
      have HMM : Hid (leastOf (LDm F f0 en s w (.slice (some ⟨g, 0, none⟩) (W0.length + 1) cap) wr) = 3 * (F.length * (s.size + 1) - S.length) + (W0.length + 1)) := HM
      have hwr := HR.below.size
      have hcap : W0.length + 1 ≤ cap := by
        rcases hown.2 with ⟨h, _⟩ | ⟨g', c', cur, h, _, _, h2, _⟩
        · cases h
        · simp only [Value.slice.injEq] at h
          omega
      have HF0 : Hid (wr.ownsRow w.heap.size 163 2 (.slice (some ⟨g, 0, none⟩) W0.length cap) W0.length (sp W0)) := by
        have h := hown
        rw [sp_append] at h
        exact own_front h (sp_len W0) (by omega)
      clear hkey HR hown HM hrel hlk
      obtain ⟨k, HKL⟩ : ∃ k, Hid (W0.length = k) := ⟨_, (rfl : W0.length = W0.length)⟩
      rw [HKL.out] at q0 q1 hwl HMM hcap HF0 HOWN ⊢
      cases hh : Maps.has D kl with
      | true =>
        go_wp2_with (first
          | (at_lookup; refine wpList_lookup_own_unit _ rfl _ _ 161 rfl 163 165 law62 Try.underlying161 (zero64 _) w.heap.size S.length D rfl (HRH.out.map.alloc _) _ _ rfl HK.out ?_)
          | go_in)
        have hG : LDm F f0 en s w (.slice (some ⟨g, 0, none⟩) k cap) ((wr.alloc (.cells #[.int .i64 (u.1 : Int), .int .i64 (u.2 : Int)] 163)).alloc (.cells #[] 165)) (3 * (F.length * (s.size + 1) - S.length) + k) := by
          refine ⟨g, cap, S, W0, D, by rw [HKL.out], by rw [HKL.out], ⟨?_, (HRH.out.map.alloc _).alloc _, HRH.out.seen, HRH.out.srch.again ((HRH.out.seen.2 u kl HK.out).1 hh), (HRH.out.below.alloc hwr _).alloc (by simp; omega) _, by have := HRH.out.hi; simp; omega, HRH.out.ne⟩⟩
          rw [HKL.out]; exact (HF0.out.alloc _).alloc _
        exact ⟨⟨_, hG⟩, Nat.lt_of_le_of_lt (leastOf_le hG) (by rw [HMM.out]; omega)⟩
      | false =>
        have hnS : u ∉ S := fun h => by have := (HRH.out.seen.2 u kl HK.out).2 h; rw [hh] at this; cases this
        have c2' := cell_next (cell_next ((HRH.out.below.cell hpp).trans c2) (box_keep wr (.cells #[.int .i64 (u.1 : Int), .int .i64 (u.2 : Int)] 163))) (box_keep _ (.cells #[] 165))
        have hgd := guard62
        go_upto_region 9 with (first
          | (at_lookup; refine wpList_lookup_own_unit _ rfl _ _ 161 rfl 163 165 law62 Try.underlying161 (zero64 _) w.heap.size S.length D rfl (HRH.out.map.alloc _) _ _ rfl HK.out ?_)
          | (at_mapUpdate; refine wpList_mapUpdate_own _ rfl _ _ _ 161 rfl 163 165 law62 Try.underlying161 (unitElem (H := Unit)) w.heap.size S.length D rfl ((HRH.out.map.alloc _).alloc _) (by unfold maxLen; omega) _ _ _ rfl rfl HK.out _ [] unitElem_mk ?_; intro w3 hmap3 hgr3; have s0 := cell_grown' (row := some w.heap.size) (b := wr.heap.size) (o := 0) (v := .int .i64 (u.1 : Int)) (by simp) hgr3 (by simpa using (Nat.ne_of_gt HRH.out.hi)); have s1 := cell_grown' (row := some w.heap.size) (b := wr.heap.size) (o := 1) (v := .int .i64 (u.2 : Int)) (by simp) hgr3 (by simpa using (Nat.ne_of_gt HRH.out.hi)); have s2 := cell_grown' c2' hgr3 (by simpa using (Nat.ne_of_lt hpp)))
          | go_in)
        have HO3 : Hid (w3.ownsRow w.heap.size 163 2 (.slice (some ⟨g, 0, none⟩) k cap) k (sp W0)) := ((HF0.out.alloc _).alloc _).kept hgr3 (Or.inr (fun e => HRH.out.ne (Option.some.inj e)))
        have HZ3 : Hid (wr.heap.size + 2 ≤ w3.heap.size) := by
          have := hgr3.size
          simp at this
          exact this
        have HB3 : Hid (Below w.heap.size w w3) := ((HRH.out.below.alloc hwr _).alloc (by simp; omega) _).grown hgr3 (by simp; omega) (fun j hj => by cases hj; exact Nat.le_refl _)
        by_cases hut : u = (en, s.size)
        · have e1 : ((u.1 : Int) == (en : Int)) = true := by simp [hut]
          have e2 : ((u.2 : Int) == (s.size : Int)) = true := by simp [hut]
          have HUT : Hid (u = (en, s.size)) := hut
          clear hut
          go_quiet (fail)
          go_wp2_with fail
          go_ret
          exact ⟨true, rfl, ⟨fun _ => by have h := HRH.out.srch; rw [HUT.out] at h; exact h.found, fun _ => rfl⟩, HB3.out.trans ⟨rfl, rfl, rfl, Nat.le_refl _, fun _ _ => rfl⟩⟩
        · have HUT : Hid (u ≠ (en, s.size)) := hut
          by_cases h1 : u.1 = en
          · have e1 : ((u.1 : Int) == (en : Int)) = true := by simp [h1]
            have e2 : ((u.2 : Int) == (s.size : Int)) = false := by
              simp only [beq_eq_false_iff_ne]
              intro h
              exact hut (Prod.ext h1 (by show u.2 = s.size; omega))
            clear hut h1
            go_quiet (fail)
            have hd3 : Below w3.heap.size w3 (w3.drewN nq) := ⟨rfl, rfl, rfl, Nat.le_refl _, fun _ _ => rfl⟩
            generalize w3.drewN nq = w3' at hd3 ⊢
            have HB3' : Hid (Below w.heap.size w w3' ∧ w3.heap.size ≤ w3'.heap.size) := ⟨HB3.out.trans (hd3.mono HB3.out.size), hd3.size⟩
            have t0 := cell_next s0 hd3
            have t1 := cell_next s1 hd3
            have HO3' : Hid (w3'.ownsRow w.heap.size 163 2 (.slice (some ⟨g, 0, none⟩) k cap) k (sp W0)) := row_below HO3.out hd3
            have HMP : Hid (w3'.ownsMap Try.prog 163 unitElem w.heap.size (S.length + 1) (D.put kl (.agg []))) := map_below hmap3 hd3
            have HBH : Hid (Calls Try.prog 87 #[.pointer (some ⟨pp, 0, none⟩), .agg #[.int .i64 (u.1 : Int), .int .i64 (u.2 : Int)], .string s] w3' fun e' w' => ∃ v, e' = .returned v ∧ w'.ownsRow w3'.heap.size 163 2 v (bh F s u.1 u.2).length (sp (bh F s u.1 u.2)) ∧ Below w3'.heap.size w3' w' ∧ (bh F s u.1 u.2 = [] → v = .slice none 0 0)) := rxbehind_any B pp _ _ F s u.1 u.2 w3' (HP.out.1.keep HB3'.out.1) hu1 HP.out.2 hu2 hs
            clear hd3 s0 s1 s2 hmap3 hgr3 HO3
            by_cases hbe : bh F s u.1 u.2 = []
            · have HBN : Hid (Calls Try.prog 87 #[.pointer (some ⟨pp, 0, none⟩), .agg #[.int .i64 (u.1 : Int), .int .i64 (u.2 : Int)], .string s] w3' fun e' w' => e' = .returned (.slice none 0 0) ∧ Below w3'.heap.size w3' w') := (HBH.out).mono fun _ _ ⟨v, h1, _, h3, h4⟩ => ⟨by rw [h1, h4 hbe], h3⟩
              have HBE : Hid (bh F s u.1 u.2 = []) := hbe
              clear hbe HBH
              go_wp2_with (first
                | (go_at_call 87; refine HBN.out.mono ?_; rintro e w4 ⟨rfl, hb4⟩; have HO4 : Hid (w4.ownsRow w.heap.size 163 2 (.slice (some ⟨g, 0, none⟩) k cap) k (sp W0)) := row_below HO3'.out hb4)
                | (at_builtin; refine wpList_append_own_none _ rfl _ _ 164 rfl w.heap.size 163 i0 2 Try.underlying164 hi _ _ _ rfl HO4.out rfl ?_)
                | go_in)
              have hG : LDm F f0 en s w (.slice (some ⟨g, 0, none⟩) k cap) w4 (3 * (F.length * (s.size + 1) - (S.length + 1)) + k) := by
                have hsr := HRH.out.srch.on HP.out.2 hnS HUT.out
                rw [HBE.out, List.append_nil] at hsr
                refine ⟨g, cap, u :: S, W0, D.put kl (.agg []), by rw [HKL.out], by rw [HKL.out]; rfl, ⟨?_, map_below HMP.out hb4, HRH.out.seen.put HK.out, hsr, HB3'.out.1.trans (hb4.mono HB3'.out.1.size), by have := hb4.size; have := HRH.out.hi; have := HZ3.out; have := HB3'.out.2; omega, HRH.out.ne⟩⟩
                rw [HKL.out]; exact HO4.out
              have hsn := (Srch.small (HRH.out.srch.on HP.out.2 hnS HUT.out))
              simp only [List.length_cons] at hsn
              exact ⟨⟨_, hG⟩, Nat.lt_of_le_of_lt (leastOf_le hG) (by rw [HMM.out]; omega)⟩
            · have HBS : Hid (Calls Try.prog 87 #[.pointer (some ⟨pp, 0, none⟩), .agg #[.int .i64 (u.1 : Int), .int .i64 (u.2 : Int)], .string s] w3' fun e' w' => ∃ g2 cap2, e' = .returned (.slice (some ⟨g2, 0, none⟩) (bh F s u.1 u.2).length cap2) ∧ w'.ownsRow w3'.heap.size 163 2 (.slice (some ⟨g2, 0, none⟩) (bh F s u.1 u.2).length cap2) (bh F s u.1 u.2).length (sp (bh F s u.1 u.2)) ∧ Below w3'.heap.size w3' w') := (HBH.out).mono fun _ _ ⟨v, h1, h2, h3, _⟩ => by
                have h2' := h2
                rcases h2.2 with ⟨_, h0⟩ | ⟨g2, cap2, cur, rfl, _⟩
                · exact absurd (List.length_eq_zero_iff.1 h0) hbe
                · exact ⟨g2, cap2, h1, h2', h3⟩
              have hm0 : 0 < (bh F s u.1 u.2).length := List.length_pos_iff.2 hbe
              have hm2 : (bh F s u.1 u.2).length ≤ 2 := bh_len HP.out.2
              have HSL : Hid ((sp (bh F s u.1 u.2)).length = (bh F s u.1 u.2).length * 2) := sp_len _
              obtain ⟨m, HML⟩ : ∃ m, Hid ((bh F s u.1 u.2).length = m) := ⟨_, (rfl : (bh F s u.1 u.2).length = (bh F s u.1 u.2).length)⟩
              rw [HML.out] at HBS hm0 hm2 HSL
              have hsn := (Srch.small (HRH.out.srch.on HP.out.2 hnS HUT.out))
              simp only [List.length_cons] at hsn
              have HSN : Hid (S.length + 1 ≤ F.length * (s.size + 1)) := hsn
              clear hbe HBH hsn
              go_wp2_with (first
                | (go_at_call 87; refine HBS.out.mono ?_; rintro e w4 ⟨g2, cap2, rfl, hown2, hb4⟩; have HO4 : Hid (w4.ownsRow w.heap.size 163 2 (.slice (some ⟨g, 0, none⟩) k cap) k (sp W0)) := row_below HO3'.out hb4; have HN2 : Hid (w4.ownsRow w3'.heap.size 163 2 (.slice (some ⟨g2, 0, none⟩) m cap2) m (sp (bh F s u.1 u.2))) := hown2; have hz4 : w.heap.size ≤ w4.heap.size := Nat.le_trans HB3'.out.1.size hb4.size)
                | (at_builtin; refine wpList_append_lies _ rfl _ _ 164 rfl w.heap.size 163 i0 (.agg #[.int .i64 0, .int .i64 0]) 2 16 Try.underlying164 hi hz0 hz1 hz2 rfl (by decide) _ _ _ rfl HO4.out ⟨g2, 0, none⟩ m cap2 (sp (bh F s u.1 u.2)) rfl HSL.out (HN2.out.cells rfl) (sp_one _) hm0 (by unfold maxLen; omega) (by omega) hz4 w4.heap.size rfl ?_; intro g5 cap5 w5 hown5 hgr5 hfar5 _)
                | go_in)
              have hG : LDm F f0 en s w (.slice (some ⟨g5, 0, none⟩) (k + m) cap5) w5 (3 * (F.length * (s.size + 1) - (S.length + 1)) + (k + m)) := by
                have hsr := HRH.out.srch.on HP.out.2 hnS HUT.out
                refine ⟨g5, cap5, u :: S, W0 ++ bh F s u.1 u.2, D.put kl (.agg []), by rw [List.length_append, HKL.out, HML.out], by rw [List.length_append, HKL.out, HML.out]; rfl, ⟨?_, (map_below HMP.out hb4).kept hgr5 (fun e => HRH.out.ne (Option.some.inj e).symm), HRH.out.seen.put HK.out, hsr, (HB3'.out.1.trans (hb4.mono HB3'.out.1.size)).grown hgr5 hz4 (fun j hj => rxown_ge HO4.out j hj), by have := hb4.size; have := HRH.out.hi; have := HZ3.out; have := HB3'.out.2; have := hgr5.size; omega, ?_⟩⟩
                · rw [List.length_append, HKL.out, HML.out, sp_append]; exact hown5
                · rcases hfar5 with h | h
                  · have h' := Option.some.inj h
                    simp only at h'
                    rw [← h']; exact HRH.out.ne
                  · have := hb4.size; have := HRH.out.hi; have := HZ3.out; have := HB3'.out.2; omega
              exact ⟨⟨_, hG⟩, Nat.lt_of_le_of_lt (leastOf_le hG) (by have := HSN.out; rw [HMM.out]; omega)⟩
          · have e1 : ((u.1 : Int) == (en : Int)) = false := by simp; omega
            clear hut h1
            go_quiet (fail)
            have hd3 : Below w3.heap.size w3 (w3.drewN nq) := ⟨rfl, rfl, rfl, Nat.le_refl _, fun _ _ => rfl⟩
            generalize w3.drewN nq = w3' at hd3 ⊢
            have HB3' : Hid (Below w.heap.size w w3' ∧ w3.heap.size ≤ w3'.heap.size) := ⟨HB3.out.trans (hd3.mono HB3.out.size), hd3.size⟩
            have t0 := cell_next s0 hd3
            have t1 := cell_next s1 hd3
            have HO3' : Hid (w3'.ownsRow w.heap.size 163 2 (.slice (some ⟨g, 0, none⟩) k cap) k (sp W0)) := row_below HO3.out hd3
            have HMP : Hid (w3'.ownsMap Try.prog 163 unitElem w.heap.size (S.length + 1) (D.put kl (.agg []))) := map_below hmap3 hd3
            have HBH : Hid (Calls Try.prog 87 #[.pointer (some ⟨pp, 0, none⟩), .agg #[.int .i64 (u.1 : Int), .int .i64 (u.2 : Int)], .string s] w3' fun e' w' => ∃ v, e' = .returned v ∧ w'.ownsRow w3'.heap.size 163 2 v (bh F s u.1 u.2).length (sp (bh F s u.1 u.2)) ∧ Below w3'.heap.size w3' w' ∧ (bh F s u.1 u.2 = [] → v = .slice none 0 0)) := rxbehind_any B pp _ _ F s u.1 u.2 w3' (HP.out.1.keep HB3'.out.1) hu1 HP.out.2 hu2 hs
            clear hd3 s0 s1 s2 hmap3 hgr3 HO3
            by_cases hbe : bh F s u.1 u.2 = []
            · have HBN : Hid (Calls Try.prog 87 #[.pointer (some ⟨pp, 0, none⟩), .agg #[.int .i64 (u.1 : Int), .int .i64 (u.2 : Int)], .string s] w3' fun e' w' => e' = .returned (.slice none 0 0) ∧ Below w3'.heap.size w3' w') := (HBH.out).mono fun _ _ ⟨v, h1, _, h3, h4⟩ => ⟨by rw [h1, h4 hbe], h3⟩
              have HBE : Hid (bh F s u.1 u.2 = []) := hbe
              clear hbe HBH
              go_wp2_with (first
                | (go_at_call 87; refine HBN.out.mono ?_; rintro e w4 ⟨rfl, hb4⟩; have HO4 : Hid (w4.ownsRow w.heap.size 163 2 (.slice (some ⟨g, 0, none⟩) k cap) k (sp W0)) := row_below HO3'.out hb4)
                | (at_builtin; refine wpList_append_own_none _ rfl _ _ 164 rfl w.heap.size 163 i0 2 Try.underlying164 hi _ _ _ rfl HO4.out rfl ?_)
                | go_in)
              have hG : LDm F f0 en s w (.slice (some ⟨g, 0, none⟩) k cap) w4 (3 * (F.length * (s.size + 1) - (S.length + 1)) + k) := by
                have hsr := HRH.out.srch.on HP.out.2 hnS HUT.out
                rw [HBE.out, List.append_nil] at hsr
                refine ⟨g, cap, u :: S, W0, D.put kl (.agg []), by rw [HKL.out], by rw [HKL.out]; rfl, ⟨?_, map_below HMP.out hb4, HRH.out.seen.put HK.out, hsr, HB3'.out.1.trans (hb4.mono HB3'.out.1.size), by have := hb4.size; have := HRH.out.hi; have := HZ3.out; have := HB3'.out.2; omega, HRH.out.ne⟩⟩
                rw [HKL.out]; exact HO4.out
              have hsn := (Srch.small (HRH.out.srch.on HP.out.2 hnS HUT.out))
              simp only [List.length_cons] at hsn
              exact ⟨⟨_, hG⟩, Nat.lt_of_le_of_lt (leastOf_le hG) (by rw [HMM.out]; omega)⟩
            · have HBS : Hid (Calls Try.prog 87 #[.pointer (some ⟨pp, 0, none⟩), .agg #[.int .i64 (u.1 : Int), .int .i64 (u.2 : Int)], .string s] w3' fun e' w' => ∃ g2 cap2, e' = .returned (.slice (some ⟨g2, 0, none⟩) (bh F s u.1 u.2).length cap2) ∧ w'.ownsRow w3'.heap.size 163 2 (.slice (some ⟨g2, 0, none⟩) (bh F s u.1 u.2).length cap2) (bh F s u.1 u.2).length (sp (bh F s u.1 u.2)) ∧ Below w3'.heap.size w3' w') := (HBH.out).mono fun _ _ ⟨v, h1, h2, h3, _⟩ => by
                have h2' := h2
                rcases h2.2 with ⟨_, h0⟩ | ⟨g2, cap2, cur, rfl, _⟩
                · exact absurd (List.length_eq_zero_iff.1 h0) hbe
                · exact ⟨g2, cap2, h1, h2', h3⟩
              have hm0 : 0 < (bh F s u.1 u.2).length := List.length_pos_iff.2 hbe
              have hm2 : (bh F s u.1 u.2).length ≤ 2 := bh_len HP.out.2
              have HSL : Hid ((sp (bh F s u.1 u.2)).length = (bh F s u.1 u.2).length * 2) := sp_len _
              obtain ⟨m, HML⟩ : ∃ m, Hid ((bh F s u.1 u.2).length = m) := ⟨_, (rfl : (bh F s u.1 u.2).length = (bh F s u.1 u.2).length)⟩
              rw [HML.out] at HBS hm0 hm2 HSL
              have hsn := (Srch.small (HRH.out.srch.on HP.out.2 hnS HUT.out))
              simp only [List.length_cons] at hsn
              have HSN : Hid (S.length + 1 ≤ F.length * (s.size + 1)) := hsn
              clear hbe HBH hsn
              go_wp2_with (first
                | (go_at_call 87; refine HBS.out.mono ?_; rintro e w4 ⟨g2, cap2, rfl, hown2, hb4⟩; have HO4 : Hid (w4.ownsRow w.heap.size 163 2 (.slice (some ⟨g, 0, none⟩) k cap) k (sp W0)) := row_below HO3'.out hb4; have HN2 : Hid (w4.ownsRow w3'.heap.size 163 2 (.slice (some ⟨g2, 0, none⟩) m cap2) m (sp (bh F s u.1 u.2))) := hown2; have hz4 : w.heap.size ≤ w4.heap.size := Nat.le_trans HB3'.out.1.size hb4.size)
                | (at_builtin; refine wpList_append_lies _ rfl _ _ 164 rfl w.heap.size 163 i0 (.agg #[.int .i64 0, .int .i64 0]) 2 16 Try.underlying164 hi hz0 hz1 hz2 rfl (by decide) _ _ _ rfl HO4.out ⟨g2, 0, none⟩ m cap2 (sp (bh F s u.1 u.2)) rfl HSL.out (HN2.out.cells rfl) (sp_one _) hm0 (by unfold maxLen; omega) (by omega) hz4 w4.heap.size rfl ?_; intro g5 cap5 w5 hown5 hgr5 hfar5 _)
                | go_in)
              have hG : LDm F f0 en s w (.slice (some ⟨g5, 0, none⟩) (k + m) cap5) w5 (3 * (F.length * (s.size + 1) - (S.length + 1)) + (k + m)) := by
                have hsr := HRH.out.srch.on HP.out.2 hnS HUT.out
                refine ⟨g5, cap5, u :: S, W0 ++ bh F s u.1 u.2, D.put kl (.agg []), by rw [List.length_append, HKL.out, HML.out], by rw [List.length_append, HKL.out, HML.out]; rfl, ⟨?_, (map_below HMP.out hb4).kept hgr5 (fun e => HRH.out.ne (Option.some.inj e).symm), HRH.out.seen.put HK.out, hsr, (HB3'.out.1.trans (hb4.mono HB3'.out.1.size)).grown hgr5 hz4 (fun j hj => rxown_ge HO4.out j hj), by have := hb4.size; have := HRH.out.hi; have := HZ3.out; have := HB3'.out.2; have := hgr5.size; omega, ?_⟩⟩
                · rw [List.length_append, HKL.out, HML.out, sp_append]; exact hown5
                · rcases hfar5 with h | h
                  · have h' := Option.some.inj h
                    simp only at h'
                    rw [← h']; exact HRH.out.ne
                  · have := hb4.size; have := HRH.out.hi; have := HZ3.out; have := HB3'.out.2; omega
              exact ⟨⟨_, hG⟩, Nat.lt_of_le_of_lt (leastOf_le hG) (by have := HSN.out; rw [HMM.out]; omega)⟩
end Go.Proofs.Ytlmlkpdppkgenaa

namespace Go.Proofs.Ytlmlkpdppkgenaa
open Go.RowKit
open Cls Rex

/-- The plan's number of the end, put anew; and that of the first step. -/
theorem Pl.putE {B pp : Nat} {f e : Value} {ps : List St} {W : World} (h : Pl B pp f e ps W) (e' : Value) : Pl B pp f e' ps (W.setCell ⟨pp, 2, none⟩ e') := by
  obtain ⟨sv, qs, h1, h2, h3, h4⟩ := h
  refine ⟨sv, qs, ?_, row_set h2 h1 (by decide) e', h3, fun i k1 k2 => ⟨(h4 i k1 k2).1, (h4 i k1 k2).2.keep ((Keep3.refl W).set h1 (Or.inl rfl) e')⟩⟩
  have := heap_setCell_same W pp 2 _ 141 e' h1
  simpa using this
theorem Pl.putF {B pp : Nat} {f e : Value} {ps : List St} {W : World} (h : Pl B pp f e ps W) (f' : Value) : Pl B pp f' e ps (W.setCell ⟨pp, 1, none⟩ f') := by
  obtain ⟨sv, qs, h1, h2, h3, h4⟩ := h
  refine ⟨sv, qs, ?_, row_set h2 h1 (by decide) f', h3, fun i k1 k2 => ⟨(h4 i k1 k2).1, (h4 i k1 k2).2.keep ((Keep3.refl W).set h1 (Or.inl rfl) f')⟩⟩
  have := heap_setCell_same W pp 1 _ 141 f' h1
  simpa using this
theorem Pl.free {B pp : Nat} {f e : Value} {ps : List St} {W : World} (h : Pl B pp f e ps W) (j : Nat) : W.frozen? ⟨pp, j, none⟩ = false := by
  obtain ⟨sv, qs, h1, _⟩ := h
  exact frozen_of_row W pp j _ 141 h1
theorem fine0 : Fine [(empty, [])] := fun i c l h => by
  cases i with
  | zero => simp at h; obtain ⟨_, rfl⟩ := h; simp
  | succ i => simp at h
set_option maxHeartbeats 4000000 in
set_option maxRecDepth 20000 in
/-- Of a right tree and a text that is not too long. -/
theorem Matches_right (t : T) (x : E) (v : Value) (B : Nat) (s : ByteArray) (w : World) (hx : Rx w B v t) (hBw : B ≤ w.heap.size) (he : rerr t = 0) (hi : Is t x) (hn : x.nodes ≤ 100) (hs : s.size ≤ 200) :
    Calls Try.prog 66 #[v, .string s] w fun e' w' => ∃ b, e' = .returned (.tuple #[.bool b, .int .i64 0]) ∧ (b = true ↔ M x s.data.toList) ∧ Below w.heap.size w w' := by
  obtain ⟨k, c, ao, cap, kids, vals, rfl, _⟩ := hx.shape
  obtain ⟨n, HN⟩ : ∃ n, Hid (kids.length = n) := ⟨_, (rfl : kids.length = kids.length)⟩
  rw [HN.out] at hx ⊢
  have hb1 := box_keep w (.cells #[.int .i64 k, .int .u64 (c.1.toNat : Int), .int .u64 (c.2.1.toNat : Int), .int .u64 (c.2.2.1.toNat : Int), .int .u64 (c.2.2.2.toNat : Int), .slice ao n cap] 44)
  have hZ := block_new w (.cells #[.int .i64 k, .int .u64 (c.1.toNat : Int), .int .u64 (c.2.1.toNat : Int), .int .u64 (c.2.2.1.toNat : Int), .int .u64 (c.2.2.2.toNat : Int), .slice ao n cap] 44)
  obtain ⟨w1, HW1⟩ : ∃ w1, Hid (w.alloc (.cells #[.int .i64 k, .int .u64 (c.1.toNat : Int), .int .u64 (c.2.1.toNat : Int), .int .u64 (c.2.2.1.toNat : Int), .int .u64 (c.2.2.2.toNat : Int), .slice ao n cap] 44) = w1) := ⟨_, (rfl : w.alloc (.cells #[.int .i64 k, .int .u64 (c.1.toNat : Int), .int .u64 (c.2.1.toNat : Int), .int .u64 (c.2.2.1.toNat : Int), .int .u64 (c.2.2.2.toNat : Int), .slice ao n cap] 44) = w.alloc (.cells #[.int .i64 k, .int .u64 (c.1.toNat : Int), .int .u64 (c.2.1.toNat : Int), .int .u64 (c.2.2.1.toNat : Int), .int .u64 (c.2.2.2.toNat : Int), .slice ao n cap] 44))⟩
  rw [HW1.out] at hb1 hZ
  have hx1 := (hx.next (hb1.mono hBw)).wide (Nat.le_trans hBw hb1.size)
  have HX1 : Hid (Rx w1 w1.heap.size (.agg #[.int .i64 k, .int .u64 (c.1.toNat : Int), .int .u64 (c.2.1.toNat : Int), .int .u64 (c.2.2.1.toNat : Int), .int .u64 (c.2.2.2.toNat : Int), .slice ao n cap]) t) := hx1
  have HCK : Hid (Calls Try.prog 59 #[.agg #[.int .i64 k, .int .u64 (c.1.toNat : Int), .int .u64 (c.2.1.toNat : Int), .int .u64 (c.2.2.1.toNat : Int), .int .u64 (c.2.2.2.toNat : Int), .slice ao n cap]] w1 fun e w' => e = .returned (.int .i64 0) ∧ Below w1.heap.size w1 w') := by
    have h := RxCheck_any t _ _ w1 hx1 (Nat.le_refl _)
    rw [he] at h
    exact h
  have z0 := cell_of_row w1 w.heap.size 0 _ 44 (0, 0) hZ
  have z1 := cell_of_row w1 w.heap.size 1 _ 44 (0, 0) hZ
  have z2 := cell_of_row w1 w.heap.size 2 _ 44 (0, 0) hZ
  have z3 := cell_of_row w1 w.heap.size 3 _ 44 (0, 0) hZ
  have z4 := cell_of_row w1 w.heap.size 4 _ 44 (0, 0) hZ
  have z5 := cell_of_row w1 w.heap.size 5 _ 44 (0, 0) hZ
  simp at z0 z1 z2 z3 z4 z5
  clear hx hx1
  go_enter Try.func66, Try.ntmps66
  go_wp2_with fail
  rw [HW1.out]
  refine HCK.out.mono ?_
  rintro e1 w2 ⟨rfl, hb2⟩
  obtain ⟨pp, HPP⟩ : ∃ pp, Hid (w2.heap.size = pp) := ⟨_, (rfl : w2.heap.size = w2.heap.size)⟩
  have hb3 := box_keep w2 (.cells #[.slice none 0 0, .int .i64 0, .int .i64 0] 141)
  have hZ2 := block_new w2 (.cells #[.slice none 0 0, .int .i64 0, .int .i64 0] 141)
  obtain ⟨wp, HWP⟩ : ∃ wp, Hid (w2.alloc (.cells #[.slice none 0 0, .int .i64 0, .int .i64 0] 141) = wp) := ⟨_, (rfl : w2.alloc (.cells #[.slice none 0 0, .int .i64 0, .int .i64 0] 141) = w2.alloc (.cells #[.slice none 0 0, .int .i64 0, .int .i64 0] 141))⟩
  have hsz : wp.heap.size = w2.heap.size + 1 := by rw [← HWP.out]; simp
  rw [HWP.out] at hb3 hZ2
  rw [HPP.out] at hZ2 hsz hb3
  have hP0 : Pl pp pp (.int .i64 0) (.int .i64 0) [] wp := ⟨.slice none 0 0, [], hZ2, World.ownsRow_nil _ _ _ _, rfl, fun i h => absurd h (Nat.not_lt_zero _)⟩
  have HL0 : Hid (Calls Try.prog 75 #[.pointer (some ⟨pp, 0, none⟩), .agg #[.int .u64 0, .int .u64 0, .int .u64 0, .int .u64 0, .slice none 0 0]] wp fun e' w' => e' = .returned (.int .i64 0) ∧ Pl pp pp (.int .i64 0) (.int .i64 0) [(empty, [])] w' ∧ Below pp wp w' ∧ Keep3 wp w') := lay_empty pp pp _ _ [] wp hP0 (Nat.le_refl _) (by omega) (by simp)
  have hlt : w.heap.size < w1.heap.size := blk_lt hZ
  have hlt2 : w1.heap.size ≤ pp := by rw [← HPP.out]; exact hb2.size
  have HB12 : Hid (Below w1.heap.size w1 wp) := hb2.trans (hb3.mono hlt2)
  have hn200 : ¬ (200 < s.size) := by omega
  clear hP0 hb3 hZ2 hb2
  go_wp2_with fail
  rw [HPP.out, HWP.out]
  refine HL0.out.mono ?_
  rintro e1 W3 ⟨rfl, hP3, hB3, hK3⟩
  have HB3 : Hid (Below w1.heap.size w1 W3 ∧ pp < W3.heap.size) := ⟨HB12.out.trans (hB3.mono hlt2), by have := hB3.size; omega⟩
  have y0 := (HB3.out.1.cell (p := ⟨w.heap.size, 0, none⟩) hlt).trans z0
  have y1 := (HB3.out.1.cell (p := ⟨w.heap.size, 1, none⟩) hlt).trans z1
  have y2 := (HB3.out.1.cell (p := ⟨w.heap.size, 2, none⟩) hlt).trans z2
  have y3 := (HB3.out.1.cell (p := ⟨w.heap.size, 3, none⟩) hlt).trans z3
  have y4 := (HB3.out.1.cell (p := ⟨w.heap.size, 4, none⟩) hlt).trans z4
  have y5 := (HB3.out.1.cell (p := ⟨w.heap.size, 5, none⟩) hlt).trans z5
  have f2 := hP3.free 2
  have x2 := hP3.nums.2
  have HP4 : Hid (Pl pp pp (.int .i64 0) (.int .i64 0) [(empty, [])] (W3.setCell ⟨pp, 2, none⟩ (.int .i64 0))) := hP3.putE _
  have hB4 : Below pp W3 (W3.setCell ⟨pp, 2, none⟩ (.int .i64 0)) := (Below.refl pp W3).setCell (p := ⟨pp, 2, none⟩) (Nat.le_refl _) _
  have HB4 : Hid (Below w1.heap.size w1 (W3.setCell ⟨pp, 2, none⟩ (.int .i64 0))) := HB3.out.1.trans (hB4.mono hlt2)
  have hs4 : pp ≤ (W3.setCell ⟨pp, 2, none⟩ (.int .i64 0)).heap.size := by have := hB4.size; have := HB3.out.2; omega
  have HLX : Hid (Calls Try.prog 76 #[.pointer (some ⟨pp, 0, none⟩), .agg #[.int .i64 k, .int .u64 (c.1.toNat : Int), .int .u64 (c.2.1.toNat : Int), .int .u64 (c.2.2.1.toNat : Int), .int .u64 (c.2.2.2.toNat : Int), .slice ao n cap], .int .i64 0] (W3.setCell ⟨pp, 2, none⟩ (.int .i64 0)) fun e' w' => e' = .returned (.int .i64 ((plan x).2 : Int)) ∧ Pl pp pp (.int .i64 0) (.int .i64 0) (plan x).1 w' ∧ Below pp (W3.setCell ⟨pp, 2, none⟩ (.int .i64 0)) w' ∧ Keep3 (W3.setCell ⟨pp, 2, none⟩ (.int .i64 0)) w') := layRex_any hi _ [(empty, [])] 0 pp pp _ _ _ ((HX1.out.next HB4.out).wide hlt2) HP4.out (Nat.le_refl _) hs4 (by simp only [List.length_cons, List.length_nil]; omega)
  have hne : w.heap.size ≠ pp := by omega
  clear z0 z1 z2 z3 z4 z5 hP3 hB3 hK3 HL0
  obtain ⟨r, HRV⟩ : ∃ r, Hid ((plan x).2 = r) := ⟨_, (rfl : (plan x).2 = (plan x).2)⟩
  rw [HRV.out] at HLX
  clear hB4 hs4
  go_wp2_with fail
  refine HLX.out.mono ?_
  rintro e1 W5 ⟨rfl, hP5, hB5, hK5⟩
  have x1 := hP5.nums.1
  have f1 := hP5.free 1
  have hB6 : Below pp W5 (W5.setCell ⟨pp, 1, none⟩ (.int .i64 (r : Int))) := (Below.refl pp W5).setCell (p := ⟨pp, 1, none⟩) (Nat.le_refl _) _
  have HB6 : Hid (Below w1.heap.size w1 (W5.setCell ⟨pp, 1, none⟩ (.int .i64 (r : Int)))) := HB4.out.trans ((hB5.trans hB6).mono hlt2)
  have HLD : Hid (Calls Try.prog 77 #[.pointer (some ⟨pp, 0, none⟩), .string s] (W5.setCell ⟨pp, 1, none⟩ (.int .i64 (r : Int))) fun e' w' => ∃ b, e' = .returned (.bool b) ∧ (b = true ↔ Acc (plan x).1 0 s.data.toList r 0) ∧ Below (W5.setCell ⟨pp, 1, none⟩ (.int .i64 (r : Int))).heap.size (W5.setCell ⟨pp, 1, none⟩ (.int .i64 (r : Int))) w') :=
    leads_any pp pp r 0 (plan x).1 s _ (hP5.putF _) (lay_fine x _ 0 fine0 (by simp)) (by have := (lay_len x [(empty, [])] 0).2; unfold plan; simp only [List.length_cons, List.length_nil] at this; omega) hs (by rw [← HRV.out]; exact lay_entry x [(empty, [])] 0 (by simp))
  clear hP5 hB5 hK5 hB6 y0 y1 y2 y3 y4 y5 f2 x2 HLX
  go_wp2_with fail
  refine HLD.out.mono ?_
  rintro e1 W7 ⟨b, rfl, hb, hB7⟩
  have HBB : Hid (b = true ↔ M x s.data.toList) := by
    show _ ↔ _
    rw [hb, ← HRV.out]; exact plan_means x hi.ok _
  have HB7 : Hid (Below w.heap.size w W7) := hb1.trans ((HB6.out.trans (hB7.mono HB6.out.size)).mono (Nat.le_of_lt hlt))
  clear hb hB7
  go_wp2_with fail
  go_ret2
  exact ⟨b, rfl, HBB.out, HB7.out⟩
set_option maxHeartbeats 4000000 in
set_option maxRecDepth 20000 in
/-- Of a tree that is not right. -/
theorem Matches_wrong (t : T) (v : Value) (B : Nat) (s : ByteArray) (w : World) (hx : Rx w B v t) (hBw : B ≤ w.heap.size) (ec : Nat) (he : rerr t = ec) (h0 : ec ≠ 0) :
    Calls Try.prog 66 #[v, .string s] w fun e' w' => e' = .returned (.tuple #[.bool false, .int .i64 (ec : Int)]) ∧ Below w.heap.size w w' := by
  obtain ⟨k, c, ao, cap, kids, vals, rfl, _⟩ := hx.shape
  obtain ⟨n, HN⟩ : ∃ n, Hid (kids.length = n) := ⟨_, (rfl : kids.length = kids.length)⟩
  rw [HN.out] at hx ⊢
  have hb1 := box_keep w (.cells #[.int .i64 k, .int .u64 (c.1.toNat : Int), .int .u64 (c.2.1.toNat : Int), .int .u64 (c.2.2.1.toNat : Int), .int .u64 (c.2.2.2.toNat : Int), .slice ao n cap] 44)
  obtain ⟨w1, HW1⟩ : ∃ w1, Hid (w.alloc (.cells #[.int .i64 k, .int .u64 (c.1.toNat : Int), .int .u64 (c.2.1.toNat : Int), .int .u64 (c.2.2.1.toNat : Int), .int .u64 (c.2.2.2.toNat : Int), .slice ao n cap] 44) = w1) := ⟨_, (rfl : w.alloc (.cells #[.int .i64 k, .int .u64 (c.1.toNat : Int), .int .u64 (c.2.1.toNat : Int), .int .u64 (c.2.2.1.toNat : Int), .int .u64 (c.2.2.2.toNat : Int), .slice ao n cap] 44) = w.alloc (.cells #[.int .i64 k, .int .u64 (c.1.toNat : Int), .int .u64 (c.2.1.toNat : Int), .int .u64 (c.2.2.1.toNat : Int), .int .u64 (c.2.2.2.toNat : Int), .slice ao n cap] 44))⟩
  rw [HW1.out] at hb1
  have hx1 := (hx.next (hb1.mono hBw)).wide (Nat.le_trans hBw hb1.size)
  have HCK : Hid (Calls Try.prog 59 #[.agg #[.int .i64 k, .int .u64 (c.1.toNat : Int), .int .u64 (c.2.1.toNat : Int), .int .u64 (c.2.2.1.toNat : Int), .int .u64 (c.2.2.2.toNat : Int), .slice ao n cap]] w1 fun e w' => e = .returned (.int .i64 (ec : Int)) ∧ Below w1.heap.size w1 w') := by
    have h := RxCheck_any t _ _ w1 hx1 (Nat.le_refl _)
    rw [he] at h
    exact h
  clear hx hx1
  have hq : ((ec : Int) == 0) = false := by simp; omega
  clear he h0
  go_enter Try.func66, Try.ntmps66
  go_wp2_with fail
  rw [HW1.out]
  refine HCK.out.mono ?_
  rintro e1 w2 ⟨rfl, hb2⟩
  have HB2 : Hid (Below w.heap.size w w2) := hb1.trans (hb2.mono hb1.size)
  clear hb2
  go_wp2_with fail
  go_ret2
  exact ⟨rfl, HB2.out⟩
set_option maxHeartbeats 4000000 in
set_option maxRecDepth 20000 in
/-- Of a text that is too long. -/
theorem Matches_long (t : T) (v : Value) (B : Nat) (s : ByteArray) (w : World) (hx : Rx w B v t) (hBw : B ≤ w.heap.size) (he : rerr t = 0) (hs : 200 < s.size) :
    Calls Try.prog 66 #[v, .string s] w fun e' w' => e' = .returned (.tuple #[.bool false, .int .i64 2]) ∧ Below w.heap.size w w' := by
  obtain ⟨k, c, ao, cap, kids, vals, rfl, _⟩ := hx.shape
  obtain ⟨n, HN⟩ : ∃ n, Hid (kids.length = n) := ⟨_, (rfl : kids.length = kids.length)⟩
  rw [HN.out] at hx ⊢
  have hb1 := box_keep w (.cells #[.int .i64 k, .int .u64 (c.1.toNat : Int), .int .u64 (c.2.1.toNat : Int), .int .u64 (c.2.2.1.toNat : Int), .int .u64 (c.2.2.2.toNat : Int), .slice ao n cap] 44)
  obtain ⟨w1, HW1⟩ : ∃ w1, Hid (w.alloc (.cells #[.int .i64 k, .int .u64 (c.1.toNat : Int), .int .u64 (c.2.1.toNat : Int), .int .u64 (c.2.2.1.toNat : Int), .int .u64 (c.2.2.2.toNat : Int), .slice ao n cap] 44) = w1) := ⟨_, (rfl : w.alloc (.cells #[.int .i64 k, .int .u64 (c.1.toNat : Int), .int .u64 (c.2.1.toNat : Int), .int .u64 (c.2.2.1.toNat : Int), .int .u64 (c.2.2.2.toNat : Int), .slice ao n cap] 44) = w.alloc (.cells #[.int .i64 k, .int .u64 (c.1.toNat : Int), .int .u64 (c.2.1.toNat : Int), .int .u64 (c.2.2.1.toNat : Int), .int .u64 (c.2.2.2.toNat : Int), .slice ao n cap] 44))⟩
  rw [HW1.out] at hb1
  have hx1 := (hx.next (hb1.mono hBw)).wide (Nat.le_trans hBw hb1.size)
  have HCK : Hid (Calls Try.prog 59 #[.agg #[.int .i64 k, .int .u64 (c.1.toNat : Int), .int .u64 (c.2.1.toNat : Int), .int .u64 (c.2.2.1.toNat : Int), .int .u64 (c.2.2.2.toNat : Int), .slice ao n cap]] w1 fun e w' => e = .returned (.int .i64 0) ∧ Below w1.heap.size w1 w') := by
    have h := RxCheck_any t _ _ w1 hx1 (Nat.le_refl _)
    rw [he] at h
    exact h
  clear hx hx1
  go_enter Try.func66, Try.ntmps66
  go_wp2_with fail
  rw [HW1.out]
  refine HCK.out.mono ?_
  rintro e1 w2 ⟨rfl, hb2⟩
  have HB2 : Hid (Below w.heap.size w w2) := hb1.trans (hb2.mono hb1.size)
  clear hb2
  go_wp2_with fail
  go_ret2
  exact ⟨rfl, HB2.out⟩
end Go.Proofs.Ytlmlkpdppkgenaa

namespace Go.Proofs.Ytlmlkpdppkgenaa
open Go.RowKit
open Cls Rex

set_option maxHeartbeats 4000000 in
set_option maxRecDepth 20000 in
theorem star_any (t : T) (v : Value) (B : Nat) (w : World) (hx : Rx w B v t) (hBw : B ≤ w.heap.size) :
    Calls Try.prog 45 #[v] w fun e' w' => ∃ v', e' = .returned v' ∧ Rx w' w'.heap.size v' (.mk 6 empty [t]) ∧ Below w.heap.size w w' := by
  obtain ⟨k, c, ao, cap, kids, vals, rfl, _⟩ := hx.shape
  obtain ⟨n, HN⟩ : ∃ n, Hid (kids.length = n) := ⟨_, (rfl : kids.length = kids.length)⟩
  rw [HN.out] at hx ⊢
  have HX : Hid (Rx w B (.agg #[.int .i64 k, .int .u64 (c.1.toNat : Int), .int .u64 (c.2.1.toNat : Int), .int .u64 (c.2.2.1.toNat : Int), .int .u64 (c.2.2.2.toNat : Int), .slice ao n cap]) t) := hx
  clear hx
  go_enter Try.func45, Try.ntmps45
  go_wp2_with fail
  have hz := block_new ((w.alloc (.cells #[.int .i64 k, .int .u64 (c.1.toNat : Int), .int .u64 (c.2.1.toNat : Int), .int .u64 (c.2.2.1.toNat : Int), .int .u64 (c.2.2.2.toNat : Int), .slice ao n cap] 44)).alloc (.cells #[.int .i64 6, .int .u64 0, .int .u64 0, .int .u64 0, .int .u64 0, .slice (some ⟨w.heap.size + 1 + 1, 0, none⟩) 1 1] 44)) (.cells #[.int .i64 k, .int .u64 (c.1.toNat : Int), .int .u64 (c.2.1.toNat : Int), .int .u64 (c.2.2.1.toNat : Int), .int .u64 (c.2.2.2.toNat : Int), .slice ao n cap] 44)
  have hB : Below w.heap.size w (((w.alloc (.cells #[.int .i64 k, .int .u64 (c.1.toNat : Int), .int .u64 (c.2.1.toNat : Int), .int .u64 (c.2.2.1.toNat : Int), .int .u64 (c.2.2.2.toNat : Int), .slice ao n cap] 44)).alloc (.cells #[.int .i64 6, .int .u64 0, .int .u64 0, .int .u64 0, .int .u64 0, .slice (some ⟨w.heap.size + 1 + 1, 0, none⟩) 1 1] 44)).alloc (.cells #[.int .i64 k, .int .u64 (c.1.toNat : Int), .int .u64 (c.2.1.toNat : Int), .int .u64 (c.2.2.1.toNat : Int), .int .u64 (c.2.2.2.toNat : Int), .slice ao n cap] 44)) := (((Below.refl _ w).alloc (Nat.le_refl _) _).alloc (by simp) _).alloc (by simp; omega) _
  have e : ((w.alloc (.cells #[.int .i64 k, .int .u64 (c.1.toNat : Int), .int .u64 (c.2.1.toNat : Int), .int .u64 (c.2.2.1.toNat : Int), .int .u64 (c.2.2.2.toNat : Int), .slice ao n cap] 44)).alloc (.cells #[.int .i64 6, .int .u64 0, .int .u64 0, .int .u64 0, .int .u64 0, .slice (some ⟨w.heap.size + 1 + 1, 0, none⟩) 1 1] 44)).heap.size = w.heap.size + 1 + 1 := by simp
  rw [e] at hz
  refine bodyPost_ret (v := .agg #[.int .i64 6, .int .u64 0, .int .u64 0, .int .u64 0, .int .u64 0, .slice (some ⟨w.heap.size + 1 + 1, 0, none⟩) 1 1]) (by simp [results, Try.results45, go_sem]) rfl ⟨_, rfl, ?_, hB⟩
  refine Rx.mk 6 empty (some ⟨w.heap.size + 1 + 1, 0, none⟩) 1 [t] (fun _ => .agg #[.int .i64 k, .int .u64 (c.1.toNat : Int), .int .u64 (c.2.1.toNat : Int), .int .u64 (c.2.2.1.toNat : Int), .int .u64 (c.2.2.2.toNat : Int), .slice ao n cap]) ⟨by omega, by omega⟩ (by simp) (Or.inr ⟨w.heap.size + 1 + 1, 0, rfl, blk_lt hz, ?_⟩) ?_
  · intro i hi j _
    have : i = 0 := by simpa using hi
    subst this
    rw [show 0 + 0 * 6 + j = j by omega]
    exact cell_of_row _ _ j _ 44 (0, 0) hz
  · intro i hi
    have : i = 0 := by simpa using hi
    subst this
    exact (HX.out.next (hB.mono hBw)).wide (Nat.le_trans hBw hB.size)
end Go.Proofs.Ytlmlkpdppkgenaa

namespace Go.Proofs.Ytlmlkpdppkgenaa
open Go.RowKit
open Cls Rex

theorem is_unique {t : T} {x : E} (h : Is t x) : ∀ {y : E}, Is t y → x = y := by
  induction h with
  | none => intro y h; cases h; rfl
  | emp => intro y h; cases h; rfl
  | byte _ => intro y h; cases h; rfl
  | cat _ _ i1 i2 => intro y h; cases h with | cat h1 h2 => rw [i1 h1, i2 h2]
  | alt _ _ i1 i2 => intro y h; cases h with | alt h1 h2 => rw [i1 h1, i2 h2]
  | star _ i => intro y h; cases h with | star h1 => rw [i h1]
/-- The text is one of the tree's. -/
def Mt (t : T) (s : ByteArray) : Prop := ∃ x, Is t x ∧ M x s.data.toList
/-- There is an error. -/
def bad (t : T) (s : ByteArray) : Bool := decide (rerr t ≠ 0) || decide (200 < s.size)
theorem Matches_any (t : T) (v : Value) (B : Nat) (s : ByteArray) (w : World) (hx : Rx w B v t) (hBw : B ≤ w.heap.size) :
    Calls Try.prog 66 #[v, .string s] w fun e' w' => ∃ (b : Bool) (ec : Nat), e' = .returned (.tuple #[.bool b, .int .i64 (ec : Int)]) ∧ (decide (ec ≠ 0) = bad t s) ∧ (b = true ↔ bad t s = false ∧ Mt t s) ∧ Below w.heap.size w w' := by
  by_cases he : rerr t = 0
  · by_cases hs : 200 < s.size
    · have hbad : bad t s = true := by simp [bad, hs]
      exact (Matches_long t v B s w hx hBw he hs).mono fun _ _ ⟨h1, h2⟩ => ⟨false, 2, h1, by simp [hbad], by simp [hbad], h2⟩
    · have hbad : bad t s = false := by simp [bad, he]; omega
      obtain ⟨x, hi, _, hn, _⟩ := chk_right (n' := (chk t 1 0).2) (Prod.ext he rfl)
      have hn' : x.nodes ≤ 100 := by omega
      refine (Matches_right t x v B s w hx hBw he hi hn' (by omega)).mono fun _ _ ⟨b, h1, h2, h3⟩ => ⟨b, 0, h1, by simp [hbad], ?_, h3⟩
      rw [h2]
      constructor
      · intro h; exact ⟨hbad, x, hi, h⟩
      · rintro ⟨_, y, hy, h⟩; rw [is_unique hi hy]; exact h
  · have hbad : bad t s = true := by simp [bad, he]
    exact (Matches_wrong t v B s w hx hBw (rerr t) rfl he).mono fun _ _ ⟨h1, h2⟩ => ⟨false, rerr t, h1, by simp [hbad, he], by simp [hbad], h2⟩
set_option maxHeartbeats 4000000 in
set_option maxRecDepth 20000 in
theorem is_any (t : T) (v : Value) (B : Nat) (s : ByteArray) (w : World) (hx : Rx w B v t) (hBw : B ≤ w.heap.size) :
    Calls Try.prog 41 #[v, .string s] w fun e' w' => ∃ b : Bool, e' = .returned (.tuple #[.bool b, .bool (bad t s)]) ∧ (b = true ↔ bad t s = false ∧ Mt t s) ∧ Below w.heap.size w w' := by
  obtain ⟨k, c, ao, cap, kids, vals, rfl, _⟩ := hx.shape
  obtain ⟨n, HN⟩ : ∃ n, Hid (kids.length = n) := ⟨_, (rfl : kids.length = kids.length)⟩
  rw [HN.out] at hx ⊢
  have hb1 := box_keep w (.cells #[.int .i64 k, .int .u64 (c.1.toNat : Int), .int .u64 (c.2.1.toNat : Int), .int .u64 (c.2.2.1.toNat : Int), .int .u64 (c.2.2.2.toNat : Int), .slice ao n cap] 44)
  have HM : Hid (Calls Try.prog 66 #[.agg #[.int .i64 k, .int .u64 (c.1.toNat : Int), .int .u64 (c.2.1.toNat : Int), .int .u64 (c.2.2.1.toNat : Int), .int .u64 (c.2.2.2.toNat : Int), .slice ao n cap], .string s] (w.alloc (.cells #[.int .i64 k, .int .u64 (c.1.toNat : Int), .int .u64 (c.2.1.toNat : Int), .int .u64 (c.2.2.1.toNat : Int), .int .u64 (c.2.2.2.toNat : Int), .slice ao n cap] 44)) fun e' w' => ∃ (b : Bool) (ec : Nat), e' = .returned (.tuple #[.bool b, .int .i64 (ec : Int)]) ∧ (decide (ec ≠ 0) = bad t s) ∧ (b = true ↔ bad t s = false ∧ Mt t s) ∧ Below (w.alloc (.cells #[.int .i64 k, .int .u64 (c.1.toNat : Int), .int .u64 (c.2.1.toNat : Int), .int .u64 (c.2.2.1.toNat : Int), .int .u64 (c.2.2.2.toNat : Int), .slice ao n cap] 44)).heap.size (w.alloc (.cells #[.int .i64 k, .int .u64 (c.1.toNat : Int), .int .u64 (c.2.1.toNat : Int), .int .u64 (c.2.2.1.toNat : Int), .int .u64 (c.2.2.2.toNat : Int), .slice ao n cap] 44)) w') :=
    Matches_any t _ B s _ (hx.next (hb1.mono hBw)) (Nat.le_trans hBw hb1.size)
  clear hx
  go_enter Try.func41, Try.ntmps41
  go_wp2_with fail
  refine HM.out.mono ?_
  rintro e1 w2 ⟨b, ec, rfl, hec, hb, hb2⟩
  have HE : Hid (decide (ec ≠ 0) = bad t s) := hec
  have HBB : Hid ((b = true ↔ bad t s = false ∧ Mt t s) ∧ Below w.heap.size w w2) := ⟨hb, hb1.trans (hb2.mono hb1.size)⟩
  clear hec hb hb2
  go_wp2_with fail
  go_ret2
  refine ⟨b, ?_, HBB.out.1, HBB.out.2⟩
  rw [← HE.out]
  by_cases h : ec = 0 <;> simp [h]
end Go.Proofs.Ytlmlkpdppkgenaa

namespace Go.Proofs.Ytlmlkpdppkgenaa
open Go.RowKit
open Cls Rex

set_option maxHeartbeats 4000000 in
set_option maxRecDepth 20000 in
theorem letter_any (z : Int) (h1 : -9223372036854775808 ≤ z) (h2 : z ≤ 9223372036854775807) (w : World) :
    Calls Try.prog 14 #[.int .i64 z] w fun e' w' => ∃ v', e' = .returned v' ∧ Rx w' w'.heap.size v' (.mk 3 (range z z) []) ∧ Below w.heap.size w w' := by
  have hb1 := box_keep w (.cells #[.int .i64 0, .int .u64 0, .int .u64 0, .int .u64 0, .int .u64 0, .slice none 0 0] 44)
  have hz1 := block_new w (.cells #[.int .i64 0, .int .u64 0, .int .u64 0, .int .u64 0, .int .u64 0, .slice none 0 0] 44)
  obtain ⟨w1, HW1⟩ : ∃ w1, Hid (w.alloc (.cells #[.int .i64 0, .int .u64 0, .int .u64 0, .int .u64 0, .int .u64 0, .slice none 0 0] 44) = w1) := ⟨_, (rfl : w.alloc (.cells #[.int .i64 0, .int .u64 0, .int .u64 0, .int .u64 0, .int .u64 0, .slice none 0 0] 44) = w.alloc (.cells #[.int .i64 0, .int .u64 0, .int .u64 0, .int .u64 0, .int .u64 0, .slice none 0 0] 44))⟩
  rw [HW1.out] at hb1 hz1
  have HC : Hid (Calls Try.prog 38 #[.int .i64 z, .int .i64 z] w1 fun e w' => e = .returned (.agg #[.int .u64 ((range z z).1.toNat : Int), .int .u64 ((range z z).2.1.toNat : Int), .int .u64 ((range z z).2.2.1.toNat : Int), .int .u64 ((range z z).2.2.2.toNat : Int)]) ∧ Below w1.heap.size w1 w') := range_any z z h2 h1 h2 w1
  go_enter Try.func14, Try.ntmps14
  go_wp2_with fail
  rw [HW1.out]
  refine HC.out.mono ?_
  rintro e1 w2 ⟨rfl, hb2⟩
  have hz2 := blk_next hb2 hz1
  have HZ2 : Hid (w2.heap[w.heap.size]? = some (.cells #[.int .i64 0, .int .u64 0, .int .u64 0, .int .u64 0, .int .u64 0, .slice none 0 0] 44)) := hz2
  have q0 := cell_of_row w2 w.heap.size 0 _ 44 (0, 0) hz2
  have q1 := cell_of_row w2 w.heap.size 1 _ 44 (0, 0) hz2
  have q2 := cell_of_row w2 w.heap.size 2 _ 44 (0, 0) hz2
  have q3 := cell_of_row w2 w.heap.size 3 _ 44 (0, 0) hz2
  have q4 := cell_of_row w2 w.heap.size 4 _ 44 (0, 0) hz2
  have q5 := cell_of_row w2 w.heap.size 5 _ 44 (0, 0) hz2
  have r0 := frozen_of_row w2 w.heap.size 0 _ 44 hz2
  have r1 := frozen_of_row w2 w.heap.size 1 _ 44 hz2
  have r2 := frozen_of_row w2 w.heap.size 2 _ 44 hz2
  have r3 := frozen_of_row w2 w.heap.size 3 _ 44 hz2
  have r4 := frozen_of_row w2 w.heap.size 4 _ 44 hz2
  have r5 := frozen_of_row w2 w.heap.size 5 _ 44 hz2
  have HB2 : Hid (Below w.heap.size w w2) := hb1.trans (hb2.mono hb1.size)
  clear hz2 hb2
  go_wp2_with fail
  have y0 := heap_setCell_same w2 w.heap.size 0 _ 44 (.int .i64 3) HZ2.out
  have y1 := heap_setCell_same _ w.heap.size 1 _ 44 (.int .u64 ((range z z).1.toNat : Int)) y0
  have y2 := heap_setCell_same _ w.heap.size 2 _ 44 (.int .u64 ((range z z).2.1.toNat : Int)) y1
  have y3 := heap_setCell_same _ w.heap.size 3 _ 44 (.int .u64 ((range z z).2.2.1.toNat : Int)) y2
  have y4 := heap_setCell_same _ w.heap.size 4 _ 44 (.int .u64 ((range z z).2.2.2.toNat : Int)) y3
  have y5 := heap_setCell_same _ w.heap.size 5 _ 44 (.slice none 0 0) y4
  have hB : Below w.heap.size w ((((((w2.setCell ⟨w.heap.size, 0, none⟩ (.int .i64 3)).setCell ⟨w.heap.size, 1, none⟩ (.int .u64 ((range z z).1.toNat : Int))).setCell ⟨w.heap.size, 2, none⟩ (.int .u64 ((range z z).2.1.toNat : Int))).setCell ⟨w.heap.size, 3, none⟩ (.int .u64 ((range z z).2.2.1.toNat : Int))).setCell ⟨w.heap.size, 4, none⟩ (.int .u64 ((range z z).2.2.2.toNat : Int))).setCell ⟨w.heap.size, 5, none⟩ (.slice none 0 0)) := (((((HB2.out.setCell (p := ⟨w.heap.size, 0, none⟩) (Nat.le_refl _) _).setCell (p := ⟨w.heap.size, 1, none⟩) (Nat.le_refl _) _).setCell (p := ⟨w.heap.size, 2, none⟩) (Nat.le_refl _) _).setCell (p := ⟨w.heap.size, 3, none⟩) (Nat.le_refl _) _).setCell (p := ⟨w.heap.size, 4, none⟩) (Nat.le_refl _) _).setCell (p := ⟨w.heap.size, 5, none⟩) (Nat.le_refl _) _
  have d0 := cell_of_row _ w.heap.size 0 _ 44 (0, 0) y5
  have d1 := cell_of_row _ w.heap.size 1 _ 44 (0, 0) y5
  have d2 := cell_of_row _ w.heap.size 2 _ 44 (0, 0) y5
  have d3 := cell_of_row _ w.heap.size 3 _ 44 (0, 0) y5
  have d4 := cell_of_row _ w.heap.size 4 _ 44 (0, 0) y5
  have d5 := cell_of_row _ w.heap.size 5 _ 44 (0, 0) y5
  clear q0 q1 q2 q3 q4 q5 r0 r1 r2 r3 r4 r5 y0 y1 y2 y3 y4 y5
  generalize ((((((w2.setCell ⟨w.heap.size, 0, none⟩ (.int .i64 3)).setCell ⟨w.heap.size, 1, none⟩ (.int .u64 ((range z z).1.toNat : Int))).setCell ⟨w.heap.size, 2, none⟩ (.int .u64 ((range z z).2.1.toNat : Int))).setCell ⟨w.heap.size, 3, none⟩ (.int .u64 ((range z z).2.2.1.toNat : Int))).setCell ⟨w.heap.size, 4, none⟩ (.int .u64 ((range z z).2.2.2.toNat : Int))).setCell ⟨w.heap.size, 5, none⟩ (.slice none 0 0)) = w9 at hB d0 d1 d2 d3 d4 d5 ⊢
  simp at d0 d1 d2 d3 d4 d5
  refine bodyPost_ret (v := .agg #[.int .i64 3, .int .u64 ((range z z).1.toNat : Int), .int .u64 ((range z z).2.1.toNat : Int), .int .u64 ((range z z).2.2.1.toNat : Int), .int .u64 ((range z z).2.2.2.toNat : Int), .slice none 0 0]) (by simp [results, Try.results14, go_sem, d0, d1, d2, d3, d4, d5]) rfl ⟨_, rfl, ?_, hB⟩
  exact Rx.mk 3 (range z z) none 0 [] (fun _ => .slice none 0 0) ⟨by omega, by omega⟩ (by simp) (Or.inl rfl) (fun i hi => absurd hi (Nat.not_lt_zero _))
end Go.Proofs.Ytlmlkpdppkgenaa
