/-
  The plain mathematics of a plan: a regular expression's nodes as steps; from the first step the end is come to by all of a text just if the expression matches it; and a search that goes on from each spot once finds it; no condition.
-/
import Derived.Test.YtgdaegmmapljgaaTree
namespace Go.Proofs.Ytgdaegmmapljgaa.Rex
open Cls

abbrev St := Cl × List Nat
/-- The steps of x, to be at nx when a text of it is done; and where one begins. -/
def lay : E → List St → Nat → List St × Nat
  | .none, ps, _ => (ps ++ [(empty, [])], ps.length)
  | .emp, ps, nx => (ps, nx)
  | .byte c, ps, nx => (ps ++ [(c, [nx])], ps.length)
  | .cat a b, ps, nx => lay a (lay b ps nx).1 (lay b ps nx).2
  | .alt a b, ps, nx => ((lay b (lay a ps nx).1 nx).1 ++ [(empty, [(lay a ps nx).2, (lay b (lay a ps nx).1 nx).2])], (lay b (lay a ps nx).1 nx).1.length)
  | .star a, ps, nx => ((lay a (ps ++ [(empty, [])]) ps.length).1.set ps.length (empty, [nx, (lay a (ps ++ [(empty, [])]) ps.length).2]), ps.length)
theorem lay_len : ∀ (x : E) (ps : List St) (nx : Nat), ps.length ≤ (lay x ps nx).1.length ∧ (lay x ps nx).1.length ≤ ps.length + x.nodes
  | .none, ps, nx => by simp [lay, E.nodes]
  | .emp, ps, nx => by simp [lay, E.nodes]
  | .byte c, ps, nx => by simp [lay, E.nodes]
  | .cat a b, ps, nx => by
    have h1 := lay_len b ps nx
    have h2 := lay_len a (lay b ps nx).1 (lay b ps nx).2
    simp only [lay, E.nodes]; omega
  | .alt a b, ps, nx => by
    have h1 := lay_len a ps nx
    have h2 := lay_len b (lay a ps nx).1 nx
    simp only [lay, E.nodes, List.length_append, List.length_cons, List.length_nil]; omega
  | .star a, ps, nx => by
    have h1 := lay_len a (ps ++ [(empty, [])]) ps.length
    simp only [List.length_append, List.length_cons, List.length_nil] at h1
    simp only [lay, E.nodes, List.length_set]; omega
theorem lay_keep : ∀ (x : E) (ps : List St) (nx i : Nat), i < ps.length → (lay x ps nx).1[i]? = ps[i]?
  | .none, ps, nx, i, h => by simp [lay, List.getElem?_append_left h]
  | .emp, ps, nx, i, h => rfl
  | .byte c, ps, nx, i, h => by simp [lay, List.getElem?_append_left h]
  | .cat a b, ps, nx, i, h => by
    have h1 := (lay_len b ps nx).1
    simp only [lay]
    rw [lay_keep a _ _ i (by omega), lay_keep b ps nx i h]
  | .alt a b, ps, nx, i, h => by
    have h1 := (lay_len a ps nx).1
    have h2 := (lay_len b (lay a ps nx).1 nx).1
    simp only [lay]
    rw [List.getElem?_append_left (by omega), lay_keep b _ _ i (by omega), lay_keep a ps nx i h]
  | .star a, ps, nx, i, h => by
    simp only [lay]
    rw [List.getElem?_set_ne (by omega), lay_keep a _ _ i (by simp; omega), List.getElem?_append_left h]
theorem lay_entry : ∀ (x : E) (ps : List St) (nx : Nat), nx < ps.length → (lay x ps nx).2 < (lay x ps nx).1.length
  | .none, ps, nx, h => by simp [lay]
  | .emp, ps, nx, h => h
  | .byte c, ps, nx, h => by simp [lay]
  | .cat a b, ps, nx, h => by simp only [lay]; exact lay_entry a _ _ (lay_entry b ps nx h)
  | .alt a b, ps, nx, h => by simp [lay]
  | .star a, ps, nx, h => by
    have h1 := (lay_len a (ps ++ [(empty, [])]) ps.length).1
    simp only [List.length_append, List.length_cons, List.length_nil] at h1
    simp only [lay, List.length_set]; omega
/-- Each step leads to steps that are there, to two at most. -/
def Fine (ps : List St) : Prop := ∀ (i : Nat) (c : Cl) (l : List Nat), ps[i]? = some (c, l) → l.length ≤ 2 ∧ ∀ m ∈ l, m < ps.length
theorem Fine.more {ps qs : List St} (h : Fine ps) (hl : ps.length ≤ qs.length) (hk : ∀ i, i < qs.length → i < ps.length ∧ qs[i]? = ps[i]? ∨ ∃ c l, qs[i]? = some (c, l) ∧ l.length ≤ 2 ∧ ∀ m ∈ l, m < qs.length) : Fine qs := fun i c l hi => by
  have hlt : i < qs.length := (List.getElem?_eq_some_iff.1 hi).1
  rcases hk i hlt with ⟨h1, h2⟩ | ⟨c', l', h1, h2, h3⟩
  · rw [h2] at hi
    obtain ⟨k1, k2⟩ := h i c l hi
    exact ⟨k1, fun m hm => Nat.lt_of_lt_of_le (k2 m hm) hl⟩
  · rw [hi] at h1
    simp only [Option.some.injEq, Prod.mk.injEq] at h1
    obtain ⟨rfl, rfl⟩ := h1
    exact ⟨h2, h3⟩
theorem lay_fine : ∀ (x : E) (ps : List St) (nx : Nat), Fine ps → nx < ps.length → Fine (lay x ps nx).1
  | .none, ps, nx, h, hn => h.more (by simp [lay]) fun i hi => by
      by_cases e : i < ps.length
      · exact Or.inl ⟨e, lay_keep .none ps nx i e⟩
      · right
        have e' : i = ps.length := by simp [lay] at hi; omega
        subst e'
        exact ⟨empty, [], by simp [lay], by simp, by simp⟩
  | .emp, ps, nx, h, hn => h
  | .byte c, ps, nx, h, hn => h.more (by simp [lay]) fun i hi => by
      by_cases e : i < ps.length
      · exact Or.inl ⟨e, lay_keep (.byte c) ps nx i e⟩
      · right
        have e' : i = ps.length := by simp [lay] at hi; omega
        subst e'
        exact ⟨c, [nx], by simp [lay], by simp, fun m hm => by simp at hm; subst hm; simp [lay]; omega⟩
  | .cat a b, ps, nx, h, hn => by
    simp only [lay]
    exact lay_fine a _ _ (lay_fine b ps nx h hn) (lay_entry b ps nx hn)
  | .alt a b, ps, nx, h, hn => by
    have h1 := (lay_len a ps nx).1
    have h2 := (lay_len b (lay a ps nx).1 nx).1
    have e1 := lay_entry a ps nx hn
    have e2 := lay_entry b (lay a ps nx).1 nx (by omega)
    have f2 := lay_fine b (lay a ps nx).1 nx (lay_fine a ps nx h hn) (by omega)
    simp only [lay]
    refine f2.more (by simp) fun i hi => ?_
    by_cases e : i < (lay b (lay a ps nx).1 nx).1.length
    · exact Or.inl ⟨e, by rw [List.getElem?_append_left e]⟩
    · right
      have e' : i = (lay b (lay a ps nx).1 nx).1.length := by simp at hi; omega
      subst e'
      refine ⟨empty, [(lay a ps nx).2, (lay b (lay a ps nx).1 nx).2], by simp, by simp, fun m hm => ?_⟩
      simp at hm
      simp
      rcases hm with rfl | rfl <;> omega
  | .star a, ps, nx, h, hn => by
    have h1 := (lay_len a (ps ++ [(empty, [])]) ps.length).1
    simp only [List.length_append, List.length_cons, List.length_nil] at h1
    have f0 : Fine (ps ++ [(empty, [])]) := h.more (by simp) fun i hi => by
      by_cases e : i < ps.length
      · exact Or.inl ⟨e, List.getElem?_append_left e⟩
      · right
        have e' : i = ps.length := by simp at hi; omega
        subst e'
        exact ⟨empty, [], by simp, by simp, by simp⟩
    have f1 := lay_fine a _ ps.length f0 (by simp)
    have e1 := lay_entry a (ps ++ [(empty, [])]) ps.length (by simp)
    simp only [lay]
    refine f1.more (by simp) fun i hi => ?_
    by_cases e : i = ps.length
    · right
      subst e
      refine ⟨empty, _, List.getElem?_set_self (by omega), by simp, fun m hm => ?_⟩
      simp at hm
      simp
      rcases hm with rfl | rfl <;> omega
    · exact Or.inl ⟨by simpa using hi, by rw [List.getElem?_set_ne (Ne.symm e)]⟩

/-! ### Where one comes -/
/-- From step n at place p one comes to step m at place q. -/
def Next (F : List St) (s : List UInt8) (n p m q : Nat) : Prop := ∃ c l, F[n]? = some (c, l) ∧ m ∈ l ∧ ((c = empty ∧ q = p) ∨ (c ≠ empty ∧ ∃ b, s[p]? = some b ∧ mem c b.toNat = true ∧ q = p + 1))
/-- From there the end is come to, at the end of the text, in so many steps at most. -/
def AccN (F : List St) (en : Nat) (s : List UInt8) : Nat → Nat → Nat → Prop
  | 0, n, p => n = en ∧ p = s.length
  | k + 1, n, p => (n = en ∧ p = s.length) ∨ ∃ m q, Next F s n p m q ∧ AccN F en s k m q
theorem AccN.more {F : List St} {en : Nat} {s : List UInt8} : ∀ {k n p}, AccN F en s k n p → AccN F en s (k + 1) n p
  | 0, _, _, h => Or.inl h
  | k + 1, _, _, h => by
    rcases h with h | ⟨m, q, h1, h2⟩
    · exact Or.inl h
    · exact Or.inr ⟨m, q, h1, AccN.more h2⟩
def Acc (F : List St) (en : Nat) (s : List UInt8) (n p : Nat) : Prop := ∃ k, AccN F en s k n p
theorem Acc.step {F : List St} {en : Nat} {s : List UInt8} {n p m q : Nat} (h : Next F s n p m q) (k : Acc F en s m q) : Acc F en s n p := by
  obtain ⟨j, hj⟩ := k
  exact ⟨j + 1, Or.inr ⟨m, q, h, hj⟩⟩
def At (s : List UInt8) (p : Nat) (u : List UInt8) : Prop := ∃ r, s.drop p = u ++ r
theorem At.nil (s : List UInt8) (p : Nat) : At s p [] := ⟨_, rfl⟩
theorem At.trans {s : List UInt8} {p : Nat} {u v : List UInt8} (h : At s p u) (k : At s (p + u.length) v) : At s p (u ++ v) := by
  obtain ⟨r, hr⟩ := h
  obtain ⟨r', hr'⟩ := k
  rw [← List.drop_drop, hr, List.drop_left] at hr'
  exact ⟨r', by rw [hr, hr', List.append_assoc]⟩
theorem At.split {s : List UInt8} {p : Nat} {u v : List UInt8} (h : At s p (u ++ v)) : At s p u ∧ At s (p + u.length) v := by
  obtain ⟨r, hr⟩ := h
  refine ⟨⟨v ++ r, by rw [hr, List.append_assoc]⟩, ⟨r, ?_⟩⟩
  rw [← List.drop_drop, hr, List.append_assoc, List.drop_left]
/-- No byte's class is empty. -/
def E.ok : E → Prop
  | .none | .emp => True
  | .byte c => c ≠ empty
  | .cat a b | .alt a b => a.ok ∧ b.ok
  | .star a => a.ok
theorem Is.ok {t : T} {x : E} (h : Is t x) : x.ok := by
  induction h with
  | none => trivial
  | emp => trivial
  | byte h => exact h
  | cat _ _ i1 i2 => exact ⟨i1, i2⟩
  | alt _ _ i1 i2 => exact ⟨i1, i2⟩
  | star _ i => exact i

theorem sound : ∀ (x : E), x.ok → ∀ (ps : List St) (nx : Nat) (F : List St) (en : Nat) (s : List UInt8), en < ps.length → (∀ i, ps.length ≤ i → i < (lay x ps nx).1.length → F[i]? = (lay x ps nx).1[i]?) →
    ∀ k p, AccN F en s k (lay x ps nx).2 p → ∃ u k', k' ≤ k ∧ M x u ∧ At s p u ∧ AccN F en s k' nx (p + u.length)
  | .none, _, ps, nx, F, en, s, he, hF, k, p, h => by
    have hf := hF ps.length (Nat.le_refl _) (by simp [lay])
    simp [lay] at hf
    cases k with
    | zero => exact absurd h.1 (by simp [lay]; omega)
    | succ k =>
      rcases h with h | ⟨m, q, ⟨c, l, h1, h2, _⟩, _⟩
      · exact absurd h.1 (by simp [lay]; omega)
      · simp only [lay] at h1
        rw [hf] at h1
        simp only [Option.some.injEq, Prod.mk.injEq] at h1
        obtain ⟨rfl, rfl⟩ := h1
        cases h2
  | .emp, _, ps, nx, F, en, s, he, hF, k, p, h => ⟨[], k, Nat.le_refl _, .emp, At.nil s p, h⟩
  | .byte c, hx, ps, nx, F, en, s, he, hF, k, p, h => by
    have hf := hF ps.length (Nat.le_refl _) (by simp [lay])
    simp [lay] at hf
    cases k with
    | zero => exact absurd h.1 (by simp [lay]; omega)
    | succ k =>
      rcases h with h | ⟨m, q, ⟨c', l, h1, h2, h3⟩, h4⟩
      · exact absurd h.1 (by simp [lay]; omega)
      · simp only [lay] at h1
        rw [hf] at h1
        simp only [Option.some.injEq, Prod.mk.injEq] at h1
        obtain ⟨rfl, rfl⟩ := h1
        simp at h2
        subst h2
        rcases h3 with ⟨h3, _⟩ | ⟨_, b, h5, h6, rfl⟩
        · exact absurd h3 hx
        · refine ⟨[b], k, by omega, .byte h6, ⟨s.drop (p + 1), ?_⟩, h4⟩
          obtain ⟨hlt, e⟩ := List.getElem?_eq_some_iff.1 h5
          rw [List.drop_eq_getElem_cons hlt, e]; rfl
  | .cat a b, hx, ps, nx, F, en, s, he, hF, k, p, h => by
    have l1 := (lay_len b ps nx).1
    have l2 := (lay_len a (lay b ps nx).1 (lay b ps nx).2).1
    simp only [lay] at hF h
    obtain ⟨u, k1, u1, u2, u3, u4⟩ := sound a hx.1 _ _ F en s (by omega) (fun i h1 h2 => hF i (by omega) h2) k p h
    obtain ⟨v, k2, v1, v2, v3, v4⟩ := sound b hx.2 ps nx F en s he (fun i h1 h2 => by rw [hF i h1 (by omega), lay_keep a _ _ i h2]) k1 _ u4
    exact ⟨u ++ v, k2, by omega, .cat u2 v2, u3.trans v3, by rw [List.length_append, ← Nat.add_assoc]; exact v4⟩
  | .alt a b, hx, ps, nx, F, en, s, he, hF, k, p, h => by
    have l1 := (lay_len a ps nx).1
    have l2 := (lay_len b (lay a ps nx).1 nx).1
    simp only [lay] at hF h
    have hf := hF (lay b (lay a ps nx).1 nx).1.length (by omega) (by simp)
    simp at hf
    cases k with
    | zero => exact absurd h.1 (by omega)
    | succ k =>
      rcases h with h | ⟨m, q, ⟨c', l, h1, h2, h3⟩, h4⟩
      · exact absurd h.1 (by omega)
      · rw [hf] at h1
        simp only [Option.some.injEq, Prod.mk.injEq] at h1
        obtain ⟨rfl, rfl⟩ := h1
        rcases h3 with ⟨_, rfl⟩ | ⟨h3, _⟩
        · simp at h2
          rcases h2 with rfl | rfl
          · obtain ⟨u, k1, u1, u2, u3, u4⟩ := sound a hx.1 ps nx F en s he (fun i h1 h2 => by rw [hF i h1 (by simp; omega), List.getElem?_append_left (by omega), lay_keep b _ _ i h2]) k _ h4
            exact ⟨u, k1, by omega, .altl u2, u3, u4⟩
          · obtain ⟨u, k1, u1, u2, u3, u4⟩ := sound b hx.2 (lay a ps nx).1 nx F en s (by omega) (fun i h1 h2 => by rw [hF i (by omega) (by simp; omega), List.getElem?_append_left h2]) k _ h4
            exact ⟨u, k1, by omega, .altr u2, u3, u4⟩
        · exact absurd rfl h3
  | .star a, hx, ps, nx, F, en, s, he, hF, k, p, h => by
    have l1 := (lay_len a (ps ++ [(empty, [])]) ps.length).1
    simp only [List.length_append, List.length_cons, List.length_nil] at l1
    simp only [lay, List.length_set] at hF h
    have hf := hF ps.length (Nat.le_refl _) (by omega)
    rw [List.getElem?_set_self (by omega)] at hf
    have hF' : ∀ i, (ps ++ [((empty, []) : St)]).length ≤ i → i < (lay a (ps ++ [(empty, [])]) ps.length).1.length → F[i]? = (lay a (ps ++ [(empty, [])]) ps.length).1[i]? := fun i h1 h2 => by
      simp at h1
      rw [hF i (by omega) h2, List.getElem?_set_ne (by omega)]
    have main : ∀ k p, AccN F en s k ps.length p → ∃ u k', k' ≤ k ∧ M (.star a) u ∧ At s p u ∧ AccN F en s k' nx (p + u.length) := fun k => by
      induction k using Nat.strongRecOn with
      | ind k ih =>
        intro p h
        cases k with
        | zero => exact absurd h.1 (by omega)
        | succ k =>
          rcases h with h | ⟨m, q, ⟨c', l, h1, h2, h3⟩, h4⟩
          · exact absurd h.1 (by omega)
          · rw [hf] at h1
            simp only [Option.some.injEq, Prod.mk.injEq] at h1
            obtain ⟨rfl, rfl⟩ := h1
            rcases h3 with ⟨_, rfl⟩ | ⟨h3, _⟩
            · simp at h2
              rcases h2 with rfl | rfl
              · exact ⟨[], k, by omega, .star0, At.nil s _, h4⟩
              · obtain ⟨u, k1, u1, u2, u3, u4⟩ := sound a hx _ _ F en s (by simp; omega) hF' k _ h4
                obtain ⟨v, k2, v1, v2, v3, v4⟩ := ih k1 (by omega) _ u4
                exact ⟨u ++ v, k2, by omega, .starS u2 v2, u3.trans v3, by rw [List.length_append, ← Nat.add_assoc]; exact v4⟩
            · exact absurd rfl h3
    exact main k p h

theorem complete : ∀ (x : E), x.ok → ∀ (ps : List St) (nx : Nat) (F : List St) (en : Nat) (s : List UInt8), (∀ i, ps.length ≤ i → i < (lay x ps nx).1.length → F[i]? = (lay x ps nx).1[i]?) →
    ∀ u p, M x u → At s p u → Acc F en s nx (p + u.length) → Acc F en s (lay x ps nx).2 p
  | .none, _, ps, nx, F, en, s, hF, u, p, h, hu, hA => by cases h
  | .emp, _, ps, nx, F, en, s, hF, u, p, h, hu, hA => by cases h; exact hA
  | .byte c, hx, ps, nx, F, en, s, hF, u, p, h, hu, hA => by
    have hf := hF ps.length (Nat.le_refl _) (by simp [lay])
    simp [lay] at hf
    cases h with
    | byte h =>
      rename_i b
      obtain ⟨r, hr⟩ := hu
      have hb : s[p]? = some b := by
        have : (s.drop p)[0]? = some b := by rw [hr]; rfl
        rwa [List.getElem?_drop, Nat.add_zero] at this
      simp only [lay]
      exact Acc.step ⟨c, [nx], hf, by simp, Or.inr ⟨hx, b, hb, h, rfl⟩⟩ hA
  | .cat a b, hx, ps, nx, F, en, s, hF, u, p, h, hu, hA => by
    have l1 := (lay_len b ps nx).1
    have l2 := (lay_len a (lay b ps nx).1 (lay b ps nx).2).1
    simp only [lay] at hF ⊢
    cases h with
    | cat h1 h2 =>
      obtain ⟨k1, k2⟩ := hu.split
      rw [List.length_append, ← Nat.add_assoc] at hA
      exact complete a hx.1 _ _ F en s (fun i h1 h2 => hF i (by omega) h2) _ _ h1 k1 (complete b hx.2 ps nx F en s (fun i h1 h2 => by rw [hF i h1 (by omega), lay_keep a _ _ i h2]) _ _ h2 k2 hA)
  | .alt a b, hx, ps, nx, F, en, s, hF, u, p, h, hu, hA => by
    have l1 := (lay_len a ps nx).1
    have l2 := (lay_len b (lay a ps nx).1 nx).1
    simp only [lay] at hF ⊢
    have hf := hF (lay b (lay a ps nx).1 nx).1.length (by omega) (by simp)
    simp at hf
    cases h with
    | altl h => exact Acc.step ⟨empty, _, hf, by simp, Or.inl ⟨rfl, rfl⟩⟩ (complete a hx.1 ps nx F en s (fun i h1 h2 => by rw [hF i h1 (by simp; omega), List.getElem?_append_left (by omega), lay_keep b _ _ i h2]) _ _ h hu hA)
    | altr h => exact Acc.step ⟨empty, _, hf, by simp, Or.inl ⟨rfl, rfl⟩⟩ (complete b hx.2 (lay a ps nx).1 nx F en s (fun i h1 h2 => by rw [hF i (by omega) (by simp; omega), List.getElem?_append_left h2]) _ _ h hu hA)
  | .star a, hx, ps, nx, F, en, s, hF, u, p, h, hu, hA => by
    have l1 := (lay_len a (ps ++ [(empty, [])]) ps.length).1
    simp only [List.length_append, List.length_cons, List.length_nil] at l1
    simp only [lay, List.length_set] at hF ⊢
    have hf := hF ps.length (Nat.le_refl _) (by omega)
    rw [List.getElem?_set_self (by omega)] at hf
    have hF' : ∀ i, (ps ++ [((empty, []) : St)]).length ≤ i → i < (lay a (ps ++ [(empty, [])]) ps.length).1.length → F[i]? = (lay a (ps ++ [(empty, [])]) ps.length).1[i]? := fun i h1 h2 => by
      simp at h1
      rw [hF i (by omega) h2, List.getElem?_set_ne (by omega)]
    have main : ∀ y u, M y u → y = .star a → ∀ p, At s p u → Acc F en s nx (p + u.length) → Acc F en s ps.length p := fun y u h => by
      induction h with
      | star0 =>
        intro e p _ hA
        exact Acc.step ⟨empty, _, hf, by simp, Or.inl ⟨rfl, rfl⟩⟩ hA
      | starS h1 h2 i1 i2 =>
        intro e p hu hA
        cases e
        obtain ⟨k1, k2⟩ := hu.split
        rw [List.length_append, ← Nat.add_assoc] at hA
        exact Acc.step ⟨empty, _, hf, by simp, Or.inl ⟨rfl, rfl⟩⟩ (complete a hx _ _ F en s hF' _ _ h1 k1 (i2 rfl _ k2 hA))
      | emp => intro e; cases e
      | byte _ => intro e; cases e
      | cat _ _ => intro e; cases e
      | altl _ => intro e; cases e
      | altr _ => intro e; cases e
    exact main _ u h rfl p hu hA

/-- The plan of x, its end being the first of its steps. -/
def plan (x : E) : List St × Nat := lay x [(empty, [])] 0
theorem plan_zero (x : E) : (plan x).1[0]? = some (empty, []) := by unfold plan; rw [lay_keep x _ _ 0 (by simp)]; rfl
/-- The end is come to by all of a text just if x matches it. -/
theorem plan_means (x : E) (hx : x.ok) (s : List UInt8) : Acc (plan x).1 0 s (plan x).2 0 ↔ M x s := by
  constructor
  · rintro ⟨k, h⟩
    obtain ⟨u, k', _, u2, u3, u4⟩ := sound x hx [(empty, [])] 0 (plan x).1 0 s (by simp) (fun i _ _ => rfl) k 0 h
    have hq : 0 + u.length = s.length := by
      cases k' with
      | zero => exact u4.2
      | succ k' =>
        rcases u4 with u4 | ⟨m, q, ⟨c, l, h1, h2, _⟩, _⟩
        · exact u4.2
        · rw [plan_zero] at h1
          simp only [Option.some.injEq, Prod.mk.injEq] at h1
          obtain ⟨rfl, rfl⟩ := h1
          cases h2
    obtain ⟨r, hr⟩ := u3
    have hr0 : r = [] := by
      have := congrArg List.length hr
      simp at this
      exact List.length_eq_zero_iff.1 (by omega)
    rw [List.drop_zero, hr0, List.append_nil] at hr
    rw [hr]; exact u2
  · intro h
    exact complete x hx [(empty, [])] 0 (plan x).1 0 s (fun i _ _ => rfl) s 0 h ⟨[], by simp⟩ ⟨0, rfl, by simp⟩
end Go.Proofs.Ytgdaegmmapljgaa.Rex
