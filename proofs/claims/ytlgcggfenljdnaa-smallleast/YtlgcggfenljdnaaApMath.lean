/-
  The plain mathematics of a walk through two automata at once: breadth first, from the least byte on.
-/
import Derived.Test.YtlgcggfenljdnaaMath
namespace Go.Proofs.Ytlgcggfenljdnaa.Dfa

/-- A text's number: texts in order of their lengths, those of one length from the least one on. -/
def key (l : List UInt8) : Nat := l.foldl (fun a b => a * 256 + b.toNat) 1
theorem key_snoc (l : List UInt8) (b : UInt8) : key (l ++ [b]) = key l * 256 + b.toNat := by simp [key]
theorem key_from (l : List UInt8) : ∀ a, a ≤ l.foldl (fun a b => a * 256 + b.toNat) a := by
  induction l with
  | nil => intro a; exact Nat.le_refl _
  | cons b l ih => intro a; exact Nat.le_trans (by omega) (ih (a * 256 + b.toNat))
theorem key_pos (l : List UInt8) : 1 ≤ key l := key_from l 1
theorem snoc_cases (l : List UInt8) : l = [] ∨ ∃ u b, l = u ++ [b] := by
  rcases List.eq_nil_or_concat l with h | ⟨u, b, h⟩
  · exact Or.inl h
  · exact Or.inr ⟨u, b, by simpa using h⟩
theorem key_inj : ∀ (n : Nat) (u v : List UInt8), u.length ≤ n → key u = key v → u = v
  | 0, u, v, hn, h => by
    have hu : u = [] := List.length_eq_zero_iff.1 (by omega)
    subst hu
    rcases snoc_cases v with rfl | ⟨v', c, rfl⟩
    · rfl
    · rw [key_snoc] at h; have := key_pos v'; have : key [] = 1 := rfl; omega
  | n + 1, u, v, hn, h => by
    rcases snoc_cases u with rfl | ⟨u', b, rfl⟩
    · rcases snoc_cases v with rfl | ⟨v', c, rfl⟩
      · rfl
      · rw [key_snoc] at h; have := key_pos v'; have : key [] = 1 := rfl; omega
    · rcases snoc_cases v with rfl | ⟨v', c, rfl⟩
      · rw [key_snoc] at h; have := key_pos u'; have : key [] = 1 := rfl; omega
      · rw [key_snoc, key_snoc] at h
        have hb := b.toNat_lt
        have hc := c.toNat_lt
        have e1 : key u' = key v' := by omega
        have e2 : b.toNat = c.toNat := by omega
        rw [key_inj n u' v' (by simp at hn; omega) e1, UInt8.toNat_inj.1 e2]
theorem key_front (u v : List UInt8) : key u ≤ key (u ++ v) := by
  unfold key
  rw [List.foldl_append]
  exact key_from v _
theorem key_front_lt (u v : List UInt8) (h : v ≠ []) : key u < key (u ++ v) := by
  rcases Nat.lt_or_ge (key u) (key (u ++ v)) with h' | h'
  · exact h'
  · have h2 := key_front u v
    have h3 := key_inj _ u (u ++ v) (Nat.le_refl _) (by omega)
    exact absurd (List.self_eq_append_right.1 h3) h

/-- A stop: its text, from which stop it was come to, and by which byte. -/
structure S where
  wd : List UInt8
  fr : Nat
  by_ : Nat
def s0 : S := ⟨[], 0, 0⟩
def g (Q : List S) (i : Nat) : S := Q.getD i s0
theorem g_left (Q : List S) (x : S) (i : Nat) (h : i < Q.length) : g (Q ++ [x]) i = g Q i := by
  simp [g, List.getD_eq_getElem?_getD, List.getElem?_append_left h]
theorem g_new (Q : List S) (x : S) : g (Q ++ [x]) Q.length = x := by simp [g, List.getD_eq_getElem?_getD]

/-- What holds where the stops ahead of a are done, and of a the bytes below b. -/
structure Inv (pair : List UInt8 → Int × Int) (Q : List S) (a b : Nat) : Prop where
  pos : 0 < Q.length
  h0 : g Q 0 = s0
  hw : ∀ i, 0 < i → i < Q.length → (g Q i).fr < i ∧ (g Q i).by_ < 256 ∧ (g Q i).wd = (g Q (g Q i).fr).wd ++ [UInt8.ofNat (g Q i).by_]
  hk : ∀ i, 0 < i → i < Q.length → (g Q i).fr < a ∨ ((g Q i).fr = a ∧ (g Q i).by_ < b)
  hs : ∀ i j, i < j → j < Q.length → key (g Q i).wd < key (g Q j).wd
  hd : ∀ i j, i < j → j < Q.length → pair (g Q i).wd ≠ pair (g Q j).wd
  hc : ∀ i, i < Q.length → ∀ c, c < 256 → (i < a ∨ (i = a ∧ c < b)) → ∃ k, k < Q.length ∧ pair (g Q k).wd = pair ((g Q i).wd ++ [UInt8.ofNat c]) ∧ key (g Q k).wd ≤ key ((g Q i).wd ++ [UInt8.ofNat c])
variable {pair : List UInt8 → Int × Int} {Q : List S} {a b : Nat}
theorem ofNat_small {c : Nat} (h : c < 256) : (UInt8.ofNat c).toNat = c := by rw [UInt8.toNat_ofNat']; omega
theorem Inv.start (pair : List UInt8 → Int × Int) : Inv pair [s0] 0 0 where
  pos := by simp
  h0 := rfl
  hw := fun i h1 h2 => by simp at h2; omega
  hk := fun i h1 h2 => by simp at h2; omega
  hs := fun i j h1 h2 => by simp at h2; omega
  hd := fun i j h1 h2 => by simp at h2; omega
  hc := fun i h1 c h2 h3 => by omega
theorem Inv.less (h : Inv pair Q a b) (ha : a < Q.length) (hb : b < 256) (k : Nat) (hk : k < Q.length) : key (g Q k).wd < key ((g Q a).wd ++ [UInt8.ofNat b]) := by
  rw [key_snoc, ofNat_small hb]
  have hp := key_pos (g Q a).wd
  by_cases h0 : k = 0
  · subst h0; rw [h.h0]; have : key s0.wd = 1 := rfl; omega
  · obtain ⟨h1, h2, h3⟩ := h.hw k (by omega) hk
    rw [h3, key_snoc, ofNat_small h2]
    rcases h.hk k (by omega) hk with h4 | ⟨h4, h5⟩
    · have := h.hs _ _ h4 ha; omega
    · rw [h4]; omega
theorem Inv.seen (h : Inv pair Q a b) (ha : a < Q.length) (hb : b < 256) (hs : ∃ k, k < Q.length ∧ pair (g Q k).wd = pair ((g Q a).wd ++ [UInt8.ofNat b])) : Inv pair Q a (b + 1) where
  pos := h.pos
  h0 := h.h0
  hw := h.hw
  hk := fun i h1 h2 => by rcases h.hk i h1 h2 with h3 | h3 <;> omega
  hs := h.hs
  hd := h.hd
  hc := fun i hi c hc h3 => by
    by_cases e : i = a ∧ c = b
    · obtain ⟨rfl, rfl⟩ := e
      obtain ⟨k, h4, h5⟩ := hs
      exact ⟨k, h4, h5, Nat.le_of_lt (h.less ha hb k h4)⟩
    · exact h.hc i hi c hc (by omega)
theorem Inv.new (h : Inv pair Q a b) (ha : a < Q.length) (hb : b < 256) (hs : ¬ ∃ k, k < Q.length ∧ pair (g Q k).wd = pair ((g Q a).wd ++ [UInt8.ofNat b])) : Inv pair (Q ++ [⟨(g Q a).wd ++ [UInt8.ofNat b], a, b⟩]) a (b + 1) where
  pos := by simp
  h0 := by rw [g_left _ _ _ h.pos]; exact h.h0
  hw := fun i h1 h2 => by
    by_cases e : i < Q.length
    · rw [g_left _ _ _ e]
      obtain ⟨h3, h4, h5⟩ := h.hw i h1 e
      rw [g_left _ _ _ (by omega)]
      exact ⟨h3, h4, h5⟩
    · obtain rfl : i = Q.length := by simp at h2; omega
      rw [g_new]
      refine ⟨ha, hb, ?_⟩
      rw [g_left _ _ _ ha]
  hk := fun i h1 h2 => by
    by_cases e : i < Q.length
    · rw [g_left _ _ _ e]; rcases h.hk i h1 e with h3 | h3 <;> omega
    · obtain rfl : i = Q.length := by simp at h2; omega
      rw [g_new]; right; exact ⟨rfl, Nat.lt_succ_self b⟩
  hs := fun i j h1 h2 => by
    by_cases e : j < Q.length
    · rw [g_left _ _ _ e, g_left _ _ _ (by omega)]; exact h.hs i j h1 e
    · obtain rfl : j = Q.length := by simp at h2; omega
      rw [g_new, g_left _ _ _ h1]; exact h.less ha hb i h1
  hd := fun i j h1 h2 => by
    by_cases e : j < Q.length
    · rw [g_left _ _ _ e, g_left _ _ _ (by omega)]; exact h.hd i j h1 e
    · obtain rfl : j = Q.length := by simp at h2; omega
      rw [g_new, g_left _ _ _ h1]; exact fun x => hs ⟨i, h1, x⟩
  hc := fun i hi c hc h3 => by
    have hi' : i < Q.length := by omega
    rw [g_left _ _ _ hi']
    by_cases e : i = a ∧ c = b
    · obtain ⟨rfl, rfl⟩ := e
      exact ⟨Q.length, by simp, by rw [g_new], by rw [g_new]; exact Nat.le_refl _⟩
    · obtain ⟨k, h4, h5, h6⟩ := h.hc i hi' c hc (by omega)
      exact ⟨k, by simp; omega, by rw [g_left _ _ _ h4]; exact h5, by rw [g_left _ _ _ h4]; exact h6⟩
theorem Inv.next (h : Inv pair Q a 256) : Inv pair Q (a + 1) 0 where
  pos := h.pos
  h0 := h.h0
  hw := h.hw
  hk := fun i h1 h2 => by rcases h.hk i h1 h2 with h3 | h3 <;> omega
  hs := h.hs
  hd := h.hd
  hc := fun i hi c hc h3 => h.hc i hi c hc (by omega)
set_option maxRecDepth 20000 in
theorem Inv.reach (h : Inv pair Q a 0) (hp : ∀ u v b, pair u = pair v → pair (u ++ [b]) = pair (v ++ [b])) : ∀ (n : Nat) (v : List UInt8), v.length ≤ n → (∃ j, j < a ∧ j < Q.length ∧ pair (g Q j).wd = pair v ∧ key (g Q j).wd ≤ key v) ∨ (a < Q.length ∧ key (g Q a).wd ≤ key v)
  | n, v, hn => by
    rcases snoc_cases v with rfl | ⟨u, c, rfl⟩
    · by_cases e : a = 0
      · subst e; right; exact ⟨h.pos, by rw [h.h0]; exact Nat.le_refl _⟩
      · left; exact ⟨0, by omega, h.pos, by rw [h.h0]; rfl, by rw [h.h0]; exact Nat.le_refl _⟩
    · match n, hn with
      | 0, hn => simp at hn
      | n + 1, hn =>
        rcases Inv.reach h hp n u (by simp at hn; omega) with ⟨j, h1, h2, h3, h4⟩ | ⟨h1, h2⟩
        · have hc := c.toNat_lt
          obtain ⟨k, h5, h6, h7⟩ := h.hc j h2 c.toNat hc (Or.inl h1)
          have ec : UInt8.ofNat c.toNat = c := UInt8.ofNat_toNat
          rw [ec] at h6 h7
          rw [hp _ _ c h3] at h6
          rw [key_snoc] at h7
          have h8 : key (g Q k).wd ≤ key (u ++ [c]) := by rw [key_snoc]; omega
          by_cases e : k < a
          · left; exact ⟨k, e, h5, h6, h8⟩
          · right
            refine ⟨by omega, ?_⟩
            by_cases e2 : k = a
            · subst e2; exact h8
            · have := h.hs a k (by omega) h5; omega
        · right; exact ⟨h1, Nat.le_trans h2 (key_front u [c])⟩
theorem Inv.least (h : Inv pair Q a 0) (hp : ∀ u v b, pair u = pair v → pair (u ++ [b]) = pair (v ++ [b])) (D : Int × Int → Prop) (hn : ∀ i, i < a → i < Q.length → ¬ D (pair (g Q i).wd)) (v : List UInt8) (hv : D (pair v)) : a < Q.length ∧ key (g Q a).wd ≤ key v := by
  rcases h.reach hp _ v (Nat.le_refl _) with ⟨j, h1, h2, h3, h4⟩ | h1
  · rw [← h3] at hv; exact absurd hv (hn j h1 h2)
  · exact h1

/-- As many as there are numbers for them. -/
theorem count_le : ∀ (N : Nat) (f : Nat → Nat) (q : Nat), (∀ i, i < q → f i < N) → (∀ i j, i < j → j < q → f i ≠ f j) → q ≤ N
  | 0, f, q, h1, _ => by
    rcases Nat.eq_zero_or_pos q with h | h
    · omega
    · have := h1 0 h; omega
  | N + 1, f, q, h1, h2 => by
    by_cases h : ∃ i, i < q ∧ f i = N
    · obtain ⟨i, hi, hf⟩ := h
      have := count_le N (fun k => if k < i then f k else f (k + 1)) (q - 1) (fun k hk => by
        split
        · have a1 := h1 k (by omega); have a2 := h2 k i (by omega) hi; omega
        · have a1 := h1 (k + 1) (by omega); have a2 := h2 i (k + 1) (by omega) (by omega); omega) (fun j k hjk hk => by
        split
        · split
          · exact h2 j k hjk (by omega)
          · exact h2 j (k + 1) (by omega) (by omega)
        · rw [if_neg (by omega)]
          exact h2 (j + 1) (k + 1) (by omega) (by omega))
      omega
    · exact Nat.le_succ_of_le (count_le N f q (fun k hk => by have a1 := h1 k hk; have a2 : f k ≠ N := fun e => h ⟨k, hk, e⟩; omega) h2)
theorem Inv.few (h : Inv pair Q a b) (n m : Nat) (hr : ∀ i, i < Q.length → At n (pair (g Q i).wd).1 ∧ At m (pair (g Q i).wd).2) : Q.length ≤ (n + 1) * (m + 1) := by
  refine count_le _ (fun i => ((pair (g Q i).wd).1 + 1).toNat * (m + 1) + ((pair (g Q i).wd).2 + 1).toNat) Q.length (fun i hi => ?_) (fun i j hij hj e => ?_)
  · obtain ⟨⟨p1, p2⟩, q1, q2⟩ := hr i hi
    have h1 : ((pair (g Q i).wd).1 + 1).toNat + 1 ≤ n + 1 := by omega
    have h2 : (((pair (g Q i).wd).1 + 1).toNat + 1) * (m + 1) ≤ (n + 1) * (m + 1) := Nat.mul_le_mul_right _ h1
    rw [Nat.add_mul, Nat.one_mul] at h2
    omega
  ·
    obtain ⟨⟨p1, p2⟩, q1, q2⟩ := hr i (by omega)
    obtain ⟨⟨r1, r2⟩, s1, s2⟩ := hr j hj
    generalize hx : ((pair (g Q i).wd).1 + 1).toNat = x at *
    generalize hy : ((pair (g Q j).wd).1 + 1).toNat = y at *
    generalize hu : ((pair (g Q i).wd).2 + 1).toNat = u at *
    generalize hv : ((pair (g Q j).wd).2 + 1).toNat = v at *
    have hu' : u < m + 1 := by omega
    have hv' : v < m + 1 := by omega
    have e1 : x = y := by
      have := congrArg (· / (m + 1)) e
      rwa [Nat.mul_comm x, Nat.mul_comm y, Nat.mul_add_div (by omega), Nat.mul_add_div (by omega), Nat.div_eq_of_lt hu', Nat.div_eq_of_lt hv', Nat.add_zero, Nat.add_zero] at this
    subst e1
    exact h.hd i j hij hj (Prod.ext (by omega) (by omega))
end Go.Proofs.Ytlgcggfenljdnaa.Dfa
