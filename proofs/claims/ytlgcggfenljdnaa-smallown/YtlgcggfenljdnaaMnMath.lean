/-
  The plain mathematics of the smallest automaton: kinds of states, how they are refined, and what is told once no kind is new.
-/
import Derived.Test.YtlgcggfenljdnaaMath
namespace Go.Proofs.Ytlgcggfenljdnaa.Dfa

/-- Onto: no fewer than there are. -/
theorem pig : ∀ (m c : Nat) (f : Nat → Nat), (∀ k, k < c → ∃ i, i < m ∧ f i = k) → c ≤ m
  | 0, c, f, h => by
    rcases Nat.eq_zero_or_pos c with e | e
    · omega
    · obtain ⟨i, hi, -⟩ := h 0 e; omega
  | m + 1, c, f, h => by
    by_cases hk : f m < c
    · have := pig m (c - 1) (fun i => if f m < f i then f i - 1 else f i) fun k hk2 => by
        by_cases e : k < f m
        · obtain ⟨i, hi, e2⟩ := h k (by omega)
          refine ⟨i, ?_, ?_⟩
          · rcases Nat.lt_or_ge i m with g | g
            · exact g
            · have : i = m := by omega
              subst this; omega
          · rw [if_neg (by omega)]; exact e2
        · obtain ⟨i, hi, e2⟩ := h (k + 1) (by omega)
          refine ⟨i, ?_, ?_⟩
          · rcases Nat.lt_or_ge i m with g | g
            · exact g
            · have : i = m := by omega
              subst this; omega
          · rw [if_pos (by omega)]; omega
      omega
    · have := pig m c f fun k hk2 => by
        obtain ⟨i, hi, e⟩ := h k hk2
        refine ⟨i, ?_, e⟩
        rcases Nat.lt_or_ge i m with g | g
        · exact g
        · have : i = m := by omega
          subst this; omega
      omega
/-- Onto, and no more than there are: one to one. -/
theorem pig_inj {m c : Nat} {f : Nat → Nat} (h : ∀ k, k < c → ∃ i, i < m ∧ f i = k) (hc : m ≤ c) {i j : Nat} (hi : i < m) (hj : j < m) (e : f i = f j) : i = j := by
  suffices H : ∀ i j, i < j → j < m → f i = f j → False by
    rcases Nat.lt_trichotomy i j with g | g | g
    · exact (H i j g hj e).elim
    · exact g
    · exact (H j i g hi e.symm).elim
  intro i j hij hj e
  have := pig (m - 1) c (fun k => f (if k < j then k else k + 1)) fun k hk => by
    obtain ⟨q, hq, e2⟩ := h k hk
    by_cases e3 : q < j
    · exact ⟨q, by omega, by rw [if_pos e3]; exact e2⟩
    · by_cases e4 : q = j
      · subst e4
        exact ⟨i, by omega, by rw [if_pos hij, e]; exact e2⟩
      · exact ⟨q - 1, by omega, by rw [if_neg (by omega), show q - 1 + 1 = q by omega]; exact e2⟩
  omega
/-- One to one: no more than there are. -/
theorem pig_le {m c : Nat} {f : Nat → Nat} (h : ∀ i, i < m → f i < c) (hi : ∀ i j, i < m → j < m → f i = f j → i = j) : m ≤ c := by
  classical
  rcases Nat.eq_zero_or_pos m with e | e
  · omega
  · exact pig c m (fun y => if g : ∃ i, i < m ∧ f i = y then g.choose else 0) fun k hk => ⟨f k, h k hk, by
      have g : ∃ i, i < m ∧ f i = f k := ⟨k, hk, rfl⟩

      rw [dif_pos g]
      exact hi _ _ g.choose_spec.1 hk g.choose_spec.2⟩

/-- The kind of a state, or of none. -/
def kof (K : Nat → Int) (s : Int) : Int := if s < 0 then -1 else K s.toNat
/-- The row of a state: the kinds that its bytes lead to, and its tag. -/
def rwk (R : Nat → Nat → Int) (T : Nat → Int) (K : Nat → Int) (s j : Nat) : Int := if j < 256 then kof K (R s j) else T s
def req (R : Nat → Nat → Int) (T : Nat → Int) (K : Nat → Int) (s t : Nat) : Bool := (List.range 257).all fun j => rwk R T K s j == rwk R T K t j
def ded (R : Nat → Nat → Int) (T : Nat → Int) (K : Nat → Int) (s : Nat) : Bool := (List.range 257).all fun j => rwk R T K s j == -1
theorem req_iff {R : Nat → Nat → Int} {T : Nat → Int} {K : Nat → Int} {s t : Nat} : req R T K s t = true ↔ (∀ b, b < 256 → kof K (R s b) = kof K (R t b)) ∧ T s = T t := by
  simp only [req, List.all_eq_true, List.mem_range, beq_iff_eq]
  constructor
  · intro h
    refine ⟨fun b hb => ?_, ?_⟩
    · have := h b (by omega); simpa [rwk, hb] using this
    · have := h 256 (by omega); simpa [rwk] using this
  · intro h j hj
    by_cases e : j < 256
    · simpa [rwk, e] using h.1 j e
    · simpa [rwk, e] using h.2
theorem ded_iff {R : Nat → Nat → Int} {T : Nat → Int} {K : Nat → Int} {s : Nat} : ded R T K s = true ↔ (∀ b, b < 256 → kof K (R s b) = -1) ∧ T s = -1 := by
  simp only [ded, List.all_eq_true, List.mem_range, beq_iff_eq]
  constructor
  · intro h
    refine ⟨fun b hb => ?_, ?_⟩
    · have := h b (by omega); simpa [rwk, hb] using this
    · have := h 256 (by omega); simpa [rwk] using this
  · intro h j hj
    by_cases e : j < 256
    · simpa [rwk, e] using h.1 j e
    · simpa [rwk, e] using h.2
/-- The number of a state's row among those of these states, or how many these are. -/
def rix (R : Nat → Nat → Int) (T : Nat → Int) (K : Nat → Int) (fs : List Nat) (s : Nat) : Nat := fs.findIdx fun f => req R T K f s
/-- The least states of the rows of the states below s, but for the dead ones. -/
def frs (R : Nat → Nat → Int) (T : Nat → Int) (K : Nat → Int) : Nat → List Nat
  | 0 => []
  | s + 1 => if ded R T K s = true then frs R T K s else if rix R T K (frs R T K s) s = (frs R T K s).length then frs R T K s ++ [s] else frs R T K s
/-- The kinds, refined. -/
def ref (R : Nat → Nat → Int) (T : Nat → Int) (K : Nat → Int) (s : Nat) : Int := if ded R T K s = true then -1 else (rix R T K (frs R T K s) s : Int)
variable {R : Nat → Nat → Int} {T : Nat → Int} {K : Nat → Int}
theorem req_refl (s : Nat) : req R T K s s = true := req_iff.2 ⟨fun _ _ => rfl, rfl⟩
theorem req_symm {s t : Nat} (h : req R T K s t = true) : req R T K t s = true := by
  have := req_iff.1 h
  exact req_iff.2 ⟨fun b hb => (this.1 b hb).symm, this.2.symm⟩
theorem req_trans {s t u : Nat} (h : req R T K s t = true) (g : req R T K t u = true) : req R T K s u = true := by
  have h := req_iff.1 h
  have g := req_iff.1 g
  exact req_iff.2 ⟨fun b hb => (h.1 b hb).trans (g.1 b hb), h.2.trans g.2⟩
theorem ded_of {s t : Nat} (h : req R T K s t = true) (g : ded R T K s = true) : ded R T K t = true := by
  have h := req_iff.1 h
  have g := ded_iff.1 g
  exact ded_iff.2 ⟨fun b hb => (h.1 b hb).symm.trans (g.1 b hb), h.2.symm.trans g.2⟩
theorem ded_eq {s t : Nat} (h : ded R T K s = true) (g : ded R T K t = true) : req R T K s t = true := by
  have h := ded_iff.1 h
  have g := ded_iff.1 g
  exact req_iff.2 ⟨fun b hb => (h.1 b hb).trans (g.1 b hb).symm, h.2.trans g.2.symm⟩
theorem rix_le (fs : List Nat) (s : Nat) : rix R T K fs s ≤ fs.length := List.findIdx_le_length
theorem rix_some {fs : List Nat} {s : Nat} (h : rix R T K fs s < fs.length) : req R T K fs[rix R T K fs s] s = true := List.findIdx_getElem (w := h)
theorem rix_lt {fs : List Nat} {s : Nat} : rix R T K fs s < fs.length ↔ ∃ f ∈ fs, req R T K f s = true := List.findIdx_lt_length
theorem rix_append {fs gs : List Nat} {s : Nat} (h : rix R T K fs s < fs.length) : rix R T K (fs ++ gs) s = rix R T K fs s := by
  unfold rix at *
  rw [List.findIdx_append, if_pos h]
theorem frs_mono (s : Nat) : ∀ k, ∃ gs, frs R T K (s + k) = frs R T K s ++ gs
  | 0 => ⟨[], by simp⟩
  | k + 1 => by
    obtain ⟨gs, h⟩ := frs_mono s k
    rw [← Nat.add_assoc, frs]
    split
    · exact ⟨gs, h⟩
    · split
      · exact ⟨gs ++ [s + k], by rw [h, List.append_assoc]⟩
      · exact ⟨gs, h⟩
theorem frs_lt : ∀ s, ∀ f ∈ frs R T K s, f < s ∧ ded R T K f = false
  | 0, f, h => by simp [frs] at h
  | s + 1, f, h => by
    have ih := frs_lt s f
    rw [frs] at h
    split at h
    · have := ih h; exact ⟨by omega, this.2⟩
    · rename_i hd
      split at h
      · simp at h
        rcases h with h | h
        · have := ih h; exact ⟨by omega, this.2⟩
        · subst h; exact ⟨by omega, by simpa using hd⟩
      · have := ih h; exact ⟨by omega, this.2⟩
theorem frs_has {s : Nat} (hd : ded R T K s = false) : rix R T K (frs R T K (s + 1)) s < (frs R T K (s + 1)).length ∧ rix R T K (frs R T K (s + 1)) s = rix R T K (frs R T K s) s := by
  have hle := rix_le (R := R) (T := T) (K := K) (frs R T K s) s
  rw [frs, if_neg (by simp [hd])]
  split
  · rename_i h
    have e : rix R T K (frs R T K s ++ [s]) s = (frs R T K s).length := by
      unfold rix at *
      rw [List.findIdx_append, if_neg (by omega), List.findIdx_cons, req_refl]
      simp
    exact ⟨by rw [e]; simp, by rw [e, h]⟩
  · exact ⟨by omega, rfl⟩
theorem rix_later {s : Nat} (hd : ded R T K s = false) {n : Nat} (hn : s < n) : rix R T K (frs R T K n) s < (frs R T K n).length ∧ rix R T K (frs R T K n) s = rix R T K (frs R T K s) s := by
  obtain ⟨gs, e⟩ := frs_mono (R := R) (T := T) (K := K) (s + 1) (n - (s + 1))
  rw [show s + 1 + (n - (s + 1)) = n by omega] at e
  obtain ⟨h1, h2⟩ := frs_has (R := R) (T := T) (K := K) hd
  rw [e, rix_append h1]
  exact ⟨by simp; omega, h2⟩
theorem rix_same {fs : List Nat} {s t : Nat} (h : req R T K s t = true) : rix R T K fs s = rix R T K fs t := by
  unfold rix
  congr 1
  funext f
  rw [Bool.eq_iff_iff]
  exact ⟨fun g => req_trans g h, fun g => req_trans g (req_symm h)⟩
/-- Two are of one kind just if they have one row; the kind is none just if the row is dead. -/
theorem ref_neg {s : Nat} : ref R T K s = -1 ↔ ded R T K s = true := by
  unfold ref
  split
  · rename_i h; simp [h]
  · rename_i h; simp [h]
theorem ref_at {n s : Nat} (hs : s < n) (hd : ded R T K s = false) : ref R T K s = (rix R T K (frs R T K n) s : Int) := by
  unfold ref
  rw [if_neg (by simp [hd]), (rix_later hd hs).2]
theorem ref_eq {n s t : Nat} (hs : s < n) (ht : t < n) : ref R T K s = ref R T K t ↔ req R T K s t = true := by
  constructor
  · intro h
    cases e : ded R T K s with
    | true => exact ded_eq e (ref_neg.1 (h ▸ ref_neg.2 e))
    | false =>
      cases e2 : ded R T K t with
      | true => rw [ref_neg.2 e2] at h; rw [ref_neg.1 h] at e; cases e
      | false =>
        rw [ref_at hs e, ref_at ht e2] at h
        obtain ⟨h1, -⟩ := rix_later (n := n) e hs
        obtain ⟨h2, -⟩ := rix_later (n := n) e2 ht
        have h3 : rix R T K (frs R T K n) s = rix R T K (frs R T K n) t := by omega
        have g1 := rix_some h1
        have g2 := rix_some h2
        simp only [h3] at g1
        exact req_trans (req_symm g1) g2
  · intro h
    cases e : ded R T K s with
    | true => rw [ref_neg.2 e, ref_neg.2 (ded_of h e)]
    | false =>
      have e2 : ded R T K t = false := by
        cases e2 : ded R T K t with
        | false => rfl
        | true => rw [ded_of (req_symm h) e2] at e; cases e
      rw [ref_at hs e, ref_at ht e2, rix_same h]
theorem ref_range {n s : Nat} (hs : s < n) : -1 ≤ ref R T K s ∧ ref R T K s < ((frs R T K n).length : Int) := by
  cases e : ded R T K s with
  | true => rw [ref_neg.2 e]; omega
  | false => rw [ref_at hs e]; have := (rix_later (n := n) e hs).1; omega
theorem frs_length : ∀ s, (frs R T K s).length ≤ s
  | 0 => by simp [frs]
  | s + 1 => by
    have := frs_length s
    rw [frs]
    split
    · omega
    · split
      · simp; omega
      · omega
/-- Each number is some state's. -/
theorem ref_onto {n k : Nat} (hk : k < (frs R T K n).length) : ∃ s, s < n ∧ ref R T K s = (k : Int) := by
  induction n with
  | zero => simp [frs] at hk
  | succ n ih =>
    rw [frs] at hk
    split at hk
    · obtain ⟨s, h1, h2⟩ := ih hk; exact ⟨s, by omega, h2⟩
    · rename_i hd
      split at hk
      · rename_i hr
        simp at hk
        by_cases e : k < (frs R T K n).length
        · obtain ⟨s, h1, h2⟩ := ih e; exact ⟨s, by omega, h2⟩
        · refine ⟨n, by omega, ?_⟩
          unfold ref
          rw [if_neg hd, hr]
          congr 1
          omega
      · obtain ⟨s, h1, h2⟩ := ih hk; exact ⟨s, by omega, h2⟩
/-- What is finer. -/
def Finer (n : Nat) (K' K : Nat → Int) : Prop := (∀ s t, s < n → t < n → K' s = K' t → K s = K t) ∧ ∀ s, s < n → K' s = -1 → K s = -1
theorem kof_fine {n : Nat} {K' : Nat → Int} (h : Finer n K' K) {x y : Int} (hx : At n x) (hy : At n y) (e : kof K' x = kof K' y) : kof K x = kof K y := by
  unfold kof at *
  obtain ⟨x1, x2⟩ := hx
  obtain ⟨y1, y2⟩ := hy
  by_cases hx : x < 0
  · by_cases hy : y < 0
    · simp [hx, hy]
    · simp [hx, hy] at e ⊢
      exact (h.2 _ (by omega) e.symm).symm
  · by_cases hy : y < 0
    · simp [hx, hy] at e ⊢
      exact h.2 _ (by omega) e
    · simp [hx, hy] at e ⊢
      exact h.1 _ _ (by omega) (by omega) e
theorem kof_fine_neg {n : Nat} {K' : Nat → Int} (h : Finer n K' K) {x : Int} (hx : At n x) (e : kof K' x = -1) : kof K x = -1 := by
  have := kof_fine h hx (y := -1) ⟨by omega, by omega⟩ (by rw [e]; simp [kof])
  simpa [kof] using this
theorem row_at {n : Nat} (hr : rowsOk n R = true) {s b : Nat} (hs : s < n) (hb : b < 256) : At n (R s b) := by
  have h1 := all_at (all_at hr s hs) b hb
  simp only [numOk, Bool.and_eq_true, decide_eq_true_eq] at h1
  exact h1
theorem finer_ref {n : Nat} (hr : rowsOk n R = true) {K' : Nat → Int} (h : Finer n K' K) : Finer n (ref R T K') (ref R T K) := by
  refine ⟨fun s t hs ht e => ?_, fun s hs e => ?_⟩
  · rw [ref_eq hs ht] at e ⊢
    have := req_iff.1 e
    exact req_iff.2 ⟨fun b hb => kof_fine h (row_at hr hs hb) (row_at hr ht hb) (this.1 b hb), this.2⟩
  · have := ded_iff.1 (ref_neg.1 e)
    exact ref_neg.2 (ded_iff.2 ⟨fun b hb => kof_fine_neg h (row_at hr hs hb) (this.1 b hb), this.2⟩)
/-- Where no kind is new, none is told from what it was before. -/
theorem stable {n : Nat} {K0 : Nat → Int} (hf : Finer n (ref R T (ref R T K0)) (ref R T K0)) (hc : (frs R T (ref R T K0) n).length ≤ (frs R T K0 n).length) : Finer n (ref R T K0) (ref R T (ref R T K0)) := by
  classical
  let f : Nat → Nat := fun k => if g : ∃ s, s < n ∧ ref R T (ref R T K0) s = (k : Int) then (ref R T K0 g.choose).toNat else 0
  have hfk : ∀ s, s < n → ∀ k : Nat, ref R T (ref R T K0) s = (k : Int) → (ref R T K0 s).toNat = f k := fun s hs k e => by
    have g : ∃ s, s < n ∧ ref R T (ref R T K0) s = (k : Int) := ⟨s, hs, e⟩
    show _ = if g : ∃ s, s < n ∧ ref R T (ref R T K0) s = (k : Int) then (ref R T K0 g.choose).toNat else 0
    rw [dif_pos g]
    congr 1
    exact hf.1 _ _ hs g.choose_spec.1 (by rw [e, g.choose_spec.2])
  have hon : ∀ k, k < (frs R T K0 n).length → ∃ i, i < (frs R T (ref R T K0) n).length ∧ f i = k := fun k hk => by
    obtain ⟨s, hs, e⟩ := ref_onto hk
    have h1 := ref_range (R := R) (T := T) (K := ref R T K0) hs
    have h2 : ref R T (ref R T K0) s ≠ -1 := fun x => by rw [hf.2 s hs x] at e; omega
    refine ⟨(ref R T (ref R T K0) s).toNat, by omega, ?_⟩
    rw [← hfk s hs (ref R T (ref R T K0) s).toNat (by omega), e]; rfl
  refine ⟨fun s t hs ht e => ?_, fun s hs e => ?_⟩
  · have r1 := ref_range (R := R) (T := T) (K := ref R T K0) hs
    have r2 := ref_range (R := R) (T := T) (K := ref R T K0) ht
    by_cases n1 : ref R T (ref R T K0) s = -1
    · by_cases n2 : ref R T (ref R T K0) t = -1
      · rw [n1, n2]
      · exfalso
        have h3 := hf.2 s hs n1
        rw [h3] at e
        exact few hf hc hon hfk ht e.symm n2
    · by_cases n2 : ref R T (ref R T K0) t = -1
      · exfalso
        have h3 := hf.2 t ht n2
        rw [h3] at e
        exact few hf hc hon hfk hs e n1
      · have := pig_inj hon hc (i := (ref R T (ref R T K0) s).toNat) (j := (ref R T (ref R T K0) t).toNat) (by omega) (by omega) (by rw [← hfk s hs _ (by omega), ← hfk t ht _ (by omega), e])
        omega
  · by_cases n1 : ref R T (ref R T K0) s = -1
    · exact n1
    · exact (few hf hc hon hfk hs e n1).elim
where
  few {n : Nat} {K0 : Nat → Int} (hf : Finer n (ref R T (ref R T K0)) (ref R T K0)) (hc : (frs R T (ref R T K0) n).length ≤ (frs R T K0 n).length) {f : Nat → Nat} (hon : ∀ k, k < (frs R T K0 n).length → ∃ i, i < (frs R T (ref R T K0) n).length ∧ f i = k) (hfk : ∀ s, s < n → ∀ k : Nat, ref R T (ref R T K0) s = (k : Int) → (ref R T K0 s).toNat = f k) {s : Nat} (hs : s < n) (e : ref R T K0 s = -1) (n1 : ¬ ref R T (ref R T K0) s = -1) : False := by
    have r1 := ref_range (R := R) (T := T) (K := ref R T K0) hs
    have h := pig ((frs R T (ref R T K0) n).length - 1) (frs R T K0 n).length (fun k => f (if k < (ref R T (ref R T K0) s).toNat then k else k + 1)) fun k hk => by
      obtain ⟨q, hq, e2⟩ := ref_onto hk
      have h1 := ref_range (R := R) (T := T) (K := ref R T K0) hq
      have h2 : ref R T (ref R T K0) q ≠ -1 := fun x => by rw [hf.2 q hq x] at e2; omega
      have h4 : ref R T (ref R T K0) q ≠ ref R T (ref R T K0) s := fun x => by rw [hf.1 q s hq hs x, e] at e2; omega
      have h5 := hfk q hq (ref R T (ref R T K0) q).toNat (by omega)
      rw [e2] at h5
      by_cases e3 : (ref R T (ref R T K0) q).toNat < (ref R T (ref R T K0) s).toNat
      · exact ⟨(ref R T (ref R T K0) q).toNat, by omega, by rw [if_pos e3, ← h5]; rfl⟩
      · exact ⟨(ref R T (ref R T K0) q).toNat - 1, by omega, by rw [if_neg (by omega), show (ref R T (ref R T K0) q).toNat - 1 + 1 = (ref R T (ref R T K0) q).toNat by omega, ← h5]; rfl⟩
    omega
end Go.Proofs.Ytlgcggfenljdnaa.Dfa
