/-
  The plain mathematics of kinds: two states are of one kind just if they have the same tag of every text.
-/
import Derived.Test.YtlgcggfenljdnaaMnMath
namespace Go.Proofs.Ytlgcggfenljdnaa.Dfa
variable {R : Nat → Nat → Int} {T : Nat → Int} {K : Nat → Int}

/-- The tag of a text, from a state on. -/
def tg (R : Nat → Nat → Int) (T : Nat → Int) (s : Int) (l : List UInt8) : Int := tagOf T (goes R s l)
theorem tg_cons (s : Int) (b : UInt8) (l : List UInt8) : tg R T s (b :: l) = tg R T (step R s b) l := rfl
theorem tg_none (l : List UInt8) : tg R T (-1) l = -1 := by unfold tg; rw [goes_neg R (-1) (by omega)]; rfl
theorem tagOf_nat (s : Nat) : tagOf T (s : Int) = T s := by unfold tagOf; rw [if_neg (by omega)]; rfl
/-- Alike ones are of one kind. -/
def Coarse (n : Nat) (R : Nat → Nat → Int) (T : Nat → Int) (K : Nat → Int) : Prop := ∀ x y, At n x → At n y → (∀ l, tg R T x l = tg R T y l) → kof K x = kof K y
/-- Two are of one kind just if they are alike. -/
def Kinds (n : Nat) (R : Nat → Nat → Int) (T : Nat → Int) (K : Nat → Int) : Prop := ∀ x y, At n x → At n y → (kof K x = kof K y ↔ ∀ l, tg R T x l = tg R T y l)
theorem Coarse.none (n : Nat) : Coarse n R T (fun _ => -1) := fun x y _ _ _ => by simp [kof]
theorem step_of {s : Nat} {b : Nat} (hb : b < 256) : step R (s : Int) (UInt8.ofNat b) = R s b := by
  unfold step
  rw [if_neg (by omega), UInt8.toNat_ofNat_of_lt' (by omega)]
  rfl
theorem Coarse.ref {n : Nat} (hr : rowsOk n R = true) (h : Coarse n R T K) : Coarse n R T (ref R T K) := by
  have one : ∀ s : Nat, s < n → (∀ l, tg R T (s : Int) l = -1) → Dfa.ref R T K s = -1 := fun s hs e => by
    refine ref_neg.2 (ded_iff.2 ⟨fun b hb => ?_, ?_⟩)
    · have := h (R s b) (-1) (row_at hr hs hb) ⟨by omega, by omega⟩ fun l => by
        rw [tg_none, ← e (UInt8.ofNat b :: l), tg_cons, step_of hb]
      rw [this]; simp [kof]
    · have h1 : tagOf T (s : Int) = -1 := e []
      rwa [tagOf_nat] at h1
  intro x y hx hy e
  unfold kof
  by_cases h1 : x < 0
  · by_cases h2 : y < 0
    · simp [h1, h2]
    · rw [if_pos h1, if_neg h2]
      have hx1 : x = -1 := by have := hx.1; omega
      subst hx1
      refine (one y.toNat (by have := hy.2; omega) fun l => ?_).symm
      rw [show ((y.toNat : Nat) : Int) = y by omega, ← e l, tg_none]
  · by_cases h2 : y < 0
    · rw [if_neg h1, if_pos h2]
      have hy1 : y = -1 := by have := hy.1; omega
      subst hy1
      refine one x.toNat (by have := hx.2; omega) fun l => ?_
      rw [show ((x.toNat : Nat) : Int) = x by omega, e l, tg_none]
    · rw [if_neg h1, if_neg h2]
      have hxn : x.toNat < n := by have := hx.2; omega
      have hyn : y.toNat < n := by have := hy.2; omega
      obtain ⟨s, rfl⟩ : ∃ s : Nat, x = (s : Int) := ⟨x.toNat, by omega⟩
      obtain ⟨t, rfl⟩ : ∃ t : Nat, y = (t : Int) := ⟨y.toNat, by omega⟩
      simp only [Int.toNat_natCast] at hxn hyn ⊢
      refine (ref_eq hxn hyn).2 (req_iff.2 ⟨fun b hb => ?_, ?_⟩)
      · refine h _ _ (row_at hr hxn hb) (row_at hr hyn hb) fun l => ?_
        have := e (UInt8.ofNat b :: l)
        rwa [tg_cons, tg_cons, step_of hb, step_of hb] at this
      · have h1 : tagOf T (s : Int) = tagOf T (t : Int) := e []
        rwa [tagOf_nat, tagOf_nat] at h1
theorem kinds_of {n : Nat} (hr : rowsOk n R = true) {K' : Nat → Int} (hc : Coarse n R T (ref R T K')) (hs : Finer n K' (ref R T K')) : Kinds n R T (ref R T K') := by
  have one : ∀ x y, At n x → At n y → kof (ref R T K') x = kof (ref R T K') y → tagOf T x = tagOf T y ∧ ∀ b : UInt8, kof (ref R T K') (step R x b) = kof (ref R T K') (step R y b) := by
    have neg : ∀ s : Nat, s < n → ref R T K' s = -1 → T s = -1 ∧ ∀ b, b < 256 → kof (ref R T K') (R s b) = -1 := fun s hs2 e => by
      have := ded_iff.1 (ref_neg.1 e)
      exact ⟨this.2, fun b hb => kof_fine_neg hs (row_at hr hs2 hb) (this.1 b hb)⟩
    intro x y hx hy e
    obtain ⟨x1, x2⟩ := hx
    obtain ⟨y1, y2⟩ := hy
    unfold kof at e
    by_cases h1 : x < 0
    · by_cases h2 : y < 0
      · have : x = y := by omega
        subst this
        exact ⟨rfl, fun _ => rfl⟩
      · rw [if_pos h1, if_neg h2] at e
        obtain ⟨g1, g2⟩ := neg y.toNat (by omega) e.symm
        refine ⟨by simp [tagOf, h1, h2, g1], fun b => ?_⟩
        have := g2 b.toNat b.toNat_lt
        unfold step
        rw [if_pos h1, if_neg h2, this]; simp [kof, h1]
    · by_cases h2 : y < 0
      · rw [if_neg h1, if_pos h2] at e
        obtain ⟨g1, g2⟩ := neg x.toNat (by omega) e
        refine ⟨by simp [tagOf, h1, h2, g1], fun b => ?_⟩
        have := g2 b.toNat b.toNat_lt
        unfold step
        rw [if_neg h1, if_pos h2, this]; simp [kof, h2]
      · rw [if_neg h1, if_neg h2] at e
        have := req_iff.1 ((ref_eq (n := n) (by omega) (by omega)).1 e)
        refine ⟨by simp [tagOf, h1, h2, this.2], fun b => ?_⟩
        unfold step
        rw [if_neg h1, if_neg h2]
        exact kof_fine hs (row_at hr (by omega) b.toNat_lt) (row_at hr (by omega) b.toNat_lt) (this.1 _ b.toNat_lt)
  intro x y hx hy
  refine ⟨fun e l => ?_, hc x y hx hy⟩
  induction l generalizing x y with
  | nil => exact (one x y hx hy e).1
  | cons b l ih =>
    rw [tg_cons, tg_cons]
    exact ih _ _ (at_step hr hx b) (at_step hr hy b) ((one x y hx hy e).2 b)
/-- What is held between two refinings. -/
def KS (n : Nat) (R : Nat → Nat → Int) (T : Nat → Int) (K : Nat → Int) (c b : Nat) : Prop :=
  Coarse n R T K ∧ (∀ s, s < n → -1 ≤ K s ∧ K s < (n : Int)) ∧ c ≤ n + 1 ∧ ((K = (fun _ => -1) ∧ c = 1 ∧ b = 0) ∨ ∃ K', K = ref R T K' ∧ c = (frs R T K' n).length + 1 ∧ Finer n K K' ∧ (c ≤ b → Finer n K' K))
theorem KS.start (n : Nat) : KS n R T (fun _ => -1) 1 0 := ⟨Coarse.none n, fun s _ => ⟨by simp, by simp; omega⟩, by omega, Or.inl ⟨rfl, rfl, rfl⟩⟩
theorem KS.next {n : Nat} (hr : rowsOk n R = true) {c b : Nat} (h : KS n R T K c b) : KS n R T (ref R T K) ((frs R T K n).length + 1) c := by
  obtain ⟨h1, h2, h3, h4⟩ := h
  have hl := frs_length (R := R) (T := T) (K := K) n
  have hg : ∀ s, s < n → -1 ≤ ref R T K s ∧ ref R T K s < (n : Int) := fun s hs => by have := ref_range (R := R) (T := T) (K := K) hs; omega
  refine ⟨h1.ref hr, hg, by omega, Or.inr ⟨K, rfl, rfl, ?_, fun hc => ?_⟩⟩
  · rcases h4 with ⟨rfl, -, -⟩ | ⟨K', rfl, -, hf, -⟩
    · exact ⟨fun _ _ _ _ _ => rfl, fun _ _ _ => rfl⟩
    · exact finer_ref hr hf
  · rcases h4 with ⟨rfl, rfl, -⟩ | ⟨K', rfl, rfl, hf, -⟩
    · have h0 : ∀ s, s < n → ref R T (fun _ => -1) s = -1 := fun s hs => by have := ref_range (R := R) (T := T) (K := fun _ => -1) hs; omega
      exact ⟨fun s t hs ht _ => by rw [h0 s hs, h0 t ht], fun s hs _ => h0 s hs⟩
    · exact stable (finer_ref hr hf) (by omega)
theorem KS.done {n : Nat} (hr : rowsOk n R = true) {c b : Nat} (h : KS n R T K c b) (hc : c ≤ b) : Kinds n R T K := by
  obtain ⟨h1, h2, h3, ⟨-, e1, e2⟩ | ⟨K', rfl, -, -, hs⟩⟩ := h
  · omega
  · exact kinds_of hr h1 (hs hc)
end Go.Proofs.Ytlgcggfenljdnaa.Dfa
