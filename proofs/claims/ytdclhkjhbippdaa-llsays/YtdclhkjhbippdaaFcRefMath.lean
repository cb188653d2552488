/-
  The document's own ways to the facts of a grammar, plainly: terminal by terminal, and round by round.
-/
import Derived.Test.YtdclhkjhbippdaaFcClos
namespace Go.Proofs.Ytdclhkjhbippdaa
namespace Cg

/-! What comes first, terminal by terminal. -/
def ClB (ps : List Pd) (M E : Nat → Bool) (t : Nat) (s : Nat → Bool) : Prop := ∀ p ∈ ps, amk M true p.2 = true → btl E s (t : Int) p.2 = true → s p.1.toNat = true
def SnB (ps : List Pd) (M E : Nat → Bool) (t : Nat) (s : Nat → Bool) : Prop := ∀ js, ClB ps M E t js → ∀ i, s i = true → js i = true
def LB (ps : List Pd) (M E : Nat → Bool) (t i : Nat) : Prop := ∀ s, ClB ps M E t s → s i = true
theorem btl_mono {E s s' : Nat → Bool} (t : Int) (h : ∀ i, s i = true → s' i = true) : ∀ l, btl E s t l = true → btl E s' t l = true
  | [], k => by cases k
  | x :: l, k => by
    unfold btl at k ⊢
    by_cases h1 : x.1 = 1
    · rw [if_pos h1] at k ⊢; exact k
    · rw [if_neg h1] at k ⊢
      by_cases h2 : s x.2.toNat = true
      · rw [if_pos (h _ h2)]
      · rw [if_neg h2] at k
        by_cases h3 : s' x.2.toNat = true
        · rw [if_pos h3]
        · rw [if_neg h3]
          by_cases h4 : E x.2.toNat = true
          · rw [if_pos h4] at k ⊢; exact btl_mono t h l k
          · rw [if_neg h4] at k; cases k
theorem snB_zero (ps : List Pd) (M E : Nat → Bool) (t : Nat) : SnB ps M E t (fun _ => false) := fun _ _ _ h => by cases h
theorem snB_put {ps : List Pd} {M E s : Nat → Bool} {t : Nat} {p : Pd} (hp : p ∈ ps) (h : SnB ps M E t s) (k1 : amk M true p.2 = true) (k2 : btl E s (t : Int) p.2 = true) : SnB ps M E t (upd s p.1.toNat true) := fun js hj i hi => by
  unfold upd at hi
  by_cases e : i = p.1.toNat
  · subst e; exact hj p hp k1 (btl_mono _ (h js hj) _ k2)
  · rw [if_neg e] at hi; exact h js hj i hi
theorem lb_of {ps : List Pd} {M E s : Nat → Bool} {t : Nat} (hc : ClB ps M E t s) (hs : SnB ps M E t s) (i : Nat) : s i = true ↔ LB ps M E t i :=
  ⟨fun h js hj => hs js hj i h, fun h => h s hc⟩
theorem lb_lt {ps : List Pd} {M E : Nat → Bool} {t i n : Nat} (hh : ∀ p ∈ ps, p.1.toNat < n) (h : LB ps M E t i) : i < n := by
  have := h (fun i => decide (i < n)) fun p hp _ _ => by simpa using hh p hp
  simpa using this
theorem bit_one (m u : Nat) (h : m < 64) : (1#64 <<< m).getLsbD u = decide (u = m) := by
  have e : (1#64 <<< m) = BitVec.twoPow 64 m := rfl
  rw [e, BitVec.getLsbD_twoPow]
  by_cases h1 : u = m
  · subst h1; simp [h]
  · have : ¬ m = u := fun e => h1 e.symm
    simp [h1, this]
def FQ (ps : List Pd) (M E : Nat → Bool) (t j : Nat) (F : Nat → Wd) : Prop := ∀ i u, (F i).getLsbD u = true ↔ (u < t ∨ (u = t ∧ i < j)) ∧ LB ps M E u i
theorem fq_zero (ps : List Pd) (M E : Nat → Bool) : FQ ps M E 0 0 (fun _ => 0#64) := fun i u => by
  constructor
  · intro h; simp at h
  · rintro ⟨h | h, _⟩ <;> omega
theorem fq_keep {ps : List Pd} {M E : Nat → Bool} {t j : Nat} {F : Nat → Wd} (h : FQ ps M E t j F) (hn : ¬ LB ps M E t j) : FQ ps M E t (j + 1) F := fun i u => by
  rw [h i u]
  constructor
  · rintro ⟨k | k, k2⟩
    · exact ⟨Or.inl k, k2⟩
    · exact ⟨Or.inr ⟨k.1, by omega⟩, k2⟩
  · rintro ⟨k | k, k2⟩
    · exact ⟨Or.inl k, k2⟩
    · refine ⟨Or.inr ⟨k.1, ?_⟩, k2⟩
      by_cases e : i = j
      · subst e; rw [k.1] at k2; exact absurd k2 hn
      · omega
theorem fq_put {ps : List Pd} {M E : Nat → Bool} {t j : Nat} {F : Nat → Wd} (ht : t < 64) (h : FQ ps M E t j F) (hy : LB ps M E t j) : FQ ps M E t (j + 1) (upd F j (F j ||| 1#64 <<< t)) := fun i u => by
  by_cases e : i = j
  · subst e
    rw [upd_at, BitVec.getLsbD_or, bit_one _ _ ht, Bool.or_eq_true, h i u]
    constructor
    · rintro (⟨k | k, k2⟩ | k)
      · exact ⟨Or.inl k, k2⟩
      · omega
      · have : u = t := by simpa using k
        subst this; exact ⟨Or.inr ⟨rfl, by omega⟩, hy⟩
    · rintro ⟨k | k, k2⟩
      · exact Or.inl ⟨Or.inl k, k2⟩
      · right; simpa using k.1
  · rw [upd_ne _ _ e, h i u]
    constructor
    · rintro ⟨k | k, k2⟩
      · exact ⟨Or.inl k, k2⟩
      · exact ⟨Or.inr ⟨k.1, by omega⟩, k2⟩
    · rintro ⟨k | k, k2⟩
      · exact ⟨Or.inl k, k2⟩
      · exact ⟨Or.inr ⟨k.1, by omega⟩, k2⟩
theorem fq_next {ps : List Pd} {M E : Nat → Bool} {t n : Nat} {F : Nat → Wd} (hh : ∀ p ∈ ps, p.1.toNat < n) (h : FQ ps M E t n F) : FQ ps M E (t + 1) 0 F := fun i u => by
  rw [h i u]
  constructor
  · rintro ⟨k | k, k2⟩
    · exact ⟨Or.inl (by omega), k2⟩
    · exact ⟨Or.inl (by omega), k2⟩
  · rintro ⟨k | k, k2⟩
    · by_cases e : u = t
      · exact ⟨Or.inr ⟨e, lb_lt hh k2⟩, k2⟩
      · exact ⟨Or.inl (by omega), k2⟩
    · omega
theorem okL_two {t : Int} {n : Nat} {x : Sy} {l : List Sy} (ok : OkL t n (x :: l)) : OkL t n l ∧ ((x.1 = 1 ∧ (x.2.toNat : Int) = x.2 ∧ x.2 < t) ∨ (¬ x.1 = 1)) := by
  refine ⟨fun s hs => ok s (List.mem_cons_of_mem _ hs), ?_⟩
  rcases ok x (List.mem_cons_self ..) with h | h
  · exact Or.inl ⟨h.1, by omega, h.2.2⟩
  · exact Or.inr (by omega)
theorem bg_bits {ps : List Pd} {M E : Nat → Bool} {T n : Nat} {F : Nat → Wd} (hT : T ≤ 30) (h : FQ ps M E T 0 F) (u : Nat) : ∀ l, OkL (T : Int) n l → (bg E F l 0#64).getLsbD u = true → u < T ∧ ∀ s, ClB ps M E u s → btl E s (u : Int) l = true
  | [], _, k => by unfold bg at k; simp at k
  | x :: l, ok, k => by
    obtain ⟨okl, hx⟩ := okL_two ok
    unfold bg at k
    rcases hx with ⟨h1, h2, h3⟩ | h1
    · rw [if_pos h1, bit_one _ _ (by omega)] at k
      have e : u = x.2.toNat := by simpa using k
      refine ⟨by omega, fun s _ => ?_⟩
      unfold btl
      rw [if_pos h1]; simp; omega
    · rw [if_neg h1, BitVec.getLsbD_or, Bool.or_eq_true] at k
      rcases k with k | k
      · obtain ⟨k1, k2⟩ := (h _ u).1 k
        refine ⟨by omega, fun s hs => ?_⟩
        unfold btl
        rw [if_neg h1, if_pos (k2 s hs)]
      · by_cases hE : E x.2.toNat = true
        · rw [if_pos hE] at k
          obtain ⟨k1, k2⟩ := bg_bits hT h u l okl k
          refine ⟨k1, fun s hs => ?_⟩
          unfold btl
          rw [if_neg h1, if_pos hE]
          split
          · rfl
          · exact k2 s hs
        · rw [if_neg hE] at k; simp at k
theorem btl_bg {E : Nat → Bool} {G : Nat → Wd} {T n : Nat} (hT : T ≤ 30) (u : Nat) : ∀ l, OkL (T : Int) n l → btl E (fun i => (G i).getLsbD u) (u : Int) l = true → (bg E G l 0#64).getLsbD u = true
  | [], _, k => by cases k
  | x :: l, ok, k => by
    obtain ⟨okl, hx⟩ := okL_two ok
    unfold btl at k
    unfold bg
    rcases hx with ⟨h1, h2, h3⟩ | h1
    · rw [if_pos h1] at k ⊢
      have e : x.2 = (u : Int) := by simpa using k
      rw [bit_one _ _ (by omega)]
      simp; omega
    · rw [if_neg h1] at k ⊢
      rw [BitVec.getLsbD_or, Bool.or_eq_true]
      by_cases h2 : (G x.2.toNat).getLsbD u = true
      · exact Or.inl h2
      · rw [if_neg h2] at k
        by_cases hE : E x.2.toNat = true
        · rw [if_pos hE] at k ⊢
          exact Or.inr (btl_bg hT u l okl k)
        · rw [if_neg hE] at k; cases k
theorem fi_of {ps : List Pd} {M E : Nat → Bool} {T n : Nat} {F : Nat → Wd} (hT : T ≤ 30) (hok : ∀ p ∈ ps, OkL (T : Int) n p.2) (h : FQ ps M E T 0 F) : Fi ps M E F := by
  refine ⟨fun p hp hm => ?_, fun G hG i => ?_⟩
  · rw [le_bits]
    intro u hu
    obtain ⟨h1, h2⟩ := bg_bits hT h u p.2 (hok p hp) hu
    exact (h _ u).2 ⟨Or.inl h1, fun s hs => hs p hp hm (h2 s hs)⟩
  · rw [le_bits]
    intro u hu
    obtain ⟨_, h2⟩ := (h i u).1 hu
    exact h2 (fun i => (G i).getLsbD u) fun p hp hm hb => le_bits.1 (hG p hp hm) u (btl_bg hT u p.2 (hok p hp) hb)
/-! What can be come to, round by round. -/
structure RI (ps : List Pd) (R0 : Nat → Bool) (i k : Nat) (R : Nat → Bool) : Prop where
  up : ∀ j, R0 j = true → R j = true
  sn : SnR ps R
  z : R 0 = true
  done : ∀ j (hj : j < ps.length) k' (hk : k' < ps[j].2.length), (j < i ∨ (j = i ∧ k' < k)) → R0 ps[j].1.toNat = true → ps[j].2[k'].1 = 2 → R ps[j].2[k'].2.toNat = true
theorem RI.start {ps : List Pd} {R : Nat → Bool} (h1 : SnR ps R) (h2 : R 0 = true) : RI ps R 0 0 R := ⟨fun _ h => h, h1, h2, fun j _ k' _ h => by omega⟩
theorem RI.keep {ps : List Pd} {R0 R : Nat → Bool} {i k : Nat} (h : RI ps R0 i k R) (hi : i < ps.length) (hk : k < ps[i].2.length) (hn : R ps[i].1.toNat = true → ps[i].2[k].1 = 2 → R ps[i].2[k].2.toNat = true) : RI ps R0 i (k + 1) R :=
  ⟨h.up, h.sn, h.z, fun j hj k' hk' e h1 h2 => by
    by_cases ej : j = i ∧ k' = k
    · obtain ⟨rfl, rfl⟩ := ej
      exact hn (h.up _ h1) h2
    · exact h.done j hj k' hk' (by omega) h1 h2⟩
theorem RI.put {ps : List Pd} {R0 R : Nat → Bool} {i k : Nat} (h : RI ps R0 i k R) (hi : i < ps.length) (hk : k < ps[i].2.length) (h1 : R ps[i].1.toNat = true) (h2 : ps[i].2[k].1 = 2) : RI ps R0 i (k + 1) (upd R ps[i].2[k].2.toNat true) := by
  have hup : ∀ j, R j = true → upd R ps[i].2[k].2.toNat true j = true := fun j hj => by
    unfold upd
    split
    · rfl
    · exact hj
  refine ⟨fun j hj => hup j (h.up j hj), snR_put (List.getElem_mem hi) (List.getElem_mem hk) h.sn h1 h2, hup 0 h.z, fun j hj k' hk' e h3 h4 => ?_⟩
  by_cases ej : j = i ∧ k' = k
  · obtain ⟨rfl, rfl⟩ := ej
    exact upd_at _ _ _
  · exact hup _ (h.done j hj k' hk' (by omega) h3 h4)
theorem RI.next {ps : List Pd} {R0 R : Nat → Bool} {i : Nat} {k : Nat} (h : RI ps R0 i k R) (hk : ∀ hi : i < ps.length, ps[i].2.length ≤ k) : RI ps R0 (i + 1) 0 R :=
  ⟨h.up, h.sn, h.z, fun j hj k' hk' e h1 h2 => h.done j hj k' hk' (by
    rcases e with e | e
    · by_cases ej : j = i
      · subst ej; have := hk hj; exact Or.inr ⟨rfl, by omega⟩
      · exact Or.inl (by omega)
    · omega) h1 h2⟩
structure RR (ps : List Pd) (n r : Nat) (R : Nat → Bool) : Prop where
  sn : SnR ps R
  z : R 0 = true
  or : ClR ps R ∨ muB n R + r < n
theorem tot_one (n : Nat) : tot n (fun _ => 1) = n := by
  induction n with
  | zero => rfl
  | succ n ih => unfold tot; rw [ih]
theorem RR.start (ps : List Pd) {n : Nat} (hn : 1 ≤ n) : RR ps n 0 (upd (fun _ => false) 0 true) := by
  refine ⟨snR_start ps, rfl, Or.inr ?_⟩
  have h1 := muB_put (n := n) (i := 0) (is := fun _ => false) (by omega) rfl
  have h2 : muB n (fun _ => false) = n := by unfold muB; simp [tot_one]
  omega
theorem RR.next {ps : List Pd} {n r : Nat} {R0 R : Nat → Bool} (h : RR ps n r R0) (hn : 1 ≤ n) (hsy : ∀ p ∈ ps, ∀ s ∈ p.2, s.1 = 2 → s.2.toNat < n) (hi : RI ps R0 ps.length 0 R) : RR ps n (r + 1) R := by
  have hcl : ∀ i, R i = true → i < n := fun i hi' => by
    have := hi.sn (fun i => decide (i < n)) ⟨by simp; omega, fun p hp _ s hs h2 => by simpa using hsy p hp s hs h2⟩ i hi'
    simpa using this
  refine ⟨hi.sn, hi.z, ?_⟩
  have hsame : R = R0 → ClR ps R := fun e => ⟨hi.z, fun p hp h1 s hs h2 => by
    obtain ⟨j, hj, rfl⟩ := List.getElem_of_mem hp
    obtain ⟨k, hk, rfl⟩ := List.getElem_of_mem hs
    exact hi.done j hj k hk (Or.inl hj) (by rw [← e]; exact h1) h2⟩
  by_cases e : R = R0
  · exact Or.inl (hsame e)
  · rcases h.or with h1 | h1
    · exfalso; apply e; funext i
      cases hr : R i with
      | true => exact (hi.sn R0 h1 i hr).symm
      | false => cases hr0 : R0 i with
        | false => rfl
        | true => rw [hi.up i hr0] at hr; cases hr
    · right
      have : ∃ i, R0 i = false ∧ R i = true := by
        apply Classical.byContradiction
        intro hno
        apply e; funext i
        cases hr0 : R0 i with
        | true => exact hi.up i hr0
        | false => cases hr : R i with
          | false => rfl
          | true => exact absurd ⟨i, hr0, hr⟩ hno
      obtain ⟨i, h2, h3⟩ := this
      have := muB_less hi.up (hcl i h3) h2 h3
      omega
theorem RR.re {ps : List Pd} {n : Nat} {R : Nat → Bool} (h : RR ps n n R) : Re ps R := ⟨h.or.resolve_right (by omega), h.sn⟩
/-! What comes behind, round by round. -/
structure WI (ps : List Pd) (E : Nat → Bool) (F W0 : Nat → Wd) (i k : Nat) (V : Nat → Wd) : Prop where
  up : ∀ j, le (W0 j) (V j)
  sn : SnW ps E F V
  z : le endW (V 0)
  done : ∀ j (hj : j < ps.length) k' (hk : k' < ps[j].2.length), (j < i ∨ (j = i ∧ k' < k)) → ps[j].2[k'].1 = 2 → le (bg E F (ps[j].2.drop (k' + 1)) (W0 ps[j].1.toNat)) (V ps[j].2[k'].2.toNat)
theorem WI.start {ps : List Pd} {E : Nat → Bool} {F V : Nat → Wd} (h1 : SnW ps E F V) (h2 : le endW (V 0)) : WI ps E F V 0 0 V := ⟨fun _ => le_refl _, h1, h2, fun j _ k' _ h => by omega⟩
theorem WI.keep {ps : List Pd} {E : Nat → Bool} {F W0 V : Nat → Wd} {i k : Nat} (h : WI ps E F W0 i k V) (hi : i < ps.length) (hk : k < ps[i].2.length) (h2 : ps[i].2[k].1 ≠ 2) : WI ps E F W0 i (k + 1) V :=
  ⟨h.up, h.sn, h.z, fun j hj k' hk' e h3 => h.done j hj k' hk' (by
    by_cases ej : j = i ∧ k' = k
    · obtain ⟨rfl, rfl⟩ := ej; exact absurd h3 h2
    · omega) h3⟩
theorem WI.put {ps : List Pd} {E : Nat → Bool} {F W0 V : Nat → Wd} {i k : Nat} (h : WI ps E F W0 i k V) (hi : i < ps.length) (hk : k < ps[i].2.length) (h2 : ps[i].2[k].1 = 2) : WI ps E F W0 i (k + 1) (upd V ps[i].2[k].2.toNat (V ps[i].2[k].2.toNat ||| bg E F (ps[i].2.drop (k + 1)) (V ps[i].1.toNat))) := by
  have hup := le_upd (F := V) ps[i].2[k].2.toNat (bg E F (ps[i].2.drop (k + 1)) (V ps[i].1.toNat))
  refine ⟨fun j => le_trans (h.up j) (hup j), snW_put (List.getElem_mem hi) hk h2 h.sn, le_trans h.z (hup 0), fun j hj k' hk' e h3 => ?_⟩
  by_cases ej : j = i ∧ k' = k
  · obtain ⟨rfl, rfl⟩ := ej
    rw [upd_at]
    exact le_trans (bg_mono (fun _ => le_refl _) (h.up _) _) (le_orr _ _)
  · exact le_trans (h.done j hj k' hk' (by omega) h3) (hup _)
theorem WI.next {ps : List Pd} {E : Nat → Bool} {F W0 V : Nat → Wd} {i k : Nat} (h : WI ps E F W0 i k V) (hk : ∀ hi : i < ps.length, ps[i].2.length ≤ k) : WI ps E F W0 (i + 1) 0 V :=
  ⟨h.up, h.sn, h.z, fun j hj k' hk' e h2 => h.done j hj k' hk' (by
    rcases e with e | e
    · by_cases ej : j = i
      · subst ej; have := hk hj; exact Or.inr ⟨rfl, by omega⟩
      · exact Or.inl (by omega)
    · omega) h2⟩
theorem WI.fo {ps : List Pd} {E : Nat → Bool} {F W0 V : Nat → Wd} {n : Nat} (h : WI ps E F W0 ps.length 0 V) (hh : ∀ p ∈ ps, p.1.toNat < n) (he : ∀ i, i < n → W0 i = V i) : Fo ps E F V := by
  refine ⟨⟨h.z, fun p hp k hk h2 => ?_⟩, h.sn⟩
  obtain ⟨j, hj, rfl⟩ := List.getElem_of_mem hp
  have := h.done j hj k hk (Or.inl hj) h2
  rw [he _ (hh _ hp)] at this; exact this
end Cg
end Go.Proofs.Ytdclhkjhbippdaa
