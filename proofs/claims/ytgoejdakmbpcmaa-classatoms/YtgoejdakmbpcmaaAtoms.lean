/-
  The plain mathematics of ClassAtoms: the reference's parts have all bytes, none twice; each lies within a class of the list or outside of it; two are told apart by some class; no condition.
-/
import Derived.Test.YtgoejdakmbpcmaaParts
namespace Go.Proofs.Ytgoejdakmbpcmaa.Cls

theorem inv_some (l : List Cl) : ∃ ps, Inv l ps := by
  have h : ∀ m : List Cl, ∃ ps, Inv m.reverse ps := fun m => by
    induction m with
    | nil => exact ⟨_, Inv.start⟩
    | cons c m ih =>
      obtain ⟨ps, hp⟩ := ih
      exact ⟨_, by rw [List.reverse_cons]; exact hp.cut c⟩
  have := h l.reverse
  rwa [List.reverse_reverse] at this
theorem inv_ref (l : List Cl) : Inv l (ref l) := by
  obtain ⟨ps, h⟩ := inv_some l
  refine ⟨fun b hb => ?_, fun p hp => h.same p ((h.mem_ref p).2 hp), fun p hp => h.full p ((h.mem_ref p).2 hp), ?_⟩
  · obtain ⟨p, hp, hm⟩ := h.cover b hb
    exact ⟨p, (h.mem_ref p).1 hp, hm⟩
  · refine List.Pairwise.imp_of_mem ?_ (ref_sorted l)
    intro p q hp hq hlt b hb hm
    cases hq2 : mem q b
    · rfl
    · have e : p = q := ext_mem fun x hx => by rw [h.same p ((h.mem_ref p).2 hp) b hb hm x hx, h.same q ((h.mem_ref q).2 hq) b hb hq2 x hx]
      subst e; omega
/-- A part lies within a class of the list, or outside of it. -/
theorem part_in {l : List Cl} {x c : Cl} (hx : x ∈ ref l) (hc : c ∈ l) : meet x c = x ∨ meet x c = empty := by
  have I := inv_ref l
  obtain ⟨b, hb, hm⟩ := I.full x hx
  have uni : ∀ y, y < 256 → mem x y = true → mem c y = mem c b := fun y hy h => by
    have := I.same x hx b hb hm y hy
    rw [h] at this
    exact (alike_iff.1 this.symm c hc).symm
  cases hcb : mem c b with
  | true =>
    left
    refine ext_mem fun y hy => ?_
    rw [mem_meet]
    cases h : mem x y
    · rfl
    · rw [uni y hy h, hcb]; rfl
  | false =>
    right
    refine eq_empty_iff.2 fun y hy => ?_
    rw [mem_meet]
    cases h : mem x y
    · rfl
    · rw [uni y hy h, hcb]; rfl
theorem ne_of_part {l : List Cl} {x : Cl} (hx : x ∈ ref l) : x ≠ empty := fun e => by
  obtain ⟨b, hb, hm⟩ := (inv_ref l).full x hx
  rw [e, mem_empty] at hm; cases hm
def tells (x y c : Cl) : Bool := decide (meet x c = x) != decide (meet y c = y)
theorem meet_iff {l : List Cl} {x c : Cl} (hx : x ∈ ref l) (hc : c ∈ l) {b : Nat} (hb : b < 256) (hm : mem x b = true) : decide (meet x c = x) = mem c b := by
  cases hcb : mem c b with
  | true =>
    rcases part_in hx hc with h | h
    · simp [h]
    · have := eq_empty_iff.1 h b hb
      rw [mem_meet, hm, hcb] at this; cases this
  | false =>
    have : meet x c ≠ x := fun h => by
      have : mem (meet x c) b = true := by rw [h]; exact hm
      rw [mem_meet, hcb] at this; simp at this
    simp [this]
/-- Two parts are told apart by some class. -/
theorem told {l : List Cl} {x y : Cl} (hx : x ∈ ref l) (hy : y ∈ ref l) (hne : x ≠ y) : l.any (tells x y) = true := by
  have I := inv_ref l
  obtain ⟨b, hb, hm⟩ := I.full x hx
  obtain ⟨d, hd, hn⟩ := I.full y hy
  cases ha : l.any (tells x y) with
  | true => rfl
  | false =>
    exfalso
    have hal : alike l b d = true := alike_iff.2 fun c hc => by
      have := List.any_eq_false.1 ha c hc
      simp only [tells, meet_iff hx hc hb hm, meet_iff hy hc hd hn] at this
      cases h1 : mem c b <;> cases h2 : mem c d <;> simp [h1, h2] at this ⊢
    have hxd : mem x d = true := by rw [I.same x hx b hb hm d hd]; exact hal
    exact hne (ext_mem fun z hz => by rw [I.same x hx d hd hxd z hz, I.same y hy d hd hn z hz])
/-- What all of some parts have together. -/
def together (t : List Cl) (al : Cl) : Prop := ∀ b, b < 256 → mem al b = t.any (mem · b)
theorem together_nil : together [] empty := fun b _ => by rw [mem_empty]; rfl
theorem together_snoc {t : List Cl} {al x : Cl} (h : together t al) : together (t ++ [x]) (join al x) := fun b hb => by
  rw [mem_join, h b hb, List.any_append]; simp
theorem together_apart {l : List Cl} {al : Cl} {i : Nat} (hi : i < (ref l).length) (h : together ((ref l).take i) al) : meet al (ref l)[i] = empty := by
  refine eq_empty_iff.2 fun b hb => ?_
  rw [mem_meet, h b hb]
  cases ha : ((ref l).take i).any (mem · b)
  · rfl
  · obtain ⟨p, hp, hm⟩ := List.any_eq_true.1 ha
    obtain ⟨j, hj, rfl⟩ := List.mem_iff_getElem.1 hp
    have hj' : j < i := by simp at hj; omega
    have := List.pairwise_iff_getElem.1 (inv_ref l).apart j i (by omega) hi hj' b hb (by rw [← List.getElem_take (h := hj)]; exact hm)
    rw [this]; rfl
theorem together_all {l : List Cl} {al : Cl} (h : together (ref l) al) : al = neg empty := ext_mem fun b hb => by
  rw [mem_neg, mem_empty, h b hb]
  obtain ⟨p, hp, hm⟩ := (inv_ref l).cover b hb
  exact List.any_eq_true.2 ⟨p, hp, hm⟩
theorem countTo_empty : ∀ k, countTo empty k = 0
  | 0 => rfl
  | k + 1 => by rw [countTo_succ, countTo_empty k]; simp [bit, mem_empty]
theorem count_empty : count empty = 0 := countTo_empty 256
theorem count_add {al x : Cl} (h : meet al x = empty) : count (join al x) = count al + count x := by
  have := count_join_meet al x
  have h0 : count (meet al x) = 0 := by rw [h]; exact count_empty
  omega
theorem count_all : count (neg empty) = 256 := by
  have := count_neg empty
  have h0 := count_empty
  omega
/-- The first byte is the least one. -/
theorem bytes_least {c : Cl} (h : least c < 256) : ∃ r, bytes c = (least c).toUInt8 :: r := by
  have hb : ∀ k, k ≤ 256 → (k ≤ least c → bytesTo c k = []) ∧ (least c < k → ∃ r, bytesTo c k = (least c).toUInt8 :: r) := fun k => by
    induction k with
    | zero => intro _; exact ⟨fun _ => rfl, fun h => absurd h (Nat.not_lt_zero _)⟩
    | succ k ih =>
      intro hk
      obtain ⟨i1, i2⟩ := ih (by omega)
      refine ⟨fun hle => ?_, fun hlt => ?_⟩
      · rw [bytesTo_succ, i1 (by omega), if_neg (by rw [least_no c k (by omega)]; simp)]; rfl
      · rw [bytesTo_succ]
        by_cases e : least c = k
        · subst e; rw [i1 (Nat.le_refl _), if_pos (least_yes c h)]; exact ⟨[], rfl⟩
        · obtain ⟨r, hr⟩ := i2 (by omega)
          rw [hr]; exact ⟨_, rfl⟩
  exact (hb 256 (Nat.le_refl _)).2 h
end Go.Proofs.Ytgoejdakmbpcmaa.Cls
