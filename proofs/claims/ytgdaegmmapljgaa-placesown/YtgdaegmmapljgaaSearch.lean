/-
  The plain mathematics of leads: a search that goes on from each spot once finds the end just if it is come to; no function is walked here.
-/
import Derived.Test.YtgdaegmmapljgaaBehind
namespace Go.Proofs.Ytgdaegmmapljgaa
open Cls Rex

theorem few : ∀ (n : Nat) (l : List Nat), l.Nodup → (∀ x ∈ l, x < n) → l.length ≤ n
  | 0, l, _, h => by
    cases l with
    | nil => simp
    | cons a l => exact absurd (h a (by simp)) (Nat.not_lt_zero _)
  | n + 1, l, hd, h => by
    by_cases hn : n ∈ l
    · have hs : ∀ x ∈ l.erase n, x < n := fun x hx => by
        have h1 := h x (List.mem_of_mem_erase hx)
        have h2 : x ≠ n := fun e => by subst e; exact hd.not_mem_erase hx
        omega
      have i1 := few n (l.erase n) (hd.erase n) hs
      have hl := List.length_erase_of_mem hn
      have h0 : 0 < l.length := List.length_pos_of_mem hn
      omega
    · have hs : ∀ x ∈ l, x < n := fun x hx => by
        have h1 := h x hx
        have h2 : x ≠ n := fun e => by subst e; exact hn hx
        omega
      have := few n l hd hs
      omega
theorem mem_bh {F : List St} {s : ByteArray} {n p m q : Nat} : (m, q) ∈ bh F s n p ↔ Rex.Next F s.data.toList n p m q := by
  unfold bh Rex.Next
  cases hF : F[n]? with
  | none => simp
  | some cl =>
    obtain ⟨c, l⟩ := cl
    simp only
    by_cases hc : c = empty
    · simp only [if_pos hc, List.mem_map, Prod.mk.injEq, Option.some.injEq]
      constructor
      · rintro ⟨x, hx, rfl, rfl⟩; exact ⟨c, l, ⟨rfl, rfl⟩, hx, Or.inl ⟨hc, rfl⟩⟩
      · rintro ⟨c', l', ⟨rfl, rfl⟩, hm, h | h⟩
        · exact ⟨m, hm, rfl, h.2.symm⟩
        · exact absurd hc h.1
    · simp only [if_neg hc, Option.some.injEq, Prod.mk.injEq]
      have hz : s.data.toList.length = s.size := by rw [Array.length_toList]; rfl
      by_cases hp : p < s.size
      · have hg : s.data.toList[p]? = some s[p] := by rw [List.getElem?_eq_getElem (by omega)]; rfl
        simp only [dif_pos hp]
        by_cases hb : mem c s[p].toNat = true
        · simp only [if_pos hb, List.mem_map, Prod.mk.injEq]
          constructor
          · rintro ⟨x, hx, rfl, rfl⟩; exact ⟨c, l, ⟨rfl, rfl⟩, hx, Or.inr ⟨hc, s[p], hg, hb, rfl⟩⟩
          · rintro ⟨c', l', ⟨rfl, rfl⟩, hm, h | ⟨_, b, h1, h2, h3⟩⟩
            · exact absurd h.1 hc
            · exact ⟨m, hm, rfl, h3.symm⟩
        · simp only [if_neg hb, List.not_mem_nil, false_iff]
          rintro ⟨c', l', ⟨rfl, rfl⟩, hm, h | ⟨_, b, h1, h2, h3⟩⟩
          · exact hc h.1
          · rw [hg] at h1
            cases h1
            exact hb h2
      · simp only [dif_neg hp, List.not_mem_nil, false_iff]
        rintro ⟨c', l', ⟨rfl, rfl⟩, hm, h | ⟨_, b, h1, h2, h3⟩⟩
        · exact hc h.1
        · have := (List.getElem?_eq_some_iff.1 h1).1
          omega
theorem bh_len {F : List St} {s : ByteArray} {n p : Nat} (hF : Fine F) : (bh F s n p).length ≤ 2 := by
  unfold bh
  cases h : F[n]? with
  | none => simp
  | some cl =>
    obtain ⟨c, l⟩ := cl
    have := (hF n c l h).1
    simp only
    split
    · simpa using this
    · split
      · split
        · simpa using this
        · simp
      · simp
/-- A spot of the plan and the text. -/
def Ok (F : List St) (s : ByteArray) (u : Nat × Nat) : Prop := u.1 < F.length ∧ u.2 ≤ s.size
theorem bh_ok {F : List St} {s : ByteArray} {u v : Nat × Nat} (hF : Fine F) (hu : Ok F s u) (hv : v ∈ bh F s u.1 u.2) : Ok F s v := by
  obtain ⟨m, q⟩ := v
  obtain ⟨c, l, h1, h2, h3⟩ := mem_bh.1 hv
  refine ⟨(hF _ c l h1).2 m h2, ?_⟩
  rcases h3 with ⟨_, rfl⟩ | ⟨_, b, h4, _, rfl⟩
  · exact hu.2
  · have := (List.getElem?_eq_some_iff.1 h4).1
    have hz : s.data.toList.length = s.size := by rw [Array.length_toList]; rfl
    show _ + 1 ≤ _
    omega
/-- What the search keeps: S the spots gone on from, W those to go on from. -/
structure Srch (F : List St) (en : Nat) (s : ByteArray) (st : Nat × Nat) (S W : List (Nat × Nat)) : Prop where
  start : st ∈ S ∨ st ∈ W
  closed : ∀ u ∈ S, u ≠ (en, s.size) ∧ ∀ v ∈ bh F s u.1 u.2, v ∈ S ∨ v ∈ W
  back : ∀ u ∈ W, Acc F en s.data.toList u.1 u.2 → Acc F en s.data.toList st.1 st.2
  nodup : S.Nodup
  okS : ∀ u ∈ S, Ok F s u
  okW : ∀ u ∈ W, Ok F s u
  len : W.length ≤ 2 * S.length + 1
theorem Srch.init {F : List St} {en : Nat} {s : ByteArray} {st : Nat × Nat} (h : Ok F s st) : Srch F en s st [] [st] :=
  ⟨Or.inr (by simp), fun _ h => absurd h List.not_mem_nil, fun u hu k => (List.mem_singleton.1 hu) ▸ k, List.nodup_nil, fun _ h => absurd h List.not_mem_nil, fun u hu => (List.mem_singleton.1 hu).symm ▸ h, by simp⟩
theorem Srch.again {F : List St} {en : Nat} {s : ByteArray} {st u : Nat × Nat} {S W : List (Nat × Nat)} (h : Srch F en s st S (W ++ [u])) (hu : u ∈ S) : Srch F en s st S W := by
  have hw : ∀ v, v ∈ S ∨ v ∈ W ++ [u] → v ∈ S ∨ v ∈ W := fun v hv => by
    rcases hv with hv | hv
    · exact Or.inl hv
    · simp at hv
      rcases hv with hv | rfl
      · exact Or.inr hv
      · exact Or.inl hu
  refine ⟨hw _ h.start, fun v hv => ⟨(h.closed v hv).1, fun x hx => hw _ ((h.closed v hv).2 x hx)⟩, fun v hv => h.back v (by simp [hv]), h.nodup, h.okS, fun v hv => h.okW v (by simp [hv]), ?_⟩
  have := h.len
  simp at this
  omega
theorem Srch.on {F : List St} {en : Nat} {s : ByteArray} {st u : Nat × Nat} {S W : List (Nat × Nat)} (hF : Fine F) (h : Srch F en s st S (W ++ [u])) (hu : u ∉ S) (ht : u ≠ (en, s.size)) : Srch F en s st (u :: S) (W ++ bh F s u.1 u.2) := by
  have hw : ∀ v, v ∈ S ∨ v ∈ W ++ [u] → v ∈ u :: S ∨ v ∈ W ++ bh F s u.1 u.2 := fun v hv => by
    rcases hv with hv | hv
    · exact Or.inl (by simp [hv])
    · simp at hv
      rcases hv with hv | rfl
      · exact Or.inr (by simp [hv])
      · exact Or.inl (by simp)
  have huk := h.okW u (by simp)
  refine ⟨hw _ h.start, fun v hv => ?_, fun v hv => ?_, List.nodup_cons.2 ⟨hu, h.nodup⟩, fun v hv => ?_, fun v hv => ?_, ?_⟩
  · simp at hv
    rcases hv with rfl | hv
    · exact ⟨ht, fun x hx => Or.inr (by simp [hx])⟩
    · exact ⟨(h.closed v hv).1, fun x hx => hw _ ((h.closed v hv).2 x hx)⟩
  · simp at hv
    rcases hv with hv | hv
    · exact h.back v (by simp [hv])
    · obtain ⟨m, q⟩ := v
      exact fun k => h.back u (by simp) (Acc.step (mem_bh.1 hv) k)
  · simp at hv
    rcases hv with rfl | hv
    · exact huk
    · exact h.okS v hv
  · simp at hv
    rcases hv with hv | hv
    · exact h.okW v (by simp [hv])
    · exact bh_ok hF huk hv
  · have := h.len
    have := bh_len (s := s) (n := u.1) (p := u.2) hF
    simp at *
    omega
theorem Srch.found {F : List St} {en : Nat} {s : ByteArray} {st : Nat × Nat} {S W : List (Nat × Nat)} (h : Srch F en s st S (W ++ [(en, s.size)])) : Acc F en s.data.toList st.1 st.2 :=
  h.back (en, s.size) (by simp) ⟨0, rfl, by show s.size = s.data.toList.length; rw [Array.length_toList]; rfl⟩
theorem Srch.gone {F : List St} {en : Nat} {s : ByteArray} {st : Nat × Nat} {S : List (Nat × Nat)} (h : Srch F en s st S []) : ¬ Acc F en s.data.toList st.1 st.2 := by
  have hz : s.data.toList.length = s.size := by rw [Array.length_toList]; rfl
  have key : ∀ (k n p : Nat), (n, p) ∈ S → ¬ AccN F en s.data.toList k n p := by
    intro k
    induction k with
    | zero =>
      rintro n p hm ⟨h1, h2⟩
      exact (h.closed _ hm).1 (by rw [h1, h2, hz])
    | succ k ih =>
      rintro n p hm (⟨h1, h2⟩ | ⟨m, q, h1, h2⟩)
      · exact (h.closed _ hm).1 (by rw [h1, h2, hz])
      · have := (h.closed _ hm).2 (m, q) (mem_bh.2 h1)
        simp at this
        exact ih m q this h2
  rintro ⟨k, hk⟩
  have := h.start
  simp at this
  exact key k st.1 st.2 this hk
theorem Srch.small {F : List St} {en : Nat} {s : ByteArray} {st : Nat × Nat} {S W : List (Nat × Nat)} (h : Srch F en s st S W) : S.length ≤ F.length * (s.size + 1) := by
  have hn : (S.map fun u => u.1 * (s.size + 1) + u.2).Nodup := by
    refine List.pairwise_map.2 (h.nodup.imp_of_mem fun {a b} ha hb hne hab => hne ?_)
    have h1 := (h.okS a ha).2
    have h2 := (h.okS b hb).2
    have e1 : a.1 = b.1 := by
      have x : (a.1 * (s.size + 1) + a.2) / (s.size + 1) = (b.1 * (s.size + 1) + b.2) / (s.size + 1) := congrArg (· / (s.size + 1)) hab
      rw [Nat.mul_comm a.1, Nat.mul_comm b.1, Nat.mul_add_div (by omega), Nat.mul_add_div (by omega), Nat.div_eq_of_lt (by omega), Nat.div_eq_of_lt (by omega)] at x
      omega
    rw [e1] at hab
    exact Prod.ext e1 (by omega)
  have := few (F.length * (s.size + 1)) _ hn (fun x hx => by
    obtain ⟨u, hu, rfl⟩ := List.mem_map.1 hx
    have h1 := (h.okS u hu).1
    have h2 := (h.okS u hu).2
    calc u.1 * (s.size + 1) + u.2 < u.1 * (s.size + 1) + (s.size + 1) := by omega
      _ = (u.1 + 1) * (s.size + 1) := by rw [Nat.add_mul]; omega
      _ ≤ F.length * (s.size + 1) := Nat.mul_le_mul_right _ h1)
  simpa using this
end Go.Proofs.Ytgdaegmmapljgaa
