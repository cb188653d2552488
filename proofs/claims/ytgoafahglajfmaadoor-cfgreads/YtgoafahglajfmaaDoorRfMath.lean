/-
  What the plain reading of a grammar's text answers is what reading it by cuts answers.
-/
import Derived.Test.YtgoafahglajfmaaDoorRLines
import Derived.Test.YtgoafahglajfmaaDoorTxBack
namespace Go.Proofs.YtgoafahglajfmaaDoor
namespace Cg

theorem drop_getD (L : List UInt8) (a i : Nat) : L.getD (a + i) 0 = (L.drop a).getD i 0 := by
  rw [List.getD_eq_getElem?_getD, List.getD_eq_getElem?_getD, List.getElem?_drop]
theorem getD_in {L : List UInt8} {i : Nat} {c : UInt8} (hc : c ≠ 0) (h : L.getD i 0 = c) : c ∈ L := by
  rw [List.getD_eq_getElem?_getD] at h
  cases e : L[i]? with
  | none => rw [e] at h; exact absurd h.symm hc
  | some x => rw [e] at h; simp at h; subst h; exact List.mem_of_getElem? e
theorem getD_front (y z : List UInt8) (i : Nat) (h : i < y.length) : (y ++ z).getD i 0 ∈ y := by
  rw [List.getD_eq_getElem?_getD, List.getElem?_append_left h, List.getElem?_eq_getElem h]
  exact List.getElem_mem h
theorem getD_behind (y r : List UInt8) (c : UInt8) : (y ++ c :: r).getD y.length 0 = c := by
  rw [List.getD_eq_getElem?_getD, List.getElem?_append_right (Nat.le_refl _)]; simp
theorem tw_all (y r : List UInt8) (c : UInt8) (hy : y.all isD = true) (hc : isD c = false) : (y ++ c :: r).takeWhile isD = y := by
  rw [List.takeWhile_append_of_pos (fun b hb => List.all_eq_true.1 hy b hb), List.takeWhile_cons_of_neg (by rw [hc]; decide), List.append_nil]
theorem tw_part : ∀ (y z : List UInt8), ¬ y.all isD = true → ((y ++ z).takeWhile isD).length < y.length
  | [], _, h => absurd rfl h
  | b :: y, z, h => by
    rw [List.cons_append]
    by_cases hb : isD b = true
    · rw [List.takeWhile_cons_of_pos hb]
      have := tw_part y z (fun e => h (by rw [List.all_cons, hb, e]; rfl))
      simp only [List.length_cons]; omega
    · rw [List.takeWhile_cons_of_neg hb]; simp
theorem num_at {L y r : List UInt8} {c : UInt8} {a : Nat} (h : L.drop a = y ++ c :: r) (hc : isD c = false) (hy : (numR y).2 = true) : small9 L a = ((numR y).1, a + y.length) ∧ 0 ≤ (numR y).1 := by
  have hn : numR y = ((numR y).1, true) := Prod.ext rfl hy
  obtain ⟨h1, h2, h3⟩ := num_true hn
  unfold small9 digs
  rw [h, tw_all y r c h2 hc, if_pos h1, h3]
  exact ⟨rfl, by omega⟩
theorem num_not {L y r : List UInt8} {c : UInt8} {a : Nat} (h : L.drop a = y ++ c :: r) (hc : isD c = false) (hy : ¬ (numR y).2 = true) : (small9 L a).1 < 0 ∨ ∃ i, i < y.length ∧ (small9 L a).2 = a + i := by
  by_cases hk : headOk (digs L a) = true
  · right
    by_cases ha : y.all isD = true
    · exfalso
      apply hy
      unfold digs at hk
      rw [h, tw_all y r c ha hc] at hk
      unfold numR
      rw [if_pos hk, if_pos ha]
    · refine ⟨(digs L a).length, ?_, ?_⟩
      · unfold digs; rw [h]; exact tw_part y _ ha
      · unfold small9; rw [if_pos hk]
  · left
    unfold small9
    rw [if_neg hk]
    show (-1 : Int) < 0
    omega
def finQ (L : List UInt8) (r : Option (List Sy × Nat)) : Option (List Sy) := match r with
  | none => none
  | some r => if r.2 + 1 = L.length ∧ L.getD r.2 0 = 10 then some r.1 else none
theorem fin_map (L : List UInt8) (x : Sy) (r : Option (List Sy × Nat)) : finQ L (r.map fun r => (x :: r.1, r.2)) = (finQ L r).map (x :: ·) := by
  cases r with
  | none => rfl
  | some r => simp only [finQ, Option.map_some]; split <;> rfl
theorem fin_not {L : List UInt8} {f e : Nat} (h1 : L.getD e 0 ≠ 32) (h2 : L.getD e 0 ≠ 10) : finQ L (bodyQ L f e) = none := by
  cases f with
  | zero => rfl
  | succ f => rw [bodyQ, if_neg h1]; simp only [finQ]; rw [if_neg (fun h => h2 h.2)]
theorem body_cons (q y : List UInt8) (hq : (32 : UInt8) ∉ q) (hy : y = [] ∨ ∃ z, y = 32 :: z) : bodyR (32 :: (q ++ y)) = if (symR q).2 = true ∧ (bodyR y).2 = true then ((symR q).1 :: (bodyR y).1, true) else ([], false) := by
  have h0 : ∀ t, sp 32 (32 :: t) = [] :: sp 32 t := fun t => by rw [sp, if_pos rfl]
  have hb : ∀ t, bodyR (32 :: t) = if (sp 32 t).all (fun q => (symR q).2) = true then ((sp 32 t).map fun q => (symR q).1, true) else ([], false) := fun t => by unfold bodyR; rw [h0]; rfl
  rw [hb]
  rcases hy with rfl | ⟨z, rfl⟩
  · rw [List.append_nil, sp_one 32 q hq]
    have : bodyR [] = ([], true) := rfl
    rw [this]
    by_cases h : (symR q).2 = true <;> simp [h]
  · rw [sp_app 32 q z hq, hb]
    by_cases h : (symR q).2 = true
    · by_cases h2 : (sp 32 z).all (fun q => (symR q).2) = true
      · rw [if_pos h2, if_pos (by simp only [List.all_cons, h, h2]; rfl), if_pos ⟨h, rfl⟩]; rfl
      · rw [if_neg h2, if_neg (by simp only [List.all_cons, h, Bool.true_and]; exact h2), if_neg (fun e => by cases e.2)]
    · rw [if_neg (by simp only [List.all_cons]; intro e; exact h (Bool.and_eq_true_iff.1 e).1), if_neg (fun e => h e.1)]
theorem cut_first (c : UInt8) (l : List UInt8) : (∃ p r, l = p ++ c :: r ∧ c ∉ p) ∨ c ∉ l := by
  by_cases h : c ∈ l
  · obtain ⟨p, r, h1, h2⟩ := List.eq_append_cons_of_mem h
    exact Or.inl ⟨p, r, h1, h2⟩
  · exact Or.inr h
theorem sym_not {k : UInt8} {d : List UInt8} (h1 : k ≠ 116) (h2 : k ≠ 110) : symR (k :: d) = ((0, 0), false) := by
  unfold symR; simp only []; rw [if_neg h1, if_neg h2]
theorem kind_of {L : List UInt8} {p : Nat} {k : UInt8} (h : L.getD p 0 = k) : kindAt L p = if k = 110 then 2 else if k = 116 then 1 else 0 := by unfold kindAt; rw [h]
theorem body_same (L : List UInt8) : ∀ (f a : Nat) (y : List UInt8), L.drop a = y ++ [10] → (10 : UInt8) ∉ y → y.length < f → finQ L (bodyQ L f a) = if (bodyR y).2 = true then some (bodyR y).1 else none
  | 0, _, _, _, _, h => absurd h (Nat.not_lt_zero _)
  | f + 1, a, [], hd, _, _ => by
    have h0 : L.getD a 0 = 10 := by have := drop_getD L a 0; rw [hd] at this; simpa using this
    have hl : a + 1 = L.length := by have := congrArg List.length hd; rw [List.length_drop] at this; simp at this; omega
    rw [bodyQ, if_neg (by rw [h0]; decide)]
    simp only [finQ]
    rw [if_pos ⟨hl, h0⟩]
    rfl
  | f + 1, a, c :: t, hd, h10, hf => by
    have h0 : L.getD a 0 = c := by have := drop_getD L a 0; rw [hd] at this; simpa using this
    by_cases hc : c = 32
    · subst hc
      rw [bodyQ, if_pos h0]
      have hd1 : L.drop (a + 1) = t ++ [10] := by rw [← List.drop_drop, hd]; rfl
      obtain ⟨q, y, hqy, hq, hy⟩ : ∃ q y, t = q ++ y ∧ (32 : UInt8) ∉ q ∧ (y = [] ∨ ∃ z, y = 32 :: z) := by
        rcases cut_first 32 t with ⟨p, r, h1, h2⟩ | h
        · exact ⟨p, 32 :: r, h1, h2, Or.inr ⟨r, rfl⟩⟩
        · exact ⟨t, [], by simp, h, Or.inl rfl⟩
      subst hqy
      obtain ⟨c2, r2, hz, hc2, hk2⟩ : ∃ c2 r2, y ++ [10] = c2 :: r2 ∧ isD c2 = false ∧ (c2 ≠ 110 ∧ c2 ≠ 116) := by
        rcases hy with rfl | ⟨z, rfl⟩
        · exact ⟨10, [], rfl, by decide, by decide, by decide⟩
        · exact ⟨32, z ++ [10], rfl, by decide, by decide, by decide⟩
      rw [body_cons q y hq hy]
      have hy10 : (10 : UInt8) ∉ y := fun h => h10 (List.mem_cons_of_mem _ (List.mem_append_right _ h))
      have hq10 : (10 : UInt8) ∉ q := fun h => h10 (List.mem_cons_of_mem _ (List.mem_append_left _ h))
      rw [List.append_assoc, hz] at hd1
      cases q with
      | nil =>
        have hk : kindAt L (a + 1) = 0 := by
          rw [kind_of (k := c2) (by have := drop_getD L (a + 1) 0; rw [hd1] at this; simpa using this), if_neg hk2.1, if_neg hk2.2]
        rw [if_pos (Or.inl hk), if_neg (c := (symR []).2 = true ∧ (bodyR y).2 = true) (fun h => by have := h.1; simp [symR] at this)]
        rfl
      | cons k d =>
        have hkk := kind_of (L := L) (p := a + 1) (k := k) (by have := drop_getD L (a + 1) 0; rw [hd1] at this; simpa using this)
        have hd2 : L.drop (a + 2) = d ++ c2 :: r2 := by rw [show a + 2 = a + 1 + 1 from rfl, ← List.drop_drop, hd1]; rfl
        by_cases hkb : k = 116 ∨ k = 110
        · have hsy : symR (k :: d) = ((kindAt L (a + 1), (numR d).1), (numR d).2) := by
            rw [hkk]
            unfold symR
            rcases hkb with rfl | rfl <;> rfl
          have hk0 : kindAt L (a + 1) ≠ 0 := by rw [hkk]; rcases hkb with rfl | rfl <;> decide
          rw [hsy]
          by_cases hn : (numR d).2 = true
          · obtain ⟨h9, h9b⟩ := num_at hd2 hc2 hn
            rw [h9, if_neg (fun h => by rcases h with h | h; · exact hk0 h
                                        · simp only [] at h; omega), fin_map]
            have hd3 : L.drop (a + 2 + d.length) = y ++ [10] := by rw [← List.drop_drop, hd2, List.drop_left, hz]
            simp only []
            rw [body_same L f (a + 2 + d.length) y hd3 hy10 (by simp at hf; omega)]
            by_cases hbb : (bodyR y).2 = true
            · rw [if_pos hbb, if_pos (c := (numR d).2 = true ∧ (bodyR y).2 = true) ⟨hn, hbb⟩]; rfl
            · rw [if_neg hbb, if_neg (c := (numR d).2 = true ∧ (bodyR y).2 = true) (fun h => hbb h.2)]; rfl
          · rw [if_neg (c := (numR d).2 = true ∧ (bodyR y).2 = true) (fun h => hn h.1)]
            rcases num_not hd2 hc2 hn with h9 | ⟨i, hi, h9⟩
            · rw [if_pos (Or.inr h9)]; rfl
            · have hg : L.getD (small9 L (a + 2)).2 0 ∈ d := by rw [h9, drop_getD, hd2]; exact getD_front d _ i hi
              have hn32 : L.getD (small9 L (a + 2)).2 0 ≠ 32 := fun e => hq (List.mem_cons_of_mem _ (e ▸ hg))
              have hn10 : L.getD (small9 L (a + 2)).2 0 ≠ 10 := fun e => hq10 (List.mem_cons_of_mem _ (e ▸ hg))
              split
              · rfl
              · rw [fin_map, fin_not hn32 hn10]; rfl
        · have h1 : k ≠ 116 := fun e => hkb (Or.inl e)
          have h2 : k ≠ 110 := fun e => hkb (Or.inr e)
          rw [if_pos (Or.inl (by rw [hkk, if_neg h2, if_neg h1])), sym_not h1 h2, if_neg (c := (((0, 0), false) : Sy × Bool).2 = true ∧ (bodyR y).2 = true) (fun h => by have := h.1; simp at this)]
          rfl
    · rw [bodyQ, if_neg (by rw [h0]; exact hc)]
      have hc10 : c ≠ 10 := fun e => h10 (by rw [e]; exact List.mem_cons_self)
      simp only [finQ]
      rw [if_neg (fun h => hc10 (by rw [← h0]; exact h.2))]
      have hb : (bodyR (c :: t)).2 = false := by
        unfold bodyR
        cases e : sp 32 t with
        | nil => exact absurd e (sp_ne _ _)
        | cons h' t' => rw [sp_cons hc e]; simp only []; rw [if_neg (by simp)]
      rw [hb]; rfl
theorem prodQ_fin (L : List UInt8) : prodQ L = if (small9 L 0).1 < 0 ∨ L.getD (small9 L 0).2 0 ≠ 58 then none else (finQ L (bodyQ L (L.length + 2) ((small9 L 0).2 + 1))).map fun b => ((small9 L 0).1, b) := by
  unfold prodQ
  split
  · rfl
  · cases bodyQ L (L.length + 2) ((small9 L 0).2 + 1) with
    | none => rfl
    | some r => simp only [finQ]; split <;> rfl
theorem prod_same (q : List UInt8) (h10 : (10 : UInt8) ∉ q) : prodQ (q ++ [10]) = if (prodR q).2 = true then some (prodR q).1 else none := by
  rw [prodQ_fin]
  rcases cut_first 58 q with ⟨x, y, rfl, hx⟩ | h
  · have hd : (x ++ 58 :: y ++ [10]).drop 0 = x ++ 58 :: (y ++ [10]) := by simp
    have hpr : prodR (x ++ 58 :: y) = if (numR x).2 = true then (((numR x).1, (bodyR y).1), (bodyR y).2) else ((0, []), false) := by
      unfold prodR
      rw [cutC_app 58 x y hx]
      simp
    rw [hpr]
    by_cases hn : (numR x).2 = true
    · obtain ⟨h9, h9b⟩ := num_at hd (by decide) hn
      rw [h9, Nat.zero_add, if_pos hn]
      have hg : (x ++ 58 :: y ++ [10]).getD x.length 0 = 58 := by rw [List.append_assoc]; exact getD_behind x _ 58
      rw [if_neg (fun h => by rcases h with h | h; · simp only [] at h; omega
                              · exact h hg)]
      simp only []
      rw [body_same _ _ (x.length + 1) y (by rw [← List.drop_drop, List.append_assoc, List.drop_left]; rfl) (fun h => h10 (by simp [h])) (by simp; omega)]
      split <;> rfl
    · rw [if_neg hn]
      rcases num_not hd (by decide) hn with h9 | ⟨i, hi, h9⟩
      · rw [if_pos (Or.inl h9)]; rfl
      · have hg : (x ++ 58 :: y ++ [10]).getD (small9 (x ++ 58 :: y ++ [10]) 0).2 0 ∈ x := by rw [h9, Nat.zero_add, List.append_assoc]; exact getD_front x _ i hi
        rw [if_pos (Or.inr (by intro e; rw [e] at hg; exact hx hg))]; rfl
  · have hpr : (prodR q).2 = false := by
      unfold prodR
      rw [cutC_one 58 q q (sp_one 58 q h)]
      simp
    rw [hpr, if_pos (Or.inr (fun e => by
      have := getD_in (by decide) e
      rcases List.mem_append.1 this with h2 | h2
      · exact h h2
      · simp at h2))]
    rfl
theorem prod_none (q : List UInt8) (h10 : (10 : UInt8) ∉ q) : prodQ q = none := by
  rw [prodQ_fin]
  split
  · rfl
  · have : ∀ r, finQ q r = none := fun r => by
      cases r with
      | none => rfl
      | some r => simp only [finQ]; rw [if_neg (fun h => h10 (getD_in (by decide) h.2))]
    rw [this]; rfl
def countsQ (l : List UInt8) : Option (Int × Int) := if (small9 l 0).1 < 0 ∨ l.getD (small9 l 0).2 0 ≠ 32 then none else
  if (small9 l ((small9 l 0).2 + 1)).1 < 0 ∨ ¬ ((small9 l ((small9 l 0).2 + 1)).2 + 1 = l.length ∧ l.getD (small9 l ((small9 l 0).2 + 1)).2 0 = 10) then none else some ((small9 l 0).1, (small9 l ((small9 l 0).2 + 1)).1)
theorem counts_none (q : List UInt8) (h10 : (10 : UInt8) ∉ q) : countsQ q = none := by
  unfold countsQ
  split
  · rfl
  · rw [if_pos (Or.inr (fun h => h10 (getD_in (by decide) h.2)))]
theorem counts_same (q : List UInt8) (h10 : (10 : UInt8) ∉ q) : countsQ (q ++ [10]) = if (countsR q).2 = true then some (countsR q).1 else none := by
  unfold countsQ
  rcases cut_first 32 q with ⟨x, y, rfl, hx⟩ | h
  · have hd : (x ++ 32 :: y ++ [10]).drop 0 = x ++ 32 :: (y ++ [10]) := by simp
    have hpr : countsR (x ++ 32 :: y) = (((numR x).1, (numR y).1), (numR x).2 && (numR y).2) := by unfold countsR; rw [cutC_app 32 x y hx]
    rw [hpr]
    by_cases hn : (numR x).2 = true
    · obtain ⟨h9, h9b⟩ := num_at hd (by decide) hn
      rw [h9, Nat.zero_add]
      have hg : (x ++ 32 :: y ++ [10]).getD x.length 0 = 32 := by rw [List.append_assoc]; exact getD_behind x _ 32
      rw [if_neg (fun h => by rcases h with h | h; · simp only [] at h; omega
                              · exact h hg)]
      have hd2 : (x ++ 32 :: y ++ [10]).drop (x.length + 1) = y ++ [10] := by rw [← List.drop_drop, List.append_assoc, List.drop_left]; rfl
      simp only []
      by_cases hm : (numR y).2 = true
      · obtain ⟨h8, h8b⟩ := num_at hd2 (by decide) hm
        rw [h8, if_neg (fun h => by
          rcases h with h | h
          · simp only [] at h; omega
          · refine h ⟨by simp; omega, ?_⟩
            simp only []
            rw [drop_getD, hd2]; exact getD_behind y [] 10), hn, hm]; rfl
      · rw [hn, Bool.true_and, if_neg hm]
        rcases num_not hd2 (by decide) hm with h8 | ⟨i, hi, h8⟩
        · rw [if_pos (Or.inl h8)]
        · rw [if_pos (Or.inr (fun h => by have := h.1; rw [h8] at this; simp at this; omega))]
    · have hnf : (numR x).2 = false := by simpa using hn
      rw [hnf, Bool.false_and, if_neg (c := false = true) (by decide)]
      rcases num_not hd (by decide) hn with h9 | ⟨i, hi, h9⟩
      · rw [if_pos (Or.inl h9)]
      · have hg : (x ++ 32 :: y ++ [10]).getD (small9 (x ++ 32 :: y ++ [10]) 0).2 0 ∈ x := by rw [h9, Nat.zero_add, List.append_assoc]; exact getD_front x _ i hi
        rw [if_pos (Or.inr (by intro e; rw [e] at hg; exact hx hg))]
  · have hpr : (countsR q).2 = false := by
      unfold countsR
      rw [cutC_one 32 q q (sp_one 32 q h)]
      show ((numR q).2 && (numR []).2) = false
      rw [show (numR []).2 = false from rfl, Bool.and_false]
    rw [hpr, if_neg (c := false = true) (by decide), if_pos (Or.inr (fun e => by
      have := getD_in (by decide) e
      rcases List.mem_append.1 this with h2 | h2
      · exact h h2
      · simp at h2))]
def rdQ (k : Nat) (ps : List Pd) : List (List UInt8) → List Pd × Nat × Bool
  | [] => (ps, k, true)
  | l :: r => match prodQ l with
    | none => (ps, k, false)
    | some p => rdQ (k + 1) (ps ++ [p]) r
def refQ (ls : List (List UInt8)) : St × Int × Int := match ls with
  | [] => (zst, 1, 6)
  | l :: r => match countsQ l with
    | none => (zst, 1, 6)
    | some c => if (rdQ 2 [] r).2.2 = true then (if chk c.1 c.2 (rdQ 2 [] r).1 = 0 then (⟨c.1, c.2, (rdQ 2 [] r).1⟩, 0, 0) else (zst, 0, chk c.1 c.2 (rdQ 2 [] r).1)) else (zst, ((rdQ 2 [] r).2.1 : Int), 6)
theorem rd_same (a b : Int) : ∀ (tl : List (List UInt8)) (k : Nat) (ps : List Pd), tl ≠ [] → (∀ p ∈ tl, (10 : UInt8) ∉ p) → 2 ≤ k → rdR k ⟨a, b, ps⟩ tl = (⟨a, b, (rdQ k ps (lnR tl)).1⟩, (rdQ k ps (lnR tl)).2.1, (rdQ k ps (lnR tl)).2.2)
  | [], _, _, h, _, _ => absurd rfl h
  | [p], k, ps, _, h10, hk => by
    rw [rdR, lnR]
    by_cases hp : p = []
    · rw [if_pos ⟨hp, by omega⟩, if_pos hp]; rfl
    · rw [if_neg (fun h => hp h.1), if_neg hp, rdQ, prod_none p (h10 p List.mem_cons_self)]
  | p :: q :: r, k, ps, _, h10, hk => by
    rw [rdR, lnR, rdQ, prod_same p (h10 p List.mem_cons_self)]
    have ha : addR k ⟨a, b, ps⟩ p = (⟨a, b, ps ++ [(prodR p).1]⟩, (prodR p).2) := by unfold addR; rw [if_neg (by omega)]
    rw [ha]
    by_cases hp : (prodR p).2 = true
    · simp only [hp, if_true]
      exact rd_same a b (q :: r) (k + 1) _ (by simp) (fun p hp => h10 p (List.mem_cons_of_mem _ hp)) (by omega)
    · simp only [hp]; rfl
theorem ref_same (l : List UInt8) (hl : ¬ 4096 < l.length) : refQ (lnR (sp 10 l)) = readR l := by
  unfold readR
  rw [if_neg hl]
  have hfr := sp_free 10 l
  cases e : sp 10 l with
  | nil => exact absurd e (sp_ne _ _)
  | cons p tl =>
    rw [e] at hfr
    have hp10 := hfr p List.mem_cons_self
    cases tl with
    | nil =>
      have hr : rdR 1 zst [p] = (zst, 1, false) := by rw [rdR, if_neg (fun h => h.2 rfl)]
      rw [hr]
      rw [lnR]
      by_cases hp : p = []
      · rw [if_pos hp]; rfl
      · rw [if_neg hp]; unfold refQ; simp only []; rw [counts_none p hp10]; rfl
    | cons q r =>
      rw [rdR, lnR]
      have ha : addR 1 zst p = (⟨(countsR p).1.1, (countsR p).1.2, []⟩, (countsR p).2) := by unfold addR; rw [if_pos rfl]; rfl
      rw [ha]
      unfold refQ
      simp only []
      rw [counts_same p hp10]
      by_cases hc : (countsR p).2 = true
      · simp only [hc, if_true]
        rw [rd_same _ _ (q :: r) 2 [] (by simp) (fun p hp => hfr p (List.mem_cons_of_mem _ hp)) (by omega)]
      · simp only [hc]; rfl

end Cg
end Go.Proofs.YtgoafahglajfmaaDoor
