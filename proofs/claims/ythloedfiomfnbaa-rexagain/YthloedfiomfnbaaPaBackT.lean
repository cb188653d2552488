/-
  What is written is read: the induction over the tree.
-/
import Derived.Test.YthloedfiomfnbaaPaBackC
namespace Go.Proofs.Ythloedfiomfnbaa
open Cls Txt Rex

def Aa (s : ByteArray) (e : Nat) : Nat → Res := atomR s (groupR s (30 - (e + 1)) (altN s e))
def Ra (s : ByteArray) (e : Nat) : Nat → Res := repR s (Aa s e)
def Ca (s : ByteArray) (e : Nat) : Nat → Res := catR s (Ra s e)
theorem altN_succ (s : ByteArray) (e : Nat) : altN s (e + 1) = altR s (Ca s e) := rfl
/-- No sign of repeating. -/
def NO (s : ByteArray) (j : Nat) : Prop := bt s j ≠ 42 ∧ bt s j ≠ 43 ∧ bt s j ≠ 63
theorem bt_end (s : ByteArray) : bt s s.size = 0 := by unfold bt; rw [dif_neg (by omega)]
theorem end_no {s : ByteArray} {j : Nat} (h : catEnd s j = true) : NO s j := by
  unfold catEnd at h
  simp only [Bool.or_eq_true, decide_eq_true_eq] at h
  unfold NO
  rcases h with h | h | h
  · rw [h, bt_end]; omega
  · rw [h]; omega
  · rw [h]; omega
theorem fb_no {s : ByteArray} {j : Nat} (h : Fb (bt s j)) : NO s j ∧ catEnd s j = false := by
  obtain ⟨h1, h2, h3, h4, h5, h6⟩ := h
  refine ⟨⟨h1, h2, h3⟩, ?_⟩
  have h7 : j ≠ s.size := fun e => h6 (by rw [e, bt_end])
  unfold catEnd
  simp [h4, h5, h7]
theorem rep_atom {s : ByteArray} {A : Nat → Res} {i j : Nat} {t : T} (h : A i = (t, j, 0)) (hn : NO s j) : repR s A i = (t, j, 0) := by
  unfold repR
  rw [h, if_neg (by simp)]
  rw [repL, if_neg hn.1, if_neg hn.2.1, if_neg hn.2.2]
theorem rep_star {s : ByteArray} {A : Nat → Res} {i j : Nat} {t : T} (h : A i = (t, j, 0)) (h42 : bt s j = 42) (hn : NO s (j + 1)) : repR s A i = (.mk 6 Cls.empty [t], j + 1, 0) := by
  unfold repR
  rw [h, if_neg (by simp)]
  rw [repL, if_pos h42]
  cases s.size with
  | zero => rfl
  | succ n => rw [repL, if_neg hn.1, if_neg hn.2.1, if_neg hn.2.2]
theorem cat_rep {s : ByteArray} {R : Nat → Res} {n : Nat} {t : T} {j : Nat} (h : catEnd s j = true) : catL s R (n + 1) (t, j, 0) = (t, j, 0) := by
  rw [catL, if_neg (by simp), if_pos h]
theorem atom_group {s : ByteArray} {e i j : Nat} {t : T} (h0 : bt s i = 40) (h1 : bt s (i + 1) ≠ 41) (h : altN s e (i + 1) = (t, j, 0)) (h2 : bt s j = 41) : Aa s e i = (t, j + 1, 0) := by
  unfold Aa atomR groupR
  rw [if_pos h0, if_neg (by omega), if_neg h1, h, if_neg (by simp), if_pos h2]
theorem atom_low {s : ByteArray} (e i : Nat) (x : E) (hg : Good x) (h4 : kindOf x ≠ 4) (h5 : kindOf x ≠ 5) (h6 : kindOf x ≠ 6) (h : At s i (text x)) : Aa s e i = (toT x, i + (text x).length, 0) := by
  cases x with
  | none =>
    have e0 : bt s i = 91 := At.first (m := [93]) h
    have e1 : bt s (i + 1) = 93 := (At.tail (m := [93]) h).first
    have hs : setR s (i + 1) = (1, Cls.empty, i + 2, 0) := by
      unfold setR
      rw [if_neg (by rw [e1]; decide), itemsR, if_pos e1]
      rfl
    unfold Aa atomR
    rw [if_neg (by rw [e0]; decide), if_pos e0, hs]; rfl
  | emp =>
    have e0 : bt s i = 40 := At.first (m := [41]) h
    have e1 : bt s (i + 1) = 41 := (At.tail (m := [41]) h).first
    unfold Aa atomR groupR
    rw [if_pos e0, if_neg (by omega), if_pos e1]; rfl
  | byte c => exact atom_class hg h
  | cat a b => exact absurd rfl h4
  | alt a b => exact absurd rfl h5
  | star a => exact absurd rfl h6


structure Bk (s : ByteArray) (x : E) : Prop where
  rp : kindOf x ≠ 4 → kindOf x ≠ 5 → ∀ e i, x.deep ≤ e + 1 → At s i (text x) → i + (text x).length ≤ s.size → NO s (i + (text x).length) → Ra s e i = (toT x, i + (text x).length, 0)
  ct : kindOf x ≠ 5 → ∀ e i, x.deep ≤ e + 1 → At s i (text x) → i + (text x).length ≤ s.size → NO s (i + (text x).length) → ∃ k, k ≤ (text x).length ∧ ∀ n, catL s (Ra s e) (n + k) (Ra s e i) = catL s (Ra s e) n (toT x, i + (text x).length, 0)
  al : ∀ e i, x.deep ≤ e + 1 → At s i (text x) → i + (text x).length ≤ s.size → catEnd s (i + (text x).length) = true → ∃ k, k ≤ (text x).length ∧ ∀ n, altL s (Ca s e) (n + k) (Ca s e i) = altL s (Ca s e) n (toT x, i + (text x).length, 0)
theorem Bk.all {s : ByteArray} {x : E} (h : Bk s x) {e i : Nat} (hd : x.deep ≤ e + 1) (ha : At s i (text x)) (hb : i + (text x).length ≤ s.size) (hn : i + (text x).length = s.size ∨ bt s (i + (text x).length) = 41) : altN s (e + 1) i = (toT x, i + (text x).length, 0) := by
  have hce : catEnd s (i + (text x).length) = true := by
    unfold catEnd
    rcases hn with h | h <;> simp [h]
  have h124 : bt s (i + (text x).length) ≠ 124 := by
    rcases hn with h | h
    · rw [h, bt_end]; decide
    · rw [h]; decide
  obtain ⟨k, hk, e0⟩ := h.al e i hd ha hb hce
  have e1 := e0 (s.size + 1 - k + 1)
  rw [altN_succ]
  unfold altR
  rw [show s.size + 2 = s.size + 1 - k + 1 + k by omega, e1, altL, if_neg (by simp), if_neg h124]
theorem Bk.br {s : ByteArray} {x : E} (h : Bk s x) {e i : Nat} (hd : x.deep ≤ e) (ha : At s i ([40] ++ text x ++ [41])) (hb : i + ([40] ++ text x ++ [41]).length ≤ s.size) : Aa s e i = (toT x, i + ([40] ++ text x ++ [41]).length, 0) := by
  have hx : 0 < x.deep := by cases x <;> simp [E.deep] <;> omega
  obtain ⟨e', rfl⟩ : ∃ e', e = e' + 1 := ⟨e - 1, by omega⟩
  have h0 : bt s i = 40 := At.first (m := text x) ha.left
  have h1 : At s (i + 1) (text x) := At.tail (b := 40) ha.left
  have h2 : bt s (i + 1 + (text x).length) = 41 := by
    have h9 : At s (i + ([40] ++ text x).length) [41] := ha.right
    have e9 : i + ([40] ++ text x).length = i + 1 + (text x).length := by rw [List.length_append]; simp only [List.length_cons, List.length_nil]; omega
    rw [e9] at h9
    exact h9.first
  simp only [List.length_append, List.length_cons, List.length_nil] at hb ⊢
  have h3 := h.all (e := e') (i := i + 1) (by omega) h1 (by omega) (Or.inr h2)
  have hf := at_first (text_first x) h1
  have h4 := atom_group (e := e' + 1) h0 hf.2.2.2.2.1 h3 h2
  rw [h4]
  refine Prod.ext rfl (Prod.ext ?_ rfl)
  simp only []; omega
theorem inBr_yes {ks : List Int} {k : Int} {l : List UInt8} (h : ks.contains k = true) : inBr ks k l = [40] ++ l ++ [41] := by unfold inBr; rw [if_pos h]
theorem inBr_no {ks : List Int} {k : Int} {l : List UInt8} (h : ¬ ks.contains k = true) : inBr ks k l = l := by unfold inBr; rw [if_neg h]
/-- A part that is in brackets, or is read by rep. -/
theorem Bk.part {s : ByteArray} {x : E} (h : Bk s x) {ks : List Int} (hks : ¬ ks.contains (kindOf x) = true → kindOf x ≠ 4 ∧ kindOf x ≠ 5) {e i : Nat} (hd : x.deep ≤ e) (ha : At s i (inBr ks (kindOf x) (text x))) (hb : i + (inBr ks (kindOf x) (text x)).length ≤ s.size) (hn : NO s (i + (inBr ks (kindOf x) (text x)).length)) : Ra s e i = (toT x, i + (inBr ks (kindOf x) (text x)).length, 0) := by
  by_cases hc : ks.contains (kindOf x) = true
  · rw [inBr_yes hc] at ha hb hn ⊢
    exact rep_atom (h.br hd ha hb) hn
  · rw [inBr_no hc] at ha hb hn ⊢
    exact h.rp (hks hc).1 (hks hc).2 e i (by omega) ha hb hn
/-- Such a one is a CAT of one. -/
theorem cat_of {s : ByteArray} {x : E} {e i j : Nat} (h : Ra s e i = (toT x, j, 0)) : ∃ k, k ≤ (0 : Nat) ∧ ∀ n, catL s (Ra s e) (n + k) (Ra s e i) = catL s (Ra s e) n (toT x, j, 0) := ⟨0, Nat.le_refl _, fun n => by rw [h]; rfl⟩
theorem cat_done {s : ByteArray} {x : E} {e i j m : Nat} (h : ∃ k, k ≤ m ∧ ∀ n, catL s (Ra s e) (n + k) (Ra s e i) = catL s (Ra s e) n (toT x, j, 0)) (hm : m ≤ s.size) (hce : catEnd s j = true) : Ca s e i = (toT x, j, 0) := by
  obtain ⟨k, hk, e0⟩ := h
  unfold Ca catR
  rw [show s.size + 2 = s.size + 1 - k + 1 + k by omega, e0, cat_rep hce]
theorem kind_in (x : E) : kindOf x = 1 ∨ kindOf x = 2 ∨ kindOf x = 3 ∨ kindOf x = 4 ∨ kindOf x = 5 ∨ kindOf x = 6 := by cases x <;> simp [kindOf]
theorem bk_of_rep {s : ByteArray} {x : E} (_h5 : kindOf x ≠ 5) (_h4 : kindOf x ≠ 4) (h : ∀ e i, x.deep ≤ e + 1 → At s i (text x) → i + (text x).length ≤ s.size → NO s (i + (text x).length) → Ra s e i = (toT x, i + (text x).length, 0)) : Bk s x := by
  have hct : ∀ e i, x.deep ≤ e + 1 → At s i (text x) → i + (text x).length ≤ s.size → NO s (i + (text x).length) → ∃ k, k ≤ (text x).length ∧ ∀ n, catL s (Ra s e) (n + k) (Ra s e i) = catL s (Ra s e) n (toT x, i + (text x).length, 0) := fun e i h1 h2 h3 h4 => by
    obtain ⟨k, hk, e0⟩ := cat_of (h e i h1 h2 h3 h4)
    exact ⟨k, by omega, e0⟩
  refine ⟨fun _ _ => h, fun _ => hct, fun e i h1 h2 h3 hce => ⟨0, by omega, fun n => ?_⟩⟩
  rw [cat_done (hct e i h1 h2 h3 (end_no hce)) (by omega) hce]; rfl
theorem back (s : ByteArray) : ∀ x : E, Good x → Bk s x
  | .none, hg => bk_of_rep (by simp [kindOf]) (by simp [kindOf]) fun e i _ h2 _ h4 => rep_atom (atom_low e i .none hg (by simp [kindOf]) (by simp [kindOf]) (by simp [kindOf]) h2) h4
  | .emp, hg => bk_of_rep (by simp [kindOf]) (by simp [kindOf]) fun e i _ h2 _ h4 => rep_atom (atom_low e i .emp hg (by simp [kindOf]) (by simp [kindOf]) (by simp [kindOf]) h2) h4
  | .byte c, hg => bk_of_rep (by simp [kindOf]) (by simp [kindOf]) fun e i _ h2 _ h4 => rep_atom (atom_low e i (.byte c) hg (by simp [kindOf]) (by simp [kindOf]) (by simp [kindOf]) h2) h4
  | .star a, hg => by
    have ih := back s a hg
    refine bk_of_rep (by simp [kindOf]) (by simp [kindOf]) fun e i h1 h2 h3 h4 => ?_
    have hd : a.deep ≤ e := by simp only [E.deep] at h1; omega
    rw [text] at h2 h3 h4 ⊢
    have e42 : bt s (i + (inBr [4, 5, 6] (kindOf a) (text a)).length) = 42 := At.first (m := []) h2.right
    rw [List.length_append] at h3 h4 ⊢
    simp only [List.length_cons, List.length_nil] at h3 h4 ⊢
    have hat := h2.left
    have hatom : Aa s e i = (toT a, i + (inBr [4, 5, 6] (kindOf a) (text a)).length, 0) := by
      by_cases hc : ([4, 5, 6] : List Int).contains (kindOf a) = true
      · rw [inBr_yes hc] at hat h3 ⊢
        exact ih.br hd hat (by omega)
      · rw [inBr_no hc] at hat ⊢
        have hk := kind_in a
        simp at hc
        exact atom_low e i a hg (by omega) (by omega) (by omega) hat
    have := rep_star hatom e42 (by rw [Nat.add_assoc]; exact h4)
    unfold Ra
    rw [this]
    refine Prod.ext rfl (Prod.ext ?_ rfl)
    simp only []; omega
  | .cat a b, hg => by
    have iha := back s a hg.1
    have ihb := back s b hg.2
    have hct : ∀ e i, (E.cat a b).deep ≤ e + 1 → At s i (text (.cat a b)) → i + (text (.cat a b)).length ≤ s.size → NO s (i + (text (.cat a b)).length) → ∃ k, k ≤ (text (.cat a b)).length ∧ ∀ n, catL s (Ra s e) (n + k) (Ra s e i) = catL s (Ra s e) n (toT (.cat a b), i + (text (.cat a b)).length, 0) := fun e i h1 h2 h3 h4 => by
      have hda : a.deep ≤ e := by simp only [E.deep] at h1; omega
      have hdb : b.deep ≤ e := by simp only [E.deep] at h1; omega
      rw [text] at h2 h3 h4 ⊢
      have hl := h2.left
      have hr := h2.right
      rw [List.length_append] at h3 h4 ⊢
      rw [← Nat.add_assoc] at h3 h4
      have hfb := fb_no (at_first (inBr_first (text_first b)) hr)
      obtain ⟨k, hk, e0⟩ : ∃ k, k ≤ (inBr [5] (kindOf a) (text a)).length ∧ ∀ n, catL s (Ra s e) (n + k) (Ra s e i) = catL s (Ra s e) n (toT a, i + (inBr [5] (kindOf a) (text a)).length, 0) := by
        by_cases hc : ([5] : List Int).contains (kindOf a) = true
        · obtain ⟨k, hk, e0⟩ := cat_of (iha.part (ks := [5]) (fun h => absurd hc h) hda hl (by omega) hfb.1)
          exact ⟨k, by omega, e0⟩
        · have hfn := hfb.1
          have h3a := h3
          rw [inBr_no hc] at hl hfn h3a ⊢
          exact iha.ct (by simp at hc; omega) e i (by omega) hl (by omega) hfn
      have hb := ihb.part (ks := [5, 4]) (fun h => by simp at h; omega) hdb hr h3 h4
      refine ⟨k + 1, ?_, fun n => ?_⟩
      · obtain ⟨y, m, ey, -⟩ := inBr_first (ks := [5, 4]) (k := kindOf b) (text_first b)
        rw [ey]; simp only [List.length_cons]; omega
      · rw [show n + (k + 1) = n + 1 + k by omega, e0, catL, if_neg (by simp), if_neg (by rw [hfb.2]; simp)]
        simp only []
        rw [hb, toT, Nat.add_assoc]
    refine ⟨fun h => absurd rfl h, fun _ => hct, fun e i h1 h2 h3 hce => ⟨0, by omega, fun n => ?_⟩⟩
    rw [cat_done (hct e i h1 h2 h3 (end_no hce)) (by omega) hce]; rfl
  | .alt a b, hg => by
    have iha := back s a hg.1
    have ihb := back s b hg.2
    refine ⟨fun _ h => absurd rfl h, fun h => absurd rfl h, fun e i h1 h2 h3 hce => ?_⟩
    have hda : a.deep ≤ e := by simp only [E.deep] at h1; omega
    have hdb : b.deep ≤ e := by simp only [E.deep] at h1; omega
    rw [text] at h2 h3 hce ⊢
    have hl := h2.left.left
    have e124 : bt s (i + (text a).length) = 124 := At.first (m := []) h2.left.right
    have hr := h2.right
    simp only [List.length_append, List.length_cons, List.length_nil, Nat.zero_add] at h3 hce hr ⊢
    have hea : catEnd s (i + (text a).length) = true := by unfold catEnd; simp [e124]
    obtain ⟨k, hk, e0⟩ := iha.al e i (by omega) hl (by omega) hea
    have hj : i + ((text a).length + 1) = i + (text a).length + 1 := by omega
    rw [hj] at hr
    have hj2 : i + ((text a).length + 1 + (inBr [5] (kindOf b) (text b)).length) = i + (text a).length + 1 + (inBr [5] (kindOf b) (text b)).length := by omega
    rw [hj2] at h3 hce ⊢
    have hb : Ca s e (i + (text a).length + 1) = (toT b, i + (text a).length + 1 + (inBr [5] (kindOf b) (text b)).length, 0) := by
      by_cases hc : ([5] : List Int).contains (kindOf b) = true
      · exact cat_done (cat_of (ihb.part (ks := [5]) (fun h => absurd hc h) hdb hr h3 (end_no hce))) (by omega) hce
      · rw [inBr_no hc] at hr hce h3 ⊢
        exact cat_done (ihb.ct (by simp at hc; omega) e _ (by omega) hr h3 (end_no hce)) (by omega) hce
    refine ⟨k + 1, by omega, fun n => ?_⟩
    rw [show n + (k + 1) = n + 1 + k by omega, e0, altL, if_neg (by simp), if_pos e124, hb, toT]
/-- What is written is read as the tree that it was. -/
theorem read_back (s : ByteArray) (x : E) (hg : Good x) (hd : x.deep ≤ 30) (hs : s.data.toList = text x) : altN s 30 0 = (toT x, s.size, 0) := by
  have hsz : s.size = (text x).length := by rw [← hs]; rfl
  have hat : At s 0 (text x) := fun k hk => by
    have hk2 : k < s.size := by omega
    unfold bt
    rw [Nat.zero_add, dif_pos hk2]
    have : (text x)[k] = s.data.toList[k]'(by rw [hs]; exact hk) := by simp only [hs]
    rw [this]; rfl
  have := (back s x hg).all (e := 29) (i := 0) (by omega) hat (by omega) (Or.inl (by omega))
  rw [this, Nat.zero_add, hsz]
end Go.Proofs.Ythloedfiomfnbaa
