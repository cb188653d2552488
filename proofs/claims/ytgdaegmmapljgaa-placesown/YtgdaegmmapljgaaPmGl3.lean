/-
  GLUSHKOV, plainly: of rules: those that are done behind a text are those that match it; and what Make makes is a right Posn.
-/
import Derived.Test.YtgdaegmmapljgaaPmGl2
import Derived.Test.YtgdaegmmapljgaaPmMake0
namespace Go.Proofs.Ytgdaegmmapljgaa.Pm
open Cls Po

theorem markL_get (l : List Int) : ∀ (b : List Bool) (i : Nat), i < b.length → (∀ x ∈ l, 0 ≤ x) → ((markL l b).getD i false = true ↔ b.getD i false = true ∨ (i : Int) ∈ l) := by
  induction l with
  | nil => intro b i _ _; simp [markL]
  | cons x l ih =>
    intro b i hi hx
    have h0 := hx x (by simp)
    show (markL l (b.set x.toNat true)).getD i false = true ↔ _
    rw [ih _ i (by simpa using hi) (fun y hy => hx y (by simp [hy]))]
    rw [List.getD_eq_getElem?_getD, List.getD_eq_getElem?_getD, List.getElem?_set]
    by_cases e : x.toNat = i
    · subst e
      have e2 : ((x.toNat : Nat) : Int) = x := by omega
      simp [hi, e2]
    · have e2 : ¬ (i : Int) = x := fun h => e (by omega)
      rw [if_neg e]; simp only [List.mem_cons, e2, false_or]
theorem getD_app_left {α : Type} (l m : List α) (d : α) (i : Nat) (h : i < l.length) : (l ++ m).getD i d = l.getD i d := by
  rw [List.getD_eq_getElem?_getD, List.getD_eq_getElem?_getD, List.getElem?_append_left h]
theorem getD_rep {α : Type} (l : List α) (n : Nat) (v d : α) (i : Nat) (h : l.length ≤ i) (h2 : i < l.length + n) : (l ++ List.replicate n v).getD i d = v := by
  rw [List.getD_eq_getElem?_getD, List.getElem?_append_right h, List.getElem?_replicate, if_pos (by omega)]; rfl
/-- Rising, and within bounds. -/
def Ris (n m : Nat) (l : List Int) : Prop := l.Pairwise (· < ·) ∧ In n m l
theorem Ris.append {n m k : Nat} {l r : List Int} (h : Ris n m l) (h2 : Ris m k r) (hn : n ≤ m) (hk : m ≤ k) : Ris n k (l ++ r) :=
  ⟨List.pairwise_append.2 ⟨h.1, h2.1, fun a ha b hb => by have := h.2 a ha; have := h2.2 b hb; omega⟩, (h.2.mono (Nat.le_refl _) hk).append (h2.2.mono hn (Nat.le_refl _))⟩
theorem Ris.wide {n m n' m' : Nat} {l : List Int} (h : Ris n m l) (h1 : n' ≤ n) (h2 : m ≤ m') : Ris n' m' l := ⟨h.1, h.2.mono h1 h2⟩
theorem layX_rises : ∀ (x : Rex.E) (s : S), Ok s → Ris s.cls.length (layX x s).2.cls.length (layX x s).1.first ∧ Ris s.cls.length (layX x s).2.cls.length (layX x s).1.last
  | .none, s, _ => ⟨⟨List.Pairwise.nil, In.nil _ _⟩, List.Pairwise.nil, In.nil _ _⟩
  | .emp, s, _ => ⟨⟨List.Pairwise.nil, In.nil _ _⟩, List.Pairwise.nil, In.nil _ _⟩
  | .byte c, s, ho => ⟨⟨by simp [layX], (layX_good (.byte c) s ho).first⟩, by simp [layX], (layX_good (.byte c) s ho).last⟩
  | .cat a b, s, ho => by
    have ga := layX_good a s ho
    have gb := layX_good b _ ga.ok
    have ha := layX_rises a s ho
    have hb := layX_rises b _ ga.ok
    simp only [layX, inRow]
    refine ⟨?_, ?_⟩
    · split
      · exact ha.1.append hb.1 ga.le gb.le
      · exact ha.1.wide (Nat.le_refl _) gb.le
    · split
      · exact ha.2.append hb.2 ga.le gb.le
      · exact hb.2.wide ga.le (Nat.le_refl _)
  | .alt a b, s, ho => by
    have ga := layX_good a s ho
    have gb := layX_good b _ ga.ok
    have ha := layX_rises a s ho
    have hb := layX_rises b _ ga.ok
    simp only [layX]
    exact ⟨ha.1.append hb.1 ga.le gb.le, ha.2.append hb.2 ga.le gb.le⟩
  | .star a, s, ho => layX_rises a s ho
/-- All lists rise, and are of places that are there. -/
def Bd (n : Nat) (f : List (List Int)) : Prop := ∀ l ∈ f, Ris 0 n l
theorem Bd.wide {n m : Nat} {f : List (List Int)} (h : Bd n f) (hm : n ≤ m) : Bd m f := fun l hl => (h l hl).wide (Nat.le_refl _) hm
theorem bd_getD {n : Nat} {f : List (List Int)} (h : Bd n f) (i : Nat) : Ris 0 n (f.getD i []) := by
  rw [List.getD_eq_getElem?_getD]
  cases hh : f[i]? with
  | none => exact ⟨List.Pairwise.nil, In.nil _ _⟩
  | some l => exact h l (List.mem_of_getElem? hh)
theorem bd_link {n : Nat} {tl : List Int} (ht : In 0 n tl) : ∀ (fr : List Int) (f : List (List Int)), Bd n f → Bd n (link tl fr f)
  | [], _, h => h
  | p :: fr, f, h => by
    rw [link]
    refine bd_link ht fr _ fun l hl => ?_
    rcases List.mem_or_eq_of_mem_set hl with h1 | rfl
    · exact h l h1
    · refine ⟨compact_rising (sort_pairwise _), fun x hx => ?_⟩
      rcases List.mem_append.1 (norm_mem hx) with h2 | h2
      · exact (bd_getD h _).2 x h2
      · exact ht x h2
theorem layX_bd : ∀ (x : Rex.E) (s : S), Ok s → Bd s.cls.length s.fol → Bd (layX x s).2.cls.length (layX x s).2.fol
  | .none, s, _, h => h
  | .emp, s, _, h => h
  | .byte c, s, _, h => by
    intro l hl
    simp only [layX, List.mem_append, List.mem_singleton] at hl
    rcases hl with hl | rfl
    · exact (h l hl).wide (Nat.le_refl _) (by simp [layX])
    · exact ⟨List.Pairwise.nil, In.nil _ _⟩
  | .cat a b, s, ho, h => by
    have ga := layX_good a s ho
    have gb := layX_good b _ ga.ok
    exact bd_link (gb.first.mono (Nat.zero_le _) (Nat.le_refl _)) _ _ (layX_bd b _ ga.ok (layX_bd a s ho h))
  | .alt a b, s, ho, h => layX_bd b _ (layX_good a s ho).ok (layX_bd a s ho h)
  | .star a, s, ho, h => bd_link ((layX_good a s ho).first.mono (Nat.zero_le _) (Nat.le_refl _)) _ _ (layX_bd a s ho h)
/-- Rules that have been laid. -/
structure RI (xs : List Rex.E) (k : Nat) (p : Po.P) : Prop where
  ok : Ok ⟨p.cls, p.follow⟩
  rl : p.rules.length = p.cls.length
  ll : p.last.length = p.cls.length
  el : p.empty.length = k
  rr : ∀ i, i < p.cls.length → ∃ r : Nat, r < k ∧ p.rules.getD i 0 = (r : Int)
  fi : Ris 0 p.cls.length p.first
  fo : Bd p.cls.length p.follow
  em : ∀ r (h : r < xs.length), r < k → (p.empty.getD r false = true ↔ Rex.M xs[r] [])
  dn : ∀ r (h : r < xs.length), r < k → ∀ w, (∃ y, At (Fs p.follow) (Cs p.cls) (· ∈ p.first) w y ∧ p.rules.getD y.toNat 0 = (r : Int) ∧ p.last.getD y.toNat false = true) ↔ w ≠ [] ∧ Rex.M xs[r] w
theorem ri_zero (xs : List Rex.E) : RI xs 0 p00 :=
  ⟨rfl, rfl, rfl, rfl, fun i hi => by simp [p00] at hi, ⟨List.Pairwise.nil, In.nil _ _⟩, fun l hl => by simp [p00] at hl, fun r _ h => by omega, fun r _ h => by omega⟩
theorem ri_step {xs : List Rex.E} {k : Nat} {p : Po.P} (h : RI xs k p) (hk : k < xs.length) : RI xs (k + 1) (ruleX p (k : Int) xs[k]) := by
  have g := layX_good xs[k] ⟨p.cls, p.follow⟩ h.ok
  have gl := glushkov xs[k] ⟨p.cls, p.follow⟩ h.ok
  have gr := layX_rises xs[k] ⟨p.cls, p.follow⟩ h.ok
  have gb := layX_bd xs[k] ⟨p.cls, p.follow⟩ h.ok h.fo
  have hle := g.le
  unfold ruleX
  generalize (layX xs[k] ⟨p.cls, p.follow⟩).1 = e at g gl gr ⊢
  generalize (layX xs[k] ⟨p.cls, p.follow⟩).2 = s' at g gl gr gb hle ⊢
  simp only at hle
  have hru : ∀ i, i < p.cls.length → (p.rules ++ List.replicate (s'.cls.length - p.cls.length) (k : Int)).getD i 0 = p.rules.getD i 0 := fun i hi => getD_app_left _ _ _ _ (by rw [h.rl]; exact hi)
  have hrn : ∀ i, p.cls.length ≤ i → i < s'.cls.length → (p.rules ++ List.replicate (s'.cls.length - p.cls.length) (k : Int)).getD i 0 = (k : Int) := fun i h1 h2 => getD_rep _ _ _ _ _ (by rw [h.rl]; exact h1) (by rw [h.rl]; omega)
  have hmk : ∀ i, i < s'.cls.length → ((markL e.last (p.last ++ List.replicate (s'.cls.length - p.cls.length) false)).getD i false = true ↔ (i < p.cls.length ∧ p.last.getD i false = true) ∨ (p.cls.length ≤ i ∧ (i : Int) ∈ e.last)) := fun i hi => by
    rw [markL_get _ _ i (by rw [List.length_append, List.length_replicate, h.ll]; omega) (fun x hx => by have := g.last x hx; simp only at this; omega)]
    by_cases e1 : i < p.cls.length
    · rw [getD_app_left _ _ _ _ (by rw [h.ll]; exact e1)]
      constructor
      · rintro (h1 | h1)
        · exact Or.inl ⟨e1, h1⟩
        · have := g.last _ h1; simp only at this; omega
      · rintro (h1 | h1)
        · exact Or.inl h1.2
        · omega
    · rw [getD_rep _ _ _ _ _ (by rw [h.ll]; omega) (by rw [h.ll]; omega)]
      constructor
      · rintro (h1 | h1)
        · cases h1
        · exact Or.inr ⟨by omega, h1⟩
      · rintro (h1 | h1)
        · omega
        · exact Or.inr h1.2
  have fo1 : ∀ x y, 0 ≤ x → x < (p.cls.length : Int) → (Fs s'.fol x y ↔ Fs p.follow x y) := fun x y h0 h1 => gl.old x.toNat y (by simp only; omega)
  have no1 : ∀ x y, Fs p.follow x y → 0 ≤ y ∧ y < (p.cls.length : Int) := fun x y hy => by have := (bd_getD h.fo x.toNat).2 y hy; omega
  have nn : ∀ x y, (p.cls.length : Int) ≤ x → Fs s'.fol x y → (p.cls.length : Int) ≤ y := fun x y h1 h2 => (gl.new x.toNat y (by simp only; omega) h2).1
  have c1 : ∀ x c, 0 ≤ x → x < (p.cls.length : Int) → (Cs s'.cls x c ↔ Cs p.cls x c) := fun x c h0 h1 => cs_same gl.cls h0 h1 c
  have up1 : ∀ {w y}, At (Fs p.follow) (Cs p.cls) (· ∈ p.first) w y → At (Fs s'.fol) (Cs s'.cls) (· ∈ p.first ++ e.first) w y ∧ (0 ≤ y ∧ y < (p.cls.length : Int)) := fun hh =>
    hh.mono (A := fun x => 0 ≤ x ∧ x < (p.cls.length : Int)) (fun x hx => ⟨by simp [hx], by have := h.fi.2 x hx; omega⟩) (fun x y hx hy => ⟨(fo1 x y hx.1 hx.2).2 hy, no1 x y hy⟩) (fun x c hx hc => (c1 x c hx.1 hx.2).2 hc)
  have up2 : ∀ {w y}, At (Fs s'.fol) (Cs s'.cls) (· ∈ e.first) w y → At (Fs s'.fol) (Cs s'.cls) (· ∈ p.first ++ e.first) w y := fun hh =>
    (hh.mono (A := fun _ => True) (fun x hx => ⟨by simp [hx], trivial⟩) (fun _ _ _ h => ⟨h, trivial⟩) (fun _ _ _ h => h)).1
  have down : ∀ {w y}, At (Fs s'.fol) (Cs s'.cls) (· ∈ p.first ++ e.first) w y → (0 ≤ y ∧ y < (p.cls.length : Int) ∧ At (Fs p.follow) (Cs p.cls) (· ∈ p.first) w y) ∨ ((p.cls.length : Int) ≤ y ∧ y < (s'.cls.length : Int) ∧ At (Fs s'.fol) (Cs s'.cls) (· ∈ e.first) w y) := fun hh => by
    induction hh with
    | @one x c hi hc =>
      rcases List.mem_append.1 hi with h1 | h1
      · have := h.fi.2 x h1
        exact Or.inl ⟨by omega, this.2, .one h1 ((c1 x c (by omega) this.2).1 hc)⟩
      · have := g.first x h1
        exact Or.inr ⟨this.1, this.2, .one h1 hc⟩
    | @snoc w x y c hh hf hc ih =>
      rcases ih with ⟨h0, h1, h3⟩ | ⟨h1, h2, h3⟩
      · have h4 := (fo1 x y h0 h1).1 hf
        have := no1 x y h4
        exact Or.inl ⟨this.1, this.2, .snoc h3 h4 ((c1 y c this.1 this.2).1 hc)⟩
      · have := gl.new x.toNat y (by simp only; omega) hf
        exact Or.inr ⟨this.1, this.2, .snoc h3 hf hc⟩
  refine ⟨g.ok, ?_, ?_, ?_, fun i hi => ?_, ?_, gb, fun r hr hr2 => ?_, fun r hr hr2 w => ?_⟩
  · simp only [List.length_append, List.length_replicate, h.rl]; omega
  · simp only; rw [markL_length, List.length_append, List.length_replicate, h.ll]; omega
  · simp [h.el]
  · simp only at hi
    simp only
    by_cases e1 : i < p.cls.length
    · obtain ⟨r, h1, h2⟩ := h.rr i e1
      exact ⟨r, by omega, by rw [hru i e1]; exact h2⟩
    · exact ⟨k, by omega, hrn i (by omega) hi⟩
  · exact h.fi.append gr.1 (Nat.zero_le _) hle
  · simp only
    by_cases e1 : r < k
    · rw [getD_app_left _ _ _ _ (by rw [h.el]; exact e1)]; exact h.em r hr e1
    · obtain rfl : r = k := by omega
      rw [List.getD_eq_getElem?_getD, List.getElem?_append_right (by rw [h.el]; exact Nat.le_refl _), h.el]
      simpa using gl.emp
  · simp only
    by_cases e1 : r < k
    · rw [← h.dn r hr e1 w]
      constructor
      · rintro ⟨y, h1, h2, h3⟩
        rcases down h1 with ⟨h4, h5, h6⟩ | ⟨h4, h5, h6⟩
        · refine ⟨y, h6, by rw [← hru y.toNat (by omega)]; exact h2, ?_⟩
          rcases (hmk y.toNat (by omega)).1 h3 with h7 | h7
          · exact h7.2
          · omega
        · rw [hrn y.toNat (by omega) (by omega)] at h2; omega
      · rintro ⟨y, h1, h2, h3⟩
        obtain ⟨h4, h5, h6⟩ := up1 h1
        exact ⟨y, h4, by rw [hru y.toNat (by omega)]; exact h2, (hmk y.toNat (by omega)).2 (Or.inl ⟨by omega, h3⟩)⟩
    · obtain rfl : r = k := by omega
      rw [← gl.lan w]
      constructor
      · rintro ⟨y, h1, h2, h3⟩
        rcases down h1 with ⟨h4, h5, h6⟩ | ⟨h4, h5, h6⟩
        · obtain ⟨r2, h7, h8⟩ := h.rr y.toNat (by omega)
          rw [hru y.toNat (by omega), h8] at h2; omega
        · refine ⟨y, ?_, h6⟩
          rcases (hmk y.toNat (by omega)).1 h3 with h7 | h7
          · omega
          · have := h7.2; rwa [show ((y.toNat : Nat) : Int) = y by omega] at this
      · rintro ⟨y, h1, h2⟩
        have h3 := g.last y h1
        simp only at h3
        exact ⟨y, up2 h2, hrn y.toNat (by omega) (by omega), (hmk y.toNat (by omega)).2 (Or.inr ⟨by omega, by rw [show ((y.toNat : Nat) : Int) = y by omega]; exact h1⟩)⟩
theorem ri_take (xs : List Rex.E) : ∀ k, k ≤ xs.length → RI xs k (rulesX (xs.take k) 0 p00)
  | 0, _ => ri_zero xs
  | k + 1, hk => by rw [rulesX_take xs k (by omega)]; exact ri_step (ri_take xs k (by omega)) (by omega)
theorem ri_all (xs : List Rex.E) : RI xs xs.length (rulesX xs 0 p00) := by
  have := ri_take xs xs.length (Nat.le_refl _)
  rwa [List.take_length] at this
/-- What Make makes is right. -/
theorem ri_ok {xs : List Rex.E} {p : Po.P} (h : RI xs xs.length p) (h1 : 1 ≤ xs.length) (h2 : xs.length ≤ 20) : Po.ok p = true := by
  rw [ok_iff]
  refine ⟨h.rl, h.ok, h.ll, by rw [h.el]; omega, by rw [h.el]; exact h2, ?_, ?_, ?_⟩
  · rw [List.all_eq_true]
    intro x hx
    obtain ⟨i, hi, rfl⟩ := List.getElem_of_mem hx
    obtain ⟨r, h3, h4⟩ := h.rr i (by rw [← h.rl]; exact hi)
    rw [List.getD_eq_getElem?_getD, List.getElem?_eq_getElem hi] at h4
    simp only [Option.getD_some] at h4
    unfold ruleOk
    rw [h4, h.el]; simp; omega
  · exact (risesFrom_iff _ _ _).2 ⟨fun x hx => by have := h.fi.2 x hx; omega, h.fi.1⟩
  · rw [List.all_eq_true]
    intro l hl
    exact (risesFrom_iff _ _ _).2 ⟨fun x hx => by have := (h.fo l hl).2 x hx; omega, (h.fo l hl).1⟩
theorem hasAt_iff (p : Po.P) (b : UInt8) (x : Nat) : hasAt p b.toNat (x : Int) = true ↔ Cs p.cls (x : Int) b := by
  unfold hasAt Cs
  cases e : p.cls[(x : Int).toNat]? with
  | none => simp
  | some k => simp
theorem atL_iff {xs : List Rex.E} {k : Nat} {p : Po.P} (h : RI xs k p) : ∀ (n : Nat) (w : List UInt8), w.length = n → ∀ x : Int, x ∈ atL p w ↔ At (Fs p.follow) (Cs p.cls) (· ∈ p.first) w x
  | 0, w, hw, x => by
    obtain rfl := List.length_eq_zero_iff.1 hw
    simp only [atL, List.not_mem_nil, false_iff]
    intro hh; exact hh.ne rfl
  | n + 1, w, hw, x => by
    rcases List.eq_nil_or_concat w with rfl | ⟨m, b, rfl⟩
    · simp at hw
    · rw [List.concat_eq_append] at hw ⊢
      have hm : m.length = n := by simpa using hw
      rw [atL_snoc]
      by_cases e : m = []
      · subst e
        rw [if_pos rfl]
        unfold startF
        rw [sel_mem]
        constructor
        · rintro ⟨y, h1, h2, rfl⟩
          simp only [Bool.and_eq_true] at h2
          exact .one (by simpa using h2.1) ((hasAt_iff p b y).1 h2.2)
        · intro hh
          generalize hz : ([] : List UInt8) ++ [b] = z at hh
          cases hh with
          | one hi hc =>
            simp at hz; subst hz
            have := h.fi.2 x hi
            refine ⟨x.toNat, by omega, ?_, by omega⟩
            have e2 : ((x.toNat : Nat) : Int) = x := by omega
            simp only [Bool.and_eq_true]
            exact ⟨by rw [e2]; simpa using hi, (hasAt_iff p b x.toNat).2 (by rw [e2]; exact hc)⟩
          | snoc hh _ _ =>
            have := List.append_inj_left' hz rfl
            exact absurd this.symm hh.ne
      · rw [if_neg e]
        unfold stepF
        rw [sel_mem]
        constructor
        · rintro ⟨y, h1, h2, rfl⟩
          simp only [Bool.and_eq_true] at h2
          unfold behindB at h2
          rw [List.any_eq_true] at h2
          obtain ⟨⟨z, hz, hz2⟩, h3⟩ := h2
          exact .snoc ((atL_iff h n m hm z).1 hz) (by simpa [Fs] using hz2) ((hasAt_iff p b y).1 h3)
        · intro hh
          generalize hz : m ++ [b] = z at hh
          cases hh with
          | one hi hc =>
            exfalso; apply e
            have h5 := congrArg List.length hz
            simp at h5
            exact h5
          | @snoc w' a y c hh hf hc =>
            obtain ⟨rfl, h6⟩ := List.append_inj' hz rfl
            simp at h6; subst h6
            have := (bd_getD h.fo a.toNat).2 x hf
            have e2 : ((x.toNat : Nat) : Int) = x := by omega
            refine ⟨x.toNat, by omega, ?_, by omega⟩
            simp only [Bool.and_eq_true]
            refine ⟨?_, (hasAt_iff p b x.toNat).2 (by rw [e2]; exact hc)⟩
            unfold behindB
            rw [List.any_eq_true]
            exact ⟨a, (atL_iff h n m hm a).2 hh, by rw [e2]; simpa [Fs] using hf⟩
/-- GLUSHKOV: the rules that are done behind a text are those that match it. -/
theorem done_iff {xs : List Rex.E} {p : Po.P} (h : RI xs xs.length p) (w : List UInt8) (i : Nat) (hi : i < xs.length) : doneB p w i = true ↔ Rex.M xs[i] w := by
  unfold doneB
  simp only [Bool.or_eq_true, Bool.and_eq_true, decide_eq_true_eq, List.any_eq_true]
  by_cases e : w = []
  · subst e
    constructor
    · rintro (⟨_, h1⟩ | ⟨y, h1, _⟩)
      · exact (h.em i hi hi).1 h1
      · simp [atL] at h1
    · intro h1; exact Or.inl ⟨rfl, (h.em i hi hi).2 h1⟩
  · have hd := h.dn i hi hi w
    constructor
    · rintro (⟨h1, _⟩ | ⟨y, h1, h2, h3⟩)
      · exact absurd h1 e
      · exact (hd.1 ⟨y, (atL_iff h _ w rfl y).1 h1, h2, h3⟩).2
    · intro h1
      obtain ⟨y, h2, h3, h4⟩ := hd.2 ⟨e, h1⟩
      exact Or.inr ⟨y, (atL_iff h _ w rfl y).2 h2, h3, h4⟩
end Go.Proofs.Ytgdaegmmapljgaa.Pm
