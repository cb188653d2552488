/-
  GLUSHKOV, plainly: the places of a right tree tell which texts it matches.
-/
import Derived.Test.YtgdaegmmapljgaaPmX
namespace Go.Proofs.Ytgdaegmmapljgaa.Pm
open Cls

/-- Behind a text one may be at a place. -/
inductive At (F : Int → Int → Prop) (C : Int → UInt8 → Prop) (I : Int → Prop) : List UInt8 → Int → Prop where
  | one {a : Int} {c : UInt8} (h : I a) (hc : C a c) : At F C I [c] a
  | snoc {w : List UInt8} {a y : Int} {c : UInt8} (h : At F C I w a) (hf : F a y) (hc : C y c) : At F C I (w ++ [c]) y
theorem At.ne {F : Int → Int → Prop} {C : Int → UInt8 → Prop} {I : Int → Prop} {w : List UInt8} {y : Int} (h : At F C I w y) : w ≠ [] := by
  cases h with
  | one => simp
  | snoc => simp
theorem At.mono {F F' : Int → Int → Prop} {C C' : Int → UInt8 → Prop} {I I' : Int → Prop} {A : Int → Prop} (hi : ∀ a, I a → I' a ∧ A a) (hf : ∀ a y, A a → F a y → F' a y ∧ A y) (hc : ∀ a c, A a → C a c → C' a c) {w : List UInt8} {y : Int} (h : At F C I w y) : At F' C' I' w y ∧ A y := by
  induction h with
  | one h hcc => exact ⟨.one (hi _ h).1 (hc _ _ (hi _ h).2 hcc), (hi _ h).2⟩
  | snoc h hff hcc ih =>
    obtain ⟨h1, h2⟩ := hf _ _ ih.2 hff
    exact ⟨.snoc ih.1 h1 (hc _ _ h2 hcc), h2⟩
def Fs (f : List (List Int)) (a y : Int) : Prop := y ∈ f.getD a.toNat []
def Cs (l : List Cl) (a : Int) (c : UInt8) : Prop := ∃ k, l[a.toNat]? = some k ∧ mem k c.toNat = true
theorem mem_compact {zs : List Int} {x : Int} (h : x ∈ zs) : x ∈ Go.Lib.compact zs := by
  obtain ⟨j, hj, rfl⟩ := List.getElem_of_mem h
  have hex : ∃ i, i < zs.length ∧ zs[i]? = some zs[j] := ⟨j, hj, List.getElem?_eq_getElem hj⟩
  have hl : ∃ i, (i < zs.length ∧ zs[i]? = some zs[j]) ∧ ∀ m, (m < zs.length ∧ zs[m]? = some zs[j]) → i ≤ m := by
    obtain ⟨i, hi⟩ := hex
    induction i using Nat.strongRecOn with
    | _ i ih =>
      by_cases h : ∃ m, m < i ∧ m < zs.length ∧ zs[m]? = some zs[j]
      · obtain ⟨m, h1, h2⟩ := h
        exact ih m h1 h2
      · exact ⟨i, hi, fun m hm => Nat.le_of_not_lt fun hl => h ⟨m, hl, hm⟩⟩
  obtain ⟨i, ⟨hi, hz⟩, hmin⟩ := hl
  unfold Go.Lib.compact Go.Lib.compactUpTo
  refine List.mem_map.2 ⟨i, List.mem_filter.2 ⟨by simpa using hi, ?_⟩, ?_⟩
  · unfold Go.Lib.keeps
    rw [decide_eq_true_eq]
    by_cases h0 : i = 0
    · exact Or.inl h0
    · right
      intro e
      have e1 : zs.toArray[i]! = zs[i] := by simp [hi]
      have e2 : zs.toArray[i - 1]! = zs[i - 1] := by simp [show i - 1 < zs.length by omega]
      rw [e1, e2] at e
      have h1 : zs[i] = zs[j] := by rw [List.getElem?_eq_getElem hi] at hz; exact Option.some.inj hz
      have := hmin (i - 1) ⟨by omega, by rw [List.getElem?_eq_getElem (by omega), ← e, h1]⟩
      omega
  · have e1 : zs.toArray[i]! = zs[i] := by simp [hi]
    have h1 : zs[i] = zs[j] := by rw [List.getElem?_eq_getElem hi] at hz; exact Option.some.inj hz
    rw [e1, h1]
theorem norm_iff {l : List Int} {x : Int} : x ∈ norm l ↔ x ∈ l := ⟨norm_mem, fun h => mem_compact (by simpa using h)⟩
theorem getD_set (f : List (List Int)) (i : Nat) (v : List Int) (j : Nat) (hi : i < f.length) : (f.set i v).getD j [] = if j = i then v else f.getD j [] := by
  rw [List.getD_eq_getElem?_getD, List.getD_eq_getElem?_getD, List.getElem?_set]
  by_cases e : i = j
  · subst e; rw [if_pos rfl, if_pos hi, if_pos rfl]; rfl
  · rw [if_neg e, if_neg (fun h => e h.symm)]
theorem link_iff (tl : List Int) : ∀ (fr : List Int) (f : List (List Int)) (i : Nat) (y : Int), (∀ x ∈ fr, 0 ≤ x ∧ x.toNat < f.length) → (y ∈ (link tl fr f).getD i [] ↔ y ∈ f.getD i [] ∨ ((i : Int) ∈ fr ∧ y ∈ tl))
  | [], f, i, y, _ => by simp [link]
  | p :: fr, f, i, y, h => by
    have hp := h p (by simp)
    rw [link, link_iff tl fr _ i y (fun x hx => by rw [List.length_set]; exact h x (by simp [hx])), getD_set _ _ _ _ hp.2]
    by_cases e : i = p.toNat
    · subst e
      have e2 : ((p.toNat : Nat) : Int) = p := by omega
      rw [if_pos rfl, norm_iff, List.mem_append, e2]
      simp only [List.mem_cons, true_or, true_and]
      constructor
      · rintro ((h | h) | ⟨_, h⟩)
        · exact Or.inl h
        · exact Or.inr h
        · exact Or.inr h
      · rintro (h | h)
        · exact Or.inl (Or.inl h)
        · exact Or.inl (Or.inr h)
    · rw [if_neg e]
      have e2 : ¬ (i : Int) = p := fun h => e (by omega)
      simp only [List.mem_cons, e2, false_or]
/-- Stars grow at their end, too. -/
theorem star_snoc {x : Rex.E} {u v : List UInt8} (h : Rex.M (.star x) u) (hv : Rex.M x v) : Rex.M (.star x) (u ++ v) := by
  generalize hs : Rex.E.star x = sx at h
  induction h with
  | emp => cases hs
  | byte => cases hs
  | cat => cases hs
  | altl => cases hs
  | altr => cases hs
  | star0 => cases hs; have := Rex.M.starS hv Rex.M.star0; simpa using this
  | starS h1 h2 _ ih2 => cases hs; rw [List.append_assoc]; exact .starS h1 (ih2 rfl)
theorem star_split {x : Rex.E} {w : List UInt8} (h : Rex.M (.star x) w) : w = [] ∨ ∃ u v, w = u ++ v ∧ Rex.M (.star x) u ∧ v ≠ [] ∧ Rex.M x v := by
  generalize hs : Rex.E.star x = sx at h
  induction h with
  | emp => cases hs
  | byte => cases hs
  | cat => cases hs
  | altl => cases hs
  | altr => cases hs
  | star0 => exact Or.inl rfl
  | @starS y s t h1 h2 _ ih2 =>
    cases hs
    rcases ih2 rfl with h | ⟨u, v, h3, h4, h5, h6⟩
    · subst h
      rw [List.append_nil]
      by_cases e : s = []
      · exact Or.inl e
      · exact Or.inr ⟨[], s, rfl, .star0, e, h1⟩
    · exact Or.inr ⟨s ++ u, v, by rw [h3, List.append_assoc], .starS h1 h4, h5, h6⟩
/-- What the places of a right tree are good for. -/
structure Gl (x : Rex.E) (s : S) (e : E) (s' : S) : Prop where
  old : ∀ (i : Nat) y, i < s.cls.length → (y ∈ s'.fol.getD i [] ↔ y ∈ s.fol.getD i [])
  new : ∀ (i : Nat) y, s.cls.length ≤ i → y ∈ s'.fol.getD i [] → (s.cls.length : Int) ≤ y ∧ y < (s'.cls.length : Int)
  cls : ∀ i, i < s.cls.length → s'.cls[i]? = s.cls[i]?
  emp : e.empty = true ↔ Rex.M x []
  lan : ∀ w, (∃ y ∈ e.last, At (Fs s'.fol) (Cs s'.cls) (· ∈ e.first) w y) ↔ w ≠ [] ∧ Rex.M x w
theorem no_at {F : Int → Int → Prop} {C : Int → UInt8 → Prop} {w : List UInt8} {y : Int} (h : At F C (· ∈ ([] : List Int)) w y) : False := by
  induction h with
  | one h _ => simp at h
  | snoc _ _ _ ih => exact ih
theorem nil_cat {a b : Rex.E} : Rex.M (.cat a b) [] ↔ Rex.M a [] ∧ Rex.M b [] := by
  constructor
  · intro h
    generalize hw : ([] : List UInt8) = w at h
    cases h with
    | cat h1 h2 =>
      obtain ⟨rfl, rfl⟩ := List.append_eq_nil_iff.1 hw.symm
      exact ⟨h1, h2⟩
  · rintro ⟨h1, h2⟩; exact .cat h1 h2
theorem cat_iff {a b : Rex.E} {w : List UInt8} : Rex.M (.cat a b) w ↔ ∃ u v, w = u ++ v ∧ Rex.M a u ∧ Rex.M b v := by
  constructor
  · intro h
    cases h with
    | cat h1 h2 => exact ⟨_, _, rfl, h1, h2⟩
  · rintro ⟨u, v, rfl, h1, h2⟩; exact .cat h1 h2
theorem alt_iff {a b : Rex.E} {w : List UInt8} : Rex.M (.alt a b) w ↔ Rex.M a w ∨ Rex.M b w := by
  constructor
  · intro h
    cases h with
    | altl h => exact Or.inl h
    | altr h => exact Or.inr h
  · rintro (h | h)
    · exact .altl h
    · exact .altr h
/-- Two states agree on the places of one of them. -/
theorem At.same {f f' : List (List Int)} {c c' : List Cl} {I : Int → Prop} {n m : Nat} (hI : ∀ a, I a → (n : Int) ≤ a ∧ a < (m : Int)) (hf : ∀ i y, n ≤ i → i < m → (y ∈ f'.getD i [] ↔ y ∈ f.getD i [])) (hn : ∀ i y, n ≤ i → i < m → y ∈ f.getD i [] → (n : Int) ≤ y ∧ y < (m : Int)) (hc : ∀ i, n ≤ i → i < m → c'[i]? = c[i]?) {w : List UInt8} {y : Int} :
    At (Fs f') (Cs c') I w y ↔ At (Fs f) (Cs c) I w y := by
  constructor
  · intro h
    exact (h.mono (A := fun a => (n : Int) ≤ a ∧ a < (m : Int)) (fun a ha => ⟨ha, hI a ha⟩) (fun a y ha hy => by
      have h1 := (hf a.toNat y (by omega) (by omega)).1 hy
      exact ⟨h1, hn a.toNat y (by omega) (by omega) h1⟩) (fun a b ha hb => by
      obtain ⟨k, h1, h2⟩ := hb
      exact ⟨k, by rw [← hc a.toNat (by omega) (by omega)]; exact h1, h2⟩)).1
  · intro h
    exact (h.mono (A := fun a => (n : Int) ≤ a ∧ a < (m : Int)) (fun a ha => ⟨ha, hI a ha⟩) (fun a y ha hy => ⟨(hf a.toNat y (by omega) (by omega)).2 hy, hn a.toNat y (by omega) (by omega) hy⟩) (fun a b ha hb => by
      obtain ⟨k, h1, h2⟩ := hb
      exact ⟨k, by rw [hc a.toNat (by omega) (by omega)]; exact h1, h2⟩)).1
theorem gl_leaf {x : Rex.E} {s : S} {b : Bool} (ho : Ok s) (h1 : b = true ↔ Rex.M x []) (h2 : ∀ w, w ≠ [] → ¬ Rex.M x w) : Gl x s ⟨[], [], b⟩ s :=
  ⟨fun _ _ _ => Iff.rfl, fun i y hi hy => by rw [List.getD_eq_getElem?_getD, List.getElem?_eq_none (by unfold Ok at ho; omega)] at hy; simp at hy, fun _ _ => rfl, h1, fun w => ⟨fun ⟨y, hy, _⟩ => by simp at hy, fun h => absurd h.2 (h2 w h.1)⟩⟩
theorem gl_byte (c : Cl) (s : S) (ho : Ok s) : Gl (.byte c) s (layX (.byte c) s).1 (layX (.byte c) s).2 := by
  unfold Ok at ho
  have hfol : ∀ i, (s.fol ++ [[]]).getD i [] = s.fol.getD i [] := fun i => by
    rw [List.getD_eq_getElem?_getD, List.getD_eq_getElem?_getD]
    rcases Nat.lt_trichotomy i s.fol.length with h | h | h
    · rw [List.getElem?_append_left h]
    · subst h; simp
    · rw [List.getElem?_eq_none (by simp; omega), List.getElem?_eq_none (by omega)]
  refine ⟨fun i y hi => by simp only [layX]; rw [hfol], fun i y hi hy => ?_, fun i hi => by simp only [layX]; rw [List.getElem?_append_left hi], ⟨fun h => by simp [layX] at h, fun h => by cases h⟩, fun w => ?_⟩
  · simp only [layX] at hy
    rw [hfol, List.getD_eq_getElem?_getD, List.getElem?_eq_none (by omega)] at hy; simp at hy
  · simp only [layX]
    have hcs : ∀ b, Cs (s.cls ++ [c]) (s.cls.length : Int) b ↔ mem c b.toNat = true := fun b => by
      unfold Cs; simp
    constructor
    · rintro ⟨y, hy, h⟩
      simp at hy; subst hy
      refine ⟨h.ne, ?_⟩
      generalize hz : (s.cls.length : Int) = z at h
      cases h with
      | one h hc =>
        subst hz
        exact .byte ((hcs _).1 hc)
      | @snoc w a y b h hf hc =>
        exfalso
        have hm := h.mono (A := fun a => a = (s.cls.length : Int)) (F' := fun _ _ => False) (C' := Cs (s.cls ++ [c])) (I' := fun _ => True) (fun a ha => ⟨trivial, by simpa [hz] using ha⟩) (fun a y ha hy => by
          subst ha
          unfold Fs at hy
          rw [hfol, List.getD_eq_getElem?_getD, List.getElem?_eq_none (by simp; omega)] at hy; simp at hy) (fun _ _ _ h => h)
        have := hm.2
        subst this
        unfold Fs at hf
        rw [hfol, List.getD_eq_getElem?_getD, List.getElem?_eq_none (by simp; omega)] at hf; simp at hf
    · rintro ⟨hne, h⟩
      cases h with
      | byte hb => exact ⟨_, by simp, .one (by simp) ((hcs _).2 hb)⟩
end Go.Proofs.Ytgdaegmmapljgaa.Pm
