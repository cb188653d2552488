/-
  GLUSHKOV, plainly: the places of a right tree tell which texts it matches. GLUSHKOV, plainly: two nodes in a row, one of two, a star; every right tree. GLUSHKOV, plainly: of rules: those that are done behind a text are those that match it; and what Make makes is a right Posn. The contracts of places.checkBoth, places.Run and places.Rules.
-/
import Derived.Test.YtlmlkpdppkgenaaPmX
import Derived.Test.YtlmlkpdppkgenaaPmMake0
import Derived.Test.YtlmlkpdppkgenaaPoCheck
namespace Go.Proofs.Ytlmlkpdppkgenaa.Pm
open Cls

/-- Behind a text one may be at a place. -/
inductive At (F : Int → Int → Prop) (C : Int → UInt8 → Prop) (I : Int → Prop) : List UInt8 → Int → Prop where
  | one {a : Int} {c : UInt8} (h : I a) (hc : C a c) : At F C I [c] a
  | snoc {w : List UInt8} {a y : Int} {c : UInt8} (h : At F C I w a) (hf : F a y) (hc : C y c) : At F C I (w ++ [c]) y
theorem At.ne {F : Int → Int → Prop} {C : Int → UInt8 → Prop} {I : Int → Prop} {w : List UInt8} {y : Int} (h : At F C I w y) : w ≠ [] := by
  cases h with
  | one => simp
  | snoc => simp
theorem At.mono {F F' : Int → Int → Prop} {C C' : Int → UInt8 → Prop} {I I' : Int → Prop} {A : Int → Prop} (hi : ∀ a, I a → I' a ∧ A a) (hf : ∀ a y, A a → F a y → F' a y ∧ A y) (hc : ∀ a c, A a → C a c → C' a c) {w : List UInt8} {y : Int} (h : At F C I w y) : At F' C' I' w y ∧ A y := by
  induction h with
  | one h hcc => exact ⟨.one (hi _ h).1 (hc _ _ (hi _ h).2 hcc), (hi _ h).2⟩
  | snoc h hff hcc ih =>
    obtain ⟨h1, h2⟩ := hf _ _ ih.2 hff
    exact ⟨.snoc ih.1 h1 (hc _ _ h2 hcc), h2⟩
def Fs (f : List (List Int)) (a y : Int) : Prop := y ∈ f.getD a.toNat []
def Cs (l : List Cl) (a : Int) (c : UInt8) : Prop := ∃ k, l[a.toNat]? = some k ∧ mem k c.toNat = true
theorem mem_compact {zs : List Int} {x : Int} (h : x ∈ zs) : x ∈ Go.Lib.compact zs := by
  obtain ⟨j, hj, rfl⟩ := List.getElem_of_mem h
  have hex : ∃ i, i < zs.length ∧ zs[i]? = some zs[j] := ⟨j, hj, List.getElem?_eq_getElem hj⟩
  have hl : ∃ i, (i < zs.length ∧ zs[i]? = some zs[j]) ∧ ∀ m, (m < zs.length ∧ zs[m]? = some zs[j]) → i ≤ m := by
    obtain ⟨i, hi⟩ := hex
    induction i using Nat.strongRecOn with
    | _ i ih =>
      by_cases h : ∃ m, m < i ∧ m < zs.length ∧ zs[m]? = some zs[j]
      · obtain ⟨m, h1, h2⟩ := h
        exact ih m h1 h2
      · exact ⟨i, hi, fun m hm => Nat.le_of_not_lt fun hl => h ⟨m, hl, hm⟩⟩
  obtain ⟨i, ⟨hi, hz⟩, hmin⟩ := hl
  unfold Go.Lib.compact Go.Lib.compactUpTo
  refine List.mem_map.2 ⟨i, List.mem_filter.2 ⟨by simpa using hi, ?_⟩, ?_⟩
  · unfold Go.Lib.keeps
    rw [decide_eq_true_eq]
    by_cases h0 : i = 0
    · exact Or.inl h0
    · right
      intro e
      have e1 : zs.toArray[i]! = zs[i] := by simp [hi]
      have e2 : zs.toArray[i - 1]! = zs[i - 1] := by simp [show i - 1 < zs.length by omega]
      rw [e1, e2] at e
      have h1 : zs[i] = zs[j] := by rw [List.getElem?_eq_getElem hi] at hz; exact Option.some.inj hz
      have := hmin (i - 1) ⟨by omega, by rw [List.getElem?_eq_getElem (by omega), ← e, h1]⟩
      omega
  · have e1 : zs.toArray[i]! = zs[i] := by simp [hi]
    have h1 : zs[i] = zs[j] := by rw [List.getElem?_eq_getElem hi] at hz; exact Option.some.inj hz
    rw [e1, h1]
theorem norm_iff {l : List Int} {x : Int} : x ∈ norm l ↔ x ∈ l := ⟨norm_mem, fun h => mem_compact (by simpa using h)⟩
theorem getD_set (f : List (List Int)) (i : Nat) (v : List Int) (j : Nat) (hi : i < f.length) : (f.set i v).getD j [] = if j = i then v else f.getD j [] := by
  rw [List.getD_eq_getElem?_getD, List.getD_eq_getElem?_getD, List.getElem?_set]
  by_cases e : i = j
  · subst e; rw [if_pos rfl, if_pos hi, if_pos rfl]; rfl
  · rw [if_neg e, if_neg (fun h => e h.symm)]
theorem link_iff (tl : List Int) : ∀ (fr : List Int) (f : List (List Int)) (i : Nat) (y : Int), (∀ x ∈ fr, 0 ≤ x ∧ x.toNat < f.length) → (y ∈ (link tl fr f).getD i [] ↔ y ∈ f.getD i [] ∨ ((i : Int) ∈ fr ∧ y ∈ tl))
  | [], f, i, y, _ => by simp [link]
  | p :: fr, f, i, y, h => by
    have hp := h p (by simp)
    rw [link, link_iff tl fr _ i y (fun x hx => by rw [List.length_set]; exact h x (by simp [hx])), getD_set _ _ _ _ hp.2]
    by_cases e : i = p.toNat
    · subst e
      have e2 : ((p.toNat : Nat) : Int) = p := by omega
      rw [if_pos rfl, norm_iff, List.mem_append, e2]
      simp only [List.mem_cons, true_or, true_and]
      constructor
      · rintro ((h | h) | ⟨_, h⟩)
        · exact Or.inl h
        · exact Or.inr h
        · exact Or.inr h
      · rintro (h | h)
        · exact Or.inl (Or.inl h)
        · exact Or.inl (Or.inr h)
    · rw [if_neg e]
      have e2 : ¬ (i : Int) = p := fun h => e (by omega)
      simp only [List.mem_cons, e2, false_or]
/-- Stars grow at their end, too. -/
theorem star_snoc {x : Rex.E} {u v : List UInt8} (h : Rex.M (.star x) u) (hv : Rex.M x v) : Rex.M (.star x) (u ++ v) := by
  generalize hs : Rex.E.star x = sx at h
  induction h with
  | emp => cases hs
  | byte => cases hs
  | cat => cases hs
  | altl => cases hs
  | altr => cases hs
  | star0 => cases hs; have := Rex.M.starS hv Rex.M.star0; simpa using this
  | starS h1 h2 _ ih2 => cases hs; rw [List.append_assoc]; exact .starS h1 (ih2 rfl)
theorem star_split {x : Rex.E} {w : List UInt8} (h : Rex.M (.star x) w) : w = [] ∨ ∃ u v, w = u ++ v ∧ Rex.M (.star x) u ∧ v ≠ [] ∧ Rex.M x v := by
  generalize hs : Rex.E.star x = sx at h
  induction h with
  | emp => cases hs
  | byte => cases hs
  | cat => cases hs
  | altl => cases hs
  | altr => cases hs
  | star0 => exact Or.inl rfl
  | @starS y s t h1 h2 _ ih2 =>
    cases hs
    rcases ih2 rfl with h | ⟨u, v, h3, h4, h5, h6⟩
    · subst h
      rw [List.append_nil]
      by_cases e : s = []
      · exact Or.inl e
      · exact Or.inr ⟨[], s, rfl, .star0, e, h1⟩
    · exact Or.inr ⟨s ++ u, v, by rw [h3, List.append_assoc], .starS h1 h4, h5, h6⟩
/-- What the places of a right tree are good for. -/
structure Gl (x : Rex.E) (s : S) (e : E) (s' : S) : Prop where
  old : ∀ (i : Nat) y, i < s.cls.length → (y ∈ s'.fol.getD i [] ↔ y ∈ s.fol.getD i [])
  new : ∀ (i : Nat) y, s.cls.length ≤ i → y ∈ s'.fol.getD i [] → (s.cls.length : Int) ≤ y ∧ y < (s'.cls.length : Int)
  cls : ∀ i, i < s.cls.length → s'.cls[i]? = s.cls[i]?
  emp : e.empty = true ↔ Rex.M x []
  lan : ∀ w, (∃ y ∈ e.last, At (Fs s'.fol) (Cs s'.cls) (· ∈ e.first) w y) ↔ w ≠ [] ∧ Rex.M x w
theorem nil_cat {a b : Rex.E} : Rex.M (.cat a b) [] ↔ Rex.M a [] ∧ Rex.M b [] := by
  constructor
  · intro h
    generalize hw : ([] : List UInt8) = w at h
    cases h with
    | cat h1 h2 =>
      obtain ⟨rfl, rfl⟩ := List.append_eq_nil_iff.1 hw.symm
      exact ⟨h1, h2⟩
  · rintro ⟨h1, h2⟩; exact .cat h1 h2
theorem cat_iff {a b : Rex.E} {w : List UInt8} : Rex.M (.cat a b) w ↔ ∃ u v, w = u ++ v ∧ Rex.M a u ∧ Rex.M b v := by
  constructor
  · intro h
    cases h with
    | cat h1 h2 => exact ⟨_, _, rfl, h1, h2⟩
  · rintro ⟨u, v, rfl, h1, h2⟩; exact .cat h1 h2
theorem alt_iff {a b : Rex.E} {w : List UInt8} : Rex.M (.alt a b) w ↔ Rex.M a w ∨ Rex.M b w := by
  constructor
  · intro h
    cases h with
    | altl h => exact Or.inl h
    | altr h => exact Or.inr h
  · rintro (h | h)
    · exact .altl h
    · exact .altr h
/-- Two states agree on the places of one of them. -/
theorem At.same {f f' : List (List Int)} {c c' : List Cl} {I : Int → Prop} {n m : Nat} (hI : ∀ a, I a → (n : Int) ≤ a ∧ a < (m : Int)) (hf : ∀ i y, n ≤ i → i < m → (y ∈ f'.getD i [] ↔ y ∈ f.getD i [])) (hn : ∀ i y, n ≤ i → i < m → y ∈ f.getD i [] → (n : Int) ≤ y ∧ y < (m : Int)) (hc : ∀ i, n ≤ i → i < m → c'[i]? = c[i]?) {w : List UInt8} {y : Int} :
    At (Fs f') (Cs c') I w y ↔ At (Fs f) (Cs c) I w y := by
  constructor
  · intro h
    exact (h.mono (A := fun a => (n : Int) ≤ a ∧ a < (m : Int)) (fun a ha => ⟨ha, hI a ha⟩) (fun a y ha hy => by
      have h1 := (hf a.toNat y (by omega) (by omega)).1 hy
      exact ⟨h1, hn a.toNat y (by omega) (by omega) h1⟩) (fun a b ha hb => by
      obtain ⟨k, h1, h2⟩ := hb
      exact ⟨k, by rw [← hc a.toNat (by omega) (by omega)]; exact h1, h2⟩)).1
  · intro h
    exact (h.mono (A := fun a => (n : Int) ≤ a ∧ a < (m : Int)) (fun a ha => ⟨ha, hI a ha⟩) (fun a y ha hy => ⟨(hf a.toNat y (by omega) (by omega)).2 hy, hn a.toNat y (by omega) (by omega) hy⟩) (fun a b ha hb => by
      obtain ⟨k, h1, h2⟩ := hb
      exact ⟨k, by rw [hc a.toNat (by omega) (by omega)]; exact h1, h2⟩)).1
theorem gl_leaf {x : Rex.E} {s : S} {b : Bool} (ho : Ok s) (h1 : b = true ↔ Rex.M x []) (h2 : ∀ w, w ≠ [] → ¬ Rex.M x w) : Gl x s ⟨[], [], b⟩ s :=
  ⟨fun _ _ _ => Iff.rfl, fun i y hi hy => by rw [List.getD_eq_getElem?_getD, List.getElem?_eq_none (by unfold Ok at ho; omega)] at hy; simp at hy, fun _ _ => rfl, h1, fun w => ⟨fun ⟨y, hy, _⟩ => by simp at hy, fun h => absurd h.2 (h2 w h.1)⟩⟩
theorem gl_byte (c : Cl) (s : S) (ho : Ok s) : Gl (.byte c) s (layX (.byte c) s).1 (layX (.byte c) s).2 := by
  unfold Ok at ho
  have hfol : ∀ i, (s.fol ++ [[]]).getD i [] = s.fol.getD i [] := fun i => by
    rw [List.getD_eq_getElem?_getD, List.getD_eq_getElem?_getD]
    rcases Nat.lt_trichotomy i s.fol.length with h | h | h
    · rw [List.getElem?_append_left h]
    · subst h; simp
    · rw [List.getElem?_eq_none (by simp; omega), List.getElem?_eq_none (by omega)]
  refine ⟨fun i y hi => by simp only [layX]; rw [hfol], fun i y hi hy => ?_, fun i hi => by simp only [layX]; rw [List.getElem?_append_left hi], ⟨fun h => by simp [layX] at h, fun h => by cases h⟩, fun w => ?_⟩
  · simp only [layX] at hy
    rw [hfol, List.getD_eq_getElem?_getD, List.getElem?_eq_none (by omega)] at hy; simp at hy
  · simp only [layX]
    have hcs : ∀ b, Cs (s.cls ++ [c]) (s.cls.length : Int) b ↔ mem c b.toNat = true := fun b => by
      unfold Cs; simp
    constructor
    · rintro ⟨y, hy, h⟩
      simp at hy; subst hy
      refine ⟨h.ne, ?_⟩
      generalize hz : (s.cls.length : Int) = z at h
      cases h with
      | one h hc =>
        subst hz
        exact .byte ((hcs _).1 hc)
      | @snoc w a y b h hf hc =>
        exfalso
        have hm := h.mono (A := fun a => a = (s.cls.length : Int)) (F' := fun _ _ => False) (C' := Cs (s.cls ++ [c])) (I' := fun _ => True) (fun a ha => ⟨trivial, by simpa [hz] using ha⟩) (fun a y ha hy => by
          subst ha
          unfold Fs at hy
          rw [hfol, List.getD_eq_getElem?_getD, List.getElem?_eq_none (by simp; omega)] at hy; simp at hy) (fun _ _ _ h => h)
        have := hm.2
        subst this
        unfold Fs at hf
        rw [hfol, List.getD_eq_getElem?_getD, List.getElem?_eq_none (by simp; omega)] at hf; simp at hf
    · rintro ⟨hne, h⟩
      cases h with
      | byte hb => exact ⟨_, by simp, .one (by simp) ((hcs _).2 hb)⟩
end Go.Proofs.Ytlmlkpdppkgenaa.Pm

namespace Go.Proofs.Ytlmlkpdppkgenaa.Pm
open Cls

theorem cs_same {l l' : List Cl} {a : Int} {n : Nat} (h : ∀ i, i < n → l'[i]? = l[i]?) (h0 : 0 ≤ a) (ha : a < (n : Int)) (c : UInt8) : Cs l' a c ↔ Cs l a c := by
  unfold Cs; rw [h a.toNat (by omega)]
theorem gl_cat {a b : Rex.E} {s : S} (ho : Ok s) (ha : Gl a s (layX a s).1 (layX a s).2) (hb : Gl b (layX a s).2 (layX b (layX a s).2).1 (layX b (layX a s).2).2) : Gl (.cat a b) s (layX (.cat a b) s).1 (layX (.cat a b) s).2 := by
  have ga := layX_good a s ho
  have gb := layX_good b _ ga.ok
  simp only [layX]
  generalize (layX a s).1 = e1 at ha ga gb hb ⊢
  generalize (layX a s).2 = s1 at ha ga gb hb ⊢
  generalize (layX b s1).1 = e2 at gb hb ⊢
  generalize (layX b s1).2 = s2 at gb hb ⊢
  have a1 := ga.le; have b1 := gb.le
  have hok2 := gb.ok; unfold Ok at hok2
  have hlk : ∀ (i : Nat) y, y ∈ (link e2.first e1.last s2.fol).getD i [] ↔ y ∈ s2.fol.getD i [] ∨ ((i : Int) ∈ e1.last ∧ y ∈ e2.first) := fun i y => link_iff _ _ _ _ _ fun x hx => by have := ga.last x hx; omega
  have f1 : ∀ x y, (s.cls.length : Int) ≤ x → x < (s1.cls.length : Int) → (Fs (link e2.first e1.last s2.fol) x y ↔ Fs s1.fol x y ∨ (x ∈ e1.last ∧ y ∈ e2.first)) := fun x y h1 h2 => by
    unfold Fs; rw [hlk, hb.old x.toNat y (by omega), show ((x.toNat : Nat) : Int) = x by omega]
  have f2 : ∀ x y, (s1.cls.length : Int) ≤ x → (Fs (link e2.first e1.last s2.fol) x y ↔ Fs s2.fol x y) := fun x y h1 => by
    unfold Fs; rw [hlk, show ((x.toNat : Nat) : Int) = x by omega]
    exact ⟨fun h => h.elim id fun h => by have := ga.last x h.1; omega, Or.inl⟩
  have n1 : ∀ x y, (s.cls.length : Int) ≤ x → Fs s1.fol x y → (s.cls.length : Int) ≤ y ∧ y < (s1.cls.length : Int) := fun x y h1 h2 => ha.new x.toNat y (by omega) h2
  have n2 : ∀ x y, (s1.cls.length : Int) ≤ x → Fs s2.fol x y → (s1.cls.length : Int) ≤ y ∧ y < (s2.cls.length : Int) := fun x y h1 h2 => hb.new x.toNat y (by omega) h2
  have c1 : ∀ x c, (s.cls.length : Int) ≤ x → x < (s1.cls.length : Int) → (Cs s2.cls x c ↔ Cs s1.cls x c) := fun x c h1 h2 => cs_same hb.cls (by omega) h2 c
  have fin : ∀ x, x ∈ e1.first → x ∈ (inRow e1 e2).first := fun x hx => by unfold inRow; simp only; split <;> simp [hx]
  have up1 : ∀ {w y}, At (Fs s1.fol) (Cs s1.cls) (· ∈ e1.first) w y → At (Fs (link e2.first e1.last s2.fol)) (Cs s2.cls) (· ∈ (inRow e1 e2).first) w y ∧ ((s.cls.length : Int) ≤ y ∧ y < (s1.cls.length : Int)) := fun h =>
    h.mono (fun x hx => ⟨fin x hx, ga.first x hx⟩) (fun x y hx hy => ⟨(f1 x y hx.1 hx.2).2 (Or.inl hy), n1 x y hx.1 hy⟩) (fun x c hx hc => (c1 x c hx.1 hx.2).2 hc)
  have up2 : e1.empty = true → ∀ {w y}, At (Fs s2.fol) (Cs s2.cls) (· ∈ e2.first) w y → At (Fs (link e2.first e1.last s2.fol)) (Cs s2.cls) (· ∈ (inRow e1 e2).first) w y ∧ (s1.cls.length : Int) ≤ y := fun he _ _ h =>
    h.mono (A := fun x => (s1.cls.length : Int) ≤ x) (fun x hx => ⟨by unfold inRow; simp only [he, if_true]; simp [hx], (gb.first x hx).1⟩) (fun x y hx hy => ⟨(f2 x y hx).2 hy, (n2 x y hx hy).1⟩) (fun _ _ _ h => h)
  have up3 : ∀ {u l}, At (Fs s1.fol) (Cs s1.cls) (· ∈ e1.first) u l → l ∈ e1.last → ∀ {v y}, At (Fs s2.fol) (Cs s2.cls) (· ∈ e2.first) v y → At (Fs (link e2.first e1.last s2.fol)) (Cs s2.cls) (· ∈ (inRow e1 e2).first) (u ++ v) y ∧ (s1.cls.length : Int) ≤ y := fun hu hl v y h => by
    obtain ⟨k1, k2⟩ := up1 hu
    induction h with
    | one hi hc => exact ⟨.snoc k1 ((f1 _ _ k2.1 k2.2).2 (Or.inr ⟨hl, hi⟩)) hc, (gb.first _ hi).1⟩
    | snoc h hf hc ih => rw [← List.append_assoc]; exact ⟨.snoc ih.1 ((f2 _ _ ih.2).2 hf) hc, (n2 _ _ ih.2 hf).1⟩
  have down : ∀ {w y}, At (Fs (link e2.first e1.last s2.fol)) (Cs s2.cls) (· ∈ (inRow e1 e2).first) w y → ((s.cls.length : Int) ≤ y ∧ y < (s1.cls.length : Int) ∧ At (Fs s1.fol) (Cs s1.cls) (· ∈ e1.first) w y) ∨ ((s1.cls.length : Int) ≤ y ∧ ((e1.empty = true ∧ At (Fs s2.fol) (Cs s2.cls) (· ∈ e2.first) w y) ∨ ∃ u v l, w = u ++ v ∧ At (Fs s1.fol) (Cs s1.cls) (· ∈ e1.first) u l ∧ l ∈ e1.last ∧ At (Fs s2.fol) (Cs s2.cls) (· ∈ e2.first) v y)) := fun h => by
    induction h with
    | @one x c hi hc =>
      unfold inRow at hi
      simp only at hi
      have hcase : x ∈ e1.first ∨ (e1.empty = true ∧ x ∈ e2.first) := by
        split at hi
        · rename_i he
          rcases List.mem_append.1 hi with h | h
          · exact Or.inl h
          · exact Or.inr ⟨he, h⟩
        · exact Or.inl hi
      rcases hcase with h | ⟨he, h⟩
      · have := ga.first x h
        exact Or.inl ⟨this.1, this.2, .one h ((c1 x c this.1 this.2).1 hc)⟩
      · exact Or.inr ⟨(gb.first x h).1, Or.inl ⟨he, .one h hc⟩⟩
    | @snoc w x y c h hf hc ih =>
      rcases ih with ⟨h1, h2, h3⟩ | ⟨h1, h2⟩
      · rcases (f1 x y h1 h2).1 hf with h4 | ⟨h4, h5⟩
        · have := n1 x y h1 h4
          exact Or.inl ⟨this.1, this.2, .snoc h3 h4 ((c1 y c this.1 this.2).1 hc)⟩
        · exact Or.inr ⟨(gb.first y h5).1, Or.inr ⟨w, [c], x, rfl, h3, h4, .one h5 hc⟩⟩
      · have h4 := (f2 x y h1).1 hf
        refine Or.inr ⟨(n2 x y h1 h4).1, ?_⟩
        rcases h2 with ⟨he, h5⟩ | ⟨u, v, l, rfl, h5, h6, h7⟩
        · exact Or.inl ⟨he, .snoc h5 h4 hc⟩
        · exact Or.inr ⟨u, v ++ [c], l, by rw [List.append_assoc], h5, h6, .snoc h7 h4 hc⟩
  refine ⟨fun i y hi => ?_, fun i y hi hy => ?_, fun i hi => ?_, ?_, fun w => ?_⟩
  · rw [hlk, hb.old i y (by omega), ha.old i y hi]
    exact ⟨fun h => h.elim id fun h => by have := ga.last _ h.1; omega, Or.inl⟩
  · rcases (hlk i y).1 hy with h | ⟨_, h⟩
    · by_cases e : i < s1.cls.length
      · have := ha.new i y hi ((hb.old i y e).1 h); simp only; omega
      · have := hb.new i y (by omega) h; simp only; omega
    · have := gb.first y h; simp only; omega
  · simp only; rw [hb.cls i (by omega), ha.cls i hi]
  · unfold inRow; simp only [Bool.and_eq_true]; rw [ha.emp, hb.emp, nil_cat]
  · constructor
    · rintro ⟨y, hy, h⟩
      refine ⟨h.ne, ?_⟩
      unfold inRow at hy
      simp only at hy
      have hcase : (e2.empty = true ∧ y ∈ e1.last) ∨ y ∈ e2.last := by
        split at hy
        · rename_i he
          rcases List.mem_append.1 hy with h | h
          · exact Or.inl ⟨he, h⟩
          · exact Or.inr h
        · exact Or.inr hy
      rcases hcase with ⟨he, hl⟩ | hl
      · have hr := ga.last y hl
        rcases down h with ⟨_, _, h3⟩ | ⟨h1, _⟩
        · have := ((ha.lan w).1 ⟨y, hl, h3⟩).2
          exact cat_iff.2 ⟨w, [], by simp, this, hb.emp.1 he⟩
        · omega
      · have hr := gb.last y hl
        rcases down h with ⟨_, h2, _⟩ | ⟨_, ⟨he, h3⟩ | ⟨u, v, l, rfl, h4, h5, h6⟩⟩
        · omega
        · exact cat_iff.2 ⟨[], w, rfl, ha.emp.1 he, ((hb.lan w).1 ⟨y, hl, h3⟩).2⟩
        · exact cat_iff.2 ⟨u, v, rfl, ((ha.lan u).1 ⟨l, h5, h4⟩).2, ((hb.lan v).1 ⟨y, hl, h6⟩).2⟩
    · rintro ⟨hne, h⟩
      obtain ⟨u, v, rfl, hu, hv⟩ := cat_iff.1 h
      have hl2 : ∀ y, y ∈ e2.last → y ∈ (inRow e1 e2).last := fun y hy => by unfold inRow; simp only; split <;> simp [hy]
      by_cases eu : u = []
      · subst eu
        have he := ha.emp.2 hu
        obtain ⟨y, hy, h3⟩ := (hb.lan v).2 ⟨by simpa using hne, hv⟩
        exact ⟨y, hl2 y hy, (up2 he h3).1⟩
      · obtain ⟨l, hl, h3⟩ := (ha.lan u).2 ⟨eu, hu⟩
        by_cases ev : v = []
        · subst ev
          have he := hb.emp.2 hv
          refine ⟨l, by unfold inRow; simp only [he, if_true]; simp [hl], by rw [List.append_nil]; exact (up1 h3).1⟩
        · obtain ⟨y, hy, h4⟩ := (hb.lan v).2 ⟨ev, hv⟩
          exact ⟨y, hl2 y hy, (up3 h3 hl h4).1⟩
theorem gl_alt {a b : Rex.E} {s : S} (ho : Ok s) (ha : Gl a s (layX a s).1 (layX a s).2) (hb : Gl b (layX a s).2 (layX b (layX a s).2).1 (layX b (layX a s).2).2) : Gl (.alt a b) s (layX (.alt a b) s).1 (layX (.alt a b) s).2 := by
  have ga := layX_good a s ho
  have gb := layX_good b _ ga.ok
  simp only [layX]
  generalize (layX a s).1 = e1 at ha ga gb hb ⊢
  generalize (layX a s).2 = s1 at ha ga gb hb ⊢
  generalize (layX b s1).1 = e2 at gb hb ⊢
  generalize (layX b s1).2 = s2 at gb hb ⊢
  have a1 := ga.le; have b1 := gb.le
  have f1 : ∀ x y, (s.cls.length : Int) ≤ x → x < (s1.cls.length : Int) → (Fs s2.fol x y ↔ Fs s1.fol x y) := fun x y h1 h2 => hb.old x.toNat y (by omega)
  have n1 : ∀ x y, (s.cls.length : Int) ≤ x → Fs s1.fol x y → (s.cls.length : Int) ≤ y ∧ y < (s1.cls.length : Int) := fun x y h1 h2 => ha.new x.toNat y (by omega) h2
  have n2 : ∀ x y, (s1.cls.length : Int) ≤ x → Fs s2.fol x y → (s1.cls.length : Int) ≤ y := fun x y h1 h2 => (hb.new x.toNat y (by omega) h2).1
  have c1 : ∀ x c, (s.cls.length : Int) ≤ x → x < (s1.cls.length : Int) → (Cs s2.cls x c ↔ Cs s1.cls x c) := fun x c h1 h2 => cs_same hb.cls (by omega) h2 c
  have up1 : ∀ {w y}, At (Fs s1.fol) (Cs s1.cls) (· ∈ e1.first) w y → At (Fs s2.fol) (Cs s2.cls) (· ∈ e1.first ++ e2.first) w y := fun h =>
    (h.mono (A := fun x => (s.cls.length : Int) ≤ x ∧ x < (s1.cls.length : Int)) (fun x hx => ⟨by simp [hx], ga.first x hx⟩) (fun x y hx hy => ⟨(f1 x y hx.1 hx.2).2 hy, n1 x y hx.1 hy⟩) (fun x c hx hc => (c1 x c hx.1 hx.2).2 hc)).1
  have up2 : ∀ {w y}, At (Fs s2.fol) (Cs s2.cls) (· ∈ e2.first) w y → At (Fs s2.fol) (Cs s2.cls) (· ∈ e1.first ++ e2.first) w y := fun h =>
    (h.mono (A := fun _ => True) (fun x hx => ⟨by simp [hx], trivial⟩) (fun _ _ _ h => ⟨h, trivial⟩) (fun _ _ _ h => h)).1
  have down : ∀ {w y}, At (Fs s2.fol) (Cs s2.cls) (· ∈ e1.first ++ e2.first) w y → ((s.cls.length : Int) ≤ y ∧ y < (s1.cls.length : Int) ∧ At (Fs s1.fol) (Cs s1.cls) (· ∈ e1.first) w y) ∨ ((s1.cls.length : Int) ≤ y ∧ At (Fs s2.fol) (Cs s2.cls) (· ∈ e2.first) w y) := fun h => by
    induction h with
    | @one x c hi hc =>
      rcases List.mem_append.1 hi with h | h
      · have := ga.first x h
        exact Or.inl ⟨this.1, this.2, .one h ((c1 x c this.1 this.2).1 hc)⟩
      · exact Or.inr ⟨(gb.first x h).1, .one h hc⟩
    | @snoc w x y c h hf hc ih =>
      rcases ih with ⟨h1, h2, h3⟩ | ⟨h1, h2⟩
      · have h4 := (f1 x y h1 h2).1 hf
        have := n1 x y h1 h4
        exact Or.inl ⟨this.1, this.2, .snoc h3 h4 ((c1 y c this.1 this.2).1 hc)⟩
      · exact Or.inr ⟨n2 x y h1 hf, .snoc h2 hf hc⟩
  refine ⟨fun i y hi => ?_, fun i y hi hy => ?_, fun i hi => ?_, ?_, fun w => ?_⟩
  · rw [hb.old i y (by omega), ha.old i y hi]
  · by_cases e : i < s1.cls.length
    · have := ha.new i y hi ((hb.old i y e).1 hy); omega
    · have := hb.new i y (by omega) hy; omega
  · rw [hb.cls i (by omega), ha.cls i hi]
  · simp only [Bool.or_eq_true]; rw [ha.emp, hb.emp, alt_iff]
  · constructor
    · rintro ⟨y, hy, h⟩
      refine ⟨h.ne, ?_⟩
      rcases List.mem_append.1 hy with hl | hl
      · have hr := ga.last y hl
        rcases down h with ⟨_, _, h3⟩ | ⟨h1, _⟩
        · exact .altl ((ha.lan w).1 ⟨y, hl, h3⟩).2
        · omega
      · have hr := gb.last y hl
        rcases down h with ⟨_, h2, _⟩ | ⟨_, h3⟩
        · omega
        · exact .altr ((hb.lan w).1 ⟨y, hl, h3⟩).2
    · rintro ⟨hne, h⟩
      rcases alt_iff.1 h with h | h
      · obtain ⟨y, hy, h3⟩ := (ha.lan w).2 ⟨hne, h⟩
        exact ⟨y, by simp [hy], up1 h3⟩
      · obtain ⟨y, hy, h3⟩ := (hb.lan w).2 ⟨hne, h⟩
        exact ⟨y, by simp [hy], up2 h3⟩
theorem gl_star {a : Rex.E} {s : S} (ho : Ok s) (ha : Gl a s (layX a s).1 (layX a s).2) : Gl (.star a) s (layX (.star a) s).1 (layX (.star a) s).2 := by
  have ga := layX_good a s ho
  simp only [layX]
  generalize (layX a s).1 = e1 at ha ga ⊢
  generalize (layX a s).2 = s1 at ha ga ⊢
  have a1 := ga.le
  have hok := ga.ok; unfold Ok at hok
  have hlk : ∀ (i : Nat) y, y ∈ (link e1.first e1.last s1.fol).getD i [] ↔ y ∈ s1.fol.getD i [] ∨ ((i : Int) ∈ e1.last ∧ y ∈ e1.first) := fun i y => link_iff _ _ _ _ _ fun x hx => by have := ga.last x hx; omega
  have f1 : ∀ x y, 0 ≤ x → (Fs (link e1.first e1.last s1.fol) x y ↔ Fs s1.fol x y ∨ (x ∈ e1.last ∧ y ∈ e1.first)) := fun x y h1 => by
    unfold Fs; rw [hlk, show ((x.toNat : Nat) : Int) = x by omega]
  have n1 : ∀ x y, (s.cls.length : Int) ≤ x → Fs s1.fol x y → (s.cls.length : Int) ≤ y ∧ y < (s1.cls.length : Int) := fun x y h1 h2 => ha.new x.toNat y (by omega) h2
  have up1 : ∀ {w y}, At (Fs s1.fol) (Cs s1.cls) (· ∈ e1.first) w y → At (Fs (link e1.first e1.last s1.fol)) (Cs s1.cls) (· ∈ e1.first) w y ∧ (s.cls.length : Int) ≤ y := fun h =>
    h.mono (A := fun x => (s.cls.length : Int) ≤ x) (fun x hx => ⟨hx, (ga.first x hx).1⟩) (fun x y hx hy => ⟨(f1 x y (by omega)).2 (Or.inl hy), (n1 x y hx hy).1⟩) (fun _ _ _ h => h)
  have shift : ∀ {u l}, At (Fs (link e1.first e1.last s1.fol)) (Cs s1.cls) (· ∈ e1.first) u l → l ∈ e1.last → ∀ {v y}, At (Fs (link e1.first e1.last s1.fol)) (Cs s1.cls) (· ∈ e1.first) v y → At (Fs (link e1.first e1.last s1.fol)) (Cs s1.cls) (· ∈ e1.first) (u ++ v) y := fun hu hl v y h => by
    have hr := ga.last _ hl
    induction h with
    | one hi hc => exact .snoc hu ((f1 _ _ (by omega)).2 (Or.inr ⟨hl, hi⟩)) hc
    | snoc h hf hc ih => rw [← List.append_assoc]; exact .snoc ih hf hc
  have down : ∀ {w y}, At (Fs (link e1.first e1.last s1.fol)) (Cs s1.cls) (· ∈ e1.first) w y → (s.cls.length : Int) ≤ y ∧ ∃ u v, w = u ++ v ∧ Rex.M (.star a) u ∧ At (Fs s1.fol) (Cs s1.cls) (· ∈ e1.first) v y := fun h => by
    induction h with
    | @one x c hi hc => exact ⟨(ga.first x hi).1, [], [c], rfl, .star0, .one hi hc⟩
    | @snoc w x y c h hf hc ih =>
      obtain ⟨h0, u, v, rfl, h1, h2⟩ := ih
      rcases (f1 x y (by omega)).1 hf with h4 | ⟨h4, h5⟩
      · exact ⟨(n1 x y h0 h4).1, u, v ++ [c], by rw [List.append_assoc], h1, .snoc h2 h4 hc⟩
      · exact ⟨(ga.first y h5).1, u ++ v, [c], rfl, star_snoc h1 ((ha.lan v).1 ⟨x, h4, h2⟩).2, .one h5 hc⟩
  have star_up : ∀ {u}, Rex.M (.star a) u → ∀ {v y}, At (Fs s1.fol) (Cs s1.cls) (· ∈ e1.first) v y → At (Fs (link e1.first e1.last s1.fol)) (Cs s1.cls) (· ∈ e1.first) (u ++ v) y := fun {u} h => by
    generalize hs : Rex.E.star a = sx at h
    induction h with
    | emp => cases hs
    | byte => cases hs
    | cat => cases hs
    | altl => cases hs
    | altr => cases hs
    | star0 => intro v y h; exact (up1 h).1
    | @starS z p t h1 h2 _ ih2 =>
      cases hs
      intro v y h
      have k := ih2 rfl h
      rw [List.append_assoc]
      by_cases e : p = []
      · subst e; exact k
      · obtain ⟨l, hl, h3⟩ := (ha.lan p).2 ⟨e, h1⟩
        exact shift (up1 h3).1 hl k
  refine ⟨fun i y hi => ?_, fun i y hi hy => ?_, fun i hi => ha.cls i hi, ⟨fun _ => .star0, fun _ => rfl⟩, fun w => ?_⟩
  · rw [hlk, ha.old i y hi]
    exact ⟨fun h => h.elim id fun h => by have := ga.last _ h.1; omega, Or.inl⟩
  · rcases (hlk i y).1 hy with h | ⟨_, h⟩
    · exact ha.new i y hi h
    · exact ga.first y h
  · constructor
    · rintro ⟨y, hy, h⟩
      obtain ⟨_, u, v, rfl, h1, h2⟩ := down h
      exact ⟨h.ne, star_snoc h1 ((ha.lan v).1 ⟨y, hy, h2⟩).2⟩
    · rintro ⟨hne, h⟩
      rcases star_split h with h | ⟨u, v, rfl, h1, h2, h3⟩
      · exact absurd h hne
      · obtain ⟨l, hl, h4⟩ := (ha.lan v).2 ⟨h2, h3⟩
        exact ⟨l, hl, star_up h1 h4⟩
/-- GLUSHKOV: every right tree's places tell its texts. -/
theorem glushkov : ∀ (x : Rex.E) (s : S), Ok s → Gl x s (layX x s).1 (layX x s).2
  | .none, s, ho => gl_leaf ho ⟨fun h => (by cases h), fun h => (by cases h)⟩ fun w _ h => (by cases h)
  | .emp, s, ho => gl_leaf ho ⟨fun _ => .emp, fun _ => rfl⟩ fun w hw h => by cases h; exact hw rfl
  | .byte c, s, ho => gl_byte c s ho
  | .cat a b, s, ho => gl_cat ho (glushkov a s ho) (glushkov b _ (layX_good a s ho).ok)
  | .alt a b, s, ho => gl_alt ho (glushkov a s ho) (glushkov b _ (layX_good a s ho).ok)
  | .star a, s, ho => gl_star ho (glushkov a s ho)
end Go.Proofs.Ytlmlkpdppkgenaa.Pm

namespace Go.Proofs.Ytlmlkpdppkgenaa.Pm
open Cls Po

theorem markL_get (l : List Int) : ∀ (b : List Bool) (i : Nat), i < b.length → (∀ x ∈ l, 0 ≤ x) → ((markL l b).getD i false = true ↔ b.getD i false = true ∨ (i : Int) ∈ l) := by
  induction l with
  | nil => intro b i _ _; simp [markL]
  | cons x l ih =>
    intro b i hi hx
    have h0 := hx x (by simp)
    show (markL l (b.set x.toNat true)).getD i false = true ↔ _
    rw [ih _ i (by simpa using hi) (fun y hy => hx y (by simp [hy]))]
    rw [List.getD_eq_getElem?_getD, List.getD_eq_getElem?_getD, List.getElem?_set]
    by_cases e : x.toNat = i
    · subst e
      have e2 : ((x.toNat : Nat) : Int) = x := by omega
      simp [hi, e2]
    · have e2 : ¬ (i : Int) = x := fun h => e (by omega)
      rw [if_neg e]; simp only [List.mem_cons, e2, false_or]
theorem getD_app_left {α : Type} (l m : List α) (d : α) (i : Nat) (h : i < l.length) : (l ++ m).getD i d = l.getD i d := by
  rw [List.getD_eq_getElem?_getD, List.getD_eq_getElem?_getD, List.getElem?_append_left h]
theorem getD_rep {α : Type} (l : List α) (n : Nat) (v d : α) (i : Nat) (h : l.length ≤ i) (h2 : i < l.length + n) : (l ++ List.replicate n v).getD i d = v := by
  rw [List.getD_eq_getElem?_getD, List.getElem?_append_right h, List.getElem?_replicate, if_pos (by omega)]; rfl
/-- Rising, and within bounds. -/
def Ris (n m : Nat) (l : List Int) : Prop := l.Pairwise (· < ·) ∧ In n m l
theorem Ris.append {n m k : Nat} {l r : List Int} (h : Ris n m l) (h2 : Ris m k r) (hn : n ≤ m) (hk : m ≤ k) : Ris n k (l ++ r) :=
  ⟨List.pairwise_append.2 ⟨h.1, h2.1, fun a ha b hb => by have := h.2 a ha; have := h2.2 b hb; omega⟩, (h.2.mono (Nat.le_refl _) hk).append (h2.2.mono hn (Nat.le_refl _))⟩
theorem Ris.wide {n m n' m' : Nat} {l : List Int} (h : Ris n m l) (h1 : n' ≤ n) (h2 : m ≤ m') : Ris n' m' l := ⟨h.1, h.2.mono h1 h2⟩
theorem layX_rises : ∀ (x : Rex.E) (s : S), Ok s → Ris s.cls.length (layX x s).2.cls.length (layX x s).1.first ∧ Ris s.cls.length (layX x s).2.cls.length (layX x s).1.last
  | .none, s, _ => ⟨⟨List.Pairwise.nil, In.nil _ _⟩, List.Pairwise.nil, In.nil _ _⟩
  | .emp, s, _ => ⟨⟨List.Pairwise.nil, In.nil _ _⟩, List.Pairwise.nil, In.nil _ _⟩
  | .byte c, s, ho => ⟨⟨by simp [layX], (layX_good (.byte c) s ho).first⟩, by simp [layX], (layX_good (.byte c) s ho).last⟩
  | .cat a b, s, ho => by
    have ga := layX_good a s ho
    have gb := layX_good b _ ga.ok
    have ha := layX_rises a s ho
    have hb := layX_rises b _ ga.ok
    simp only [layX, inRow]
    refine ⟨?_, ?_⟩
    · split
      · exact ha.1.append hb.1 ga.le gb.le
      · exact ha.1.wide (Nat.le_refl _) gb.le
    · split
      · exact ha.2.append hb.2 ga.le gb.le
      · exact hb.2.wide ga.le (Nat.le_refl _)
  | .alt a b, s, ho => by
    have ga := layX_good a s ho
    have gb := layX_good b _ ga.ok
    have ha := layX_rises a s ho
    have hb := layX_rises b _ ga.ok
    simp only [layX]
    exact ⟨ha.1.append hb.1 ga.le gb.le, ha.2.append hb.2 ga.le gb.le⟩
  | .star a, s, ho => layX_rises a s ho
/-- All lists rise, and are of places that are there. -/
def Bd (n : Nat) (f : List (List Int)) : Prop := ∀ l ∈ f, Ris 0 n l
theorem Bd.wide {n m : Nat} {f : List (List Int)} (h : Bd n f) (hm : n ≤ m) : Bd m f := fun l hl => (h l hl).wide (Nat.le_refl _) hm
theorem bd_getD {n : Nat} {f : List (List Int)} (h : Bd n f) (i : Nat) : Ris 0 n (f.getD i []) := by
  rw [List.getD_eq_getElem?_getD]
  cases hh : f[i]? with
  | none => exact ⟨List.Pairwise.nil, In.nil _ _⟩
  | some l => exact h l (List.mem_of_getElem? hh)
theorem bd_link {n : Nat} {tl : List Int} (ht : In 0 n tl) : ∀ (fr : List Int) (f : List (List Int)), Bd n f → Bd n (link tl fr f)
  | [], _, h => h
  | p :: fr, f, h => by
    rw [link]
    refine bd_link ht fr _ fun l hl => ?_
    rcases List.mem_or_eq_of_mem_set hl with h1 | rfl
    · exact h l h1
    · refine ⟨compact_rising (sort_pairwise _), fun x hx => ?_⟩
      rcases List.mem_append.1 (norm_mem hx) with h2 | h2
      · exact (bd_getD h _).2 x h2
      · exact ht x h2
theorem layX_bd : ∀ (x : Rex.E) (s : S), Ok s → Bd s.cls.length s.fol → Bd (layX x s).2.cls.length (layX x s).2.fol
  | .none, s, _, h => h
  | .emp, s, _, h => h
  | .byte c, s, _, h => by
    intro l hl
    simp only [layX, List.mem_append, List.mem_singleton] at hl
    rcases hl with hl | rfl
    · exact (h l hl).wide (Nat.le_refl _) (by simp [layX])
    · exact ⟨List.Pairwise.nil, In.nil _ _⟩
  | .cat a b, s, ho, h => by
    have ga := layX_good a s ho
    have gb := layX_good b _ ga.ok
    exact bd_link (gb.first.mono (Nat.zero_le _) (Nat.le_refl _)) _ _ (layX_bd b _ ga.ok (layX_bd a s ho h))
  | .alt a b, s, ho, h => layX_bd b _ (layX_good a s ho).ok (layX_bd a s ho h)
  | .star a, s, ho, h => bd_link ((layX_good a s ho).first.mono (Nat.zero_le _) (Nat.le_refl _)) _ _ (layX_bd a s ho h)
/-- Rules that have been laid. -/
structure RI (xs : List Rex.E) (k : Nat) (p : Po.P) : Prop where
  ok : Ok ⟨p.cls, p.follow⟩
  rl : p.rules.length = p.cls.length
  ll : p.last.length = p.cls.length
  el : p.empty.length = k
  rr : ∀ i, i < p.cls.length → ∃ r : Nat, r < k ∧ p.rules.getD i 0 = (r : Int)
  fi : Ris 0 p.cls.length p.first
  fo : Bd p.cls.length p.follow
  em : ∀ r (h : r < xs.length), r < k → (p.empty.getD r false = true ↔ Rex.M xs[r] [])
  dn : ∀ r (h : r < xs.length), r < k → ∀ w, (∃ y, At (Fs p.follow) (Cs p.cls) (· ∈ p.first) w y ∧ p.rules.getD y.toNat 0 = (r : Int) ∧ p.last.getD y.toNat false = true) ↔ w ≠ [] ∧ Rex.M xs[r] w
theorem ri_zero (xs : List Rex.E) : RI xs 0 p00 :=
  ⟨rfl, rfl, rfl, rfl, fun i hi => by simp [p00] at hi, ⟨List.Pairwise.nil, In.nil _ _⟩, fun l hl => by simp [p00] at hl, fun r _ h => by omega, fun r _ h => by omega⟩
theorem ri_step {xs : List Rex.E} {k : Nat} {p : Po.P} (h : RI xs k p) (hk : k < xs.length) : RI xs (k + 1) (ruleX p (k : Int) xs[k]) := by
  have g := layX_good xs[k] ⟨p.cls, p.follow⟩ h.ok
  have gl := glushkov xs[k] ⟨p.cls, p.follow⟩ h.ok
  have gr := layX_rises xs[k] ⟨p.cls, p.follow⟩ h.ok
  have gb := layX_bd xs[k] ⟨p.cls, p.follow⟩ h.ok h.fo
  have hle := g.le
  unfold ruleX
  generalize (layX xs[k] ⟨p.cls, p.follow⟩).1 = e at g gl gr ⊢
  generalize (layX xs[k] ⟨p.cls, p.follow⟩).2 = s' at g gl gr gb hle ⊢
  simp only at hle
  have hru : ∀ i, i < p.cls.length → (p.rules ++ List.replicate (s'.cls.length - p.cls.length) (k : Int)).getD i 0 = p.rules.getD i 0 := fun i hi => getD_app_left _ _ _ _ (by rw [h.rl]; exact hi)
  have hrn : ∀ i, p.cls.length ≤ i → i < s'.cls.length → (p.rules ++ List.replicate (s'.cls.length - p.cls.length) (k : Int)).getD i 0 = (k : Int) := fun i h1 h2 => getD_rep _ _ _ _ _ (by rw [h.rl]; exact h1) (by rw [h.rl]; omega)
  have hmk : ∀ i, i < s'.cls.length → ((markL e.last (p.last ++ List.replicate (s'.cls.length - p.cls.length) false)).getD i false = true ↔ (i < p.cls.length ∧ p.last.getD i false = true) ∨ (p.cls.length ≤ i ∧ (i : Int) ∈ e.last)) := fun i hi => by
    rw [markL_get _ _ i (by rw [List.length_append, List.length_replicate, h.ll]; omega) (fun x hx => by have := g.last x hx; simp only at this; omega)]
    by_cases e1 : i < p.cls.length
    · rw [getD_app_left _ _ _ _ (by rw [h.ll]; exact e1)]
      constructor
      · rintro (h1 | h1)
        · exact Or.inl ⟨e1, h1⟩
        · have := g.last _ h1; simp only at this; omega
      · rintro (h1 | h1)
        · exact Or.inl h1.2
        · omega
    · rw [getD_rep _ _ _ _ _ (by rw [h.ll]; omega) (by rw [h.ll]; omega)]
      constructor
      · rintro (h1 | h1)
        · cases h1
        · exact Or.inr ⟨by omega, h1⟩
      · rintro (h1 | h1)
        · omega
        · exact Or.inr h1.2
  have fo1 : ∀ x y, 0 ≤ x → x < (p.cls.length : Int) → (Fs s'.fol x y ↔ Fs p.follow x y) := fun x y h0 h1 => gl.old x.toNat y (by simp only; omega)
  have no1 : ∀ x y, Fs p.follow x y → 0 ≤ y ∧ y < (p.cls.length : Int) := fun x y hy => by have := (bd_getD h.fo x.toNat).2 y hy; omega
  have nn : ∀ x y, (p.cls.length : Int) ≤ x → Fs s'.fol x y → (p.cls.length : Int) ≤ y := fun x y h1 h2 => (gl.new x.toNat y (by simp only; omega) h2).1
  have c1 : ∀ x c, 0 ≤ x → x < (p.cls.length : Int) → (Cs s'.cls x c ↔ Cs p.cls x c) := fun x c h0 h1 => cs_same gl.cls h0 h1 c
  have up1 : ∀ {w y}, At (Fs p.follow) (Cs p.cls) (· ∈ p.first) w y → At (Fs s'.fol) (Cs s'.cls) (· ∈ p.first ++ e.first) w y ∧ (0 ≤ y ∧ y < (p.cls.length : Int)) := fun hh =>
    hh.mono (A := fun x => 0 ≤ x ∧ x < (p.cls.length : Int)) (fun x hx => ⟨by simp [hx], by have := h.fi.2 x hx; omega⟩) (fun x y hx hy => ⟨(fo1 x y hx.1 hx.2).2 hy, no1 x y hy⟩) (fun x c hx hc => (c1 x c hx.1 hx.2).2 hc)
  have up2 : ∀ {w y}, At (Fs s'.fol) (Cs s'.cls) (· ∈ e.first) w y → At (Fs s'.fol) (Cs s'.cls) (· ∈ p.first ++ e.first) w y := fun hh =>
    (hh.mono (A := fun _ => True) (fun x hx => ⟨by simp [hx], trivial⟩) (fun _ _ _ h => ⟨h, trivial⟩) (fun _ _ _ h => h)).1
  have down : ∀ {w y}, At (Fs s'.fol) (Cs s'.cls) (· ∈ p.first ++ e.first) w y → (0 ≤ y ∧ y < (p.cls.length : Int) ∧ At (Fs p.follow) (Cs p.cls) (· ∈ p.first) w y) ∨ ((p.cls.length : Int) ≤ y ∧ y < (s'.cls.length : Int) ∧ At (Fs s'.fol) (Cs s'.cls) (· ∈ e.first) w y) := fun hh => by
    induction hh with
    | @one x c hi hc =>
      rcases List.mem_append.1 hi with h1 | h1
      · have := h.fi.2 x h1
        exact Or.inl ⟨by omega, this.2, .one h1 ((c1 x c (by omega) this.2).1 hc)⟩
      · have := g.first x h1
        exact Or.inr ⟨this.1, this.2, .one h1 hc⟩
    | @snoc w x y c hh hf hc ih =>
      rcases ih with ⟨h0, h1, h3⟩ | ⟨h1, h2, h3⟩
      · have h4 := (fo1 x y h0 h1).1 hf
        have := no1 x y h4
        exact Or.inl ⟨this.1, this.2, .snoc h3 h4 ((c1 y c this.1 this.2).1 hc)⟩
      · have := gl.new x.toNat y (by simp only; omega) hf
        exact Or.inr ⟨this.1, this.2, .snoc h3 hf hc⟩
  refine ⟨g.ok, ?_, ?_, ?_, fun i hi => ?_, ?_, gb, fun r hr hr2 => ?_, fun r hr hr2 w => ?_⟩
  · simp only [List.length_append, List.length_replicate, h.rl]; omega
  · simp only; rw [markL_length, List.length_append, List.length_replicate, h.ll]; omega
  · simp [h.el]
  · simp only at hi
    simp only
    by_cases e1 : i < p.cls.length
    · obtain ⟨r, h1, h2⟩ := h.rr i e1
      exact ⟨r, by omega, by rw [hru i e1]; exact h2⟩
    · exact ⟨k, by omega, hrn i (by omega) hi⟩
  · exact h.fi.append gr.1 (Nat.zero_le _) hle
  · simp only
    by_cases e1 : r < k
    · rw [getD_app_left _ _ _ _ (by rw [h.el]; exact e1)]; exact h.em r hr e1
    · obtain rfl : r = k := by omega
      rw [List.getD_eq_getElem?_getD, List.getElem?_append_right (by rw [h.el]; exact Nat.le_refl _), h.el]
      simpa using gl.emp
  · simp only
    by_cases e1 : r < k
    · rw [← h.dn r hr e1 w]
      constructor
      · rintro ⟨y, h1, h2, h3⟩
        rcases down h1 with ⟨h4, h5, h6⟩ | ⟨h4, h5, h6⟩
        · refine ⟨y, h6, by rw [← hru y.toNat (by omega)]; exact h2, ?_⟩
          rcases (hmk y.toNat (by omega)).1 h3 with h7 | h7
          · exact h7.2
          · omega
        · rw [hrn y.toNat (by omega) (by omega)] at h2; omega
      · rintro ⟨y, h1, h2, h3⟩
        obtain ⟨h4, h5, h6⟩ := up1 h1
        exact ⟨y, h4, by rw [hru y.toNat (by omega)]; exact h2, (hmk y.toNat (by omega)).2 (Or.inl ⟨by omega, h3⟩)⟩
    · obtain rfl : r = k := by omega
      rw [← gl.lan w]
      constructor
      · rintro ⟨y, h1, h2, h3⟩
        rcases down h1 with ⟨h4, h5, h6⟩ | ⟨h4, h5, h6⟩
        · obtain ⟨r2, h7, h8⟩ := h.rr y.toNat (by omega)
          rw [hru y.toNat (by omega), h8] at h2; omega
        · refine ⟨y, ?_, h6⟩
          rcases (hmk y.toNat (by omega)).1 h3 with h7 | h7
          · omega
          · have := h7.2; rwa [show ((y.toNat : Nat) : Int) = y by omega] at this
      · rintro ⟨y, h1, h2⟩
        have h3 := g.last y h1
        simp only at h3
        exact ⟨y, up2 h2, hrn y.toNat (by omega) (by omega), (hmk y.toNat (by omega)).2 (Or.inr ⟨by omega, by rw [show ((y.toNat : Nat) : Int) = y by omega]; exact h1⟩)⟩
theorem ri_take (xs : List Rex.E) : ∀ k, k ≤ xs.length → RI xs k (rulesX (xs.take k) 0 p00)
  | 0, _ => ri_zero xs
  | k + 1, hk => by rw [rulesX_take xs k (by omega)]; exact ri_step (ri_take xs k (by omega)) (by omega)
theorem ri_all (xs : List Rex.E) : RI xs xs.length (rulesX xs 0 p00) := by
  have := ri_take xs xs.length (Nat.le_refl _)
  rwa [List.take_length] at this
/-- What Make makes is right. -/
theorem ri_ok {xs : List Rex.E} {p : Po.P} (h : RI xs xs.length p) (h1 : 1 ≤ xs.length) (h2 : xs.length ≤ 20) : Po.ok p = true := by
  rw [ok_iff]
  refine ⟨h.rl, h.ok, h.ll, by rw [h.el]; omega, by rw [h.el]; exact h2, ?_, ?_, ?_⟩
  · rw [List.all_eq_true]
    intro x hx
    obtain ⟨i, hi, rfl⟩ := List.getElem_of_mem hx
    obtain ⟨r, h3, h4⟩ := h.rr i (by rw [← h.rl]; exact hi)
    rw [List.getD_eq_getElem?_getD, List.getElem?_eq_getElem hi] at h4
    simp only [Option.getD_some] at h4
    unfold ruleOk
    rw [h4, h.el]; simp; omega
  · exact (risesFrom_iff _ _ _).2 ⟨fun x hx => by have := h.fi.2 x hx; omega, h.fi.1⟩
  · rw [List.all_eq_true]
    intro l hl
    exact (risesFrom_iff _ _ _).2 ⟨fun x hx => by have := (h.fo l hl).2 x hx; omega, (h.fo l hl).1⟩
end Go.Proofs.Ytlmlkpdppkgenaa.Pm

namespace Go.Proofs.Ytlmlkpdppkgenaa
open Go.RowKit
open Cls Po

end Go.Proofs.Ytlmlkpdppkgenaa
