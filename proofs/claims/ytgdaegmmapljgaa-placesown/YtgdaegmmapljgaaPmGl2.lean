/-
  GLUSHKOV, plainly: two nodes in a row, one of two, a star; every right tree.
-/
import Derived.Test.YtgdaegmmapljgaaPmGl
namespace Go.Proofs.Ytgdaegmmapljgaa.Pm
open Cls

theorem cs_same {l l' : List Cl} {a : Int} {n : Nat} (h : ∀ i, i < n → l'[i]? = l[i]?) (h0 : 0 ≤ a) (ha : a < (n : Int)) (c : UInt8) : Cs l' a c ↔ Cs l a c := by
  unfold Cs; rw [h a.toNat (by omega)]
theorem gl_cat {a b : Rex.E} {s : S} (ho : Ok s) (ha : Gl a s (layX a s).1 (layX a s).2) (hb : Gl b (layX a s).2 (layX b (layX a s).2).1 (layX b (layX a s).2).2) : Gl (.cat a b) s (layX (.cat a b) s).1 (layX (.cat a b) s).2 := by
  have ga := layX_good a s ho
  have gb := layX_good b _ ga.ok
  simp only [layX]
  generalize (layX a s).1 = e1 at ha ga gb hb ⊢
  generalize (layX a s).2 = s1 at ha ga gb hb ⊢
  generalize (layX b s1).1 = e2 at gb hb ⊢
  generalize (layX b s1).2 = s2 at gb hb ⊢
  have a1 := ga.le; have b1 := gb.le
  have hok2 := gb.ok; unfold Ok at hok2
  have hlk : ∀ (i : Nat) y, y ∈ (link e2.first e1.last s2.fol).getD i [] ↔ y ∈ s2.fol.getD i [] ∨ ((i : Int) ∈ e1.last ∧ y ∈ e2.first) := fun i y => link_iff _ _ _ _ _ fun x hx => by have := ga.last x hx; omega
  have f1 : ∀ x y, (s.cls.length : Int) ≤ x → x < (s1.cls.length : Int) → (Fs (link e2.first e1.last s2.fol) x y ↔ Fs s1.fol x y ∨ (x ∈ e1.last ∧ y ∈ e2.first)) := fun x y h1 h2 => by
    unfold Fs; rw [hlk, hb.old x.toNat y (by omega), show ((x.toNat : Nat) : Int) = x by omega]
  have f2 : ∀ x y, (s1.cls.length : Int) ≤ x → (Fs (link e2.first e1.last s2.fol) x y ↔ Fs s2.fol x y) := fun x y h1 => by
    unfold Fs; rw [hlk, show ((x.toNat : Nat) : Int) = x by omega]
    exact ⟨fun h => h.elim id fun h => by have := ga.last x h.1; omega, Or.inl⟩
  have n1 : ∀ x y, (s.cls.length : Int) ≤ x → Fs s1.fol x y → (s.cls.length : Int) ≤ y ∧ y < (s1.cls.length : Int) := fun x y h1 h2 => ha.new x.toNat y (by omega) h2
  have n2 : ∀ x y, (s1.cls.length : Int) ≤ x → Fs s2.fol x y → (s1.cls.length : Int) ≤ y ∧ y < (s2.cls.length : Int) := fun x y h1 h2 => hb.new x.toNat y (by omega) h2
  have c1 : ∀ x c, (s.cls.length : Int) ≤ x → x < (s1.cls.length : Int) → (Cs s2.cls x c ↔ Cs s1.cls x c) := fun x c h1 h2 => cs_same hb.cls (by omega) h2 c
  have fin : ∀ x, x ∈ e1.first → x ∈ (inRow e1 e2).first := fun x hx => by unfold inRow; simp only; split <;> simp [hx]
  have up1 : ∀ {w y}, At (Fs s1.fol) (Cs s1.cls) (· ∈ e1.first) w y → At (Fs (link e2.first e1.last s2.fol)) (Cs s2.cls) (· ∈ (inRow e1 e2).first) w y ∧ ((s.cls.length : Int) ≤ y ∧ y < (s1.cls.length : Int)) := fun h =>
    h.mono (fun x hx => ⟨fin x hx, ga.first x hx⟩) (fun x y hx hy => ⟨(f1 x y hx.1 hx.2).2 (Or.inl hy), n1 x y hx.1 hy⟩) (fun x c hx hc => (c1 x c hx.1 hx.2).2 hc)
  have up2 : e1.empty = true → ∀ {w y}, At (Fs s2.fol) (Cs s2.cls) (· ∈ e2.first) w y → At (Fs (link e2.first e1.last s2.fol)) (Cs s2.cls) (· ∈ (inRow e1 e2).first) w y ∧ (s1.cls.length : Int) ≤ y := fun he _ _ h =>
    h.mono (A := fun x => (s1.cls.length : Int) ≤ x) (fun x hx => ⟨by unfold inRow; simp only [he, if_true]; simp [hx], (gb.first x hx).1⟩) (fun x y hx hy => ⟨(f2 x y hx).2 hy, (n2 x y hx hy).1⟩) (fun _ _ _ h => h)
  have up3 : ∀ {u l}, At (Fs s1.fol) (Cs s1.cls) (· ∈ e1.first) u l → l ∈ e1.last → ∀ {v y}, At (Fs s2.fol) (Cs s2.cls) (· ∈ e2.first) v y → At (Fs (link e2.first e1.last s2.fol)) (Cs s2.cls) (· ∈ (inRow e1 e2).first) (u ++ v) y ∧ (s1.cls.length : Int) ≤ y := fun hu hl v y h => by
    obtain ⟨k1, k2⟩ := up1 hu
    induction h with
    | one hi hc => exact ⟨.snoc k1 ((f1 _ _ k2.1 k2.2).2 (Or.inr ⟨hl, hi⟩)) hc, (gb.first _ hi).1⟩
    | snoc h hf hc ih => rw [← List.append_assoc]; exact ⟨.snoc ih.1 ((f2 _ _ ih.2).2 hf) hc, (n2 _ _ ih.2 hf).1⟩
  have down : ∀ {w y}, At (Fs (link e2.first e1.last s2.fol)) (Cs s2.cls) (· ∈ (inRow e1 e2).first) w y → ((s.cls.length : Int) ≤ y ∧ y < (s1.cls.length : Int) ∧ At (Fs s1.fol) (Cs s1.cls) (· ∈ e1.first) w y) ∨ ((s1.cls.length : Int) ≤ y ∧ ((e1.empty = true ∧ At (Fs s2.fol) (Cs s2.cls) (· ∈ e2.first) w y) ∨ ∃ u v l, w = u ++ v ∧ At (Fs s1.fol) (Cs s1.cls) (· ∈ e1.first) u l ∧ l ∈ e1.last ∧ At (Fs s2.fol) (Cs s2.cls) (· ∈ e2.first) v y)) := fun h => by
    induction h with
    | @one x c hi hc =>
      unfold inRow at hi
      simp only at hi
      have hcase : x ∈ e1.first ∨ (e1.empty = true ∧ x ∈ e2.first) := by
        split at hi
        · rename_i he
          rcases List.mem_append.1 hi with h | h
          · exact Or.inl h
          · exact Or.inr ⟨he, h⟩
        · exact Or.inl hi
      rcases hcase with h | ⟨he, h⟩
      · have := ga.first x h
        exact Or.inl ⟨this.1, this.2, .one h ((c1 x c this.1 this.2).1 hc)⟩
      · exact Or.inr ⟨(gb.first x h).1, Or.inl ⟨he, .one h hc⟩⟩
    | @snoc w x y c h hf hc ih =>
      rcases ih with ⟨h1, h2, h3⟩ | ⟨h1, h2⟩
      · rcases (f1 x y h1 h2).1 hf with h4 | ⟨h4, h5⟩
        · have := n1 x y h1 h4
          exact Or.inl ⟨this.1, this.2, .snoc h3 h4 ((c1 y c this.1 this.2).1 hc)⟩
        · exact Or.inr ⟨(gb.first y h5).1, Or.inr ⟨w, [c], x, rfl, h3, h4, .one h5 hc⟩⟩
      · have h4 := (f2 x y h1).1 hf
        refine Or.inr ⟨(n2 x y h1 h4).1, ?_⟩
        rcases h2 with ⟨he, h5⟩ | ⟨u, v, l, rfl, h5, h6, h7⟩
        · exact Or.inl ⟨he, .snoc h5 h4 hc⟩
        · exact Or.inr ⟨u, v ++ [c], l, by rw [List.append_assoc], h5, h6, .snoc h7 h4 hc⟩
  refine ⟨fun i y hi => ?_, fun i y hi hy => ?_, fun i hi => ?_, ?_, fun w => ?_⟩
  · rw [hlk, hb.old i y (by omega), ha.old i y hi]
    exact ⟨fun h => h.elim id fun h => by have := ga.last _ h.1; omega, Or.inl⟩
  · rcases (hlk i y).1 hy with h | ⟨_, h⟩
    · by_cases e : i < s1.cls.length
      · have := ha.new i y hi ((hb.old i y e).1 h); simp only; omega
      · have := hb.new i y (by omega) h; simp only; omega
    · have := gb.first y h; simp only; omega
  · simp only; rw [hb.cls i (by omega), ha.cls i hi]
  · unfold inRow; simp only [Bool.and_eq_true]; rw [ha.emp, hb.emp, nil_cat]
  · constructor
    · rintro ⟨y, hy, h⟩
      refine ⟨h.ne, ?_⟩
      unfold inRow at hy
      simp only at hy
      have hcase : (e2.empty = true ∧ y ∈ e1.last) ∨ y ∈ e2.last := by
        split at hy
        · rename_i he
          rcases List.mem_append.1 hy with h | h
          · exact Or.inl ⟨he, h⟩
          · exact Or.inr h
        · exact Or.inr hy
      rcases hcase with ⟨he, hl⟩ | hl
      · have hr := ga.last y hl
        rcases down h with ⟨_, _, h3⟩ | ⟨h1, _⟩
        · have := ((ha.lan w).1 ⟨y, hl, h3⟩).2
          exact cat_iff.2 ⟨w, [], by simp, this, hb.emp.1 he⟩
        · omega
      · have hr := gb.last y hl
        rcases down h with ⟨_, h2, _⟩ | ⟨_, ⟨he, h3⟩ | ⟨u, v, l, rfl, h4, h5, h6⟩⟩
        · omega
        · exact cat_iff.2 ⟨[], w, rfl, ha.emp.1 he, ((hb.lan w).1 ⟨y, hl, h3⟩).2⟩
        · exact cat_iff.2 ⟨u, v, rfl, ((ha.lan u).1 ⟨l, h5, h4⟩).2, ((hb.lan v).1 ⟨y, hl, h6⟩).2⟩
    · rintro ⟨hne, h⟩
      obtain ⟨u, v, rfl, hu, hv⟩ := cat_iff.1 h
      have hl2 : ∀ y, y ∈ e2.last → y ∈ (inRow e1 e2).last := fun y hy => by unfold inRow; simp only; split <;> simp [hy]
      by_cases eu : u = []
      · subst eu
        have he := ha.emp.2 hu
        obtain ⟨y, hy, h3⟩ := (hb.lan v).2 ⟨by simpa using hne, hv⟩
        exact ⟨y, hl2 y hy, (up2 he h3).1⟩
      · obtain ⟨l, hl, h3⟩ := (ha.lan u).2 ⟨eu, hu⟩
        by_cases ev : v = []
        · subst ev
          have he := hb.emp.2 hv
          refine ⟨l, by unfold inRow; simp only [he, if_true]; simp [hl], by rw [List.append_nil]; exact (up1 h3).1⟩
        · obtain ⟨y, hy, h4⟩ := (hb.lan v).2 ⟨ev, hv⟩
          exact ⟨y, hl2 y hy, (up3 h3 hl h4).1⟩
theorem gl_alt {a b : Rex.E} {s : S} (ho : Ok s) (ha : Gl a s (layX a s).1 (layX a s).2) (hb : Gl b (layX a s).2 (layX b (layX a s).2).1 (layX b (layX a s).2).2) : Gl (.alt a b) s (layX (.alt a b) s).1 (layX (.alt a b) s).2 := by
  have ga := layX_good a s ho
  have gb := layX_good b _ ga.ok
  simp only [layX]
  generalize (layX a s).1 = e1 at ha ga gb hb ⊢
  generalize (layX a s).2 = s1 at ha ga gb hb ⊢
  generalize (layX b s1).1 = e2 at gb hb ⊢
  generalize (layX b s1).2 = s2 at gb hb ⊢
  have a1 := ga.le; have b1 := gb.le
  have f1 : ∀ x y, (s.cls.length : Int) ≤ x → x < (s1.cls.length : Int) → (Fs s2.fol x y ↔ Fs s1.fol x y) := fun x y h1 h2 => hb.old x.toNat y (by omega)
  have n1 : ∀ x y, (s.cls.length : Int) ≤ x → Fs s1.fol x y → (s.cls.length : Int) ≤ y ∧ y < (s1.cls.length : Int) := fun x y h1 h2 => ha.new x.toNat y (by omega) h2
  have n2 : ∀ x y, (s1.cls.length : Int) ≤ x → Fs s2.fol x y → (s1.cls.length : Int) ≤ y := fun x y h1 h2 => (hb.new x.toNat y (by omega) h2).1
  have c1 : ∀ x c, (s.cls.length : Int) ≤ x → x < (s1.cls.length : Int) → (Cs s2.cls x c ↔ Cs s1.cls x c) := fun x c h1 h2 => cs_same hb.cls (by omega) h2 c
  have up1 : ∀ {w y}, At (Fs s1.fol) (Cs s1.cls) (· ∈ e1.first) w y → At (Fs s2.fol) (Cs s2.cls) (· ∈ e1.first ++ e2.first) w y := fun h =>
    (h.mono (A := fun x => (s.cls.length : Int) ≤ x ∧ x < (s1.cls.length : Int)) (fun x hx => ⟨by simp [hx], ga.first x hx⟩) (fun x y hx hy => ⟨(f1 x y hx.1 hx.2).2 hy, n1 x y hx.1 hy⟩) (fun x c hx hc => (c1 x c hx.1 hx.2).2 hc)).1
  have up2 : ∀ {w y}, At (Fs s2.fol) (Cs s2.cls) (· ∈ e2.first) w y → At (Fs s2.fol) (Cs s2.cls) (· ∈ e1.first ++ e2.first) w y := fun h =>
    (h.mono (A := fun _ => True) (fun x hx => ⟨by simp [hx], trivial⟩) (fun _ _ _ h => ⟨h, trivial⟩) (fun _ _ _ h => h)).1
  have down : ∀ {w y}, At (Fs s2.fol) (Cs s2.cls) (· ∈ e1.first ++ e2.first) w y → ((s.cls.length : Int) ≤ y ∧ y < (s1.cls.length : Int) ∧ At (Fs s1.fol) (Cs s1.cls) (· ∈ e1.first) w y) ∨ ((s1.cls.length : Int) ≤ y ∧ At (Fs s2.fol) (Cs s2.cls) (· ∈ e2.first) w y) := fun h => by
    induction h with
    | @one x c hi hc =>
      rcases List.mem_append.1 hi with h | h
      · have := ga.first x h
        exact Or.inl ⟨this.1, this.2, .one h ((c1 x c this.1 this.2).1 hc)⟩
      · exact Or.inr ⟨(gb.first x h).1, .one h hc⟩
    | @snoc w x y c h hf hc ih =>
      rcases ih with ⟨h1, h2, h3⟩ | ⟨h1, h2⟩
      · have h4 := (f1 x y h1 h2).1 hf
        have := n1 x y h1 h4
        exact Or.inl ⟨this.1, this.2, .snoc h3 h4 ((c1 y c this.1 this.2).1 hc)⟩
      · exact Or.inr ⟨n2 x y h1 hf, .snoc h2 hf hc⟩
  refine ⟨fun i y hi => ?_, fun i y hi hy => ?_, fun i hi => ?_, ?_, fun w => ?_⟩
  · rw [hb.old i y (by omega), ha.old i y hi]
  · by_cases e : i < s1.cls.length
    · have := ha.new i y hi ((hb.old i y e).1 hy); omega
    · have := hb.new i y (by omega) hy; omega
  · rw [hb.cls i (by omega), ha.cls i hi]
  · simp only [Bool.or_eq_true]; rw [ha.emp, hb.emp, alt_iff]
  · constructor
    · rintro ⟨y, hy, h⟩
      refine ⟨h.ne, ?_⟩
      rcases List.mem_append.1 hy with hl | hl
      · have hr := ga.last y hl
        rcases down h with ⟨_, _, h3⟩ | ⟨h1, _⟩
        · exact .altl ((ha.lan w).1 ⟨y, hl, h3⟩).2
        · omega
      · have hr := gb.last y hl
        rcases down h with ⟨_, h2, _⟩ | ⟨_, h3⟩
        · omega
        · exact .altr ((hb.lan w).1 ⟨y, hl, h3⟩).2
    · rintro ⟨hne, h⟩
      rcases alt_iff.1 h with h | h
      · obtain ⟨y, hy, h3⟩ := (ha.lan w).2 ⟨hne, h⟩
        exact ⟨y, by simp [hy], up1 h3⟩
      · obtain ⟨y, hy, h3⟩ := (hb.lan w).2 ⟨hne, h⟩
        exact ⟨y, by simp [hy], up2 h3⟩
theorem gl_star {a : Rex.E} {s : S} (ho : Ok s) (ha : Gl a s (layX a s).1 (layX a s).2) : Gl (.star a) s (layX (.star a) s).1 (layX (.star a) s).2 := by
  have ga := layX_good a s ho
  simp only [layX]
  generalize (layX a s).1 = e1 at ha ga ⊢
  generalize (layX a s).2 = s1 at ha ga ⊢
  have a1 := ga.le
  have hok := ga.ok; unfold Ok at hok
  have hlk : ∀ (i : Nat) y, y ∈ (link e1.first e1.last s1.fol).getD i [] ↔ y ∈ s1.fol.getD i [] ∨ ((i : Int) ∈ e1.last ∧ y ∈ e1.first) := fun i y => link_iff _ _ _ _ _ fun x hx => by have := ga.last x hx; omega
  have f1 : ∀ x y, 0 ≤ x → (Fs (link e1.first e1.last s1.fol) x y ↔ Fs s1.fol x y ∨ (x ∈ e1.last ∧ y ∈ e1.first)) := fun x y h1 => by
    unfold Fs; rw [hlk, show ((x.toNat : Nat) : Int) = x by omega]
  have n1 : ∀ x y, (s.cls.length : Int) ≤ x → Fs s1.fol x y → (s.cls.length : Int) ≤ y ∧ y < (s1.cls.length : Int) := fun x y h1 h2 => ha.new x.toNat y (by omega) h2
  have up1 : ∀ {w y}, At (Fs s1.fol) (Cs s1.cls) (· ∈ e1.first) w y → At (Fs (link e1.first e1.last s1.fol)) (Cs s1.cls) (· ∈ e1.first) w y ∧ (s.cls.length : Int) ≤ y := fun h =>
    h.mono (A := fun x => (s.cls.length : Int) ≤ x) (fun x hx => ⟨hx, (ga.first x hx).1⟩) (fun x y hx hy => ⟨(f1 x y (by omega)).2 (Or.inl hy), (n1 x y hx hy).1⟩) (fun _ _ _ h => h)
  have shift : ∀ {u l}, At (Fs (link e1.first e1.last s1.fol)) (Cs s1.cls) (· ∈ e1.first) u l → l ∈ e1.last → ∀ {v y}, At (Fs (link e1.first e1.last s1.fol)) (Cs s1.cls) (· ∈ e1.first) v y → At (Fs (link e1.first e1.last s1.fol)) (Cs s1.cls) (· ∈ e1.first) (u ++ v) y := fun hu hl v y h => by
    have hr := ga.last _ hl
    induction h with
    | one hi hc => exact .snoc hu ((f1 _ _ (by omega)).2 (Or.inr ⟨hl, hi⟩)) hc
    | snoc h hf hc ih => rw [← List.append_assoc]; exact .snoc ih hf hc
  have down : ∀ {w y}, At (Fs (link e1.first e1.last s1.fol)) (Cs s1.cls) (· ∈ e1.first) w y → (s.cls.length : Int) ≤ y ∧ ∃ u v, w = u ++ v ∧ Rex.M (.star a) u ∧ At (Fs s1.fol) (Cs s1.cls) (· ∈ e1.first) v y := fun h => by
    induction h with
    | @one x c hi hc => exact ⟨(ga.first x hi).1, [], [c], rfl, .star0, .one hi hc⟩
    | @snoc w x y c h hf hc ih =>
      obtain ⟨h0, u, v, rfl, h1, h2⟩ := ih
      rcases (f1 x y (by omega)).1 hf with h4 | ⟨h4, h5⟩
      · exact ⟨(n1 x y h0 h4).1, u, v ++ [c], by rw [List.append_assoc], h1, .snoc h2 h4 hc⟩
      · exact ⟨(ga.first y h5).1, u ++ v, [c], rfl, star_snoc h1 ((ha.lan v).1 ⟨x, h4, h2⟩).2, .one h5 hc⟩
  have star_up : ∀ {u}, Rex.M (.star a) u → ∀ {v y}, At (Fs s1.fol) (Cs s1.cls) (· ∈ e1.first) v y → At (Fs (link e1.first e1.last s1.fol)) (Cs s1.cls) (· ∈ e1.first) (u ++ v) y := fun {u} h => by
    generalize hs : Rex.E.star a = sx at h
    induction h with
    | emp => cases hs
    | byte => cases hs
    | cat => cases hs
    | altl => cases hs
    | altr => cases hs
    | star0 => intro v y h; exact (up1 h).1
    | @starS z p t h1 h2 _ ih2 =>
      cases hs
      intro v y h
      have k := ih2 rfl h
      rw [List.append_assoc]
      by_cases e : p = []
      · subst e; exact k
      · obtain ⟨l, hl, h3⟩ := (ha.lan p).2 ⟨e, h1⟩
        exact shift (up1 h3).1 hl k
  refine ⟨fun i y hi => ?_, fun i y hi hy => ?_, fun i hi => ha.cls i hi, ⟨fun _ => .star0, fun _ => rfl⟩, fun w => ?_⟩
  · rw [hlk, ha.old i y hi]
    exact ⟨fun h => h.elim id fun h => by have := ga.last _ h.1; omega, Or.inl⟩
  · rcases (hlk i y).1 hy with h | ⟨_, h⟩
    · exact ha.new i y hi h
    · exact ga.first y h
  · constructor
    · rintro ⟨y, hy, h⟩
      obtain ⟨_, u, v, rfl, h1, h2⟩ := down h
      exact ⟨h.ne, star_snoc h1 ((ha.lan v).1 ⟨y, hy, h2⟩).2⟩
    · rintro ⟨hne, h⟩
      rcases star_split h with h | ⟨u, v, rfl, h1, h2, h3⟩
      · exact absurd h hne
      · obtain ⟨l, hl, h4⟩ := (ha.lan v).2 ⟨h2, h3⟩
        exact ⟨l, hl, star_up h1 h4⟩
/-- GLUSHKOV: every right tree's places tell its texts. -/
theorem glushkov : ∀ (x : Rex.E) (s : S), Ok s → Gl x s (layX x s).1 (layX x s).2
  | .none, s, ho => gl_leaf ho ⟨fun h => (by cases h), fun h => (by cases h)⟩ fun w _ h => (by cases h)
  | .emp, s, ho => gl_leaf ho ⟨fun _ => .emp, fun _ => rfl⟩ fun w hw h => by cases h; exact hw rfl
  | .byte c, s, ho => gl_byte c s ho
  | .cat a b, s, ho => gl_cat ho (glushkov a s ho) (glushkov b _ (layX_good a s ho).ok)
  | .alt a b, s, ho => gl_alt ho (glushkov a s ho) (glushkov b _ (layX_good a s ho).ok)
  | .star a, s, ho => gl_star ho (glushkov a s ho)
end Go.Proofs.Ytgdaegmmapljgaa.Pm
