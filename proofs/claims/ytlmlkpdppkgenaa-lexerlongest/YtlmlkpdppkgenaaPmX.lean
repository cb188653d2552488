/-
  The places of right trees, plainly: what places.Make lays for each, and that it stays within bounds.
-/
import Derived.Test.YtlmlkpdppkgenaaPmNorm
namespace Go.Proofs.Ytlmlkpdppkgenaa.Pm
open Cls

def layX : Rex.E → S → E × S
  | .none, s => (⟨[], [], false⟩, s)
  | .emp, s => (⟨[], [], true⟩, s)
  | .byte c, s => (⟨[(s.cls.length : Int)], [(s.cls.length : Int)], false⟩, ⟨s.cls ++ [c], s.fol ++ [[]]⟩)
  | .cat a b, s => (inRow (layX a s).1 (layX b (layX a s).2).1, ⟨(layX b (layX a s).2).2.cls, link (layX b (layX a s).2).1.first (layX a s).1.last (layX b (layX a s).2).2.fol⟩)
  | .alt a b, s => (⟨(layX a s).1.first ++ (layX b (layX a s).2).1.first, (layX a s).1.last ++ (layX b (layX a s).2).1.last, (layX a s).1.empty || (layX b (layX a s).2).1.empty⟩, (layX b (layX a s).2).2)
  | .star a, s => (⟨(layX a s).1.first, (layX a s).1.last, true⟩, ⟨(layX a s).2.cls, link (layX a s).1.first (layX a s).1.last (layX a s).2.fol⟩)
/-- A node's places are new ones; it adds one at most; its lists are short. -/
structure Gx (n : Nat) (s : S) (e : E) (s' : S) : Prop where
  ok : Ok s'
  le : s.cls.length ≤ s'.cls.length
  few : s'.cls.length ≤ s.cls.length + n
  first : In s.cls.length s'.cls.length e.first
  last : In s.cls.length s'.cls.length e.last
  fl : e.first.length ≤ n
  ll : e.last.length ≤ n
theorem layX_good : ∀ (x : Rex.E) (s : S), Ok s → Gx x.nodes s (layX x s).1 (layX x s).2
  | .none, s, h => ⟨h, Nat.le_refl _, by simp [layX], In.nil _ _, In.nil _ _, by simp [layX], by simp [layX]⟩
  | .emp, s, h => ⟨h, Nat.le_refl _, by simp [layX], In.nil _ _, In.nil _ _, by simp [layX], by simp [layX]⟩
  | .byte c, s, h => by
    refine ⟨by unfold Ok at *; simp [layX]; omega, by simp [layX], by simp [layX, Rex.E.nodes], fun x hx => ?_, fun x hx => ?_, by simp [layX, Rex.E.nodes], by simp [layX, Rex.E.nodes]⟩ <;> · simp [layX] at hx; subst hx; simp [layX]; omega
  | .cat a b, s, h => by
    have ha := layX_good a s h
    have hb := layX_good b _ ha.ok
    have a1 := ha.le; have a2 := ha.few; have b1 := hb.le; have b2 := hb.few
    have a3 := ha.fl; have a4 := ha.ll; have b3 := hb.fl; have b4 := hb.ll
    refine ⟨by unfold Ok; simp only [layX]; rw [link_length]; exact hb.ok, by simp only [layX]; omega, by simp only [layX, Rex.E.nodes]; omega, ?_, ?_, ?_, ?_⟩
    · simp only [layX, inRow]; split
      · exact (ha.first.mono (Nat.le_refl _) b1).append (hb.first.mono a1 (Nat.le_refl _))
      · exact ha.first.mono (Nat.le_refl _) b1
    · simp only [layX, inRow]; split
      · exact (ha.last.mono (Nat.le_refl _) b1).append (hb.last.mono a1 (Nat.le_refl _))
      · exact hb.last.mono a1 (Nat.le_refl _)
    · simp only [layX, inRow, Rex.E.nodes]; split
      · rw [List.length_append]; omega
      · omega
    · simp only [layX, inRow, Rex.E.nodes]; split
      · rw [List.length_append]; omega
      · omega
  | .alt a b, s, h => by
    have ha := layX_good a s h
    have hb := layX_good b _ ha.ok
    have a1 := ha.le; have a2 := ha.few; have b1 := hb.le; have b2 := hb.few
    have a3 := ha.fl; have a4 := ha.ll; have b3 := hb.fl; have b4 := hb.ll
    refine ⟨by simp only [layX]; exact hb.ok, by simp only [layX]; omega, by simp only [layX, Rex.E.nodes]; omega, ?_, ?_, ?_, ?_⟩
    · simp only [layX]; exact (ha.first.mono (Nat.le_refl _) b1).append (hb.first.mono a1 (Nat.le_refl _))
    · simp only [layX]; exact (ha.last.mono (Nat.le_refl _) b1).append (hb.last.mono a1 (Nat.le_refl _))
    · simp only [layX, Rex.E.nodes]; rw [List.length_append]; omega
    · simp only [layX, Rex.E.nodes]; rw [List.length_append]; omega
  | .star a, s, h => by
    have ha := layX_good a s h
    have a1 := ha.le; have a2 := ha.few; have a3 := ha.fl; have a4 := ha.ll
    exact ⟨by unfold Ok; simp only [layX]; rw [link_length]; exact ha.ok, by simp only [layX]; omega, by simp only [layX, Rex.E.nodes]; omega, ha.first, ha.last, by simp only [layX, Rex.E.nodes]; omega, by simp only [layX, Rex.E.nodes]; omega⟩
theorem In.fine {n m N : Nat} {l : List Int} (h : In n m l) (hm : m ≤ N) : ∀ x ∈ l, 0 ≤ x ∧ x < (N : Int) := fun x hx => by have := h x hx; omega
theorem layX_fine {N : Nat} : ∀ (x : Rex.E) (s : S), Ok s → Fine N s.fol → s.cls.length + x.nodes ≤ N → Fine N (layX x s).2.fol
  | .none, s, _, h, _ => h
  | .emp, s, _, h, _ => h
  | .byte c, s, _, h, _ => by
    intro l hl
    simp only [layX, List.mem_append, List.mem_singleton] at hl
    rcases hl with hl | rfl
    · exact h l hl
    · simp
  | .cat a b, s, ho, h, hn => by
    simp only [Rex.E.nodes] at hn
    have ha := layX_good a s ho
    have hb := layX_good b _ ha.ok
    have a2 := ha.few; have b2 := hb.few
    have h1 := layX_fine a s ho h (by omega)
    have h2 := layX_fine b _ ha.ok h1 (by omega)
    exact fine_link (hb.first.fine (by omega)) _ _ h2
  | .alt a b, s, ho, h, hn => by
    simp only [Rex.E.nodes] at hn
    have ha := layX_good a s ho
    have a2 := ha.few
    have h1 := layX_fine a s ho h (by omega)
    exact layX_fine b _ ha.ok h1 (by omega)
  | .star a, s, ho, h, hn => by
    simp only [Rex.E.nodes] at hn
    have ha := layX_good a s ho
    have a2 := ha.few
    have h1 := layX_fine a s ho h (by omega)
    exact fine_link (ha.first.fine (by omega)) _ _ h1
/-- The Posn once more has been laid. -/
def pos (p : Po.P) (s : S) (ru : Int) : Po.P := ⟨s.cls, p.rules ++ List.replicate (s.cls.length - p.cls.length) ru, p.first, s.fol, p.last ++ List.replicate (s.cls.length - p.cls.length) false, p.empty⟩
theorem pos_same (p : Po.P) (ru : Int) : pos p ⟨p.cls, p.follow⟩ ru = p := by simp [pos]
theorem pos_pos (p : Po.P) (s s' : S) (ru : Int) (h1 : p.cls.length ≤ s.cls.length) (h2 : s.cls.length ≤ s'.cls.length) : pos (pos p s ru) s' ru = pos p s' ru := by
  have e : s.cls.length - p.cls.length + (s'.cls.length - s.cls.length) = s'.cls.length - p.cls.length := by omega
  simp only [pos, List.append_assoc, List.replicate_append_replicate, e]
/-- There is room for n more. -/
structure Rdy (p : Po.P) (n : Nat) : Prop where
  ok : Ok ⟨p.cls, p.follow⟩
  ru : p.rules.length = p.cls.length
  la : p.last.length = p.cls.length
  room : p.cls.length + n ≤ 3000
  fine : Fine 3000 p.follow
  fi : p.first.length ≤ 3000
  em : p.empty.length ≤ 3000
theorem Rdy.less {p : Po.P} {n m : Nat} (h : Rdy p n) (hm : m ≤ n) : Rdy p m := ⟨h.ok, h.ru, h.la, by have := h.room; omega, h.fine, h.fi, h.em⟩
theorem Rdy.next {p : Po.P} {n : Nat} {ru : Int} (x : Rex.E) (h : Rdy p (x.nodes + n)) : Rdy (pos p (layX x ⟨p.cls, p.follow⟩).2 ru) n := by
  have hg := layX_good x ⟨p.cls, p.follow⟩ h.ok
  have h1 := hg.le; have h2 := hg.few; have h3 := h.room
  simp only at h1 h2
  refine ⟨hg.ok, ?_, ?_, ?_, layX_fine x _ h.ok h.fine (by simp only; omega), h.fi, h.em⟩
  · simp only [pos, List.length_append, List.length_replicate, h.ru]; omega
  · simp only [pos, List.length_append, List.length_replicate, h.la]; omega
  · simp only [pos]; omega
end Go.Proofs.Ytlmlkpdppkgenaa.Pm
