/-
  What lexer.Lex answers of pushkeep.abc; tokens stand one behind the other.
-/
import Derived.Test.YtlmlkpdppkgenaaWAb
import Derived.Test.YtlmlkpdppkgenaaWKc
namespace Go.Proofs.Ytlmlkpdppkgenaa
open Go.RowKit
open Cls Po Rex Dm

def abR' : Nat → Nat → Int := fun i j => if i < 5 ∧ j < 256 then abR i j else 0
theorem ab_all : Pk.Dfa.all abR' abG [97, 32, 97, 98] = ([(0, 0, 1), (2, 1, 2), (1, 2, 4)], none) := by decide +kernel
theorem ab_RR : Pk.RR 5 (Pk.ofp 5 abR) (fun i t => abR i ((Pk.fsts 5 abR 256).getD t 0)) = abR' := by
  funext i j
  unfold Pk.RR abR'
  by_cases h : i < 5 ∧ j < 256
  · rw [if_pos h, if_pos h]; exact (Pk.ofp_at 5 abR h.2).2 i h.1
  · rw [if_neg h, if_neg h]
/-- Tokens in memory. -/
def Tks (W : World) (v : Value) (fs : List (Int × Nat × Nat)) : Prop :=
  ∃ ao cap, v = .slice ao fs.length cap ∧ (fs = [] ∨ ∃ g, ao = some ⟨g, 0, none⟩ ∧ g < W.heap.size ∧ ∀ i (hi : i < fs.length), W.cell? ⟨g, i * 3, none⟩ = some (.int .i64 fs[i].1) ∧ W.cell? ⟨g, i * 3 + 1, none⟩ = some (.int .i64 (fs[i].2.1 : Int)) ∧ W.cell? ⟨g, i * 3 + 2, none⟩ = some (.int .i64 (fs[i].2.2 : Int)))
theorem tks_own {W : World} {B : Nat} {v : Value} {fs : List (Int × Nat × Nat)} (h : W.ownsRow B 60 3 v fs.length (Pk.tcs fs)) : Tks W v fs := by
  obtain ⟨hl, ⟨h1, h2⟩ | ⟨g, cap, cur, hv, hg, hh, hn, hc, hs, ht⟩⟩ := h
  · exact ⟨none, 0, by rw [h1, h2], Or.inl (List.length_eq_zero_iff.1 h2)⟩
  · refine ⟨_, cap, hv, Or.inr ⟨g, rfl, (Array.getElem?_eq_some_iff.1 hh).1, fun i hi => ?_⟩⟩
    have hat := Pk.tcs_at fs i hi
    have hc : ∀ j u, (Pk.tcs fs)[j]? = some u → W.cell? ⟨g, j, none⟩ = some u := fun j u hu => by
      have hj := (List.getElem?_eq_some_iff.1 hu).1
      rw [Pk.tcs_length] at hj
      rw [← ht, List.getElem?_take_of_lt (by omega)] at hu
      have e1 : W.cell? ⟨g, j, none⟩ = cur[j]? := by simp [World.cell?, hh]
      rw [e1]
      simpa using hu
    exact ⟨hc _ _ hat.1, hc _ _ hat.2.1, hc _ _ hat.2.2⟩
theorem Tks.next {W W' : World} {v : Value} {fs : List (Int × Nat × Nat)} (h : Tks W v fs) (hb : Below W.heap.size W W') : Tks W' v fs := by
  obtain ⟨ao, cap, hv, h | ⟨g, h1, h2, h3⟩⟩ := h
  · exact ⟨ao, cap, hv, Or.inl h⟩
  · exact ⟨ao, cap, hv, Or.inr ⟨g, h1, Nat.lt_of_lt_of_le h2 hb.size, fun i hi => ⟨(hb.cell (p := ⟨g, i * 3, none⟩) h2).trans (h3 i hi).1, (hb.cell (p := ⟨g, i * 3 + 1, none⟩) h2).trans (h3 i hi).2.1, (hb.cell (p := ⟨g, i * 3 + 2, none⟩) h2).trans (h3 i hi).2.2⟩⟩⟩
/-- Lex of abc at "a ab". -/
theorem lex_abc {nv tv : Value} (s : ByteArray) (w : World) (hs : s.data.toList = [97, 32, 97, 98]) (hx : Pk.Nx w nv 5 (fun _ => (Pk.fsts 5 abR 256).length) (fun i t => abR i ((Pk.fsts 5 abR 256).getD t 0))) (ht : Pk.Ts w tv 5 abG) (hc : Pk.Dfa.chk 5 5 abR abG = 0) :
    Calls Try.prog 18 #[.agg (Pk.pl (Pk.ofp 5 abR) nv tv).toArray, .string s] w fun e w' => ∃ g cp, e = .returned (.tuple #[.slice (some ⟨g, 0, none⟩) 3 cp, .int .i64 0, .int .i64 0]) ∧ w'.cell? ⟨g, 6, none⟩ = some (.int .i64 1) ∧ Below w.heap.size w w' := by
  have hz : s.size ≤ 2000 := by
    have : s.data.toList.length = s.size := by rw [Array.length_toList]; rfl
    rw [hs] at this
    simp at this; omega
  refine (Pk.lex_ok (Pk.ofp 5 abR) nv tv 5 _ _ abG s w (Pk.ofp_lt 5 abR) hx ht (Pk.pack_right hc) hz).mono fun e w' h => ?_
  obtain ⟨v, rfl, ho, hb⟩ := h
  rw [ab_RR, hs, ab_all] at ho ⊢
  obtain ⟨ao, cap, rfl, h | ⟨g, rfl, h2, h3⟩⟩ := tks_own ho
  · cases h
  · exact ⟨g, cap, rfl, (h3 2 (by simp)).1, hb⟩
/-- One behind the other, from p to q. -/
def ch : Nat → List (Int × Nat × Nat) → Nat → Prop
  | p, [], q => p = q
  | p, t :: l, q => t.2.1 = p ∧ p < t.2.2 ∧ ch t.2.2 l q
def enp (p : Nat) (l : List (Int × Nat × Nat)) : Nat → Nat
  | 0 => p
  | k + 1 => (l.getD k (0, 0, 0)).2.2
theorem enp_cons (p : Nat) (t : Int × Nat × Nat) (l : List (Int × Nat × Nat)) (k : Nat) : enp p (t :: l) (k + 1) = enp t.2.2 l k := by cases k <;> rfl
theorem ch_at : ∀ (l : List (Int × Nat × Nat)) (p q k : Nat) (hk : k < l.length), ch p l q → l[k].2.1 = enp p l k ∧ enp p l k < l[k].2.2
  | [], _, _, _, hk, _ => by simp at hk
  | t :: l, p, q, 0, _, h => ⟨h.1, h.2.1⟩
  | t :: l, p, q, k + 1, hk, h => by
    rw [enp_cons]
    exact ch_at l t.2.2 q k (by simpa using hk) h.2.2
theorem ch_end : ∀ (l : List (Int × Nat × Nat)) (p q : Nat), ch p l q → enp p l l.length = q
  | [], _, _, h => h
  | t :: l, p, q, h => by rw [List.length_cons, enp_cons]; exact ch_end l t.2.2 q h.2.2
theorem ch_le : ∀ (l : List (Int × Nat × Nat)) (p q : Nat), ch p l q → p + l.length ≤ q
  | [], _, _, h => by have : _ = _ := h; simp; omega
  | t :: l, p, q, h => by have := ch_le l t.2.2 q h.2.2; have := h.2.1; simp; omega
theorem ch_to : ∀ (l : List (Int × Nat × Nat)) (p q k : Nat) (hk : k < l.length), ch p l q → l[k].2.2 ≤ q
  | [], _, _, _, hk, _ => by simp at hk
  | t :: l, p, q, 0, _, h => by have := ch_le l t.2.2 q h.2.2; simp; omega
  | t :: l, p, q, k + 1, hk, h => ch_to l t.2.2 q k (by simpa using hk) h.2.2
theorem enp_next (p : Nat) (l : List (Int × Nat × Nat)) (k : Nat) (hk : k < l.length) : enp p l (k + 1) = l[k].2.2 := by
  show (l.getD k (0, 0, 0)).2.2 = _
  rw [List.getD_eq_getElem?_getD, List.getElem?_eq_getElem hk]; rfl
theorem tk_ch (R : Nat → Nat → Int) (T : Nat → Int) (s : List UInt8) : ∀ f p, p ≤ s.length → s.length ≤ p + f → ((Pk.Dfa.tk R T s f p).2 = none ∧ ch p (Pk.Dfa.tk R T s f p).1 s.length) ∨ ∃ q, (Pk.Dfa.tk R T s f p).2 = some q ∧ q < s.length ∧ ch p (Pk.Dfa.tk R T s f p).1 q
  | 0, p, h1, h2 => Or.inl ⟨rfl, by show p = s.length; omega⟩
  | f + 1, p, h1, h2 => by
    by_cases h : s.length ≤ p
    · rw [Pk.Dfa.tk_end h]; exact Or.inl ⟨rfl, by show p = s.length; omega⟩
    · by_cases hz : (Pk.Dfa.lng R T (s.drop p)).2 = 0
      · rw [Pk.Dfa.tk_bad (by omega) h2 hz]; exact Or.inr ⟨p, rfl, by omega, rfl⟩
      · have hl := Pk.Dfa.lng_le R T (s.drop p)
        rw [List.length_drop] at hl
        have ih := tk_ch R T s f (p + (Pk.Dfa.lng R T (s.drop p)).2) (by omega) (by omega)
        rw [Pk.Dfa.tk, if_neg h, if_neg hz]
        rcases ih with ⟨a, b⟩ | ⟨q, a, b, c⟩
        · exact Or.inl ⟨a, rfl, by show p < p + _; omega, b⟩
        · exact Or.inr ⟨q, a, b, rfl, by show p < p + _; omega, c⟩
theorem all_ch (R : Nat → Nat → Int) (T : Nat → Int) (s : List UInt8) : ((Pk.Dfa.all R T s).2 = none ∧ ch 0 (Pk.Dfa.all R T s).1 s.length) ∨ ∃ q, (Pk.Dfa.all R T s).2 = some q ∧ q < s.length ∧ ch 0 (Pk.Dfa.all R T s).1 q := tk_ch R T s s.length 0 (by omega) (by omega)
theorem chkS_nine (n m : Nat) (O L : Nat → Nat) (X : Nat → Nat → Int) (T : Nat → Int) (k : Nat) : Pk.chkS n m O L X T k ≠ 9 := by
  unfold Pk.chkS Pk.Dfa.chkP
  repeat' split
  all_goals omega
end Go.Proofs.Ytlmlkpdppkgenaa
