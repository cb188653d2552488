/-
  small.Apart, whatever automata are handed in; the first text is one and the same from both sides.
-/
import Derived.Test.YtlgcggfenljdnaaApApart
import Derived.Great.BuildSlice
namespace Go.Proofs.Ytlgcggfenljdnaa
open Go.RowKit
open Dfa

theorem told_sym {RA RB : Nat → Nat → Int} {TA TB : Nat → Int} {l l2 : List UInt8} {is is2 : Bool} (h : Told RA RB TA TB l is) (h2 : Told RB RA TB TA l2 is2) : is = is2 ∧ l = l2 := by
  have hs : ∀ v, Df TA TB (pr RA RB v) ↔ Df TB TA (pr RB RA v) := fun v => ⟨fun h e => h e.symm, fun h e => h e.symm⟩
  rcases h with ⟨rfl, h1, h3⟩ | ⟨rfl, rfl, h3⟩
  · rcases h2 with ⟨rfl, k1, k3⟩ | ⟨rfl, rfl, k3⟩
    · have e1 := h3 l2 ((hs l2).2 k1)
      have e2 := k3 l ((hs l).1 h1)
      exact ⟨rfl, key_inj _ l l2 (Nat.le_refl _) (by omega)⟩
    · exact absurd ((hs l).1 h1) (k3 l)
  · rcases h2 with ⟨rfl, k1, k3⟩ | ⟨rfl, rfl, k3⟩
    · exact absurd ((hs l2).2 k1) (h3 l2)
    · exact ⟨rfl, rfl⟩
/-- The answer's error. -/
def both (c d : Int) : Int := if c = 0 then d else c

set_option maxHeartbeats 4000000 in
set_option maxRecDepth 20000 in
theorem apart_any (vA tA vB tB : Value) (n n' m m' : Nat) (RA RB : Nat → Nat → Int) (TA TB : Nat → Int) (w : World) (hA : Rw w vA n RA) (hTA : Ts w tA n' TA) (hB : Rw w vB m RB) (hTB : Ts w tB m' TB) :
    Calls Try.prog 16 #[.agg #[vA, tA], .agg #[vB, tB]] w fun e w' => ∃ s is, e = .returned (.tuple #[.string s, .bool is, .int .i64 (both (chk n n' RA TA) (chk m m' RB TB))]) ∧ (chk n n' RA TA = 0 → chk m m' RB TB = 0 → Told RA RB TA TB s.data.toList is) ∧ (¬ (chk n n' RA TA = 0 ∧ chk m m' RB TB = 0) → s = ⟨#[]⟩ ∧ is = false) ∧ s.size ≤ 50000 ∧ Below w.heap.size w w' := by
  by_cases h1 : chk n n' RA TA = 0
  · by_cases h2 : chk m m' RB TB = 0
    · obtain ⟨-, -, rfl, -⟩ := chk_zero h1
      obtain ⟨-, -, rfl, -⟩ := chk_zero h2
      refine (apart_ok vA tA vB tB _ _ RA RB TA TB w hA hTA hB hTB h1 h2).mono ?_
      rintro _ w' ⟨s, is, rfl, ht, hl, hb⟩
      exact ⟨s, is, by rw [both, if_pos h1, h2], fun _ _ => ht, fun h => absurd ⟨h1, h2⟩ h, hl, hb⟩
    · have HRW : Hid (Rw w vA n RA ∧ Ts w tA n' TA ∧ Rw w vB m RB ∧ Ts w tB m' TB) := ⟨hA, hTA, hB, hTB⟩
      obtain ⟨c, HC⟩ : ∃ c, Hid (chk m m' RB TB = c) := ⟨_, (rfl : _ = _)⟩
      have H1 : Hid (chk n n' RA TA = 0) := h1
      have H2 : Hid (¬ c = 0) := by rw [HC.out] at h2; exact h2
      have hcb : (c != 0) = true := by simp; exact H2.out
      have HBO : Hid (both (chk n n' RA TA) (chk m m' RB TB) = c) := by show _ = _; rw [both, if_pos h1, HC.out]
      have B0 : Below w.heap.size w ((w.alloc (Obj.cells #[vA, tA] 25)).alloc (Obj.cells #[vB, tB] 25)) := ((Below.refl _ _).alloc (Nat.le_refl _) _).alloc (by simp) _
      clear hA hTA hB hTB h1 h2
      rw [HBO.out]
      go_enter Try.func16, Try.ntmps16
      go_wp2_with fail
      have hc := check_any vA tA n n' RA TA _ (HRW.out.1.below B0 (Nat.le_refl _)) (HRW.out.2.1.below B0 (Nat.le_refl _))
      rw [H1.out] at hc
      refine hc.mono ?_
      rintro _ w1 ⟨rfl, hb1⟩
      have B1 : Below w.heap.size w w1 := B0.trans (hb1.mono (by simp; omega))
      have c2 : w1.cell? ⟨w.heap.size + 1, 0, none⟩ = some vB := (hb1.cell (by simp)).trans (by simp)
      have c3 : w1.cell? ⟨w.heap.size + 1, 1, none⟩ = some tB := (hb1.cell (by simp)).trans (by simp)
      clear hb1 hc B0
      go_wp2_with fail
      have hc := check_any vB tB m m' RB TB _ (HRW.out.2.2.1.below B1 (Nat.le_refl _)) (HRW.out.2.2.2.below B1 (Nat.le_refl _))
      rw [HC.out] at hc
      refine hc.mono ?_
      rintro _ w2 ⟨rfl, hb2⟩
      have B2 : Below w.heap.size w w2 := B1.trans (hb2.mono B1.size)
      clear hb2 hc
      go_wp2_with fail
      go_ret3
      exact ⟨⟨#[]⟩, false, rfl, fun _ h => absurd (HC.out.symm.trans h) H2.out, fun _ => ⟨rfl, rfl⟩, by show 0 ≤ 50000; omega, B2⟩
  · have HRW : Hid (Rw w vA n RA ∧ Ts w tA n' TA) := ⟨hA, hTA⟩
    obtain ⟨c, HC⟩ : ∃ c, Hid (chk n n' RA TA = c) := ⟨_, (rfl : _ = _)⟩
    have H2 : Hid (¬ c = 0) := by rw [HC.out] at h1; exact h1
    have hcb : (c != 0) = true := by simp; exact H2.out
    have HBO : Hid (both (chk n n' RA TA) (chk m m' RB TB) = c) := by show _ = _; rw [both, if_neg h1, HC.out]
    have B0 : Below w.heap.size w ((w.alloc (Obj.cells #[vA, tA] 25)).alloc (Obj.cells #[vB, tB] 25)) := ((Below.refl _ _).alloc (Nat.le_refl _) _).alloc (by simp) _
    clear hA hTA hB hTB h1
    rw [HBO.out]
    go_enter Try.func16, Try.ntmps16
    go_wp2_with fail
    have hc := check_any vA tA n n' RA TA _ (HRW.out.1.below B0 (Nat.le_refl _)) (HRW.out.2.below B0 (Nat.le_refl _))
    rw [HC.out] at hc
    refine hc.mono ?_
    rintro _ w1 ⟨rfl, hb1⟩
    have B1 : Below w.heap.size w w1 := B0.trans (hb1.mono (by simp; omega))
    clear hb1 hc B0
    go_wp2_with fail
    go_ret3
    exact ⟨⟨#[]⟩, false, rfl, fun h _ => absurd (HC.out.symm.trans h) H2.out, fun _ => ⟨rfl, rfl⟩, by show 0 ≤ 50000; omega, B1⟩
/-- The automata that the law makes itself. -/
theorem chk_one (t : Int) (h : 0 ≤ t ∧ t < 20) : chk 1 1 (fun _ _ => 0) (fun _ => t) = 0 := by
  have h1 : rowsOk 1 (fun _ _ => 0) = true := all_true fun i hi => all_true fun j hj => by simp [numOk]
  have h2 : tagsOk 1 (fun _ => t) = true := all_true fun i hi => by simp [tagOk]; omega
  unfold chk
  rw [if_neg (by omega), if_neg (by omega), if_pos ⟨h1, h2⟩]
theorem told_one {l : List UInt8} {is : Bool} (h : Told (fun _ _ => 0) (fun _ _ => 0) (fun _ => 0) (fun _ => 1) l is) : is = true ∧ l = [] := by
  have hd : Df (fun _ => 0) (fun _ => 1) (pr (fun _ _ => 0) (fun _ _ => 0) []) := by unfold Df; decide
  rcases h with ⟨rfl, h1, h3⟩ | ⟨rfl, rfl, h3⟩
  · have := h3 [] hd
    have e : key [] = 1 := rfl
    have := key_pos l
    exact ⟨rfl, key_inj _ l [] (Nat.le_refl _) (by omega)⟩
  · exact absurd hd (h3 [])
theorem told_at {RA RB : Nat → Nat → Int} {TA TB : Nat → Int} {l : List UInt8} {is : Bool} (h : Told RA RB TA TB l is) (i : Nat) (hi : i ≤ l.length) : (tagOf TA (goes RA 0 (l.take i)) != tagOf TB (goes RB 0 (l.take i))) = (is && decide (i = l.length)) := by
  rcases h with ⟨rfl, h1, h3⟩ | ⟨rfl, rfl, h3⟩
  · by_cases e : i = l.length
    · subst e
      rw [List.take_length]
      have : tagOf TA (goes RA 0 l) ≠ tagOf TB (goes RB 0 l) := h1
      simp [this]
    · have hk := key_front_lt (l.take i) (l.drop i) (by intro h; have := congrArg List.length h; simp at this; omega)
      rw [List.take_append_drop] at hk
      have hn : ¬ Df TA TB (pr RA RB (l.take i)) := fun hd => by have := h3 _ hd; omega
      have : tagOf TA (goes RA 0 (l.take i)) = tagOf TB (goes RB 0 (l.take i)) := by
        rcases Classical.em (tagOf TA (goes RA 0 (l.take i)) = tagOf TB (goes RB 0 (l.take i))) with h | h
        · exact h
        · exact absurd h hn
      simp [this, e]
  · have hn := h3 ([].take i)
    have : tagOf TA (goes RA 0 ([].take i)) = tagOf TB (goes RB 0 ([].take i)) := by
      rcases Classical.em (tagOf TA (goes RA 0 ([].take i)) = tagOf TB (goes RB 0 ([].take i))) with h | h
      · exact h
      · exact absurd h hn
    rw [List.take_nil] at this ⊢
    simp [this]
end Go.Proofs.Ytlgcggfenljdnaa
