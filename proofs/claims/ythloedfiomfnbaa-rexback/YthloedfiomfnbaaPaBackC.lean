/-
  What is written is read: trees.
-/
import Derived.Test.YthloedfiomfnbaaPaBackS
import Derived.Test.YthloedfiomfnbaaPaGoes
namespace Go.Proofs.Ythloedfiomfnbaa
open Cls Txt Rex

theorem range_self_ne (b : Nat) (hb : b < 256) : range b b ≠ Cls.empty := fun e => by
  have := mem_range b b b hb
  rw [e, mem_empty] at this
  simp at this
theorem single2 {c : Cl} (h : count c = 1) : ∃ b : Nat, b < 256 ∧ c = range b b ∧ runsT (mem c) = charT b := by
  have hl : ((List.range 256).filter (mem c)).length = 1 := by rw [← List.countP_eq_length_filter]; exact h
  obtain ⟨b, hb⟩ := List.length_eq_one_iff.1 hl
  have hm : ∀ x, x < 256 → (mem c x = true ↔ x = b) := fun x hx => by
    have : x ∈ (List.range 256).filter (mem c) ↔ x = b := by rw [hb]; simp
    rw [← this]; simp [hx]
  have hb256 : b < 256 ∧ mem c b = true := by
    have : b ∈ (List.range 256).filter (mem c) := by rw [hb]; simp
    simpa using this
  have hno : ∀ x, x < 256 → x ≠ b → mem c x = false := fun x hx hne => by
    cases e : mem c x with
    | false => rfl
    | true => exact absurd ((hm x hx).1 e) hne
  refine ⟨b, hb256.1, ext_mem fun x hx => ?_, ?_⟩
  · rw [mem_range _ _ _ hx]
    by_cases e : x = b
    · subst e; simp [hb256.2]
    · rw [hno x hx e]; simp; omega
  · have hla : lastOf (mem c) b = b := lastOf_eq (mem c) b b (Nat.le_refl _) (by omega) (fun j h1 h2 => by omega) (fun h => hno (b + 1) (by omega) (by omega))
    have h1 := runsTo_run (mem c) 0 b (Or.inl rfl) (Nat.zero_le _) hb256.1 hb256.2 (fun j _ h2 => hno j (by omega) (by omega))
    rw [hla] at h1
    have h2 := runsTo_none (mem c) (b + 1) (256 - (b + 1)) (fun j g1 g2 => by unfold startB; rw [hno j (by omega) (by omega)]; rfl)
    rw [show b + 1 + (256 - (b + 1)) = 256 by omega] at h2
    show runsTo (mem c) 256 = _
    rw [h2, h1]
    simp [runsTo, runText]
/-- The tree that is written. -/
def toT : E → T
  | .none => .mk 1 Cls.empty []
  | .emp => .mk 2 Cls.empty []
  | .byte c => .mk 3 c []
  | .cat a b => .mk 4 Cls.empty [toT a, toT b]
  | .alt a b => .mk 5 Cls.empty [toT a, toT b]
  | .star a => .mk 6 Cls.empty [toT a]
theorem is_toT {t : T} {x : E} (h : Is t x) : t = toT x := by
  induction h with
  | none => rfl
  | emp => rfl
  | byte h => rfl
  | cat h1 h2 e1 e2 => rw [toT, e1, e2]
  | alt h1 h2 e1 e2 => rw [toT, e1, e2]
  | star h e => rw [toT, e]
/-- Its classes have bytes. -/
def Good : E → Prop
  | .none => True
  | .emp => True
  | .byte c => c ≠ Cls.empty
  | .cat a b => Good a ∧ Good b
  | .alt a b => Good a ∧ Good b
  | .star a => Good a
theorem is_good {t : T} {x : E} (h : Is t x) : Good x := by
  induction h with
  | none => trivial
  | emp => trivial
  | byte h => exact h
  | cat h1 h2 e1 e2 => exact ⟨e1, e2⟩
  | alt h1 h2 e1 e2 => exact ⟨e1, e2⟩
  | star h e => exact e
/-- A first byte of something that is written. -/
def Fb (b : Nat) : Prop := b ≠ 42 ∧ b ≠ 43 ∧ b ≠ 63 ∧ b ≠ 124 ∧ b ≠ 41 ∧ b ≠ 0
theorem sign_first (b : Nat) (hb : b < 256) : ∃ x m, charT b = x :: m ∧ Fb x.toNat ∧ x.toNat ≠ 40 ∧ x.toNat ≠ 91 ∧ x.toNat ≠ 46 := by
  unfold charT
  by_cases h1 : b = 10
  · exact ⟨92, [110], by rw [if_pos h1], by unfold Fb; decide, by decide⟩
  · rw [if_neg h1]
    by_cases h2 : b = 9
    · exact ⟨92, [116], by rw [if_pos h2], by unfold Fb; decide, by decide⟩
    · rw [if_neg h2]
      by_cases h3 : b = 32
      · exact ⟨92, [115], by rw [if_pos h3], by unfold Fb; decide, by decide⟩
      · rw [if_neg h3]
        by_cases h4 : b < 33 ∨ 126 < b
        · exact ⟨92, _, by rw [if_pos h4], by unfold Fb; decide, by decide⟩
        · rw [if_neg h4]
          by_cases h5 : signs.contains b = true
          · exact ⟨92, _, by rw [if_pos h5], by unfold Fb; decide, by decide⟩
          · refine ⟨b.toUInt8, [], by rw [if_neg h5], ?_, ?_⟩
            · rw [u8_nat hb]
              simp [signs] at h5
              unfold Fb; omega
            · rw [u8_nat hb]
              simp [signs] at h5
              omega
theorem class_first (c : Cl) : ∃ x m, classT c = x :: m ∧ Fb x.toNat := by
  unfold classT
  by_cases h1 : count c = 1
  · obtain ⟨b, hb, -, e⟩ := single2 h1
    obtain ⟨x, m, e2, h2, -⟩ := sign_first b hb
    exact ⟨x, m, by rw [if_pos h1, e, e2], h2⟩
  · rw [if_neg h1]
    by_cases h2 : c = dot
    · exact ⟨46, [], by rw [if_pos h2], by unfold Fb; decide⟩
    · rw [if_neg h2]
      by_cases h3 : count c ≤ 128
      · exact ⟨91, _, by rw [if_pos h3]; rfl, by unfold Fb; decide⟩
      · exact ⟨91, _, by rw [if_neg h3]; rfl, by unfold Fb; decide⟩
theorem inBr_first {ks : List Int} {k : Int} {l : List UInt8} (h : ∃ x m, l = x :: m ∧ Fb x.toNat) : ∃ x m, inBr ks k l = x :: m ∧ Fb x.toNat := by
  unfold inBr
  split
  · exact ⟨40, _, rfl, by unfold Fb; decide⟩
  · exact h
theorem app_first {l r : List UInt8} (h : ∃ x m, l = x :: m ∧ Fb x.toNat) : ∃ x m, l ++ r = x :: m ∧ Fb x.toNat := by
  obtain ⟨x, m, e, h2⟩ := h
  exact ⟨x, m ++ r, by rw [e]; rfl, h2⟩
theorem text_first : ∀ x : E, ∃ y m, text x = y :: m ∧ Fb y.toNat
  | .none => ⟨91, [93], rfl, by unfold Fb; decide⟩
  | .emp => ⟨40, [41], rfl, by unfold Fb; decide⟩
  | .byte c => class_first c
  | .star a => by rw [text]; exact app_first (inBr_first (text_first a))
  | .cat a b => by rw [text]; exact app_first (inBr_first (text_first a))
  | .alt a b => by rw [text, List.append_assoc]; exact app_first (text_first a)
theorem at_first {s : ByteArray} {i : Nat} {l : List UInt8} (h : ∃ x m, l = x :: m ∧ Fb x.toNat) (ha : At s i l) : Fb (bt s i) := by
  obtain ⟨x, m, e, h2⟩ := h
  subst e
  rw [ha.first]; exact h2
theorem dot_ne : dot ≠ Cls.empty := by decide
/-- A class is read as an atom. -/
theorem atom_class {s : ByteArray} {G : Nat → Res} {i : Nat} {c : Cl} (hc : c ≠ Cls.empty) (h : At s i (classT c)) : atomR s G i = (.mk 3 c [], i + (classT c).length, 0) := by
  unfold classT at h ⊢
  by_cases h1 : count c = 1
  · rw [if_pos h1] at h ⊢
    obtain ⟨b, hb, e1, e2⟩ := single2 h1
    rw [e2] at h ⊢
    obtain ⟨x, m, e3, -, n1, n2, n3⟩ := sign_first b hb
    have e4 : bt s i = x.toNat := by have h2 := h; rw [e3] at h2; exact h2.first
    unfold atomR
    rw [if_neg (by rw [e4]; exact n1), if_neg (by rw [e4]; exact n2), if_neg (by rw [e4]; exact n3), charR_back hb h, ← e1]
  · rw [if_neg h1] at h ⊢
    by_cases h2 : c = dot
    · rw [if_pos h2] at h ⊢
      have e4 : bt s i = 46 := h.first
      unfold atomR
      rw [if_neg (by rw [e4]; decide), if_neg (by rw [e4]; decide), if_pos e4, h2]; rfl
    · rw [if_neg h2] at h ⊢
      by_cases h3 : count c ≤ 128
      · rw [if_pos h3] at h ⊢
        rw [List.append_assoc, List.cons_append, List.nil_append] at h
        have e4 : bt s i = 91 := h.first
        have h5 : At s (i + 1) (runsT (mem c) ++ [93]) := h.tail
        have hit := items_all s c (i + 1) h5
        have h94 : bt s (i + 1) ≠ 94 := by
          obtain ⟨r, hr, hrf⟩ := runs_rest (mem c) 0 256 (by omega)
          have e : runsT (mem c) = r := by show runsTo (mem c) 256 = _; rw [show (256 : Nat) = 0 + 256 from rfl, hr]; rfl
          rw [e] at h5
          rcases hrf with rfl | ⟨b, r', hb, rfl⟩
          · have : bt s (i + 1) = 93 := At.first (m := []) h5
            rw [this]; decide
          · rw [List.append_assoc] at h5
            exact (At.char hb h5).2.2
        unfold atomR
        rw [if_neg (by rw [e4]; decide), if_pos e4]
        have hset : setR s (i + 1) = (3, c, i + 1 + (runsT (mem c)).length + 1, 0) := by
          unfold setR
          rw [if_neg h94, hit]
          unfold setE
          simp [hc]
        rw [hset]
        simp only [List.length_append, List.length_cons, List.length_nil]
        refine Prod.ext rfl (Prod.ext ?_ rfl)
        simp only []; omega
      · rw [if_neg h3] at h ⊢
        rw [List.append_assoc, List.cons_append, List.cons_append, List.nil_append] at h
        have e4 : bt s i = 91 := h.first
        have h5 : At s (i + 1) (94 :: (runsT (mem (neg c)) ++ [93])) := h.tail
        have h94 : bt s (i + 1) = 94 := h5.first
        have h6 : At s (i + 1 + 1) (runsT (mem (neg c)) ++ [93]) := h5.tail
        have hit := items_all s (neg c) (i + 1 + 1) h6
        unfold atomR
        rw [if_neg (by rw [e4]; decide), if_pos e4]
        have hset : setR s (i + 1) = (3, c, i + 1 + 1 + (runsT (mem (neg c))).length + 1, 0) := by
          unfold setR
          rw [if_pos h94, hit]
          unfold setE
          simp [hc, neg_neg]
        rw [hset]
        simp only [List.length_append, List.length_cons, List.length_nil]
        refine Prod.ext rfl (Prod.ext ?_ rfl)
        simp only []; omega
end Go.Proofs.Ythloedfiomfnbaa
