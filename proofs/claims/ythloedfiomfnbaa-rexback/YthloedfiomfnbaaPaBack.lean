/-
  What is written is read: characters, items, sets.
-/
import Derived.Test.YthloedfiomfnbaaPar
namespace Go.Proofs.Ythloedfiomfnbaa.Txt
open Cls Rex

/-- These bytes stand from there on. -/
def At (s : ByteArray) (i : Nat) (l : List UInt8) : Prop := ∀ k (h : k < l.length), bt s (i + k) = l[k].toNat
theorem At.left {s : ByteArray} {i : Nat} {l m : List UInt8} (h : At s i (l ++ m)) : At s i l := fun k hk => by
  have := h k (by rw [List.length_append]; omega)
  rw [this, List.getElem_append_left hk]
theorem At.right {s : ByteArray} {i : Nat} {l m : List UInt8} (h : At s i (l ++ m)) : At s (i + l.length) m := fun k hk => by
  have := h (l.length + k) (by rw [List.length_append]; omega)
  rw [Nat.add_assoc, this, List.getElem_append_right (by omega)]
  simp
theorem At.first {s : ByteArray} {i : Nat} {b : UInt8} {m : List UInt8} (h : At s i (b :: m)) : bt s i = b.toNat := h 0 (by simp)
theorem At.tail {s : ByteArray} {i : Nat} {b : UInt8} {m : List UInt8} (h : At s i (b :: m)) : At s (i + 1) m := by
  have : At s (i + [b].length) m := At.right (l := [b]) h
  exact this

theorem hex_dg : ∀ n : Fin 16, dg (hex n.val).toNat = (n.val : Int) := by decide
theorem sign_not : ∀ b : Nat, signs.contains b = true → b ≠ 120 ∧ b ≠ 110 ∧ b ≠ 116 ∧ b ≠ 115 ∧ b < 256 := by
  intro b h
  simp [signs] at h
  omega
theorem u8_nat {b : Nat} (h : b < 256) : b.toUInt8.toNat = b := by simp [Nat.toUInt8]; omega
theorem charR_back {s : ByteArray} {i b : Nat} (hb : b < 256) (h : At s i (charT b)) : charR s i = (b, i + (charT b).length, 0) := by
  unfold charT at h ⊢
  by_cases h1 : b = 10
  · rw [if_pos h1] at h ⊢
    have e0 : bt s i = 92 := h.first
    have e1 : bt s (i + 1) = 110 := h.tail.first
    unfold charR escR
    rw [if_pos e0, e1, h1]; rfl
  · rw [if_neg h1] at h ⊢
    by_cases h2 : b = 9
    · rw [if_pos h2] at h ⊢
      have e0 : bt s i = 92 := h.first
      have e1 : bt s (i + 1) = 116 := h.tail.first
      unfold charR escR
      rw [if_pos e0, e1, h2]; rfl
    · rw [if_neg h2] at h ⊢
      by_cases h3 : b = 32
      · rw [if_pos h3] at h ⊢
        have e0 : bt s i = 92 := h.first
        have e1 : bt s (i + 1) = 115 := h.tail.first
        unfold charR escR
        rw [if_pos e0, e1, h3]; rfl
      · rw [if_neg h3] at h ⊢
        by_cases h4 : b < 33 ∨ 126 < b
        · rw [if_pos h4] at h ⊢
          have e0 : bt s i = 92 := h.first
          have e1 : bt s (i + 1) = 120 := h.tail.first
          have e2 : bt s (i + 1 + 1) = (hex (b / 16)).toNat := h.tail.tail.first
          have e3 : bt s (i + 1 + 1 + 1) = (hex (b % 16)).toNat := h.tail.tail.tail.first
          have d2 : dg (bt s (i + 1 + 1)) = ((b / 16 : Nat) : Int) := by rw [e2]; exact hex_dg ⟨b / 16, by omega⟩
          have d3 : dg (bt s (i + 1 + 1 + 1)) = ((b % 16 : Nat) : Int) := by rw [e3]; exact hex_dg ⟨b % 16, by omega⟩
          unfold charR escR twoR
          rw [if_pos e0, if_pos e1, d2, d3, if_neg (by omega), if_neg (by omega)]
          refine Prod.ext ?_ rfl
          show 16 * ((b / 16 : Nat) : Int).toNat + ((b % 16 : Nat) : Int).toNat = b
          omega
        · rw [if_neg h4] at h ⊢
          by_cases h5 : signs.contains b = true
          · rw [if_pos h5] at h ⊢
            have e0 : bt s i = 92 := h.first
            have e1 : bt s (i + 1) = b := by rw [h.tail.first, u8_nat hb]
            obtain ⟨n1, n2, n3, n4, -⟩ := sign_not b h5
            unfold charR escR
            rw [if_pos e0, e1, if_neg n1, if_neg n2, if_neg n3, if_neg n4, if_pos h5]; rfl
          · rw [if_neg h5] at h ⊢
            have e0 : bt s i = b := by rw [h.first, u8_nat hb]
            unfold charR
            rw [e0, if_neg (fun e => h5 (by rw [e]; decide)), if_pos ⟨by omega, by simpa using h5⟩]; rfl
/-- The first byte of a character. -/
theorem char_first (b : Nat) (hb : b < 256) : ∃ x m, charT b = x :: m ∧ x ≠ 45 ∧ x ≠ 93 ∧ x ≠ 94 := by
  unfold charT
  by_cases h1 : b = 10
  · exact ⟨92, [110], by rw [if_pos h1], by decide, by decide, by decide⟩
  · rw [if_neg h1]
    by_cases h2 : b = 9
    · exact ⟨92, [116], by rw [if_pos h2], by decide, by decide, by decide⟩
    · rw [if_neg h2]
      by_cases h3 : b = 32
      · exact ⟨92, [115], by rw [if_pos h3], by decide, by decide, by decide⟩
      · rw [if_neg h3]
        by_cases h4 : b < 33 ∨ 126 < b
        · exact ⟨92, _, by rw [if_pos h4], by decide, by decide, by decide⟩
        · rw [if_neg h4]
          by_cases h5 : signs.contains b = true
          · exact ⟨92, _, by rw [if_pos h5], by decide, by decide, by decide⟩
          · refine ⟨b.toUInt8, [], by rw [if_neg h5], ?_, ?_, ?_⟩ <;>
            · intro e
              have e2 := congrArg UInt8.toNat e
              rw [u8_nat hb] at e2
              subst e2
              exact h5 (by decide)
theorem At.char {s : ByteArray} {i b : Nat} {m : List UInt8} (hb : b < 256) (h : At s i (charT b ++ m)) : bt s i ≠ 45 ∧ bt s i ≠ 93 ∧ bt s i ≠ 94 := by
  obtain ⟨x, r, e, h1, h2, h3⟩ := char_first b hb
  rw [e, List.cons_append] at h
  rw [h.first]
  refine ⟨fun e => h1 ?_, fun e => h2 ?_, fun e => h3 ?_⟩ <;> (apply UInt8.toNat_inj.1; rw [e]; rfl)
/-- An item that is one byte. -/
theorem item_one {s : ByteArray} {i b : Nat} (hb : b < 256) (h : At s i (charT b)) (hn : bt s (i + (charT b).length) ≠ 45) : itemR s i = (range b b, i + (charT b).length, 0) := by
  unfold itemR
  rw [charR_back hb h, if_pos (Or.inr hn)]
theorem item_two {s : ByteArray} {i b c : Nat} (hb : b < 256) (hc : c < 256) (hbc : b ≤ c) (h : At s i (charT b ++ [45] ++ charT c)) : itemR s i = (range b c, i + (charT b ++ [45] ++ charT c).length, 0) := by
  have h1 := h.left.left
  have h2 : bt s (i + (charT b).length) = 45 := h.left.right.first
  have h3 := h.right
  rw [List.length_append, ← Nat.add_assoc] at h3
  have h4 := charR_back hc h3
  simp only [List.length_cons, List.length_nil, Nat.zero_add] at h4
  unfold itemR
  rw [charR_back hb h1]
  simp only []
  rw [if_neg (by rintro (h | h); · exact h rfl
                 · exact h h2), h4, if_neg (by rintro ⟨-, h⟩; simp only [] at h; omega)]
  simp only [List.length_append, List.length_cons, List.length_nil, Nat.add_assoc, Nat.zero_add]
end Go.Proofs.Ythloedfiomfnbaa.Txt
