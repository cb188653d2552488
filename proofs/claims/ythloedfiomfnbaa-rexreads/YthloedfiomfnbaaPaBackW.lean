/-
  What is written is read: characters, items, sets. What is written is read: sets. What is written is read: trees. What is written is read: the induction over the tree.
-/
import Derived.Test.YthloedfiomfnbaaPar
import Derived.Test.YthloedfiomfnbaaPaGoes
namespace Go.Proofs.Ythloedfiomfnbaa.Txt
open Cls Rex

/-- These bytes stand from there on. -/
def At (s : ByteArray) (i : Nat) (l : List UInt8) : Prop := ∀ k (h : k < l.length), bt s (i + k) = l[k].toNat
theorem At.left {s : ByteArray} {i : Nat} {l m : List UInt8} (h : At s i (l ++ m)) : At s i l := fun k hk => by
  have := h k (by rw [List.length_append]; omega)
  rw [this, List.getElem_append_left hk]
theorem At.right {s : ByteArray} {i : Nat} {l m : List UInt8} (h : At s i (l ++ m)) : At s (i + l.length) m := fun k hk => by
  have := h (l.length + k) (by rw [List.length_append]; omega)
  rw [Nat.add_assoc, this, List.getElem_append_right (by omega)]
  simp
theorem At.first {s : ByteArray} {i : Nat} {b : UInt8} {m : List UInt8} (h : At s i (b :: m)) : bt s i = b.toNat := h 0 (by simp)
theorem At.tail {s : ByteArray} {i : Nat} {b : UInt8} {m : List UInt8} (h : At s i (b :: m)) : At s (i + 1) m := by
  have : At s (i + [b].length) m := At.right (l := [b]) h
  exact this

theorem hex_dg : ∀ n : Fin 16, dg (hex n.val).toNat = (n.val : Int) := by decide
theorem sign_not : ∀ b : Nat, signs.contains b = true → b ≠ 120 ∧ b ≠ 110 ∧ b ≠ 116 ∧ b ≠ 115 ∧ b < 256 := by
  intro b h
  simp [signs] at h
  omega
theorem u8_nat {b : Nat} (h : b < 256) : b.toUInt8.toNat = b := by simp [Nat.toUInt8]; omega
theorem charR_back {s : ByteArray} {i b : Nat} (hb : b < 256) (h : At s i (charT b)) : charR s i = (b, i + (charT b).length, 0) := by
  unfold charT at h ⊢
  by_cases h1 : b = 10
  · rw [if_pos h1] at h ⊢
    have e0 : bt s i = 92 := h.first
    have e1 : bt s (i + 1) = 110 := h.tail.first
    unfold charR escR
    rw [if_pos e0, e1, h1]; rfl
  · rw [if_neg h1] at h ⊢
    by_cases h2 : b = 9
    · rw [if_pos h2] at h ⊢
      have e0 : bt s i = 92 := h.first
      have e1 : bt s (i + 1) = 116 := h.tail.first
      unfold charR escR
      rw [if_pos e0, e1, h2]; rfl
    · rw [if_neg h2] at h ⊢
      by_cases h3 : b = 32
      · rw [if_pos h3] at h ⊢
        have e0 : bt s i = 92 := h.first
        have e1 : bt s (i + 1) = 115 := h.tail.first
        unfold charR escR
        rw [if_pos e0, e1, h3]; rfl
      · rw [if_neg h3] at h ⊢
        by_cases h4 : b < 33 ∨ 126 < b
        · rw [if_pos h4] at h ⊢
          have e0 : bt s i = 92 := h.first
          have e1 : bt s (i + 1) = 120 := h.tail.first
          have e2 : bt s (i + 1 + 1) = (hex (b / 16)).toNat := h.tail.tail.first
          have e3 : bt s (i + 1 + 1 + 1) = (hex (b % 16)).toNat := h.tail.tail.tail.first
          have d2 : dg (bt s (i + 1 + 1)) = ((b / 16 : Nat) : Int) := by rw [e2]; exact hex_dg ⟨b / 16, by omega⟩
          have d3 : dg (bt s (i + 1 + 1 + 1)) = ((b % 16 : Nat) : Int) := by rw [e3]; exact hex_dg ⟨b % 16, by omega⟩
          unfold charR escR twoR
          rw [if_pos e0, if_pos e1, d2, d3, if_neg (by omega), if_neg (by omega)]
          refine Prod.ext ?_ rfl
          show 16 * ((b / 16 : Nat) : Int).toNat + ((b % 16 : Nat) : Int).toNat = b
          omega
        · rw [if_neg h4] at h ⊢
          by_cases h5 : signs.contains b = true
          · rw [if_pos h5] at h ⊢
            have e0 : bt s i = 92 := h.first
            have e1 : bt s (i + 1) = b := by rw [h.tail.first, u8_nat hb]
            obtain ⟨n1, n2, n3, n4, -⟩ := sign_not b h5
            unfold charR escR
            rw [if_pos e0, e1, if_neg n1, if_neg n2, if_neg n3, if_neg n4, if_pos h5]; rfl
          · rw [if_neg h5] at h ⊢
            have e0 : bt s i = b := by rw [h.first, u8_nat hb]
            unfold charR
            rw [e0, if_neg (fun e => h5 (by rw [e]; decide)), if_pos ⟨by omega, by simpa using h5⟩]; rfl
/-- The first byte of a character. -/
theorem char_first (b : Nat) (hb : b < 256) : ∃ x m, charT b = x :: m ∧ x ≠ 45 ∧ x ≠ 93 ∧ x ≠ 94 := by
  unfold charT
  by_cases h1 : b = 10
  · exact ⟨92, [110], by rw [if_pos h1], by decide, by decide, by decide⟩
  · rw [if_neg h1]
    by_cases h2 : b = 9
    · exact ⟨92, [116], by rw [if_pos h2], by decide, by decide, by decide⟩
    · rw [if_neg h2]
      by_cases h3 : b = 32
      · exact ⟨92, [115], by rw [if_pos h3], by decide, by decide, by decide⟩
      · rw [if_neg h3]
        by_cases h4 : b < 33 ∨ 126 < b
        · exact ⟨92, _, by rw [if_pos h4], by decide, by decide, by decide⟩
        · rw [if_neg h4]
          by_cases h5 : signs.contains b = true
          · exact ⟨92, _, by rw [if_pos h5], by decide, by decide, by decide⟩
          · refine ⟨b.toUInt8, [], by rw [if_neg h5], ?_, ?_, ?_⟩ <;>
            · intro e
              have e2 := congrArg UInt8.toNat e
              rw [u8_nat hb] at e2
              subst e2
              exact h5 (by decide)
theorem At.char {s : ByteArray} {i b : Nat} {m : List UInt8} (hb : b < 256) (h : At s i (charT b ++ m)) : bt s i ≠ 45 ∧ bt s i ≠ 93 ∧ bt s i ≠ 94 := by
  obtain ⟨x, r, e, h1, h2, h3⟩ := char_first b hb
  rw [e, List.cons_append] at h
  rw [h.first]
  refine ⟨fun e => h1 ?_, fun e => h2 ?_, fun e => h3 ?_⟩ <;> (apply UInt8.toNat_inj.1; rw [e]; rfl)
/-- An item that is one byte. -/
theorem item_one {s : ByteArray} {i b : Nat} (hb : b < 256) (h : At s i (charT b)) (hn : bt s (i + (charT b).length) ≠ 45) : itemR s i = (range b b, i + (charT b).length, 0) := by
  unfold itemR
  rw [charR_back hb h, if_pos (Or.inr hn)]
theorem item_two {s : ByteArray} {i b c : Nat} (hb : b < 256) (hc : c < 256) (hbc : b ≤ c) (h : At s i (charT b ++ [45] ++ charT c)) : itemR s i = (range b c, i + (charT b ++ [45] ++ charT c).length, 0) := by
  have h1 := h.left.left
  have h2 : bt s (i + (charT b).length) = 45 := h.left.right.first
  have h3 := h.right
  rw [List.length_append, ← Nat.add_assoc] at h3
  have h4 := charR_back hc h3
  simp only [List.length_cons, List.length_nil, Nat.zero_add] at h4
  unfold itemR
  rw [charR_back hb h1]
  simp only []
  rw [if_neg (by rintro (h | h); · exact h rfl
                 · exact h h2), h4, if_neg (by rintro ⟨-, h⟩; simp only [] at h; omega)]
  simp only [List.length_append, List.length_cons, List.length_nil, Nat.add_assoc, Nat.zero_add]
end Go.Proofs.Ythloedfiomfnbaa.Txt

namespace Go.Proofs.Ythloedfiomfnbaa.Txt
open Cls Rex

theorem runs_rest (p : Nat → Bool) (k : Nat) : ∀ n, k + n ≤ 256 → ∃ r, runsTo p (k + n) = runsTo p k ++ r ∧ (r = [] ∨ ∃ b r', b < 256 ∧ r = charT b ++ r')
  | 0, _ => ⟨[], by simp, Or.inl rfl⟩
  | n + 1, h => by
    obtain ⟨r, h1, h2⟩ := runs_rest p k n (by omega)
    refine ⟨r ++ (if startB p (k + n) = true then runText (k + n) (lastOf p (k + n)) else []), ?_, ?_⟩
    · show runsTo p (k + n) ++ _ = _
      rw [h1, List.append_assoc]; rfl
    · rcases h2 with rfl | ⟨b, r', hb, rfl⟩
      · rw [List.nil_append]
        split
        · exact Or.inr ⟨k + n, (if k + n + 1 < lastOf p (k + n) then [45] else []) ++ (if k + n < lastOf p (k + n) then charT (lastOf p (k + n)) else []), by omega, by unfold runText; rw [List.append_assoc]⟩
        · exact Or.inl rfl
      · exact Or.inr ⟨b, r' ++ (if startB p (k + n) = true then runText (k + n) (lastOf p (k + n)) else []), hb, by rw [List.append_assoc]⟩
theorem nxt {s : ByteArray} {q : Nat} {r : List UInt8} (hr : r = [] ∨ ∃ b r', b < 256 ∧ r = charT b ++ r') (h : At s q (r ++ [93])) : bt s q ≠ 45 := by
  rcases hr with rfl | ⟨b, r', hb, rfl⟩
  · have : bt s q = 93 := At.first (m := []) h
    rw [this]; decide
  · rw [List.append_assoc] at h
    exact (At.char hb h).1
theorem items_step {s : ByteArray} {n pos pos' : Nat} {c cls : Cl} (h93 : bt s pos ≠ 93) (h : itemR s pos = (cls, pos', 0)) : itemsR s (n + 1) pos c = itemsR s n pos' (join c cls) := by
  rw [itemsR, if_neg h93, h]; rfl
theorem bytesFrom_none {c : Cl} {k : Nat} (h : bytesFrom c k = []) : ∀ j, k ≤ j → j < 256 → mem c j = false := fun j h1 h2 => by
  unfold bytesFrom at h
  have h3 := List.map_eq_nil_iff.1 h
  have := List.filter_eq_nil_iff.1 h3 j (List.mem_range'_1.2 ⟨h1, by omega⟩)
  simpa using this
theorem items_runs (s : ByteArray) (c0 : Cl) (i : Nat) (h : At s i (runsT (mem c0) ++ [93])) : ∀ (m k n : Nat) (c : Cl), 256 - k ≤ m → k ≤ 256 → (k = 0 ∨ k = 256 ∨ mem c0 k = false) → (∀ b, b < 256 → mem c b = (decide (b < k) && mem c0 b)) → s.size - (i + (runsTo (mem c0) k).length) < n →
    itemsR s n (i + (runsTo (mem c0) k).length) c = (c0, i + (runsT (mem c0)).length, 0) := by
  intro m
  induction m with
  | zero =>
    intro k n c hm hk hk0 hc hn
    obtain rfl : k = 256 := by omega
    have h93 : bt s (i + (runsT (mem c0)).length) = 93 := At.first (m := []) h.right
    obtain ⟨n', rfl⟩ : ∃ n', n = n' + 1 := ⟨n - 1, by omega⟩
    have e : runsTo (mem c0) 256 = runsT (mem c0) := rfl
    rw [e, itemsR, if_pos h93]
    have : c = c0 := ext_mem fun b hb => by rw [hc b hb, decide_eq_true hb, Bool.true_and]
    rw [this]
  | succ m ih =>
    intro k n c hm hk hk0 hc hn
    by_cases hb : bytesFrom c0 k = []
    · have hno := bytesFrom_none hb
      have e : runsT (mem c0) = runsTo (mem c0) k := by
        have := runsTo_none (mem c0) k (256 - k) (fun j h1 h2 => by unfold startB; rw [hno j h1 (by omega)]; rfl)
        rw [show k + (256 - k) = 256 by omega] at this
        exact this
      have h93 : bt s (i + (runsT (mem c0)).length) = 93 := At.first (m := []) h.right
      obtain ⟨n', rfl⟩ : ∃ n', n = n' + 1 := ⟨n - 1, by omega⟩
      rw [← e, itemsR, if_pos h93]
      have : c = c0 := ext_mem fun b hb => by
        rw [hc b hb]
        by_cases hbk : b < k
        · rw [decide_eq_true hbk, Bool.true_and]
        · rw [hno b (by omega) hb, Bool.and_false]
      rw [this]
    · obtain ⟨a, hka, ha, hma, hno, -⟩ := bytesFrom_run c0 k hk hb
      have hle := lastOf_le (mem c0) a ha
      have hrun := runsTo_run (mem c0) k a (hk0.imp id fun h => h.resolve_left (by omega)) hka ha hma hno
      have hstop : lastOf (mem c0) a + 1 = 0 ∨ lastOf (mem c0) a + 1 = 256 ∨ mem c0 (lastOf (mem c0) a + 1) = false := by
        by_cases e : lastOf (mem c0) a = 255
        · exact Or.inr (Or.inl (by omega))
        · exact Or.inr (Or.inr (lastOf_stop (mem c0) a ha (by omega)))
      have hin : ∀ b, a ≤ b → b ≤ lastOf (mem c0) a → mem c0 b = true := fun b h1 h2 => by
        by_cases e : b = a
        · rw [e]; exact hma
        · exact lastOf_in (mem c0) a b (by omega) h2
      obtain ⟨r, hr, hrf⟩ := runs_rest (mem c0) (lastOf (mem c0) a + 1) (256 - (lastOf (mem c0) a + 1)) (by omega)
      rw [show lastOf (mem c0) a + 1 + (256 - (lastOf (mem c0) a + 1)) = 256 by omega] at hr
      have hat : At s (i + (runsTo (mem c0) k).length) (runText a (lastOf (mem c0) a) ++ (r ++ [93])) := by
        have h2 := h
        have e : runsT (mem c0) ++ [93] = runsTo (mem c0) k ++ (runText a (lastOf (mem c0) a) ++ (r ++ [93])) := by
          show runsTo (mem c0) 256 ++ [93] = _
          rw [hr, hrun]; simp
        rw [e] at h2
        exact h2.right
      have hlen : i + (runsTo (mem c0) (lastOf (mem c0) a + 1)).length = i + (runsTo (mem c0) k).length + (runText a (lastOf (mem c0) a)).length := by rw [hrun, List.length_append]; omega
      have hnext := nxt hrf hat.right
      have ih2 := ih (lastOf (mem c0) a + 1)
      rw [hlen] at ih2
      generalize hpos : i + (runsTo (mem c0) k).length = pos at hat hn hnext ih2 ⊢
      generalize hlast : lastOf (mem c0) a = last at hat hnext ih2 hle hstop hin ⊢
      have hat1 := hat.left
      have h93 : bt s pos ≠ 93 := by
        have h3 := hat1
        unfold runText at h3
        rw [List.append_assoc] at h3
        exact (At.char ha h3).2.1
      have hps : pos < s.size := by
        have h3 := hat1.left.left
        obtain ⟨x, mm, e1, -⟩ := char_first a ha
        refine Classical.byContradiction fun hge => ?_
        have h0 : bt s pos = 0 := by unfold bt; rw [dif_neg hge]
        have := charR_back ha h3
        unfold charR at this
        rw [h0] at this
        simp [signs] at this
      by_cases e1 : a = last
      · subst e1
        have hT : runText a a = charT a := by unfold runText; simp
        rw [hT] at hat1 hnext ih2
        obtain ⟨n', rfl⟩ : ∃ n', n = n' + 1 := ⟨n - 1, by omega⟩
        have hl := (charR_rd s pos (by omega)).up
        rw [charR_back ha hat1] at hl
        have hl2 := hl rfl
        rw [items_step h93 (item_one ha hat1 hnext)]
        refine ih2 n' _ (by omega) (by omega) hstop (fun b hb => ?_) (by simp only [] at hl2; omega)
        rw [mem_join, hc b hb, mem_range _ _ _ hb]
        by_cases q1 : b < k
        · simp [q1, show b < a + 1 by omega, show ¬ (a ≤ b) by omega]
        · by_cases q2 : b = a
          · subst q2; simp [hma]
          · by_cases q3 : b < a
            · simp [q1, hno b (by omega) q3, show b < a + 1 by omega]; omega
            · simp [q1, show ¬ b < a + 1 by omega]; omega
      · by_cases e2 : last = a + 1
        · subst e2
          have hT : runText a (a + 1) = charT a ++ charT (a + 1) := by unfold runText; simp
          rw [hT] at hat1 hnext ih2
          have h1 := hat1.left
          have h2 := hat1.right
          have hl := (charR_rd s pos (by omega)).up
          rw [charR_back ha h1] at hl
          have hl2 := hl rfl
          simp only [] at hl2
          have hx := At.char (m := []) (show a + 1 < 256 by omega) (by rw [List.append_nil]; exact h2)
          have hp2 : pos + (charT a).length ≤ s.size := by have := (charR_rd s pos (by omega)).hi; rw [charR_back ha h1] at this; exact this
          have hr2 := charR_rd s (pos + (charT a).length) hp2
          rw [charR_back (by omega) h2] at hr2
          have hr3 := hr2.up rfl
          have hr4 := hr2.hi
          simp only [] at hr3 hr4
          rw [List.length_append, ← Nat.add_assoc] at hnext ih2
          obtain ⟨n', rfl⟩ : ∃ n', n = n' + 1 + 1 := ⟨n - 2, by omega⟩
          rw [items_step h93 (item_one ha h1 hx.1), items_step hx.2.1 (item_one (by omega) h2 hnext)]
          refine ih2 n' _ (by omega) (by omega) hstop (fun b hb => ?_) (by omega)
          rw [mem_join, mem_join, hc b hb, mem_range _ _ _ hb, mem_range _ _ _ hb]
          by_cases q1 : b < k
          · simp [q1, show b < a + 1 + 1 by omega, show ¬ (a ≤ b) by omega]; omega
          · by_cases q2 : b = a
            · subst q2; simp [hma]; omega
            · by_cases q4 : b = a + 1
              · subst q4; simp [hin (a + 1) (by omega) (by omega)]
              · by_cases q3 : b < a
                · simp [q1, hno b (by omega) q3]; omega
                · simp [q1, show ¬ b < a + 1 + 1 by omega]; omega
        · have hT : runText a last = charT a ++ [45] ++ charT last := by unfold runText; rw [if_pos (by omega), if_pos (by omega)]
          rw [hT] at hat1 hnext ih2
          have hit := item_two ha (by omega) (by omega) hat1
          have hr := itemR_rd s pos (by omega)
          rw [hit] at hr
          have hr2 := hr.up rfl
          have hr3 := hr.hi
          simp only [] at hr2 hr3
          obtain ⟨n', rfl⟩ : ∃ n', n = n' + 1 := ⟨n - 1, by omega⟩
          rw [items_step h93 hit]
          refine ih2 n' _ (by omega) (by omega) hstop (fun b hb => ?_) (by omega)
          rw [mem_join, hc b hb, mem_range _ _ _ hb]
          by_cases q1 : b < k
          · simp [q1, show b < last + 1 by omega]; omega
          · by_cases q2 : a ≤ b ∧ b ≤ last
            · simp [q1, hin b q2.1 q2.2, show b < last + 1 by omega]; omega
            · by_cases q3 : b < a
              · simp [q1, hno b (by omega) q3]; omega
              · simp [q1, show ¬ b < last + 1 by omega]; omega
theorem items_all (s : ByteArray) (c0 : Cl) (i : Nat) (h : At s i (runsT (mem c0) ++ [93])) : itemsR s (s.size + 1) i Cls.empty = (c0, i + (runsT (mem c0)).length, 0) := by
  have := items_runs s c0 i h 256 0 (s.size + 1) Cls.empty (by omega) (by omega) (Or.inl rfl) (fun b _ => by rw [mem_empty]; simp) (by omega)
  simpa [runsTo] using this
end Go.Proofs.Ythloedfiomfnbaa.Txt

namespace Go.Proofs.Ythloedfiomfnbaa
open Cls Txt Rex

theorem range_self_ne (b : Nat) (hb : b < 256) : range b b ≠ Cls.empty := fun e => by
  have := mem_range b b b hb
  rw [e, mem_empty] at this
  simp at this
theorem single2 {c : Cl} (h : count c = 1) : ∃ b : Nat, b < 256 ∧ c = range b b ∧ runsT (mem c) = charT b := by
  have hl : ((List.range 256).filter (mem c)).length = 1 := by rw [← List.countP_eq_length_filter]; exact h
  obtain ⟨b, hb⟩ := List.length_eq_one_iff.1 hl
  have hm : ∀ x, x < 256 → (mem c x = true ↔ x = b) := fun x hx => by
    have : x ∈ (List.range 256).filter (mem c) ↔ x = b := by rw [hb]; simp
    rw [← this]; simp [hx]
  have hb256 : b < 256 ∧ mem c b = true := by
    have : b ∈ (List.range 256).filter (mem c) := by rw [hb]; simp
    simpa using this
  have hno : ∀ x, x < 256 → x ≠ b → mem c x = false := fun x hx hne => by
    cases e : mem c x with
    | false => rfl
    | true => exact absurd ((hm x hx).1 e) hne
  refine ⟨b, hb256.1, ext_mem fun x hx => ?_, ?_⟩
  · rw [mem_range _ _ _ hx]
    by_cases e : x = b
    · subst e; simp [hb256.2]
    · rw [hno x hx e]; simp; omega
  · have hla : lastOf (mem c) b = b := lastOf_eq (mem c) b b (Nat.le_refl _) (by omega) (fun j h1 h2 => by omega) (fun h => hno (b + 1) (by omega) (by omega))
    have h1 := runsTo_run (mem c) 0 b (Or.inl rfl) (Nat.zero_le _) hb256.1 hb256.2 (fun j _ h2 => hno j (by omega) (by omega))
    rw [hla] at h1
    have h2 := runsTo_none (mem c) (b + 1) (256 - (b + 1)) (fun j g1 g2 => by unfold startB; rw [hno j (by omega) (by omega)]; rfl)
    rw [show b + 1 + (256 - (b + 1)) = 256 by omega] at h2
    show runsTo (mem c) 256 = _
    rw [h2, h1]
    simp [runsTo, runText]
/-- The tree that is written. -/
def toT : E → T
  | .none => .mk 1 Cls.empty []
  | .emp => .mk 2 Cls.empty []
  | .byte c => .mk 3 c []
  | .cat a b => .mk 4 Cls.empty [toT a, toT b]
  | .alt a b => .mk 5 Cls.empty [toT a, toT b]
  | .star a => .mk 6 Cls.empty [toT a]
theorem is_toT {t : T} {x : E} (h : Is t x) : t = toT x := by
  induction h with
  | none => rfl
  | emp => rfl
  | byte h => rfl
  | cat h1 h2 e1 e2 => rw [toT, e1, e2]
  | alt h1 h2 e1 e2 => rw [toT, e1, e2]
  | star h e => rw [toT, e]
/-- Its classes have bytes. -/
def Good : E → Prop
  | .none => True
  | .emp => True
  | .byte c => c ≠ Cls.empty
  | .cat a b => Good a ∧ Good b
  | .alt a b => Good a ∧ Good b
  | .star a => Good a
theorem is_good {t : T} {x : E} (h : Is t x) : Good x := by
  induction h with
  | none => trivial
  | emp => trivial
  | byte h => exact h
  | cat h1 h2 e1 e2 => exact ⟨e1, e2⟩
  | alt h1 h2 e1 e2 => exact ⟨e1, e2⟩
  | star h e => exact e
/-- A first byte of something that is written. -/
def Fb (b : Nat) : Prop := b ≠ 42 ∧ b ≠ 43 ∧ b ≠ 63 ∧ b ≠ 124 ∧ b ≠ 41 ∧ b ≠ 0
theorem sign_first (b : Nat) (hb : b < 256) : ∃ x m, charT b = x :: m ∧ Fb x.toNat ∧ x.toNat ≠ 40 ∧ x.toNat ≠ 91 ∧ x.toNat ≠ 46 := by
  unfold charT
  by_cases h1 : b = 10
  · exact ⟨92, [110], by rw [if_pos h1], by unfold Fb; decide, by decide⟩
  · rw [if_neg h1]
    by_cases h2 : b = 9
    · exact ⟨92, [116], by rw [if_pos h2], by unfold Fb; decide, by decide⟩
    · rw [if_neg h2]
      by_cases h3 : b = 32
      · exact ⟨92, [115], by rw [if_pos h3], by unfold Fb; decide, by decide⟩
      · rw [if_neg h3]
        by_cases h4 : b < 33 ∨ 126 < b
        · exact ⟨92, _, by rw [if_pos h4], by unfold Fb; decide, by decide⟩
        · rw [if_neg h4]
          by_cases h5 : signs.contains b = true
          · exact ⟨92, _, by rw [if_pos h5], by unfold Fb; decide, by decide⟩
          · refine ⟨b.toUInt8, [], by rw [if_neg h5], ?_, ?_⟩
            · rw [u8_nat hb]
              simp [signs] at h5
              unfold Fb; omega
            · rw [u8_nat hb]
              simp [signs] at h5
              omega
theorem class_first (c : Cl) : ∃ x m, classT c = x :: m ∧ Fb x.toNat := by
  unfold classT
  by_cases h1 : count c = 1
  · obtain ⟨b, hb, -, e⟩ := single2 h1
    obtain ⟨x, m, e2, h2, -⟩ := sign_first b hb
    exact ⟨x, m, by rw [if_pos h1, e, e2], h2⟩
  · rw [if_neg h1]
    by_cases h2 : c = dot
    · exact ⟨46, [], by rw [if_pos h2], by unfold Fb; decide⟩
    · rw [if_neg h2]
      by_cases h3 : count c ≤ 128
      · exact ⟨91, _, by rw [if_pos h3]; rfl, by unfold Fb; decide⟩
      · exact ⟨91, _, by rw [if_neg h3]; rfl, by unfold Fb; decide⟩
theorem inBr_first {ks : List Int} {k : Int} {l : List UInt8} (h : ∃ x m, l = x :: m ∧ Fb x.toNat) : ∃ x m, inBr ks k l = x :: m ∧ Fb x.toNat := by
  unfold inBr
  split
  · exact ⟨40, _, rfl, by unfold Fb; decide⟩
  · exact h
theorem app_first {l r : List UInt8} (h : ∃ x m, l = x :: m ∧ Fb x.toNat) : ∃ x m, l ++ r = x :: m ∧ Fb x.toNat := by
  obtain ⟨x, m, e, h2⟩ := h
  exact ⟨x, m ++ r, by rw [e]; rfl, h2⟩
theorem text_first : ∀ x : E, ∃ y m, text x = y :: m ∧ Fb y.toNat
  | .none => ⟨91, [93], rfl, by unfold Fb; decide⟩
  | .emp => ⟨40, [41], rfl, by unfold Fb; decide⟩
  | .byte c => class_first c
  | .star a => by rw [text]; exact app_first (inBr_first (text_first a))
  | .cat a b => by rw [text]; exact app_first (inBr_first (text_first a))
  | .alt a b => by rw [text, List.append_assoc]; exact app_first (text_first a)
theorem at_first {s : ByteArray} {i : Nat} {l : List UInt8} (h : ∃ x m, l = x :: m ∧ Fb x.toNat) (ha : At s i l) : Fb (bt s i) := by
  obtain ⟨x, m, e, h2⟩ := h
  subst e
  rw [ha.first]; exact h2
theorem dot_ne : dot ≠ Cls.empty := by decide
/-- A class is read as an atom. -/
theorem atom_class {s : ByteArray} {G : Nat → Res} {i : Nat} {c : Cl} (hc : c ≠ Cls.empty) (h : At s i (classT c)) : atomR s G i = (.mk 3 c [], i + (classT c).length, 0) := by
  unfold classT at h ⊢
  by_cases h1 : count c = 1
  · rw [if_pos h1] at h ⊢
    obtain ⟨b, hb, e1, e2⟩ := single2 h1
    rw [e2] at h ⊢
    obtain ⟨x, m, e3, -, n1, n2, n3⟩ := sign_first b hb
    have e4 : bt s i = x.toNat := by have h2 := h; rw [e3] at h2; exact h2.first
    unfold atomR
    rw [if_neg (by rw [e4]; exact n1), if_neg (by rw [e4]; exact n2), if_neg (by rw [e4]; exact n3), charR_back hb h, ← e1]
  · rw [if_neg h1] at h ⊢
    by_cases h2 : c = dot
    · rw [if_pos h2] at h ⊢
      have e4 : bt s i = 46 := h.first
      unfold atomR
      rw [if_neg (by rw [e4]; decide), if_neg (by rw [e4]; decide), if_pos e4, h2]; rfl
    · rw [if_neg h2] at h ⊢
      by_cases h3 : count c ≤ 128
      · rw [if_pos h3] at h ⊢
        rw [List.append_assoc, List.cons_append, List.nil_append] at h
        have e4 : bt s i = 91 := h.first
        have h5 : At s (i + 1) (runsT (mem c) ++ [93]) := h.tail
        have hit := items_all s c (i + 1) h5
        have h94 : bt s (i + 1) ≠ 94 := by
          obtain ⟨r, hr, hrf⟩ := runs_rest (mem c) 0 256 (by omega)
          have e : runsT (mem c) = r := by show runsTo (mem c) 256 = _; rw [show (256 : Nat) = 0 + 256 from rfl, hr]; rfl
          rw [e] at h5
          rcases hrf with rfl | ⟨b, r', hb, rfl⟩
          · have : bt s (i + 1) = 93 := At.first (m := []) h5
            rw [this]; decide
          · rw [List.append_assoc] at h5
            exact (At.char hb h5).2.2
        unfold atomR
        rw [if_neg (by rw [e4]; decide), if_pos e4]
        have hset : setR s (i + 1) = (3, c, i + 1 + (runsT (mem c)).length + 1, 0) := by
          unfold setR
          rw [if_neg h94, hit]
          unfold setE
          simp [hc]
        rw [hset]
        simp only [List.length_append, List.length_cons, List.length_nil]
        refine Prod.ext rfl (Prod.ext ?_ rfl)
        simp only []; omega
      · rw [if_neg h3] at h ⊢
        rw [List.append_assoc, List.cons_append, List.cons_append, List.nil_append] at h
        have e4 : bt s i = 91 := h.first
        have h5 : At s (i + 1) (94 :: (runsT (mem (neg c)) ++ [93])) := h.tail
        have h94 : bt s (i + 1) = 94 := h5.first
        have h6 : At s (i + 1 + 1) (runsT (mem (neg c)) ++ [93]) := h5.tail
        have hit := items_all s (neg c) (i + 1 + 1) h6
        unfold atomR
        rw [if_neg (by rw [e4]; decide), if_pos e4]
        have hset : setR s (i + 1) = (3, c, i + 1 + 1 + (runsT (mem (neg c))).length + 1, 0) := by
          unfold setR
          rw [if_pos h94, hit]
          unfold setE
          simp [hc, neg_neg]
        rw [hset]
        simp only [List.length_append, List.length_cons, List.length_nil]
        refine Prod.ext rfl (Prod.ext ?_ rfl)
        simp only []; omega
end Go.Proofs.Ythloedfiomfnbaa

namespace Go.Proofs.Ythloedfiomfnbaa
open Cls Txt Rex

def Aa (s : ByteArray) (e : Nat) : Nat → Res := atomR s (groupR s (30 - (e + 1)) (altN s e))
def Ra (s : ByteArray) (e : Nat) : Nat → Res := repR s (Aa s e)
def Ca (s : ByteArray) (e : Nat) : Nat → Res := catR s (Ra s e)
theorem altN_succ (s : ByteArray) (e : Nat) : altN s (e + 1) = altR s (Ca s e) := rfl
/-- No sign of repeating. -/
def NO (s : ByteArray) (j : Nat) : Prop := bt s j ≠ 42 ∧ bt s j ≠ 43 ∧ bt s j ≠ 63
theorem bt_end (s : ByteArray) : bt s s.size = 0 := by unfold bt; rw [dif_neg (by omega)]
theorem end_no {s : ByteArray} {j : Nat} (h : catEnd s j = true) : NO s j := by
  unfold catEnd at h
  simp only [Bool.or_eq_true, decide_eq_true_eq] at h
  unfold NO
  rcases h with h | h | h
  · rw [h, bt_end]; omega
  · rw [h]; omega
  · rw [h]; omega
theorem fb_no {s : ByteArray} {j : Nat} (h : Fb (bt s j)) : NO s j ∧ catEnd s j = false := by
  obtain ⟨h1, h2, h3, h4, h5, h6⟩ := h
  refine ⟨⟨h1, h2, h3⟩, ?_⟩
  have h7 : j ≠ s.size := fun e => h6 (by rw [e, bt_end])
  unfold catEnd
  simp [h4, h5, h7]
theorem rep_atom {s : ByteArray} {A : Nat → Res} {i j : Nat} {t : T} (h : A i = (t, j, 0)) (hn : NO s j) : repR s A i = (t, j, 0) := by
  unfold repR
  rw [h, if_neg (by simp)]
  rw [repL, if_neg hn.1, if_neg hn.2.1, if_neg hn.2.2]
theorem rep_star {s : ByteArray} {A : Nat → Res} {i j : Nat} {t : T} (h : A i = (t, j, 0)) (h42 : bt s j = 42) (hn : NO s (j + 1)) : repR s A i = (.mk 6 Cls.empty [t], j + 1, 0) := by
  unfold repR
  rw [h, if_neg (by simp)]
  rw [repL, if_pos h42]
  cases s.size with
  | zero => rfl
  | succ n => rw [repL, if_neg hn.1, if_neg hn.2.1, if_neg hn.2.2]
theorem cat_rep {s : ByteArray} {R : Nat → Res} {n : Nat} {t : T} {j : Nat} (h : catEnd s j = true) : catL s R (n + 1) (t, j, 0) = (t, j, 0) := by
  rw [catL, if_neg (by simp), if_pos h]
theorem atom_group {s : ByteArray} {e i j : Nat} {t : T} (h0 : bt s i = 40) (h1 : bt s (i + 1) ≠ 41) (h : altN s e (i + 1) = (t, j, 0)) (h2 : bt s j = 41) : Aa s e i = (t, j + 1, 0) := by
  unfold Aa atomR groupR
  rw [if_pos h0, if_neg (by omega), if_neg h1, h, if_neg (by simp), if_pos h2]
theorem atom_low {s : ByteArray} (e i : Nat) (x : E) (hg : Good x) (h4 : kindOf x ≠ 4) (h5 : kindOf x ≠ 5) (h6 : kindOf x ≠ 6) (h : At s i (text x)) : Aa s e i = (toT x, i + (text x).length, 0) := by
  cases x with
  | none =>
    have e0 : bt s i = 91 := At.first (m := [93]) h
    have e1 : bt s (i + 1) = 93 := (At.tail (m := [93]) h).first
    have hs : setR s (i + 1) = (1, Cls.empty, i + 2, 0) := by
      unfold setR
      rw [if_neg (by rw [e1]; decide), itemsR, if_pos e1]
      rfl
    unfold Aa atomR
    rw [if_neg (by rw [e0]; decide), if_pos e0, hs]; rfl
  | emp =>
    have e0 : bt s i = 40 := At.first (m := [41]) h
    have e1 : bt s (i + 1) = 41 := (At.tail (m := [41]) h).first
    unfold Aa atomR groupR
    rw [if_pos e0, if_neg (by omega), if_pos e1]; rfl
  | byte c => exact atom_class hg h
  | cat a b => exact absurd rfl h4
  | alt a b => exact absurd rfl h5
  | star a => exact absurd rfl h6


structure Bk (s : ByteArray) (x : E) : Prop where
  rp : kindOf x ≠ 4 → kindOf x ≠ 5 → ∀ e i, x.deep ≤ e + 1 → At s i (text x) → i + (text x).length ≤ s.size → NO s (i + (text x).length) → Ra s e i = (toT x, i + (text x).length, 0)
  ct : kindOf x ≠ 5 → ∀ e i, x.deep ≤ e + 1 → At s i (text x) → i + (text x).length ≤ s.size → NO s (i + (text x).length) → ∃ k, k ≤ (text x).length ∧ ∀ n, catL s (Ra s e) (n + k) (Ra s e i) = catL s (Ra s e) n (toT x, i + (text x).length, 0)
  al : ∀ e i, x.deep ≤ e + 1 → At s i (text x) → i + (text x).length ≤ s.size → catEnd s (i + (text x).length) = true → ∃ k, k ≤ (text x).length ∧ ∀ n, altL s (Ca s e) (n + k) (Ca s e i) = altL s (Ca s e) n (toT x, i + (text x).length, 0)
theorem Bk.all {s : ByteArray} {x : E} (h : Bk s x) {e i : Nat} (hd : x.deep ≤ e + 1) (ha : At s i (text x)) (hb : i + (text x).length ≤ s.size) (hn : i + (text x).length = s.size ∨ bt s (i + (text x).length) = 41) : altN s (e + 1) i = (toT x, i + (text x).length, 0) := by
  have hce : catEnd s (i + (text x).length) = true := by
    unfold catEnd
    rcases hn with h | h <;> simp [h]
  have h124 : bt s (i + (text x).length) ≠ 124 := by
    rcases hn with h | h
    · rw [h, bt_end]; decide
    · rw [h]; decide
  obtain ⟨k, hk, e0⟩ := h.al e i hd ha hb hce
  have e1 := e0 (s.size + 1 - k + 1)
  rw [altN_succ]
  unfold altR
  rw [show s.size + 2 = s.size + 1 - k + 1 + k by omega, e1, altL, if_neg (by simp), if_neg h124]
theorem Bk.br {s : ByteArray} {x : E} (h : Bk s x) {e i : Nat} (hd : x.deep ≤ e) (ha : At s i ([40] ++ text x ++ [41])) (hb : i + ([40] ++ text x ++ [41]).length ≤ s.size) : Aa s e i = (toT x, i + ([40] ++ text x ++ [41]).length, 0) := by
  have hx : 0 < x.deep := by cases x <;> simp [E.deep] <;> omega
  obtain ⟨e', rfl⟩ : ∃ e', e = e' + 1 := ⟨e - 1, by omega⟩
  have h0 : bt s i = 40 := At.first (m := text x) ha.left
  have h1 : At s (i + 1) (text x) := At.tail (b := 40) ha.left
  have h2 : bt s (i + 1 + (text x).length) = 41 := by
    have h9 : At s (i + ([40] ++ text x).length) [41] := ha.right
    have e9 : i + ([40] ++ text x).length = i + 1 + (text x).length := by rw [List.length_append]; simp only [List.length_cons, List.length_nil]; omega
    rw [e9] at h9
    exact h9.first
  simp only [List.length_append, List.length_cons, List.length_nil] at hb ⊢
  have h3 := h.all (e := e') (i := i + 1) (by omega) h1 (by omega) (Or.inr h2)
  have hf := at_first (text_first x) h1
  have h4 := atom_group (e := e' + 1) h0 hf.2.2.2.2.1 h3 h2
  rw [h4]
  refine Prod.ext rfl (Prod.ext ?_ rfl)
  simp only []; omega
theorem inBr_yes {ks : List Int} {k : Int} {l : List UInt8} (h : ks.contains k = true) : inBr ks k l = [40] ++ l ++ [41] := by unfold inBr; rw [if_pos h]
theorem inBr_no {ks : List Int} {k : Int} {l : List UInt8} (h : ¬ ks.contains k = true) : inBr ks k l = l := by unfold inBr; rw [if_neg h]
/-- A part that is in brackets, or is read by rep. -/
theorem Bk.part {s : ByteArray} {x : E} (h : Bk s x) {ks : List Int} (hks : ¬ ks.contains (kindOf x) = true → kindOf x ≠ 4 ∧ kindOf x ≠ 5) {e i : Nat} (hd : x.deep ≤ e) (ha : At s i (inBr ks (kindOf x) (text x))) (hb : i + (inBr ks (kindOf x) (text x)).length ≤ s.size) (hn : NO s (i + (inBr ks (kindOf x) (text x)).length)) : Ra s e i = (toT x, i + (inBr ks (kindOf x) (text x)).length, 0) := by
  by_cases hc : ks.contains (kindOf x) = true
  · rw [inBr_yes hc] at ha hb hn ⊢
    exact rep_atom (h.br hd ha hb) hn
  · rw [inBr_no hc] at ha hb hn ⊢
    exact h.rp (hks hc).1 (hks hc).2 e i (by omega) ha hb hn
/-- Such a one is a CAT of one. -/
theorem cat_of {s : ByteArray} {x : E} {e i j : Nat} (h : Ra s e i = (toT x, j, 0)) : ∃ k, k ≤ (0 : Nat) ∧ ∀ n, catL s (Ra s e) (n + k) (Ra s e i) = catL s (Ra s e) n (toT x, j, 0) := ⟨0, Nat.le_refl _, fun n => by rw [h]; rfl⟩
theorem cat_done {s : ByteArray} {x : E} {e i j m : Nat} (h : ∃ k, k ≤ m ∧ ∀ n, catL s (Ra s e) (n + k) (Ra s e i) = catL s (Ra s e) n (toT x, j, 0)) (hm : m ≤ s.size) (hce : catEnd s j = true) : Ca s e i = (toT x, j, 0) := by
  obtain ⟨k, hk, e0⟩ := h
  unfold Ca catR
  rw [show s.size + 2 = s.size + 1 - k + 1 + k by omega, e0, cat_rep hce]
theorem kind_in (x : E) : kindOf x = 1 ∨ kindOf x = 2 ∨ kindOf x = 3 ∨ kindOf x = 4 ∨ kindOf x = 5 ∨ kindOf x = 6 := by cases x <;> simp [kindOf]
theorem bk_of_rep {s : ByteArray} {x : E} (_h5 : kindOf x ≠ 5) (_h4 : kindOf x ≠ 4) (h : ∀ e i, x.deep ≤ e + 1 → At s i (text x) → i + (text x).length ≤ s.size → NO s (i + (text x).length) → Ra s e i = (toT x, i + (text x).length, 0)) : Bk s x := by
  have hct : ∀ e i, x.deep ≤ e + 1 → At s i (text x) → i + (text x).length ≤ s.size → NO s (i + (text x).length) → ∃ k, k ≤ (text x).length ∧ ∀ n, catL s (Ra s e) (n + k) (Ra s e i) = catL s (Ra s e) n (toT x, i + (text x).length, 0) := fun e i h1 h2 h3 h4 => by
    obtain ⟨k, hk, e0⟩ := cat_of (h e i h1 h2 h3 h4)
    exact ⟨k, by omega, e0⟩
  refine ⟨fun _ _ => h, fun _ => hct, fun e i h1 h2 h3 hce => ⟨0, by omega, fun n => ?_⟩⟩
  rw [cat_done (hct e i h1 h2 h3 (end_no hce)) (by omega) hce]; rfl
theorem back (s : ByteArray) : ∀ x : E, Good x → Bk s x
  | .none, hg => bk_of_rep (by simp [kindOf]) (by simp [kindOf]) fun e i _ h2 _ h4 => rep_atom (atom_low e i .none hg (by simp [kindOf]) (by simp [kindOf]) (by simp [kindOf]) h2) h4
  | .emp, hg => bk_of_rep (by simp [kindOf]) (by simp [kindOf]) fun e i _ h2 _ h4 => rep_atom (atom_low e i .emp hg (by simp [kindOf]) (by simp [kindOf]) (by simp [kindOf]) h2) h4
  | .byte c, hg => bk_of_rep (by simp [kindOf]) (by simp [kindOf]) fun e i _ h2 _ h4 => rep_atom (atom_low e i (.byte c) hg (by simp [kindOf]) (by simp [kindOf]) (by simp [kindOf]) h2) h4
  | .star a, hg => by
    have ih := back s a hg
    refine bk_of_rep (by simp [kindOf]) (by simp [kindOf]) fun e i h1 h2 h3 h4 => ?_
    have hd : a.deep ≤ e := by simp only [E.deep] at h1; omega
    rw [text] at h2 h3 h4 ⊢
    have e42 : bt s (i + (inBr [4, 5, 6] (kindOf a) (text a)).length) = 42 := At.first (m := []) h2.right
    rw [List.length_append] at h3 h4 ⊢
    simp only [List.length_cons, List.length_nil] at h3 h4 ⊢
    have hat := h2.left
    have hatom : Aa s e i = (toT a, i + (inBr [4, 5, 6] (kindOf a) (text a)).length, 0) := by
      by_cases hc : ([4, 5, 6] : List Int).contains (kindOf a) = true
      · rw [inBr_yes hc] at hat h3 ⊢
        exact ih.br hd hat (by omega)
      · rw [inBr_no hc] at hat ⊢
        have hk := kind_in a
        simp at hc
        exact atom_low e i a hg (by omega) (by omega) (by omega) hat
    have := rep_star hatom e42 (by rw [Nat.add_assoc]; exact h4)
    unfold Ra
    rw [this]
    refine Prod.ext rfl (Prod.ext ?_ rfl)
    simp only []; omega
  | .cat a b, hg => by
    have iha := back s a hg.1
    have ihb := back s b hg.2
    have hct : ∀ e i, (E.cat a b).deep ≤ e + 1 → At s i (text (.cat a b)) → i + (text (.cat a b)).length ≤ s.size → NO s (i + (text (.cat a b)).length) → ∃ k, k ≤ (text (.cat a b)).length ∧ ∀ n, catL s (Ra s e) (n + k) (Ra s e i) = catL s (Ra s e) n (toT (.cat a b), i + (text (.cat a b)).length, 0) := fun e i h1 h2 h3 h4 => by
      have hda : a.deep ≤ e := by simp only [E.deep] at h1; omega
      have hdb : b.deep ≤ e := by simp only [E.deep] at h1; omega
      rw [text] at h2 h3 h4 ⊢
      have hl := h2.left
      have hr := h2.right
      rw [List.length_append] at h3 h4 ⊢
      rw [← Nat.add_assoc] at h3 h4
      have hfb := fb_no (at_first (inBr_first (text_first b)) hr)
      obtain ⟨k, hk, e0⟩ : ∃ k, k ≤ (inBr [5] (kindOf a) (text a)).length ∧ ∀ n, catL s (Ra s e) (n + k) (Ra s e i) = catL s (Ra s e) n (toT a, i + (inBr [5] (kindOf a) (text a)).length, 0) := by
        by_cases hc : ([5] : List Int).contains (kindOf a) = true
        · obtain ⟨k, hk, e0⟩ := cat_of (iha.part (ks := [5]) (fun h => absurd hc h) hda hl (by omega) hfb.1)
          exact ⟨k, by omega, e0⟩
        · have hfn := hfb.1
          have h3a := h3
          rw [inBr_no hc] at hl hfn h3a ⊢
          exact iha.ct (by simp at hc; omega) e i (by omega) hl (by omega) hfn
      have hb := ihb.part (ks := [5, 4]) (fun h => by simp at h; omega) hdb hr h3 h4
      refine ⟨k + 1, ?_, fun n => ?_⟩
      · obtain ⟨y, m, ey, -⟩ := inBr_first (ks := [5, 4]) (k := kindOf b) (text_first b)
        rw [ey]; simp only [List.length_cons]; omega
      · rw [show n + (k + 1) = n + 1 + k by omega, e0, catL, if_neg (by simp), if_neg (by rw [hfb.2]; simp)]
        simp only []
        rw [hb, toT, Nat.add_assoc]
    refine ⟨fun h => absurd rfl h, fun _ => hct, fun e i h1 h2 h3 hce => ⟨0, by omega, fun n => ?_⟩⟩
    rw [cat_done (hct e i h1 h2 h3 (end_no hce)) (by omega) hce]; rfl
  | .alt a b, hg => by
    have iha := back s a hg.1
    have ihb := back s b hg.2
    refine ⟨fun _ h => absurd rfl h, fun h => absurd rfl h, fun e i h1 h2 h3 hce => ?_⟩
    have hda : a.deep ≤ e := by simp only [E.deep] at h1; omega
    have hdb : b.deep ≤ e := by simp only [E.deep] at h1; omega
    rw [text] at h2 h3 hce ⊢
    have hl := h2.left.left
    have e124 : bt s (i + (text a).length) = 124 := At.first (m := []) h2.left.right
    have hr := h2.right
    simp only [List.length_append, List.length_cons, List.length_nil, Nat.zero_add] at h3 hce hr ⊢
    have hea : catEnd s (i + (text a).length) = true := by unfold catEnd; simp [e124]
    obtain ⟨k, hk, e0⟩ := iha.al e i (by omega) hl (by omega) hea
    have hj : i + ((text a).length + 1) = i + (text a).length + 1 := by omega
    rw [hj] at hr
    have hj2 : i + ((text a).length + 1 + (inBr [5] (kindOf b) (text b)).length) = i + (text a).length + 1 + (inBr [5] (kindOf b) (text b)).length := by omega
    rw [hj2] at h3 hce ⊢
    have hb : Ca s e (i + (text a).length + 1) = (toT b, i + (text a).length + 1 + (inBr [5] (kindOf b) (text b)).length, 0) := by
      by_cases hc : ([5] : List Int).contains (kindOf b) = true
      · exact cat_done (cat_of (ihb.part (ks := [5]) (fun h => absurd hc h) hdb hr h3 (end_no hce))) (by omega) hce
      · rw [inBr_no hc] at hr hce h3 ⊢
        exact cat_done (ihb.ct (by simp at hc; omega) e _ (by omega) hr h3 (end_no hce)) (by omega) hce
    refine ⟨k + 1, by omega, fun n => ?_⟩
    rw [show n + (k + 1) = n + 1 + k by omega, e0, altL, if_neg (by simp), if_pos e124, hb, toT]
/-- What is written is read as the tree that it was. -/
theorem read_back (s : ByteArray) (x : E) (hg : Good x) (hd : x.deep ≤ 30) (hs : s.data.toList = text x) : altN s 30 0 = (toT x, s.size, 0) := by
  have hsz : s.size = (text x).length := by rw [← hs]; rfl
  have hat : At s 0 (text x) := fun k hk => by
    have hk2 : k < s.size := by omega
    unfold bt
    rw [Nat.zero_add, dif_pos hk2]
    have : (text x)[k] = s.data.toList[k]'(by rw [hs]; exact hk) := by simp only [hs]
    rw [this]; rfl
  have := (back s x hg).all (e := 29) (i := 0) (by omega) hat (by omega) (Or.inl (by omega))
  rw [this, Nat.zero_add, hsz]
end Go.Proofs.Ythloedfiomfnbaa
