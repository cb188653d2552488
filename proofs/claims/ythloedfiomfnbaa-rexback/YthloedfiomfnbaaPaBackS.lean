/-
  What is written is read: sets.
-/
import Derived.Test.YthloedfiomfnbaaPaBack
namespace Go.Proofs.Ythloedfiomfnbaa.Txt
open Cls Rex

theorem runs_rest (p : Nat → Bool) (k : Nat) : ∀ n, k + n ≤ 256 → ∃ r, runsTo p (k + n) = runsTo p k ++ r ∧ (r = [] ∨ ∃ b r', b < 256 ∧ r = charT b ++ r')
  | 0, _ => ⟨[], by simp, Or.inl rfl⟩
  | n + 1, h => by
    obtain ⟨r, h1, h2⟩ := runs_rest p k n (by omega)
    refine ⟨r ++ (if startB p (k + n) = true then runText (k + n) (lastOf p (k + n)) else []), ?_, ?_⟩
    · show runsTo p (k + n) ++ _ = _
      rw [h1, List.append_assoc]; rfl
    · rcases h2 with rfl | ⟨b, r', hb, rfl⟩
      · rw [List.nil_append]
        split
        · exact Or.inr ⟨k + n, (if k + n + 1 < lastOf p (k + n) then [45] else []) ++ (if k + n < lastOf p (k + n) then charT (lastOf p (k + n)) else []), by omega, by unfold runText; rw [List.append_assoc]⟩
        · exact Or.inl rfl
      · exact Or.inr ⟨b, r' ++ (if startB p (k + n) = true then runText (k + n) (lastOf p (k + n)) else []), hb, by rw [List.append_assoc]⟩
theorem nxt {s : ByteArray} {q : Nat} {r : List UInt8} (hr : r = [] ∨ ∃ b r', b < 256 ∧ r = charT b ++ r') (h : At s q (r ++ [93])) : bt s q ≠ 45 := by
  rcases hr with rfl | ⟨b, r', hb, rfl⟩
  · have : bt s q = 93 := At.first (m := []) h
    rw [this]; decide
  · rw [List.append_assoc] at h
    exact (At.char hb h).1
theorem items_step {s : ByteArray} {n pos pos' : Nat} {c cls : Cl} (h93 : bt s pos ≠ 93) (h : itemR s pos = (cls, pos', 0)) : itemsR s (n + 1) pos c = itemsR s n pos' (join c cls) := by
  rw [itemsR, if_neg h93, h]; rfl
theorem bytesFrom_none {c : Cl} {k : Nat} (h : bytesFrom c k = []) : ∀ j, k ≤ j → j < 256 → mem c j = false := fun j h1 h2 => by
  unfold bytesFrom at h
  have h3 := List.map_eq_nil_iff.1 h
  have := List.filter_eq_nil_iff.1 h3 j (List.mem_range'_1.2 ⟨h1, by omega⟩)
  simpa using this
theorem items_runs (s : ByteArray) (c0 : Cl) (i : Nat) (h : At s i (runsT (mem c0) ++ [93])) : ∀ (m k n : Nat) (c : Cl), 256 - k ≤ m → k ≤ 256 → (k = 0 ∨ k = 256 ∨ mem c0 k = false) → (∀ b, b < 256 → mem c b = (decide (b < k) && mem c0 b)) → s.size - (i + (runsTo (mem c0) k).length) < n →
    itemsR s n (i + (runsTo (mem c0) k).length) c = (c0, i + (runsT (mem c0)).length, 0) := by
  intro m
  induction m with
  | zero =>
    intro k n c hm hk hk0 hc hn
    obtain rfl : k = 256 := by omega
    have h93 : bt s (i + (runsT (mem c0)).length) = 93 := At.first (m := []) h.right
    obtain ⟨n', rfl⟩ : ∃ n', n = n' + 1 := ⟨n - 1, by omega⟩
    have e : runsTo (mem c0) 256 = runsT (mem c0) := rfl
    rw [e, itemsR, if_pos h93]
    have : c = c0 := ext_mem fun b hb => by rw [hc b hb, decide_eq_true hb, Bool.true_and]
    rw [this]
  | succ m ih =>
    intro k n c hm hk hk0 hc hn
    by_cases hb : bytesFrom c0 k = []
    · have hno := bytesFrom_none hb
      have e : runsT (mem c0) = runsTo (mem c0) k := by
        have := runsTo_none (mem c0) k (256 - k) (fun j h1 h2 => by unfold startB; rw [hno j h1 (by omega)]; rfl)
        rw [show k + (256 - k) = 256 by omega] at this
        exact this
      have h93 : bt s (i + (runsT (mem c0)).length) = 93 := At.first (m := []) h.right
      obtain ⟨n', rfl⟩ : ∃ n', n = n' + 1 := ⟨n - 1, by omega⟩
      rw [← e, itemsR, if_pos h93]
      have : c = c0 := ext_mem fun b hb => by
        rw [hc b hb]
        by_cases hbk : b < k
        · rw [decide_eq_true hbk, Bool.true_and]
        · rw [hno b (by omega) hb, Bool.and_false]
      rw [this]
    · obtain ⟨a, hka, ha, hma, hno, -⟩ := bytesFrom_run c0 k hk hb
      have hle := lastOf_le (mem c0) a ha
      have hrun := runsTo_run (mem c0) k a (hk0.imp id fun h => h.resolve_left (by omega)) hka ha hma hno
      have hstop : lastOf (mem c0) a + 1 = 0 ∨ lastOf (mem c0) a + 1 = 256 ∨ mem c0 (lastOf (mem c0) a + 1) = false := by
        by_cases e : lastOf (mem c0) a = 255
        · exact Or.inr (Or.inl (by omega))
        · exact Or.inr (Or.inr (lastOf_stop (mem c0) a ha (by omega)))
      have hin : ∀ b, a ≤ b → b ≤ lastOf (mem c0) a → mem c0 b = true := fun b h1 h2 => by
        by_cases e : b = a
        · rw [e]; exact hma
        · exact lastOf_in (mem c0) a b (by omega) h2
      obtain ⟨r, hr, hrf⟩ := runs_rest (mem c0) (lastOf (mem c0) a + 1) (256 - (lastOf (mem c0) a + 1)) (by omega)
      rw [show lastOf (mem c0) a + 1 + (256 - (lastOf (mem c0) a + 1)) = 256 by omega] at hr
      have hat : At s (i + (runsTo (mem c0) k).length) (runText a (lastOf (mem c0) a) ++ (r ++ [93])) := by
        have h2 := h
        have e : runsT (mem c0) ++ [93] = runsTo (mem c0) k ++ (runText a (lastOf (mem c0) a) ++ (r ++ [93])) := by
          show runsTo (mem c0) 256 ++ [93] = _
          rw [hr, hrun]; simp
        rw [e] at h2
        exact h2.right
      have hlen : i + (runsTo (mem c0) (lastOf (mem c0) a + 1)).length = i + (runsTo (mem c0) k).length + (runText a (lastOf (mem c0) a)).length := by rw [hrun, List.length_append]; omega
      have hnext := nxt hrf hat.right
      have ih2 := ih (lastOf (mem c0) a + 1)
      rw [hlen] at ih2
      generalize hpos : i + (runsTo (mem c0) k).length = pos at hat hn hnext ih2 ⊢
      generalize hlast : lastOf (mem c0) a = last at hat hnext ih2 hle hstop hin ⊢
      have hat1 := hat.left
      have h93 : bt s pos ≠ 93 := by
        have h3 := hat1
        unfold runText at h3
        rw [List.append_assoc] at h3
        exact (At.char ha h3).2.1
      have hps : pos < s.size := by
        have h3 := hat1.left.left
        obtain ⟨x, mm, e1, -⟩ := char_first a ha
        refine Classical.byContradiction fun hge => ?_
        have h0 : bt s pos = 0 := by unfold bt; rw [dif_neg hge]
        have := charR_back ha h3
        unfold charR at this
        rw [h0] at this
        simp [signs] at this
      by_cases e1 : a = last
      · subst e1
        have hT : runText a a = charT a := by unfold runText; simp
        rw [hT] at hat1 hnext ih2
        obtain ⟨n', rfl⟩ : ∃ n', n = n' + 1 := ⟨n - 1, by omega⟩
        have hl := (charR_rd s pos (by omega)).up
        rw [charR_back ha hat1] at hl
        have hl2 := hl rfl
        rw [items_step h93 (item_one ha hat1 hnext)]
        refine ih2 n' _ (by omega) (by omega) hstop (fun b hb => ?_) (by simp only [] at hl2; omega)
        rw [mem_join, hc b hb, mem_range _ _ _ hb]
        by_cases q1 : b < k
        · simp [q1, show b < a + 1 by omega, show ¬ (a ≤ b) by omega]
        · by_cases q2 : b = a
          · subst q2; simp [hma]
          · by_cases q3 : b < a
            · simp [q1, hno b (by omega) q3, show b < a + 1 by omega]; omega
            · simp [q1, show ¬ b < a + 1 by omega]; omega
      · by_cases e2 : last = a + 1
        · subst e2
          have hT : runText a (a + 1) = charT a ++ charT (a + 1) := by unfold runText; simp
          rw [hT] at hat1 hnext ih2
          have h1 := hat1.left
          have h2 := hat1.right
          have hl := (charR_rd s pos (by omega)).up
          rw [charR_back ha h1] at hl
          have hl2 := hl rfl
          simp only [] at hl2
          have hx := At.char (m := []) (show a + 1 < 256 by omega) (by rw [List.append_nil]; exact h2)
          have hp2 : pos + (charT a).length ≤ s.size := by have := (charR_rd s pos (by omega)).hi; rw [charR_back ha h1] at this; exact this
          have hr2 := charR_rd s (pos + (charT a).length) hp2
          rw [charR_back (by omega) h2] at hr2
          have hr3 := hr2.up rfl
          have hr4 := hr2.hi
          simp only [] at hr3 hr4
          rw [List.length_append, ← Nat.add_assoc] at hnext ih2
          obtain ⟨n', rfl⟩ : ∃ n', n = n' + 1 + 1 := ⟨n - 2, by omega⟩
          rw [items_step h93 (item_one ha h1 hx.1), items_step hx.2.1 (item_one (by omega) h2 hnext)]
          refine ih2 n' _ (by omega) (by omega) hstop (fun b hb => ?_) (by omega)
          rw [mem_join, mem_join, hc b hb, mem_range _ _ _ hb, mem_range _ _ _ hb]
          by_cases q1 : b < k
          · simp [q1, show b < a + 1 + 1 by omega, show ¬ (a ≤ b) by omega]; omega
          · by_cases q2 : b = a
            · subst q2; simp [hma]; omega
            · by_cases q4 : b = a + 1
              · subst q4; simp [hin (a + 1) (by omega) (by omega)]
              · by_cases q3 : b < a
                · simp [q1, hno b (by omega) q3]; omega
                · simp [q1, show ¬ b < a + 1 + 1 by omega]; omega
        · have hT : runText a last = charT a ++ [45] ++ charT last := by unfold runText; rw [if_pos (by omega), if_pos (by omega)]
          rw [hT] at hat1 hnext ih2
          have hit := item_two ha (by omega) (by omega) hat1
          have hr := itemR_rd s pos (by omega)
          rw [hit] at hr
          have hr2 := hr.up rfl
          have hr3 := hr.hi
          simp only [] at hr2 hr3
          obtain ⟨n', rfl⟩ : ∃ n', n = n' + 1 := ⟨n - 1, by omega⟩
          rw [items_step h93 hit]
          refine ih2 n' _ (by omega) (by omega) hstop (fun b hb => ?_) (by omega)
          rw [mem_join, hc b hb, mem_range _ _ _ hb]
          by_cases q1 : b < k
          · simp [q1, show b < last + 1 by omega]; omega
          · by_cases q2 : a ≤ b ∧ b ≤ last
            · simp [q1, hin b q2.1 q2.2, show b < last + 1 by omega]; omega
            · by_cases q3 : b < a
              · simp [q1, hno b (by omega) q3]; omega
              · simp [q1, show ¬ b < last + 1 by omega]; omega
theorem items_all (s : ByteArray) (c0 : Cl) (i : Nat) (h : At s i (runsT (mem c0) ++ [93])) : itemsR s (s.size + 1) i Cls.empty = (c0, i + (runsT (mem c0)).length, 0) := by
  have := items_runs s c0 i h 256 0 (s.size + 1) Cls.empty (by omega) (by omega) (Or.inl rfl) (fun b _ => by rw [mem_empty]; simp) (by omega)
  simpa [runsTo] using this
end Go.Proofs.Ythloedfiomfnbaa.Txt
