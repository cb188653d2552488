/-
  pushref.spans at a class of bytes.
-/
import Derived.Test.YtdnagboonjcehaaSpanC
namespace Go.Proofs.Ytdnagboonjcehaa
open Go.RowKit
open Cls Rex
set_option maxHeartbeats 4000000 in
set_option maxRecDepth 20000 in
theorem spans_byte (c : Cl) : SC (.mk 3 c []) (.byte c) := by
  intro v B s w hs hx hBw
  obtain ⟨k_, c_, ao, cap, kids_, vals, rfl, ht, -⟩ := hx.shape
  injection ht with e1 e2 e3
  subst e1 e2 e3
  clear hx
  simp only [List.length_nil]
  obtain ⟨w0, HW0⟩ : ∃ w0, Hid (w.alloc (.cells #[.int .i64 3, .int .u64 (c.1.toNat : Int), .int .u64 (c.2.1.toNat : Int), .int .u64 (c.2.2.1.toNat : Int), .int .u64 (c.2.2.2.toNat : Int), .slice ao 0 cap] 27) = w0) := ⟨_, (rfl : w.alloc (.cells #[.int .i64 3, .int .u64 (c.1.toNat : Int), .int .u64 (c.2.1.toNat : Int), .int .u64 (c.2.2.1.toNat : Int), .int .u64 (c.2.2.2.toNat : Int), .slice ao 0 cap] 27) = w.alloc (.cells #[.int .i64 3, .int .u64 (c.1.toNat : Int), .int .u64 (c.2.1.toNat : Int), .int .u64 (c.2.2.1.toNat : Int), .int .u64 (c.2.2.2.toNat : Int), .slice ao 0 cap] 27))⟩
  have hb0 : Below w.heap.size w w0 := by rw [← HW0.out]; exact box_keep w _
  have hz0 : w0.heap[w.heap.size]? = some (.cells #[.int .i64 3, .int .u64 (c.1.toNat : Int), .int .u64 (c.2.1.toNat : Int), .int .u64 (c.2.2.1.toNat : Int), .int .u64 (c.2.2.2.toNat : Int), .slice ao 0 cap] 27) := by rw [← HW0.out]; exact block_new w _
  obtain ⟨g, HG⟩ : ∃ g, Hid (w0.heap.size = g) := ⟨_, (rfl : w0.heap.size = w0.heap.size)⟩
  have hbl := blank_any s.size (by omega) w0
  rw [HG.out] at hbl
  have hgl : w.heap.size + 1 ≤ g := by rw [← HG.out, ← HW0.out]; simp
  go_enter Try.func22, Try.ntmps22
  go_wp2_with fail
  rw [HW0.out]
  refine hbl.mono ?_
  rintro _ W1 ⟨rfl, hT, hBl, hsz⟩
  have hB1 : Below w0.heap.size w0 W1 := by rw [HG.out]; exact hBl
  have H0 : Hid (Sg w (.cells #[.int .i64 3, .int .u64 (c.1.toNat : Int), .int .u64 (c.2.1.toNat : Int), .int .u64 (c.2.2.1.toNat : Int), .int .u64 (c.2.2.2.toNat : Int), .slice ao 0 cap] 27) g (s.size + 1) (fun _ _ => false) W1) := ⟨hb0.trans (hB1.mono hb0.size), blk_next hB1 hz0, hT, hgl⟩
  clear hT hBl hsz hbl hB1 hb0 hz0
  have y0 := cell_of_row W1 w.heap.size 0 _ 27 (0, 0) H0.out.box
  simp only [List.getElem?_toArray, List.getElem?_cons_zero] at y0
  go_wp2_with fail
  clear y0
  go_loopw [7] (fun z wr => ∃ (i : Nat) (F : Nat → Nat → Bool), i ≤ s.size ∧ z = .int .i64 (i : Int) ∧ Hid (Sg w (.cells #[.int .i64 3, .int .u64 (c.1.toNat : Int), .int .u64 (c.2.1.toNat : Int), .int .u64 (c.2.2.1.toNat : Int), .int .u64 (c.2.2.2.toNat : Int), .slice ao 0 cap] 27) g (s.size + 1) F wr ∧ ∀ u v, u < (s.size + 1) → v < (s.size + 1) → (F u v = true ↔ u < i ∧ Sp (.byte c) s.data.toList u v))) (fun z _ => s.size - (intOf z).toNat)
  case atStart => exact ⟨0, _, by omega, rfl, ⟨H0.out, fun u v _ _ => by simp⟩⟩
  case round =>
    obtain ⟨i, F, hi, rfl, HI⟩ := hrel
    by_cases hlt : i < s.size
    · have hlt' : (i : Int) < (s.size : Int) := by omega
      obtain ⟨b, HBB⟩ : ∃ b : Nat, Hid (s[i].toNat = b) := ⟨_, (rfl : s[i].toNat = s[i].toNat)⟩
      have hb256 : b < 256 := by rw [← HBB.out]; exact s[i].toNat_lt
      have hix : ∀ w, (Instr.index 9 (.string s) (.int .i64 (i : Int))).run Try.prog w = .ok (.int .u8 (b : Int)) w := fun w => by
        rw [← HBB.out, run_index_string (h := Try.underlying9), dif_pos ⟨by omega, by omega⟩]
        rfl
      obtain ⟨mv, HMV⟩ : ∃ mv, Hid (mem c b = mv) := ⟨_, (rfl : mem c b = mem c b)⟩
      have HHA : Hid (∀ W, Calls Try.prog 29 #[.agg #[.int .u64 (c.1.toNat : Int), .int .u64 (c.2.1.toNat : Int), .int .u64 (c.2.2.1.toNat : Int), .int .u64 (c.2.2.2.toNat : Int)], .int .i64 (b : Int)] W fun e w' => e = .returned (.bool mv) ∧ Lays W w') := fun W => by
        have h := rhas_any c _ b rfl hb256 W
        rw [HMV.out] at h
        exact h
      have d1 : ∀ p : Kp (Sb wr), p.W.cell? ⟨g, i, none⟩ = some (.slice (some ⟨g + 1 + i, 0, none⟩) (s.size + 1) (s.size + 1)) := fun p => (HI.out.1.o.next p.h).top.cell (i := i) (by omega)
      have d2 : ∀ p : Kp (Sb wr), p.W.cell? ⟨w.heap.size, 1, none⟩ = some (.int .u64 (c.1.toNat : Int)) := fun p => by have := cell_of_row p.W w.heap.size 1 _ 27 (0, 0) (blk_next p.h HI.out.1.box); simpa using this
      have d3 : ∀ p : Kp (Sb wr), p.W.cell? ⟨w.heap.size, 2, none⟩ = some (.int .u64 (c.2.1.toNat : Int)) := fun p => by have := cell_of_row p.W w.heap.size 2 _ 27 (0, 0) (blk_next p.h HI.out.1.box); simpa using this
      have d4 : ∀ p : Kp (Sb wr), p.W.cell? ⟨w.heap.size, 3, none⟩ = some (.int .u64 (c.2.2.1.toNat : Int)) := fun p => by have := cell_of_row p.W w.heap.size 3 _ 27 (0, 0) (blk_next p.h HI.out.1.box); simpa using this
      have d5 : ∀ p : Kp (Sb wr), p.W.cell? ⟨w.heap.size, 4, none⟩ = some (.int .u64 (c.2.2.2.toNat : Int)) := fun p => by have := cell_of_row p.W w.heap.size 4 _ 27 (0, 0) (blk_next p.h HI.out.1.box); simpa using this
      have hz1 : (i : Int) + 1 < (s.size : Int) + 1 := by omega
      go_wp2_with fail
      have S0 : Sb wr wr.drew := Below.drew (Below.refl _ wr)
      have hne : Nonempty (Kp (Sb wr)) := ⟨⟨_, S0⟩⟩
      have hw : IntKind.i64.wrap (b : Int) = (b : Int) := by rw [IntKind.wrap_i64]; omega
      refine wp_region_tail [_, _, _, _, _, _, _, _, _, _, _, _, _, _] _ rfl mixed (by kernel_rfl) S0 ?_
      simp only [List.cons_append, List.nil_append]
      repeat (go_big_quiet_step (first | (go_at_call 29; with_reducible exact Kp.calls_lays _ Sb.next (HHA.out _))))
      refine wpQuiet_nil ?_
      intro p
      have HP : Hid (Sb wr p.W) := p.h
      have f1 := ((HI.out.1.o.next p.h).rows i (by omega)).frozen (i + 1)
      have d6 := ((HI.out.1.o.next p.h).rows i (by omega)).cell (i := i + 1) (by omega)
      generalize p.W = W6 at HP f1 d6 ⊢
      clear p d1 d2 d3 d4 d5 hne S0 hix hw
      go_simp
      go_wp2_with fail
      go_roundw
      case rel =>
        refine ⟨i + 1, _, by omega, by go_num, ⟨HI.out.1.put HP.out i (i + 1) mv, fun u v hu hv => ?_⟩⟩
        unfold upd
        have hmem : mv = true ↔ Sp (.byte c) s.data.toList i (i + 1) := by
          rw [sp_byte _ _ _ _ (by rw [len_of]; omega), ← HMV.out, ← HBB.out]
          constructor
          · intro h; exact ⟨rfl, by rw [len_of]; exact hlt, by rw [Array.getElem_toList]; exact h⟩
          · rintro ⟨_, _, h⟩; rw [Array.getElem_toList] at h; exact h
        by_cases e : u = i ∧ v = i + 1
        · obtain ⟨rfl, rfl⟩ := e
          rw [if_pos ⟨rfl, rfl⟩, hmem]
          exact ⟨fun h => ⟨by omega, h⟩, fun h => h.2⟩
        · rw [if_neg e, HI.out.2 u v hu hv]
          constructor
          · rintro ⟨h1, h2⟩; exact ⟨by omega, h2⟩
          · rintro ⟨h1, h2⟩
            refine ⟨?_, h2⟩
            have h3 := ((sp_byte _ _ _ _ (by rw [len_of]; omega)).1 h2).1
            have : u ≠ i := fun hu' => e ⟨hu', by omega⟩
            omega
      case measure => simp [intOf]; omega
    · have hlt' : ¬ (i : Int) < (s.size : Int) := by omega
      go_wp2_with fail
      go_ret
      refine ⟨g, rfl, by omega, ⟨F, HI.out.1.o, fun u v hu hv => ?_⟩, HI.out.1.below⟩
      rw [HI.out.2 u v hu hv]
      constructor
      · exact fun h => h.2
      · intro h
        obtain ⟨_, h3, _⟩ := (sp_byte _ _ _ _ (by rw [len_of]; omega)).1 h
        rw [len_of] at h3
        exact ⟨by omega, h⟩
end Go.Proofs.Ytdnagboonjcehaa
