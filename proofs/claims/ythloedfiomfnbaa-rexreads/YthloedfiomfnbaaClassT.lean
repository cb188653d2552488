/-
  The contract of rex.writtenClass.
-/
import Derived.Test.YthloedfiomfnbaaClasses
namespace Go.Proofs.Ythloedfiomfnbaa
open Go.RowKit
open Cls Txt

set_option maxHeartbeats 1000000 in
set_option maxRecDepth 20000 in
theorem writtenClass_any (c : Cl) (w : World) :
    Calls Try.prog 32 #[.agg #[.int .u64 (c.1.toNat : Int), .int .u64 (c.2.1.toNat : Int), .int .u64 (c.2.2.1.toNat : Int), .int .u64 (c.2.2.2.toNat : Int)]] w fun e w' => e = .returned (.string (S (classT c))) ∧ Below w.heap.size w w' := by
  obtain ⟨r1, HR1⟩ : ∃ r, Hid (runsT (mem c) = r) := ⟨_, (rfl : runsT (mem c) = runsT (mem c))⟩
  obtain ⟨r2, HR2⟩ : ∃ r, Hid (runsT (mem (neg c)) = r) := ⟨_, (rfl : runsT (mem (neg c)) = runsT (mem (neg c)))⟩
  have hrl1 : r1.length ≤ 2304 := by rw [← HR1.out]; exact runsT_length _
  have hrl2 : r2.length ≤ 2304 := by rw [← HR2.out]; exact runsT_length _
  have hs1 : (S r1).size ≤ 2304 := by rw [S_size]; exact hrl1
  have hs2 : (S r2).size ≤ 2304 := by rw [S_size]; exact hrl2
  go_enter Try.func32, Try.ntmps32
  go_wp2_with fail
  have B0 : Below w.heap.size w (w.alloc (.cells #[.int .u64 (c.1.toNat : Int), .int .u64 (c.2.1.toNat : Int), .int .u64 (c.2.2.1.toNat : Int), .int .u64 (c.2.2.2.toNat : Int)] 24)) := (Below.refl _ _).alloc (Nat.le_refl _) _
  refine (count_any c _).mono ?_
  rintro _ w1 ⟨rfl, hL1⟩
  have hb1 := hL1.below
  have hblk : w1.heap[w.heap.size]? = some (.cells #[.int .u64 (c.1.toNat : Int), .int .u64 (c.2.1.toNat : Int), .int .u64 (c.2.2.1.toNat : Int), .int .u64 (c.2.2.2.toNat : Int)] 24) := (hb1.block _ (by simp)).trans (block_new w _)
  have HB1 : Hid (Below w.heap.size w w1 ∧ w1.heap[w.heap.size]? = some (.cells #[.int .u64 (c.1.toNat : Int), .int .u64 (c.2.1.toNat : Int), .int .u64 (c.2.2.1.toNat : Int), .int .u64 (c.2.2.2.toNat : Int)] 24) ∧ w.heap.size < w1.heap.size) := ⟨B0.trans (hb1.mono (by simp)), hblk, by have := hb1.size; simp at this; omega⟩
  obtain ⟨⟨q0, q1, q2, q3⟩, -⟩ := block4c hblk
  clear hL1 hb1 hblk B0
  have hcl := count_le c
  obtain ⟨n, HN⟩ : ∃ n, Hid (count c = n) := ⟨_, (rfl : count c = count c)⟩
  rw [HN.out] at hcl ⊢
  by_cases h1 : n = 1
  · subst h1
    obtain ⟨b, hb, hby, hru⟩ := single HN.out
    have HT : Hid (classT c = charT b) := by show _ = _; unfold classT; rw [if_pos HN.out, hru]
    have hbc := bytes_any c w1
    rw [hby] at hbc
    have hix : ∀ w, (Instr.index 9 (.string (S [b.toUInt8])) (.int .i64 0)).run Try.prog w = .ok (.int .u8 (b : Int)) w := fun w => by
      have := byte_run (S [b.toUInt8]) 0 (by rw [S_size]; simp) w
      rw [S_at] at this
      simp only [List.getElem_cons_zero] at this
      rwa [u8_toNat b hb] at this
    clear hby hru
    go_wp2_with fail
    refine hbc.mono ?_
    rintro _ w2 ⟨rfl, hb2⟩
    have HB2 : Hid (Below w.heap.size w w2) := HB1.out.1.trans (hb2.mono HB1.out.1.size)
    clear hb2 hbc
    go_wp2_with fail
    refine (writtenByte_any b hb w2).mono ?_
    rintro _ w3 ⟨rfl, hb3⟩
    have HB3 : Hid (Below w.heap.size w w3) := HB2.out.trans (hb3.mono HB2.out.size)
    clear hb3
    go_wp2_with fail
    go_ret
    exact ⟨by rw [HT.out]; rfl, HB3.out⟩
  · have hb1 : ((n : Int) == 1) = false := by simp; omega
    obtain ⟨D, HD⟩ : ∃ D, Hid (dot = D) := ⟨_, (rfl : dot = dot)⟩
    have hda := fun W => dot_any W
    rw [HD.out] at hda
    obtain ⟨bd, HBD⟩ : ∃ b, Hid (decide (c = D) = b) := ⟨_, (rfl : decide (c = D) = decide (c = D))⟩
    have heq : ∀ w, _ = _ := eql24 c D
    simp only [HBD.out] at heq
    have hne : Nonempty (Kp (Sb w1)) := ⟨⟨_, Sb.drew w1⟩⟩
    have d0 : ∀ p : Kp (Sb w1), p.W.cell? ⟨w.heap.size, 0, none⟩ = _ := fun p => (Below.cell p.h (p := ⟨w.heap.size, 0, none⟩) HB1.out.2.2).trans q0
    have d1 : ∀ p : Kp (Sb w1), p.W.cell? ⟨w.heap.size, 1, none⟩ = _ := fun p => (Below.cell p.h (p := ⟨w.heap.size, 1, none⟩) HB1.out.2.2).trans q1
    have d2 : ∀ p : Kp (Sb w1), p.W.cell? ⟨w.heap.size, 2, none⟩ = _ := fun p => (Below.cell p.h (p := ⟨w.heap.size, 2, none⟩) HB1.out.2.2).trans q2
    have d3 : ∀ p : Kp (Sb w1), p.W.cell? ⟨w.heap.size, 3, none⟩ = _ := fun p => (Below.cell p.h (p := ⟨w.heap.size, 3, none⟩) HB1.out.2.2).trans q3
    have HCA : Hid (∀ p : Kp (Sb w1), Calls Try.prog 48 #[] p.W fun e w'' => e = .returned (.agg #[.int .u64 (D.1.toNat : Int), .int .u64 (D.2.1.toNat : Int), .int .u64 (D.2.2.1.toNat : Int), .int .u64 (D.2.2.2.toNat : Int)]) ∧ ∃ q : Kp (Sb w1), w'' = q.W) := fun p => Kp.calls p Sb.next (hda p.W)
    go_wp2_with fail
    refine wp_region_kept mixed (by kernel_rfl) (Sb.drew w1) ?_
    repeat (go_big_quiet_step (first | (go_at_call 48; with_reducible exact HCA.out _)))
    refine wpQuiet_nil ?_
    intro W2 hw2
    obtain ⟨⟨W2, HS2⟩, rfl⟩ := hw2
    have HB2 : Hid (Below w.heap.size w W2 ∧ W2.heap[w.heap.size]? = some (.cells #[.int .u64 (c.1.toNat : Int), .int .u64 (c.2.1.toNat : Int), .int .u64 (c.2.2.1.toNat : Int), .int .u64 (c.2.2.2.toNat : Int)] 24)) := ⟨HB1.out.1.trans (Below.mono HS2 HB1.out.1.size), (Below.block HS2 _ HB1.out.2.2).trans HB1.out.2.1⟩
    clear HS2 hne d0 d1 d2 d3 heq q0 q1 q2 q3 hda HCA
    obtain ⟨⟨q0, q1, q2, q3⟩, -⟩ := block4c HB2.out.2
    cases bd with
    | true =>
      have HT : Hid (classT c = [46]) := by show _ = _; unfold classT; rw [if_neg (by rw [HN.out]; exact h1), if_pos (by rw [HD.out]; exact of_decide_eq_true HBD.out)]
      go_wp2_with fail
      go_ret
      exact ⟨by rw [HT.out]; rfl, HB2.out.1⟩
    | false =>
      have HND : Hid (¬ c = dot) := by rw [HD.out]; exact of_decide_eq_false HBD.out
      by_cases h128 : n ≤ 128
      · have HT : Hid (classT c = [91] ++ r1 ++ [93]) := by show _ = _; unfold classT; rw [if_neg (by rw [HN.out]; exact h1), if_neg HND.out, if_pos (by rw [HN.out]; exact h128), HR1.out]
        have hl1 : (n : Int) ≤ 128 := by omega
        go_wp2_with fail
        have hit := items_any c W2
        rw [HR1.out] at hit
        refine hit.mono ?_
        rintro _ w3 ⟨rfl, hb3⟩
        have HB3 : Hid (Below w.heap.size w w3) := HB2.out.1.trans (hb3.mono HB2.out.1.size)
        clear hb3 hit
        go_wp2_with fail
        go_ret
        exact ⟨ret_str (by rw [HT.out]; simp), HB3.out⟩
      · have HT : Hid (classT c = [91, 94] ++ r2 ++ [93]) := by show _ = _; unfold classT; rw [if_neg (by rw [HN.out]; exact h1), if_neg HND.out, if_neg (by rw [HN.out]; exact h128), HR2.out]
        have hl1 : ¬ (n : Int) ≤ 128 := by omega
        go_wp2_with fail
        refine (not_any c W2).mono ?_
        rintro _ w3 ⟨rfl, hb3⟩
        have HB3 : Hid (Below w.heap.size w w3) := HB2.out.1.trans (hb3.mono HB2.out.1.size)
        clear hb3
        go_wp2_with fail
        have hit := items_any (neg c) w3
        rw [HR2.out] at hit
        refine hit.mono ?_
        rintro _ w4 ⟨rfl, hb4⟩
        have HB4 : Hid (Below w.heap.size w w4) := HB3.out.trans (hb4.mono HB3.out.size)
        clear hb4 hit
        go_wp2_with fail
        go_ret
        exact ⟨ret_str (by rw [HT.out]; simp), HB4.out⟩
end Go.Proofs.Ythloedfiomfnbaa
