/-
  The contracts of rex.only, rex.notNewLine and rex.writtenClass.
-/
import Derived.Test.YthloedfiomfnbaaItems
import Derived.Test.YthloedfiomfnbaaRanges
namespace Go.Proofs.Ythloedfiomfnbaa
open Go.RowKit
open Cls Txt

theorem block4c {W : World} {b : Nat} {d : Cl} (h : W.heap[b]? = some (.cells #[.int .u64 (d.1.toNat : Int), .int .u64 (d.2.1.toNat : Int), .int .u64 (d.2.2.1.toNat : Int), .int .u64 (d.2.2.2.toNat : Int)] 24)) :
    (W.cell? ⟨b, 0, none⟩ = some (.int .u64 (d.1.toNat : Int)) ∧ W.cell? ⟨b, 1, none⟩ = some (.int .u64 (d.2.1.toNat : Int)) ∧ W.cell? ⟨b, 2, none⟩ = some (.int .u64 (d.2.2.1.toNat : Int)) ∧ W.cell? ⟨b, 3, none⟩ = some (.int .u64 (d.2.2.2.toNat : Int))) ∧
    (W.frozen? ⟨b, 0, none⟩ = false ∧ W.frozen? ⟨b, 1, none⟩ = false ∧ W.frozen? ⟨b, 2, none⟩ = false ∧ W.frozen? ⟨b, 3, none⟩ = false) := by
  have hf : ∀ o, W.frozen? ⟨b, o, none⟩ = false := fun o => by simp [World.frozen?, h]
  refine ⟨⟨?_, ?_, ?_, ?_⟩, hf 0, hf 1, hf 2, hf 3⟩ <;> simp [World.cell?, h]

set_option maxHeartbeats 2000000 in
set_option maxRecDepth 20000 in
theorem only_any (b : Nat) (hb : b < 256) (w : World) :
    Calls Try.prog 61 #[.int .u8 (b : Int)] w fun e w' => e = .returned (.agg #[.int .u64 ((range b b).1.toNat : Int), .int .u64 ((range b b).2.1.toNat : Int), .int .u64 ((range b b).2.2.1.toNat : Int), .int .u64 ((range b b).2.2.2.toNat : Int)]) ∧ Below w.heap.size w w' := by
  have hw : IntKind.i64.wrap (b : Int) = (b : Int) := by unfold IntKind.wrap; simp [IntKind.bits, IntKind.signed]; omega
  go_enter Try.func61, Try.ntmps61
  go_wp2_with fail
  refine (range_any (b : Int) (b : Int) (by omega) (by omega) (by omega) _).mono ?_
  rintro _ w1 ⟨rfl, hb1⟩
  have hblk : w1.heap[w.heap.size]? = some (.cells #[.int .u64 (empty.1.toNat : Int), .int .u64 (empty.2.1.toNat : Int), .int .u64 (empty.2.2.1.toNat : Int), .int .u64 (empty.2.2.2.toNat : Int)] 24) := (hb1.block _ (by simp)).trans (block_new w _)
  obtain ⟨⟨z0, z1, z2, z3⟩, y0, y1, y2, y3⟩ := block4c hblk
  have HB : Hid (Below w.heap.size w w1) := ((Below.refl _ w).alloc (Nat.le_refl _) _).trans (hb1.mono (by simp))
  clear hb1 hblk hw
  go_wp2_with fail
  refine bodyPost_ret (v := .agg #[.int .u64 ((range b b).1.toNat : Int), .int .u64 ((range b b).2.1.toNat : Int), .int .u64 ((range b b).2.2.1.toNat : Int), .int .u64 ((range b b).2.2.2.toNat : Int)]) (by simp [results, Try.results61, go_sem, z0, z1, z2, z3]) rfl ⟨rfl, ?_⟩
  exact (((HB.out.setCell (Nat.le_refl _) _).setCell (Nat.le_refl _) _).setCell (Nat.le_refl _) _).setCell (Nat.le_refl _) _

set_option maxHeartbeats 2000000 in
set_option maxRecDepth 20000 in
theorem dot_any (w : World) :
    Calls Try.prog 48 #[] w fun e w' => e = .returned (.agg #[.int .u64 (dot.1.toNat : Int), .int .u64 (dot.2.1.toNat : Int), .int .u64 (dot.2.2.1.toNat : Int), .int .u64 (dot.2.2.2.toNat : Int)]) ∧ Below w.heap.size w w' := by
  have h10 := fun W => only_any 10 (by omega) W
  rw [show ((10 : Nat) : Int) = 10 from rfl] at h10
  obtain ⟨r, HR⟩ : ∃ r, Hid (range 10 10 = r) := ⟨_, (rfl : range 10 10 = range 10 10)⟩
  have HD : Hid (dot = neg r) := by show _ = _; rw [← HR.out]; rfl
  rw [HR.out] at h10
  rw [HD.out]
  go_enter Try.func48, Try.ntmps48
  go_wp2_with fail
  refine (h10 _).mono ?_
  rintro _ w1 ⟨rfl, hb1⟩
  have B1 : Below w.heap.size w w1 := ((Below.refl _ w).alloc (Nat.le_refl _) _).trans (hb1.mono (by simp))
  have hblk : w1.heap[w.heap.size]? = some (.cells #[.int .u64 (empty.1.toNat : Int), .int .u64 (empty.2.1.toNat : Int), .int .u64 (empty.2.2.1.toNat : Int), .int .u64 (empty.2.2.2.toNat : Int)] 24) := (hb1.block _ (by simp)).trans (block_new w _)
  have hlt : w.heap.size < w1.heap.size := by have := hb1.size; simp at this; omega
  clear hb1
  go_wp2_with fail
  refine (not_any r _).mono ?_
  rintro _ w2 ⟨rfl, hb2⟩
  have hblk2 := (hb2.block _ hlt).trans hblk
  obtain ⟨⟨z0, z1, z2, z3⟩, y0, y1, y2, y3⟩ := block4c hblk2
  have HB : Hid (Below w.heap.size w w2) := B1.trans (hb2.mono B1.size)
  clear hb2 hblk hblk2 B1 h10
  go_wp2_with fail
  refine bodyPost_ret (v := .agg #[.int .u64 ((neg r).1.toNat : Int), .int .u64 ((neg r).2.1.toNat : Int), .int .u64 ((neg r).2.2.1.toNat : Int), .int .u64 ((neg r).2.2.2.toNat : Int)]) (by simp [results, Try.results48, go_sem, z0, z1, z2, z3]) rfl ⟨rfl, ?_⟩
  exact (((HB.out.setCell (Nat.le_refl _) _).setCell (Nat.le_refl _) _).setCell (Nat.le_refl _) _).setCell (Nat.le_refl _) _

/-- A class with one byte. -/
theorem single {c : Cl} (h : count c = 1) : ∃ b, b < 256 ∧ Cls.bytes c = [b.toUInt8] ∧ runsT (mem c) = charT b := by
  have hl : ((List.range 256).filter (mem c)).length = 1 := by rw [← List.countP_eq_length_filter]; exact h
  obtain ⟨b, hb⟩ := List.length_eq_one_iff.1 hl
  have hm : ∀ x, x < 256 → (mem c x = true ↔ x = b) := fun x hx => by
    have : x ∈ (List.range 256).filter (mem c) ↔ x = b := by rw [hb]; simp
    rw [← this]; simp [hx]
  have hb256 : b < 256 ∧ mem c b = true := by
    have : b ∈ (List.range 256).filter (mem c) := by rw [hb]; simp
    simpa using this
  have hno : ∀ x, x < 256 → x ≠ b → mem c x = false := fun x hx hne => by
    cases e : mem c x with
    | false => rfl
    | true => exact absurd ((hm x hx).1 e) hne
  refine ⟨b, hb256.1, by unfold Cls.bytes bytesTo; rw [hb]; rfl, ?_⟩
  have hla : lastOf (mem c) b = b := lastOf_eq (mem c) b b (Nat.le_refl _) (by omega) (fun j h1 h2 => by omega) (fun h => hno (b + 1) (by omega) (by omega))
  have h1 := runsTo_run (mem c) 0 b (Or.inl rfl) (Nat.zero_le _) hb256.1 hb256.2 (fun j _ h2 => hno j (by omega) (by omega))
  rw [hla] at h1
  have h2 := runsTo_none (mem c) (b + 1) (256 - (b + 1)) (fun j g1 g2 => by unfold startB; rw [hno j (by omega) (by omega)]; rfl)
  rw [show b + 1 + (256 - (b + 1)) = 256 by omega] at h2
  unfold runsT
  rw [h2, h1]
  simp [runsTo, runText]

end Go.Proofs.Ythloedfiomfnbaa
