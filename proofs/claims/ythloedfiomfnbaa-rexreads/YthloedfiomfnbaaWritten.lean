/-
  The contract of rex.written: how a right tree is written.
-/
import Derived.Test.YthloedfiomfnbaaKids
namespace Go.Proofs.Ythloedfiomfnbaa
open Go.RowKit
open Cls Rex Txt

set_option maxHeartbeats 2000000 in
set_option maxRecDepth 20000 in
theorem written_none : WC .none := by
  intro t v B w hi hx hB
  cases hi
  obtain ⟨k, c, ao, cap, kids, vals, rfl, ht, -⟩ := hx.shape
  simp only [T.mk.injEq] at ht
  obtain ⟨rfl, -, rfl⟩ := ht
  clear hx
  simp only [List.length_nil]
  go_enter Try.func24, Try.ntmps24
  go_wp2_with fail
  go_ret
  exact ⟨rfl, (Below.refl _ _).alloc (Nat.le_refl _) _⟩
set_option maxHeartbeats 2000000 in
set_option maxRecDepth 20000 in
theorem written_emp : WC .emp := by
  intro t v B w hi hx hB
  cases hi
  obtain ⟨k, c, ao, cap, kids, vals, rfl, ht, -⟩ := hx.shape
  simp only [T.mk.injEq] at ht
  obtain ⟨rfl, -, rfl⟩ := ht
  clear hx
  simp only [List.length_nil]
  go_enter Try.func24, Try.ntmps24
  go_wp2_with fail
  go_ret
  exact ⟨rfl, (Below.refl _ _).alloc (Nat.le_refl _) _⟩
set_option maxHeartbeats 2000000 in
set_option maxRecDepth 20000 in
theorem written_byte (d : Cl) : WC (.byte d) := by
  intro t v B w hi hx hB
  cases hi
  obtain ⟨k, c, ao, cap, kids, vals, rfl, ht, -⟩ := hx.shape
  simp only [T.mk.injEq] at ht
  obtain ⟨rfl, rfl, rfl⟩ := ht
  clear hx
  simp only [List.length_nil]
  show Calls _ _ _ _ fun e w' => e = .returned (.string (S (classT d))) ∧ Below w.heap.size w w'
  have hcl := fun W => writtenClass_any d W
  obtain ⟨L, HL⟩ : ∃ L, Hid (classT d = L) := ⟨_, (rfl : classT d = classT d)⟩
  rw [HL.out] at hcl ⊢
  go_enter Try.func24, Try.ntmps24
  go_wp2_with fail
  refine (hcl _).mono ?_
  rintro _ w1 ⟨rfl, hb1⟩
  have HB : Hid (Below w.heap.size w w1) := ((Below.refl _ _).alloc (Nat.le_refl _) _).trans (hb1.mono (by simp))
  clear hb1 hcl
  go_wp2_with fail
  go_ret
  exact ⟨rfl, HB.out⟩
set_option maxHeartbeats 2000000 in
set_option maxRecDepth 20000 in
theorem written_star (x : E) (hw : WC x) (hn : (E.star x).nodes ≤ 100) : WC (.star x) := by
  intro t v B w hi hx hB
  cases hi with
  | @star s a his =>
  have hn1 : x.nodes ≤ 100 := by simp only [E.nodes] at hn; omega
  have hlen : (inBr [4, 5, 6] (kindOf x) (text x)).length ≤ 232002 := by have := text_length x; have := inBr_length [4, 5, 6] (kindOf x) (text x); omega
  obtain ⟨k, c, ao, cap, kids, vals, rfl, ht, -, -, hc, hr⟩ := hx.shape
  simp only [T.mk.injEq] at ht
  obtain ⟨rfl, -, rfl⟩ := ht
  obtain ⟨b, o, rfl, hb, hcl⟩ := hc.resolve_left (by simp)
  obtain ⟨p00, p01, p02, p03, p04, p05, hx0, q00, q01, q02, q03, q04, q05⟩ := rx_kid hcl hr 0 (by simp)
  simp only [Nat.zero_mul, Nat.add_zero, List.getElem_cons_zero] at hx0 q00 q01 q02 q03 q04 q05
  simp only [List.length_cons, List.length_nil, Nat.zero_add]
  show Calls _ _ _ _ fun e w' => e = .returned (.string (S (inBr [4, 5, 6] (kindOf x) (text x) ++ [42]))) ∧ Below w.heap.size w w'
  have HK : Hid (∀ W kv, Rx W B (.agg #[p00, p01, p02, p03, p04, p05]) s → B ≤ W.heap.size → Ints W kv [4, 5, 6] → Calls Try.prog 33 #[.agg #[p00, p01, p02, p03, p04, p05], kv] W fun e w' => e = .returned (.string (S (inBr [4, 5, 6] (kindOf x) (text x)))) ∧ Below W.heap.size W w') := fun W kv h1 h2 h3 => kid_any hw hn1 s _ kv [4, 5, 6] B W his h1 h2 h3
  obtain ⟨L, HL⟩ : ∃ L, Hid (inBr [4, 5, 6] (kindOf x) (text x) = L) := ⟨_, (rfl : inBr [4, 5, 6] (kindOf x) (text x) = inBr [4, 5, 6] (kindOf x) (text x))⟩
  rw [HL.out] at HK hlen ⊢
  have hsl : (S L).size ≤ 232002 := by rw [S_size]; exact hlen
  have B0 : Below w.heap.size w (w.alloc (Obj.cells #[.int .i64 6, .int .u64 (c.1.toNat : Int), .int .u64 (c.2.1.toNat : Int), .int .u64 (c.2.2.1.toNat : Int), .int .u64 (c.2.2.2.toNat : Int), .slice (some ⟨b, o, none⟩) 1 cap] 27)) := (Below.refl _ _).alloc (Nat.le_refl _) _
  have B1 : Below w.heap.size w ((w.alloc (Obj.cells #[.int .i64 6, .int .u64 (c.1.toNat : Int), .int .u64 (c.2.1.toNat : Int), .int .u64 (c.2.2.1.toNat : Int), .int .u64 (c.2.2.2.toNat : Int), .slice (some ⟨b, o, none⟩) 1 cap] 27)).alloc (Obj.cells #[.int .i64 4, .int .i64 5, .int .i64 6] 3)) := B0.alloc (by simp) _
  have HB1 : Hid (Below w.heap.size w ((w.alloc (Obj.cells #[.int .i64 6, .int .u64 (c.1.toNat : Int), .int .u64 (c.2.1.toNat : Int), .int .u64 (c.2.2.1.toNat : Int), .int .u64 (c.2.2.2.toNat : Int), .slice (some ⟨b, o, none⟩) 1 cap] 27)).alloc (Obj.cells #[.int .i64 4, .int .i64 5, .int .i64 6] 3))) := B1
  have z0 : (w.alloc (Obj.cells #[.int .i64 6, .int .u64 (c.1.toNat : Int), .int .u64 (c.2.1.toNat : Int), .int .u64 (c.2.2.1.toNat : Int), .int .u64 (c.2.2.2.toNat : Int), .slice (some ⟨b, o, none⟩) 1 cap] 27)).cell? ⟨b, o, none⟩ = some p00 := (B0.cell (p := ⟨b, o, none⟩) (Nat.lt_of_lt_of_le hb hB)).trans q00
  have z1 : (w.alloc (Obj.cells #[.int .i64 6, .int .u64 (c.1.toNat : Int), .int .u64 (c.2.1.toNat : Int), .int .u64 (c.2.2.1.toNat : Int), .int .u64 (c.2.2.2.toNat : Int), .slice (some ⟨b, o, none⟩) 1 cap] 27)).cell? ⟨b, o + 1, none⟩ = some p01 := (B0.cell (p := ⟨b, o + 1, none⟩) (Nat.lt_of_lt_of_le hb hB)).trans q01
  have z2 : (w.alloc (Obj.cells #[.int .i64 6, .int .u64 (c.1.toNat : Int), .int .u64 (c.2.1.toNat : Int), .int .u64 (c.2.2.1.toNat : Int), .int .u64 (c.2.2.2.toNat : Int), .slice (some ⟨b, o, none⟩) 1 cap] 27)).cell? ⟨b, o + 2, none⟩ = some p02 := (B0.cell (p := ⟨b, o + 2, none⟩) (Nat.lt_of_lt_of_le hb hB)).trans q02
  have z3 : (w.alloc (Obj.cells #[.int .i64 6, .int .u64 (c.1.toNat : Int), .int .u64 (c.2.1.toNat : Int), .int .u64 (c.2.2.1.toNat : Int), .int .u64 (c.2.2.2.toNat : Int), .slice (some ⟨b, o, none⟩) 1 cap] 27)).cell? ⟨b, o + 3, none⟩ = some p03 := (B0.cell (p := ⟨b, o + 3, none⟩) (Nat.lt_of_lt_of_le hb hB)).trans q03
  have z4 : (w.alloc (Obj.cells #[.int .i64 6, .int .u64 (c.1.toNat : Int), .int .u64 (c.2.1.toNat : Int), .int .u64 (c.2.2.1.toNat : Int), .int .u64 (c.2.2.2.toNat : Int), .slice (some ⟨b, o, none⟩) 1 cap] 27)).cell? ⟨b, o + 4, none⟩ = some p04 := (B0.cell (p := ⟨b, o + 4, none⟩) (Nat.lt_of_lt_of_le hb hB)).trans q04
  have z5 : (w.alloc (Obj.cells #[.int .i64 6, .int .u64 (c.1.toNat : Int), .int .u64 (c.2.1.toNat : Int), .int .u64 (c.2.2.1.toNat : Int), .int .u64 (c.2.2.2.toNat : Int), .slice (some ⟨b, o, none⟩) 1 cap] 27)).cell? ⟨b, o + 5, none⟩ = some p05 := (B0.cell (p := ⟨b, o + 5, none⟩) (Nat.lt_of_lt_of_le hb hB)).trans q05
  have HIN : Hid (Ints ((w.alloc (Obj.cells #[.int .i64 6, .int .u64 (c.1.toNat : Int), .int .u64 (c.2.1.toNat : Int), .int .u64 (c.2.2.1.toNat : Int), .int .u64 (c.2.2.2.toNat : Int), .slice (some ⟨b, o, none⟩) 1 cap] 27)).alloc (Obj.cells #[.int .i64 4, .int .i64 5, .int .i64 6] 3)) (.slice (some ⟨w.heap.size + 1, 0, none⟩) 3 3) [4, 5, 6]) := by
    have := block_new (w.alloc (Obj.cells #[.int .i64 6, .int .u64 (c.1.toNat : Int), .int .u64 (c.2.1.toNat : Int), .int .u64 (c.2.2.1.toNat : Int), .int .u64 (c.2.2.2.toNat : Int), .slice (some ⟨b, o, none⟩) 1 cap] 27)) (Obj.cells #[.int .i64 4, .int .i64 5, .int .i64 6] 3)
    rw [show (w.alloc (Obj.cells #[.int .i64 6, .int .u64 (c.1.toNat : Int), .int .u64 (c.2.1.toNat : Int), .int .u64 (c.2.2.1.toNat : Int), .int .u64 (c.2.2.2.toNat : Int), .slice (some ⟨b, o, none⟩) 1 cap] 27)).heap.size = w.heap.size + 1 by simp] at this
    exact ints_block (l := [4, 5, 6]) this (by simp)
  have hcall := HK.out _ _ (hx0.next (B1.mono hB)) (Nat.le_trans hB B1.size) HIN.out
  clear hx hcl hr hc hx0 B0 B1 hw
  go_enter Try.func24, Try.ntmps24
  go_wp2_with fail
  refine hcall.mono ?_
  rintro _ w1 ⟨rfl, hb1⟩
  have HB : Hid (Below w.heap.size w w1) := HB1.out.trans (hb1.mono HB1.out.size)
  clear hb1 hcall z0 z1 z2 z3 z4 z5 q00 q01 q02 q03 q04 q05
  go_wp2_with fail
  go_ret
  exact ⟨ret_str (by simp), HB.out⟩
end Go.Proofs.Ythloedfiomfnbaa
