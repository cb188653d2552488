/-
  The contract of the document's own answer pushref.RexText at a star, at two behind each other, at either.
-/
import Derived.Test.YthloedfiomfnbaaRefDot
namespace Go.Proofs.Ythloedfiomfnbaa
open Go.RowKit Go.Proofs
open Cls Rex Txt

set_option maxHeartbeats 4000000 in
set_option maxRecDepth 20000 in
theorem rtext_star (x : E) (hwx : RT x) (hn : (E.star x).nodes ≤ 100) : RT (.star x) := by
  intro t v B w hi hx hB
  cases hi with
  | @star s a his =>
  have hnx : x.nodes ≤ 100 := by simp only [E.nodes] at hn; omega
  have hlen : (inBr [4, 5, 6] (kindOf x) (text x)).length ≤ 232002 := by have := text_length x; have := inBr_length [4, 5, 6] (kindOf x) (text x); omega
  obtain ⟨k, c, ao, cap, kids, vals, rfl, ht, -, -, hc, hr⟩ := hx.shape
  simp only [T.mk.injEq] at ht
  obtain ⟨rfl, -, rfl⟩ := ht
  obtain ⟨b, o, rfl, hb, hcl⟩ := hc.resolve_left (by simp)
  obtain ⟨p00, p01, p02, p03, p04, p05, hx0, q00, q01, q02, q03, q04, q05⟩ := rx_kid hcl hr 0 (by simp)
  simp only [Nat.zero_mul, Nat.add_zero, List.getElem_cons_zero] at hx0 q00 q01 q02 q03 q04 q05
  simp only [List.length_cons, List.length_nil, Nat.zero_add]
  show Calls _ _ _ _ fun e w' => e = .returned (.string (S (inBr [4, 5, 6] (kindOf x) (text x) ++ [42]))) ∧ Below w.heap.size w w'
  have B0 : Below w.heap.size w (w.alloc (Obj.cells #[.int .i64 6, .int .u64 (c.1.toNat : Int), .int .u64 (c.2.1.toNat : Int), .int .u64 (c.2.2.1.toNat : Int), .int .u64 (c.2.2.2.toNat : Int), .slice (some ⟨b, o, none⟩) 1 cap] 27)) := (Below.refl _ _).alloc (Nat.le_refl _) _
  have HI0 : Hid (∀ W kv, Below (w.heap.size + 1) (w.alloc (Obj.cells #[.int .i64 6, .int .u64 (c.1.toNat : Int), .int .u64 (c.2.1.toNat : Int), .int .u64 (c.2.2.1.toNat : Int), .int .u64 (c.2.2.2.toNat : Int), .slice (some ⟨b, o, none⟩) 1 cap] 27)) W → Ints W kv [4, 5, 6] → Calls Try.prog 18 #[.int .i64 0, kv, .pointer (some ⟨w.heap.size, 0, none⟩)] W fun e w' => e = .returned (.string (S (inBr [4, 5, 6] (kindOf x) (text x)))) ∧ Below W.heap.size W w') := fun W kv hW hkv => by
    have hW0 : Below w.heap.size w W := B0.trans (hW.mono (Nat.le_succ _))
    have hW1 := hW0.size
    exact in_any hwx hnx s his 0 1 cap b o w.heap.size B 6 c kv [4, 5, 6] _ _ _ _ _ _ W ((hW.block _ (Nat.lt_succ_self _)).trans (block_new w _)) (by omega) (hx0.next (hW0.mono hB))
      ((hW0.cell (p := ⟨b, o, none⟩) (Nat.lt_of_lt_of_le hb hB)).trans q00)
      ((hW0.cell (p := ⟨b, o + 1, none⟩) (Nat.lt_of_lt_of_le hb hB)).trans q01)
      ((hW0.cell (p := ⟨b, o + 2, none⟩) (Nat.lt_of_lt_of_le hb hB)).trans q02)
      ((hW0.cell (p := ⟨b, o + 3, none⟩) (Nat.lt_of_lt_of_le hb hB)).trans q03)
      ((hW0.cell (p := ⟨b, o + 4, none⟩) (Nat.lt_of_lt_of_le hb hB)).trans q04)
      ((hW0.cell (p := ⟨b, o + 5, none⟩) (Nat.lt_of_lt_of_le hb hB)).trans q05)
      (Nat.le_trans hB hW1) hkv
  obtain ⟨L, HL⟩ : ∃ L, Hid (inBr [4, 5, 6] (kindOf x) (text x) = L) := ⟨_, (rfl : inBr [4, 5, 6] (kindOf x) (text x) = inBr [4, 5, 6] (kindOf x) (text x))⟩
  rw [HL.out] at HI0 hlen ⊢
  have hsl : (S L).size ≤ 232002 := by rw [S_size]; exact hlen
  have hcall := HI0.out _ _ ((Below.refl (w.heap.size + 1) (w.alloc (Obj.cells #[.int .i64 6, .int .u64 (c.1.toNat : Int), .int .u64 (c.2.1.toNat : Int), .int .u64 (c.2.2.1.toNat : Int), .int .u64 (c.2.2.2.toNat : Int), .slice (some ⟨b, o, none⟩) 1 cap] 27))).alloc (by simp) (Obj.cells #[.int .i64 4, .int .i64 5, .int .i64 6] 3)) (ints_block (l := [4, 5, 6]) (block_new _ _) (by simp))
  have HB0 : Hid (Below w.heap.size w ((w.alloc (Obj.cells #[.int .i64 6, .int .u64 (c.1.toNat : Int), .int .u64 (c.2.1.toNat : Int), .int .u64 (c.2.2.1.toNat : Int), .int .u64 (c.2.2.2.toNat : Int), .slice (some ⟨b, o, none⟩) 1 cap] 27)).alloc (Obj.cells #[.int .i64 4, .int .i64 5, .int .i64 6] 3))) := B0.alloc (by simp) _
  rw [show (w.alloc (Obj.cells #[.int .i64 6, .int .u64 (c.1.toNat : Int), .int .u64 (c.2.1.toNat : Int), .int .u64 (c.2.2.1.toNat : Int), .int .u64 (c.2.2.2.toNat : Int), .slice (some ⟨b, o, none⟩) 1 cap] 27)).heap.size = w.heap.size + 1 by simp] at hcall
  have hmf : ∀ (fn : Fn) (first cap : Array Value) (w : World), (Instr.makeFunc fn first cap).run Try.prog w = .ok (.func fn first cap) w := fun _ _ _ _ => rfl
  have he18 := enters_of Try.func18 (by kernel_rfl) rfl
  clear hx hcl hr hc hx0 B0 hwx q00 q01 q02 q03 q04 q05
  go_enter Try.func8, Try.ntmps8
  go_wp2_with fail
  refine hcall.mono ?_
  rintro _ w1 ⟨rfl, hb1⟩
  have HB : Hid (Below w.heap.size w w1) := HB0.out.trans (hb1.mono HB0.out.size)
  clear hb1 hcall
  go_wp2_with fail
  go_ret
  exact ⟨ret_str (by simp), HB.out⟩
set_option maxHeartbeats 4000000 in
set_option maxRecDepth 20000 in
theorem rtext_cat (x y : E) (hwx : RT x) (hwy : RT y) (hn : (E.cat x y).nodes ≤ 100) : RT (.cat x y) := by
  intro t v B w hi hx hB
  cases hi with
  | @cat s u a b his hiu =>
  have hnx : x.nodes ≤ 100 := by simp only [E.nodes] at hn; omega
  have hny : y.nodes ≤ 100 := by simp only [E.nodes] at hn; omega
  have hla : (inBr [5] (kindOf x) (text x)).length ≤ 232002 := by have := text_length x; have := inBr_length [5] (kindOf x) (text x); omega
  have hlb : (inBr [5, 4] (kindOf y) (text y)).length ≤ 232002 := by have := text_length y; have := inBr_length [5, 4] (kindOf y) (text y); omega
  obtain ⟨k, c, ao, cap, kids, vals, rfl, ht, -, -, hc, hr⟩ := hx.shape
  simp only [T.mk.injEq] at ht
  obtain ⟨rfl, -, rfl⟩ := ht
  obtain ⟨b, o, rfl, hb, hcl⟩ := hc.resolve_left (by simp)
  obtain ⟨p00, p01, p02, p03, p04, p05, hx0, q00, q01, q02, q03, q04, q05⟩ := rx_kid hcl hr 0 (by simp)
  simp only [Nat.zero_mul, Nat.add_zero, List.getElem_cons_zero] at hx0 q00 q01 q02 q03 q04 q05
  obtain ⟨p10, p11, p12, p13, p14, p15, hx1, q10, q11, q12, q13, q14, q15⟩ := rx_kid hcl hr 1 (by simp)
  simp only [Nat.one_mul, List.getElem_cons_succ, List.getElem_cons_zero] at hx1 q10 q11 q12 q13 q14 q15
  simp only [List.length_cons, List.length_nil, Nat.zero_add, Nat.reduceAdd]
  show Calls _ _ _ _ fun e w' => e = .returned (.string (S (inBr [5] (kindOf x) (text x) ++ inBr [5, 4] (kindOf y) (text y)))) ∧ Below w.heap.size w w'
  have B0 : Below w.heap.size w (w.alloc (Obj.cells #[.int .i64 4, .int .u64 (c.1.toNat : Int), .int .u64 (c.2.1.toNat : Int), .int .u64 (c.2.2.1.toNat : Int), .int .u64 (c.2.2.2.toNat : Int), .slice (some ⟨b, o, none⟩) 2 cap] 27)) := (Below.refl _ _).alloc (Nat.le_refl _) _
  have HI0 : Hid (∀ W kv, Below (w.heap.size + 1) (w.alloc (Obj.cells #[.int .i64 4, .int .u64 (c.1.toNat : Int), .int .u64 (c.2.1.toNat : Int), .int .u64 (c.2.2.1.toNat : Int), .int .u64 (c.2.2.2.toNat : Int), .slice (some ⟨b, o, none⟩) 2 cap] 27)) W → Ints W kv [5] → Calls Try.prog 18 #[.int .i64 0, kv, .pointer (some ⟨w.heap.size, 0, none⟩)] W fun e w' => e = .returned (.string (S (inBr [5] (kindOf x) (text x)))) ∧ Below W.heap.size W w') := fun W kv hW hkv => by
    have hW0 : Below w.heap.size w W := B0.trans (hW.mono (Nat.le_succ _))
    have hW1 := hW0.size
    exact in_any hwx hnx s his 0 2 cap b o w.heap.size B 4 c kv [5] _ _ _ _ _ _ W ((hW.block _ (Nat.lt_succ_self _)).trans (block_new w _)) (by omega) (hx0.next (hW0.mono hB))
      ((hW0.cell (p := ⟨b, o, none⟩) (Nat.lt_of_lt_of_le hb hB)).trans q00)
      ((hW0.cell (p := ⟨b, o + 1, none⟩) (Nat.lt_of_lt_of_le hb hB)).trans q01)
      ((hW0.cell (p := ⟨b, o + 2, none⟩) (Nat.lt_of_lt_of_le hb hB)).trans q02)
      ((hW0.cell (p := ⟨b, o + 3, none⟩) (Nat.lt_of_lt_of_le hb hB)).trans q03)
      ((hW0.cell (p := ⟨b, o + 4, none⟩) (Nat.lt_of_lt_of_le hb hB)).trans q04)
      ((hW0.cell (p := ⟨b, o + 5, none⟩) (Nat.lt_of_lt_of_le hb hB)).trans q05)
      (Nat.le_trans hB hW1) hkv
  have HI1 : Hid (∀ W kv, Below (w.heap.size + 1) (w.alloc (Obj.cells #[.int .i64 4, .int .u64 (c.1.toNat : Int), .int .u64 (c.2.1.toNat : Int), .int .u64 (c.2.2.1.toNat : Int), .int .u64 (c.2.2.2.toNat : Int), .slice (some ⟨b, o, none⟩) 2 cap] 27)) W → Ints W kv [5, 4] → Calls Try.prog 18 #[.int .i64 1, kv, .pointer (some ⟨w.heap.size, 0, none⟩)] W fun e w' => e = .returned (.string (S (inBr [5, 4] (kindOf y) (text y)))) ∧ Below W.heap.size W w') := fun W kv hW hkv => by
    have hW0 : Below w.heap.size w W := B0.trans (hW.mono (Nat.le_succ _))
    have hW1 := hW0.size
    exact in_any hwy hny u hiu 1 2 cap b o w.heap.size B 4 c kv [5, 4] _ _ _ _ _ _ W ((hW.block _ (Nat.lt_succ_self _)).trans (block_new w _)) (by omega) (hx1.next (hW0.mono hB))
      ((hW0.cell (p := ⟨b, o + 6, none⟩) (Nat.lt_of_lt_of_le hb hB)).trans q10)
      ((hW0.cell (p := ⟨b, o + 6 + 1, none⟩) (Nat.lt_of_lt_of_le hb hB)).trans q11)
      ((hW0.cell (p := ⟨b, o + 6 + 2, none⟩) (Nat.lt_of_lt_of_le hb hB)).trans q12)
      ((hW0.cell (p := ⟨b, o + 6 + 3, none⟩) (Nat.lt_of_lt_of_le hb hB)).trans q13)
      ((hW0.cell (p := ⟨b, o + 6 + 4, none⟩) (Nat.lt_of_lt_of_le hb hB)).trans q14)
      ((hW0.cell (p := ⟨b, o + 6 + 5, none⟩) (Nat.lt_of_lt_of_le hb hB)).trans q15)
      (Nat.le_trans hB hW1) hkv
  obtain ⟨LA, HLA⟩ : ∃ L, Hid (inBr [5] (kindOf x) (text x) = L) := ⟨_, (rfl : inBr [5] (kindOf x) (text x) = inBr [5] (kindOf x) (text x))⟩
  obtain ⟨LB, HLB⟩ : ∃ L, Hid (inBr [5, 4] (kindOf y) (text y) = L) := ⟨_, (rfl : inBr [5, 4] (kindOf y) (text y) = inBr [5, 4] (kindOf y) (text y))⟩
  rw [HLA.out] at HI0 hla ⊢
  rw [HLB.out] at HI1 hlb ⊢
  have hsa : (S LA).size ≤ 232002 := by rw [S_size]; exact hla
  have hsb : (S LB).size ≤ 232002 := by rw [S_size]; exact hlb
  have HW1 : Hid (Below (w.heap.size + 1) (w.alloc (Obj.cells #[.int .i64 4, .int .u64 (c.1.toNat : Int), .int .u64 (c.2.1.toNat : Int), .int .u64 (c.2.2.1.toNat : Int), .int .u64 (c.2.2.2.toNat : Int), .slice (some ⟨b, o, none⟩) 2 cap] 27)) ((w.alloc (Obj.cells #[.int .i64 4, .int .u64 (c.1.toNat : Int), .int .u64 (c.2.1.toNat : Int), .int .u64 (c.2.2.1.toNat : Int), .int .u64 (c.2.2.2.toNat : Int), .slice (some ⟨b, o, none⟩) 2 cap] 27)).alloc (Obj.cells #[.int .i64 5] 3))) := (Below.refl (w.heap.size + 1) (w.alloc (Obj.cells #[.int .i64 4, .int .u64 (c.1.toNat : Int), .int .u64 (c.2.1.toNat : Int), .int .u64 (c.2.2.1.toNat : Int), .int .u64 (c.2.2.2.toNat : Int), .slice (some ⟨b, o, none⟩) 2 cap] 27))).alloc (by simp) _
  have hcall := HI0.out _ _ HW1.out (ints_block (l := [5]) (block_new _ _) (by simp))
  rw [show (w.alloc (Obj.cells #[.int .i64 4, .int .u64 (c.1.toNat : Int), .int .u64 (c.2.1.toNat : Int), .int .u64 (c.2.2.1.toNat : Int), .int .u64 (c.2.2.2.toNat : Int), .slice (some ⟨b, o, none⟩) 2 cap] 27)).heap.size = w.heap.size + 1 by simp] at hcall
  have HB0 : Hid (Below w.heap.size w (w.alloc (Obj.cells #[.int .i64 4, .int .u64 (c.1.toNat : Int), .int .u64 (c.2.1.toNat : Int), .int .u64 (c.2.2.1.toNat : Int), .int .u64 (c.2.2.2.toNat : Int), .slice (some ⟨b, o, none⟩) 2 cap] 27))) := B0
  have hsz1 : w.heap.size + 1 ≤ ((w.alloc (Obj.cells #[.int .i64 4, .int .u64 (c.1.toNat : Int), .int .u64 (c.2.1.toNat : Int), .int .u64 (c.2.2.1.toNat : Int), .int .u64 (c.2.2.2.toNat : Int), .slice (some ⟨b, o, none⟩) 2 cap] 27)).alloc (Obj.cells #[.int .i64 5] 3)).heap.size := by simp
  have hmf : ∀ (fn : Fn) (first cap : Array Value) (w : World), (Instr.makeFunc fn first cap).run Try.prog w = .ok (.func fn first cap) w := fun _ _ _ _ => rfl
  have he18 := enters_of Try.func18 (by kernel_rfl) rfl
  clear hx hcl hr hc hx0 hx1 B0 hwx hwy q00 q01 q02 q03 q04 q05 q10 q11 q12 q13 q14 q15
  go_enter Try.func8, Try.ntmps8
  go_wp2_with fail
  refine hcall.mono ?_
  rintro _ w1 ⟨rfl, hb1⟩
  have HB1 : Hid (Below (w.heap.size + 1) (w.alloc (Obj.cells #[.int .i64 4, .int .u64 (c.1.toNat : Int), .int .u64 (c.2.1.toNat : Int), .int .u64 (c.2.2.1.toNat : Int), .int .u64 (c.2.2.2.toNat : Int), .slice (some ⟨b, o, none⟩) 2 cap] 27)) w1 ∧ w.heap.size + 1 ≤ w1.heap.size) := ⟨HW1.out.trans (hb1.mono hsz1), Nat.le_trans hsz1 hb1.size⟩
  clear hb1 hcall hsz1
  have hcall2 := HI1.out (w1.alloc (Obj.cells #[.int .i64 5, .int .i64 4] 3)) _ (HB1.out.1.alloc HB1.out.2 _) (ints_block (l := [5, 4]) (block_new _ _) (by simp))
  go_wp2_with fail
  refine hcall2.mono ?_
  rintro _ w2 ⟨rfl, hb2⟩
  have HB2 : Hid (Below w.heap.size w w2) := HB0.out.trans ((HB1.out.1.alloc HB1.out.2 _).mono (Nat.le_succ _) |>.trans (hb2.mono (by have := HB1.out.2; simp; omega)))
  clear hb2 hcall2
  go_wp2_with fail
  go_ret
  exact ⟨ret_str (by simp), HB2.out⟩
set_option maxHeartbeats 4000000 in
set_option maxRecDepth 20000 in
theorem rtext_alt (x y : E) (hwx : RT x) (hwy : RT y) (hn : (E.alt x y).nodes ≤ 100) : RT (.alt x y) := by
  intro t v B w hi hx hB
  cases hi with
  | @alt s u a b his hiu =>
  have hnx : x.nodes ≤ 100 := by simp only [E.nodes] at hn; omega
  have hny : y.nodes ≤ 100 := by simp only [E.nodes] at hn; omega
  have hla : (inBr [] (kindOf x) (text x)).length ≤ 232002 := by have := text_length x; have := inBr_length [] (kindOf x) (text x); omega
  have hlb : (inBr [5] (kindOf y) (text y)).length ≤ 232002 := by have := text_length y; have := inBr_length [5] (kindOf y) (text y); omega
  obtain ⟨k, c, ao, cap, kids, vals, rfl, ht, -, -, hc, hr⟩ := hx.shape
  simp only [T.mk.injEq] at ht
  obtain ⟨rfl, -, rfl⟩ := ht
  obtain ⟨b, o, rfl, hb, hcl⟩ := hc.resolve_left (by simp)
  obtain ⟨p00, p01, p02, p03, p04, p05, hx0, q00, q01, q02, q03, q04, q05⟩ := rx_kid hcl hr 0 (by simp)
  simp only [Nat.zero_mul, Nat.add_zero, List.getElem_cons_zero] at hx0 q00 q01 q02 q03 q04 q05
  obtain ⟨p10, p11, p12, p13, p14, p15, hx1, q10, q11, q12, q13, q14, q15⟩ := rx_kid hcl hr 1 (by simp)
  simp only [Nat.one_mul, List.getElem_cons_succ, List.getElem_cons_zero] at hx1 q10 q11 q12 q13 q14 q15
  simp only [List.length_cons, List.length_nil, Nat.zero_add, Nat.reduceAdd]
  show Calls _ _ _ _ fun e w' => e = .returned (.string (S (text x ++ [124] ++ inBr [5] (kindOf y) (text y)))) ∧ Below w.heap.size w w'
  have B0 : Below w.heap.size w (w.alloc (Obj.cells #[.int .i64 5, .int .u64 (c.1.toNat : Int), .int .u64 (c.2.1.toNat : Int), .int .u64 (c.2.2.1.toNat : Int), .int .u64 (c.2.2.2.toNat : Int), .slice (some ⟨b, o, none⟩) 2 cap] 27)) := (Below.refl _ _).alloc (Nat.le_refl _) _
  have HI0 : Hid (∀ W kv, Below (w.heap.size + 1) (w.alloc (Obj.cells #[.int .i64 5, .int .u64 (c.1.toNat : Int), .int .u64 (c.2.1.toNat : Int), .int .u64 (c.2.2.1.toNat : Int), .int .u64 (c.2.2.2.toNat : Int), .slice (some ⟨b, o, none⟩) 2 cap] 27)) W → Ints W kv [] → Calls Try.prog 18 #[.int .i64 0, kv, .pointer (some ⟨w.heap.size, 0, none⟩)] W fun e w' => e = .returned (.string (S (inBr [] (kindOf x) (text x)))) ∧ Below W.heap.size W w') := fun W kv hW hkv => by
    have hW0 : Below w.heap.size w W := B0.trans (hW.mono (Nat.le_succ _))
    have hW1 := hW0.size
    exact in_any hwx hnx s his 0 2 cap b o w.heap.size B 5 c kv [] _ _ _ _ _ _ W ((hW.block _ (Nat.lt_succ_self _)).trans (block_new w _)) (by omega) (hx0.next (hW0.mono hB))
      ((hW0.cell (p := ⟨b, o, none⟩) (Nat.lt_of_lt_of_le hb hB)).trans q00)
      ((hW0.cell (p := ⟨b, o + 1, none⟩) (Nat.lt_of_lt_of_le hb hB)).trans q01)
      ((hW0.cell (p := ⟨b, o + 2, none⟩) (Nat.lt_of_lt_of_le hb hB)).trans q02)
      ((hW0.cell (p := ⟨b, o + 3, none⟩) (Nat.lt_of_lt_of_le hb hB)).trans q03)
      ((hW0.cell (p := ⟨b, o + 4, none⟩) (Nat.lt_of_lt_of_le hb hB)).trans q04)
      ((hW0.cell (p := ⟨b, o + 5, none⟩) (Nat.lt_of_lt_of_le hb hB)).trans q05)
      (Nat.le_trans hB hW1) hkv
  have HI1 : Hid (∀ W kv, Below (w.heap.size + 1) (w.alloc (Obj.cells #[.int .i64 5, .int .u64 (c.1.toNat : Int), .int .u64 (c.2.1.toNat : Int), .int .u64 (c.2.2.1.toNat : Int), .int .u64 (c.2.2.2.toNat : Int), .slice (some ⟨b, o, none⟩) 2 cap] 27)) W → Ints W kv [5] → Calls Try.prog 18 #[.int .i64 1, kv, .pointer (some ⟨w.heap.size, 0, none⟩)] W fun e w' => e = .returned (.string (S (inBr [5] (kindOf y) (text y)))) ∧ Below W.heap.size W w') := fun W kv hW hkv => by
    have hW0 : Below w.heap.size w W := B0.trans (hW.mono (Nat.le_succ _))
    have hW1 := hW0.size
    exact in_any hwy hny u hiu 1 2 cap b o w.heap.size B 5 c kv [5] _ _ _ _ _ _ W ((hW.block _ (Nat.lt_succ_self _)).trans (block_new w _)) (by omega) (hx1.next (hW0.mono hB))
      ((hW0.cell (p := ⟨b, o + 6, none⟩) (Nat.lt_of_lt_of_le hb hB)).trans q10)
      ((hW0.cell (p := ⟨b, o + 6 + 1, none⟩) (Nat.lt_of_lt_of_le hb hB)).trans q11)
      ((hW0.cell (p := ⟨b, o + 6 + 2, none⟩) (Nat.lt_of_lt_of_le hb hB)).trans q12)
      ((hW0.cell (p := ⟨b, o + 6 + 3, none⟩) (Nat.lt_of_lt_of_le hb hB)).trans q13)
      ((hW0.cell (p := ⟨b, o + 6 + 4, none⟩) (Nat.lt_of_lt_of_le hb hB)).trans q14)
      ((hW0.cell (p := ⟨b, o + 6 + 5, none⟩) (Nat.lt_of_lt_of_le hb hB)).trans q15)
      (Nat.le_trans hB hW1) hkv
  have HAT : Hid (inBr ([] : List Int) (kindOf x) (text x) = text x) := by show _ = _; unfold inBr; rw [if_neg (by simp)]
  rw [← HAT.out]
  obtain ⟨LA, HLA⟩ : ∃ L, Hid (inBr [] (kindOf x) (text x) = L) := ⟨_, (rfl : inBr [] (kindOf x) (text x) = inBr [] (kindOf x) (text x))⟩
  obtain ⟨LB, HLB⟩ : ∃ L, Hid (inBr [5] (kindOf y) (text y) = L) := ⟨_, (rfl : inBr [5] (kindOf y) (text y) = inBr [5] (kindOf y) (text y))⟩
  rw [HLA.out] at HI0 hla ⊢
  rw [HLB.out] at HI1 hlb ⊢
  have hsa : (S LA).size ≤ 232002 := by rw [S_size]; exact hla
  have hsb : (S LB).size ≤ 232002 := by rw [S_size]; exact hlb
  have HW1 : Hid (Below (w.heap.size + 1) (w.alloc (Obj.cells #[.int .i64 5, .int .u64 (c.1.toNat : Int), .int .u64 (c.2.1.toNat : Int), .int .u64 (c.2.2.1.toNat : Int), .int .u64 (c.2.2.2.toNat : Int), .slice (some ⟨b, o, none⟩) 2 cap] 27)) (w.alloc (Obj.cells #[.int .i64 5, .int .u64 (c.1.toNat : Int), .int .u64 (c.2.1.toNat : Int), .int .u64 (c.2.2.1.toNat : Int), .int .u64 (c.2.2.2.toNat : Int), .slice (some ⟨b, o, none⟩) 2 cap] 27))) := Below.refl _ _
  have hcall := HI0.out _ (.slice none 0 0) HW1.out ⟨none, 0, rfl, by simp, Or.inl rfl⟩
  have HB0 : Hid (Below w.heap.size w (w.alloc (Obj.cells #[.int .i64 5, .int .u64 (c.1.toNat : Int), .int .u64 (c.2.1.toNat : Int), .int .u64 (c.2.2.1.toNat : Int), .int .u64 (c.2.2.2.toNat : Int), .slice (some ⟨b, o, none⟩) 2 cap] 27))) := B0
  have hsz1 : w.heap.size + 1 ≤ (w.alloc (Obj.cells #[.int .i64 5, .int .u64 (c.1.toNat : Int), .int .u64 (c.2.1.toNat : Int), .int .u64 (c.2.2.1.toNat : Int), .int .u64 (c.2.2.2.toNat : Int), .slice (some ⟨b, o, none⟩) 2 cap] 27)).heap.size := by simp
  have hmf : ∀ (fn : Fn) (first cap : Array Value) (w : World), (Instr.makeFunc fn first cap).run Try.prog w = .ok (.func fn first cap) w := fun _ _ _ _ => rfl
  have he18 := enters_of Try.func18 (by kernel_rfl) rfl
  clear hx hcl hr hc hx0 hx1 B0 hwx hwy q00 q01 q02 q03 q04 q05 q10 q11 q12 q13 q14 q15
  go_enter Try.func8, Try.ntmps8
  go_wp2_with fail
  refine hcall.mono ?_
  rintro _ w1 ⟨rfl, hb1⟩
  have HB1 : Hid (Below (w.heap.size + 1) (w.alloc (Obj.cells #[.int .i64 5, .int .u64 (c.1.toNat : Int), .int .u64 (c.2.1.toNat : Int), .int .u64 (c.2.2.1.toNat : Int), .int .u64 (c.2.2.2.toNat : Int), .slice (some ⟨b, o, none⟩) 2 cap] 27)) w1 ∧ w.heap.size + 1 ≤ w1.heap.size) := ⟨HW1.out.trans (hb1.mono hsz1), Nat.le_trans hsz1 hb1.size⟩
  clear hb1 hcall hsz1
  have hcall2 := HI1.out (w1.alloc (Obj.cells #[.int .i64 5] 3)) _ (HB1.out.1.alloc HB1.out.2 _) (ints_block (l := [5]) (block_new _ _) (by simp))
  go_wp2_with fail
  refine hcall2.mono ?_
  rintro _ w2 ⟨rfl, hb2⟩
  have HB2 : Hid (Below w.heap.size w w2) := HB0.out.trans ((HB1.out.1.alloc HB1.out.2 _).mono (Nat.le_succ _) |>.trans (hb2.mono (by have := HB1.out.2; simp; omega)))
  clear hb2 hcall2
  go_wp2_with fail
  go_ret
  exact ⟨ret_str (by simp), HB2.out⟩
end Go.Proofs.Ythloedfiomfnbaa
