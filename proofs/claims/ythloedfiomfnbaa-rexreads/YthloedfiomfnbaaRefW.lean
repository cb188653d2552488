/-
  What pushref.rexAt is to do; and what a node that is not right is. pushref.rexAt at a node of one kid. pushref.rexAt at a node of two kids, one behind the other. pushref.rexAt at a node of two kids, one or the other. pushref.rexAt at a node of no kids. The contracts of pushref's rexAt and Rex: what is wrong first with a tree.
-/
import Derived.Test.YthloedfiomfnbaaChecks
import Derived.Test.YthloedfiomfnbaaInvs
import Derived.BigQuiet
namespace Go.Proofs.Ythloedfiomfnbaa
open Go.RowKit
open Cls Rex

/-- What rexAt is to do. -/
def RC (v : Value) (t : T) : Prop := ∀ (d n pn B : Nat) (w : World), Rx w B v t → d ≤ 31 → n ≤ 100 → B ≤ pn → B ≤ w.heap.size → w.heap[pn]? = some (.cells #[.int .i64 (n : Int)] 3) →
    Calls Try.prog 17 #[v, .int .i64 (d : Int), .pointer (some ⟨pn, 0, none⟩)] w fun e w' => e = .returned (.int .i64 ((chk t d n).1 : Int)) ∧ w'.heap[pn]? = some (.cells #[.int .i64 ((chk t d n).2 : Int)] 3) ∧ Below B w w' ∧ ∀ b, b < w.heap.size → b ≠ pn → w'.heap[b]? = w.heap[b]?
theorem node_of (k : Int) (c : Cl) (n : Nat) (kc : Nat) (hl : n = kc) {b3 hcb : Bool} (h3 : (k == 3) = b3) (hc : decide (c = empty) = hcb) (hk : 1 ≤ k ∧ k ≤ 6) (hkc : (k = 6 → kc = 1) ∧ (k = 4 → kc = 2) ∧ (k = 5 → kc = 2) ∧ (k ≠ 6 → k ≠ 4 → k ≠ 5 → kc = 0)) : isNode k c n = (b3 != hcb) := by
  unfold isNode kidCount
  have h3' : decide (k = 3) = b3 := by rw [← h3]; simp [BEq.beq]
  have hc' : decide (c ≠ empty) = !hcb := by rw [← hc]; simp
  rw [h3', hc']
  have : (decide ((n : Int) = if k = 1 ∨ k = 2 ∨ k = 3 then 0 else if k = 6 then 1 else if k = 4 ∨ k = 5 then 2 else -1)) = true := by
    rw [decide_eq_true_eq]
    split
    · omega
    · split
      · omega
      · split <;> omega
  rw [this]
  cases b3 <;> cases hcb <;> rfl
theorem node_len (k : Int) (c : Cl) (n : Nat) (kc : Nat) (hl : ¬ n = kc) (hkc : (k = 6 → kc = 1) ∧ (k = 4 → kc = 2) ∧ (k = 5 → kc = 2) ∧ (k ≠ 6 → k ≠ 4 → k ≠ 5 → kc = 0)) : isNode k c n = false := by
  unfold isNode kidCount
  have : (decide ((n : Int) = if k = 1 ∨ k = 2 ∨ k = 3 then 0 else if k = 6 then 1 else if k = 4 ∨ k = 5 then 2 else -1)) = false := by
    rw [decide_eq_false_iff_not]
    split
    · omega
    · split
      · omega
      · split <;> omega
  rw [this]; rfl
theorem node_out (k : Int) (c : Cl) (n : Nat) (h : k < 1 ∨ 6 < k) : isNode k c n = false := by
  unfold isNode kidCount
  have : (decide ((n : Int) = if k = 1 ∨ k = 2 ∨ k = 3 then 0 else if k = 6 then 1 else if k = 4 ∨ k = 5 then 2 else -1)) = false := by
    rw [decide_eq_false_iff_not]
    split
    · omega
    · split
      · omega
      · split <;> omega
  rw [this]; rfl
end Go.Proofs.Ythloedfiomfnbaa

namespace Go.Proofs.Ythloedfiomfnbaa
open Go.RowKit
open Cls Rex
set_option maxHeartbeats 8000000 in
set_option maxRecDepth 20000 in
theorem refAt_six (k : Int) (c : Cl) (kids : List T) (hk6 : k = 6) (IH : ∀ i (hi : i < kids.length) v, RC v kids[i]) (v : Value) : RC v (.mk k c kids) := by
  intro d n pn B w hx hd hn hB hBw hp
  obtain ⟨k_, c_, ao, cap, kids_, vals, rfl, ht, hk, hkm, hc, hr⟩ := hx.shape
  injection ht with e1 e2 e3
  subst e1 e2 e3
  have HIH : Hid (∀ i (hi : i < kids.length) (v : Value) (d n pn B : Nat) (w : World), Rx w B v kids[i] → d ≤ 31 → n ≤ 100 → B ≤ pn → B ≤ w.heap.size → w.heap[pn]? = some (.cells #[.int .i64 (n : Int)] 3) → Calls Try.prog 17 #[v, .int .i64 (d : Int), .pointer (some ⟨pn, 0, none⟩)] w fun e w' => e = .returned (.int .i64 ((chk kids[i] d n).1 : Int)) ∧ w'.heap[pn]? = some (.cells #[.int .i64 ((chk kids[i] d n).2 : Int)] 3) ∧ Below B w w' ∧ ∀ b, b < w.heap.size → b ≠ pn → w'.heap[b]? = w.heap[b]?) := fun i hi v => IH i hi v
  have HR : Hid (∀ i (hi : i < kids.length), ∃ b o, ao = some ⟨b, o, none⟩ ∧ b < B ∧ Rx w B (vals i) kids[i] ∧ ∀ j, j < 6 → w.cell? ⟨b, o + i * 6 + j, none⟩ = (vals i).cells[j]?) := fun i hi => by
    rcases hc with h | ⟨b, o, h1, h2, h3⟩
    · subst h; cases hi
    · exact ⟨b, o, h1, h2, hr i hi, h3 i hi⟩
  have HE : Hid (chk (.mk k c kids) d n = if 100 < n + 1 then (2, n + 1) else if 30 < d then (7, n + 1) else if isNode k c kids.length then chkL kids (d + 1) (n + 1) else (1, n + 1)) := chk_eq (.mk k c kids) d n
  have hpl := blk_lt hp
  clear IH
  have e6 : (k == 6) = true := by simp; omega
  have e4 : (k == 4) = false := by simp; omega
  have e5 : (k == 5) = false := by simp; omega
  have HK3 : Hid ((k == 3) = false) := by show _ = _; simp; omega
  have hlo2 : decide (k < 1) = false := decide_eq_false (by omega)
  have hhi2 : decide (6 < k) = false := decide_eq_false (by omega)
  have hlo : ¬ k < 1 := by omega
  have hhi : ¬ 6 < k := by omega
  have HKC : Hid ((1 ≤ k ∧ k ≤ 6) ∧ ((k = 6 → 1 = 1) ∧ (k = 4 → 1 = 2) ∧ (k = 5 → 1 = 2) ∧ (k ≠ 6 → k ≠ 4 → k ≠ 5 → 1 = 0))) := ⟨by omega, by omega⟩
  clear hk6
  have hc0 := cnt_cell hp
  have hf0 := cnt_free hp
  have HP : Hid (w.heap[pn]? = some (.cells #[.int .i64 (n : Int)] 3)) := hp
  have hnpn : w.heap.size ≠ pn := by omega
  clear hp hx hc hr
  go_enter Try.func17, Try.ntmps17
  go_upto_region 2 with fail
  have HW2 : Hid (((w.setCell ⟨pn, 0, none⟩ (.int .i64 ((n : Int) + 1))).alloc (.cells #[.int .i64 k, .int .u64 (c.1.toNat : Int), .int .u64 (c.2.1.toNat : Int), .int .u64 (c.2.2.1.toNat : Int), .int .u64 (c.2.2.2.toNat : Int), .slice ao kids.length cap] 27)).heap[pn]? = some (.cells #[.int .i64 ((n + 1 : Nat) : Int)] 3)) := (Below.heap_alloc _ _ _ (by simp [World.setCell]; exact hpl)).trans (cnt_set HP.out _)
  have HB2 : Hid (Below B w ((w.setCell ⟨pn, 0, none⟩ (.int .i64 ((n : Int) + 1))).alloc (.cells #[.int .i64 k, .int .u64 (c.1.toNat : Int), .int .u64 (c.2.1.toNat : Int), .int .u64 (c.2.2.1.toNat : Int), .int .u64 (c.2.2.2.toNat : Int), .slice ao kids.length cap] 27))) := ((Below.refl B w).setCell hB _).alloc (by simp [World.setCell]; exact hBw) _
  have HZ2 : Hid (((w.setCell ⟨pn, 0, none⟩ (.int .i64 ((n : Int) + 1))).alloc (.cells #[.int .i64 k, .int .u64 (c.1.toNat : Int), .int .u64 (c.2.1.toNat : Int), .int .u64 (c.2.2.1.toNat : Int), .int .u64 (c.2.2.2.toNat : Int), .slice ao kids.length cap] 27)).heap[w.heap.size]? = some (.cells #[.int .i64 k, .int .u64 (c.1.toNat : Int), .int .u64 (c.2.1.toNat : Int), .int .u64 (c.2.2.1.toNat : Int), .int .u64 (c.2.2.2.toNat : Int), .slice ao kids.length cap] 27)) := by
    have := block_new (w.setCell ⟨pn, 0, none⟩ (.int .i64 ((n : Int) + 1))) (.cells #[.int .i64 k, .int .u64 (c.1.toNat : Int), .int .u64 (c.2.1.toNat : Int), .int .u64 (c.2.2.1.toNat : Int), .int .u64 (c.2.2.2.toNat : Int), .slice ao kids.length cap] 27)
    rw [show (w.setCell ⟨pn, 0, none⟩ (.int .i64 ((n : Int) + 1))).heap.size = w.heap.size by simp [World.setCell]] at this
    exact this
  have HK2 : Hid (∀ b, b < w.heap.size → b ≠ pn → ((w.setCell ⟨pn, 0, none⟩ (.int .i64 ((n : Int) + 1))).alloc (.cells #[.int .i64 k, .int .u64 (c.1.toNat : Int), .int .u64 (c.2.1.toNat : Int), .int .u64 (c.2.2.1.toNat : Int), .int .u64 (c.2.2.2.toNat : Int), .slice ao kids.length cap] 27)).heap[b]? = w.heap[b]?) := fun b g1 g2 => (Below.heap_alloc _ _ _ (by simp [World.setCell]; exact g1)).trans (Below.heap_setCell _ _ _ _ g2)
  generalize ((w.setCell ⟨pn, 0, none⟩ (.int .i64 ((n : Int) + 1))).alloc (.cells #[.int .i64 k, .int .u64 (c.1.toNat : Int), .int .u64 (c.2.1.toNat : Int), .int .u64 (c.2.2.1.toNat : Int), .int .u64 (c.2.2.2.toNat : Int), .slice ao kids.length cap] 27)) = W2 at HW2 HB2 HZ2 HK2 ⊢
  clear hc0 hf0
  have hc2 := cnt_cell HW2.out
  have s0 := cell_of_row W2 w.heap.size 0 _ 27 (0, 0) HZ2.out
  have s1 := cell_of_row W2 w.heap.size 1 _ 27 (0, 0) HZ2.out
  have s2 := cell_of_row W2 w.heap.size 2 _ 27 (0, 0) HZ2.out
  have s3 := cell_of_row W2 w.heap.size 3 _ 27 (0, 0) HZ2.out
  have s4 := cell_of_row W2 w.heap.size 4 _ 27 (0, 0) HZ2.out
  have s5 := cell_of_row W2 w.heap.size 5 _ 27 (0, 0) HZ2.out
  simp only [List.getElem?_toArray, List.getElem?_cons_zero, List.getElem?_cons_succ] at s0 s1 s2 s3 s4 s5
  by_cases h1 : 100 < n + 1
  · have h1' : 100 < ((n + 1 : Nat) : Int) := by omega
    go_wp2_with fail
    go_ret
    rw [HE.out, if_pos h1]
    exact ⟨rfl, HW2.out, HB2.out, HK2.out⟩
  · have h1' : ¬ (100 < ((n + 1 : Nat) : Int)) := by omega
    by_cases h2 : 30 < d
    · have h2' : 30 < (d : Int) := by omega
      go_wp2_with fail
      go_ret
      rw [HE.out, if_neg h1, if_pos h2]
      exact ⟨rfl, HW2.out, HB2.out, HK2.out⟩
    · have h2' : ¬ (30 < (d : Int)) := by omega
      obtain ⟨hcb, HC⟩ : ∃ hcb, Hid (decide (c = empty) = hcb) := ⟨_, (rfl : decide (c = empty) = decide (c = empty))⟩
      have hq : ∀ W, (Op.equalIn 10000 24 (.agg #[.int .u64 (c.1.toNat : Int), .int .u64 (c.2.1.toNat : Int), .int .u64 (c.2.2.1.toNat : Int), .int .u64 (c.2.2.2.toNat : Int)]) (.agg #[.int .u64 0, .int .u64 0, .int .u64 0, .int .u64 0])).run Try.prog W = .ok hcb W := fun W => by rw [eqIn_zero, HC.out]
      have hgd := guard24
      by_cases hl : kids.length = 1
      · have hl' : ((kids.length : Int) != 1) = false := by simp [hl]
        cases hcb
        · have HND : Hid (isNode k c kids.length = false) := node_of k c kids.length 1 hl HK3.out HC.out HKC.out.1 HKC.out.2
          have e3 : (k == 3) = false := HK3.out
          have HLE : Hid (kids.length = 1) := hl
          clear hl
          go_wp2_with fail
          go_quiet (fail)
          go_wp2_with fail
          go_ret
          rw [HE.out, if_neg h1, if_neg h2, if_neg (by rw [HND.out]; simp)]
          exact ⟨rfl, HW2.out, ⟨HB2.out.os, HB2.out.tape, HB2.out.output, HB2.out.size, HB2.out.block⟩, HK2.out⟩
        · have HND : Hid (isNode k c kids.length = true) := node_of k c kids.length 1 hl HK3.out HC.out HKC.out.1 HKC.out.2
          have e3 : (k == 3) = false := HK3.out
          have HLE : Hid (kids.length = 1) := hl
          clear hl
          have HE3 : Hid (chk (.mk k c kids) d n = chkL kids (d + 1) (n + 1)) := by
            show _ = _
            rw [HE.out, if_neg h1, if_neg h2, if_pos HND.out]
          go_wp2_with fail
          go_quiet (fail)
          go_wp2_with fail
          go_loopw [8] (fun z wr => ∃ i : Nat, i ≤ kids.length ∧ z = .int .i64 (i : Int) ∧ Hid ((chkL (kids.take i) (d + 1) (n + 1)).1 = 0 ∧ (chkL (kids.take i) (d + 1) (n + 1)).2 ≤ 100 ∧ wr.heap[pn]? = some (.cells #[.int .i64 ((chkL (kids.take i) (d + 1) (n + 1)).2 : Int)] 3) ∧ Below B w wr ∧ wr.heap[w.heap.size]? = some (.cells #[.int .i64 k, .int .u64 (c.1.toNat : Int), .int .u64 (c.2.1.toNat : Int), .int .u64 (c.2.2.1.toNat : Int), .int .u64 (c.2.2.2.toNat : Int), .slice ao kids.length cap] 27) ∧ ∀ b, b < w.heap.size → b ≠ pn → wr.heap[b]? = w.heap[b]?)) (fun z _ => kids.length - (intOf z).toNat)
          case atStart => exact ⟨0, by omega, rfl, ⟨rfl, by show n + 1 ≤ 100; omega, HW2.out, ⟨HB2.out.os, HB2.out.tape, HB2.out.output, HB2.out.size, HB2.out.block⟩, HZ2.out, HK2.out⟩⟩
          case round =>
            obtain ⟨i, hi, rfl, HI⟩ := hrel
            have t5 := cell_of_row wr w.heap.size 5 _ 27 (0, 0) HI.out.2.2.2.2.1
            simp only [List.getElem?_toArray, List.getElem?_cons_zero, List.getElem?_cons_succ] at t5
            clear s0 s1 s2 s3 s4 s5
            by_cases hlt : i < kids.length
            · obtain ⟨b, o, hao, hbB, hrx, hcl⟩ := HR.out i hlt
              have HX : Hid (Rx w B (vals i) kids[i]) := hrx
              obtain ⟨k', c', ao', n', cap', hv, q0, q1, q2, q3, q4, q5⟩ := kid_cells (hrx.next HI.out.2.2.2.1) (fun j hj => (HI.out.2.2.2.1.cell (p := ⟨b, o + i * 6 + j, none⟩) hbB).trans (hcl j hj))
              obtain ⟨nn, HNN⟩ : ∃ nn, Hid ((chkL (kids.take i) (d + 1) (n + 1)).2 = nn) := ⟨_, (rfl : (chkL (kids.take i) (d + 1) (n + 1)).2 = (chkL (kids.take i) (d + 1) (n + 1)).2)⟩
              obtain ⟨er, nr, HC9⟩ : ∃ er nr, Hid (chk kids[i] (d + 1) nn = (er, nr)) := ⟨_, _, (rfl : chk kids[i] (d + 1) nn = ((chk kids[i] (d + 1) nn).1, (chk kids[i] (d + 1) nn).2))⟩
              have HT : Hid (chkL (kids.take (i + 1)) (d + 1) (n + 1) = (er, nr)) := by
                show _ = _
                rw [List.take_succ_eq_append_getElem hlt, chkL_snoc, if_pos HI.out.1, HNN.out, HC9.out]
              have hbs := HI.out.2.2.2.1.size
              have hcall := HIH.out i hlt (vals i) (d + 1) nn pn B wr (HX.out.next HI.out.2.2.2.1) (by omega) (by rw [← HNN.out]; exact HI.out.2.1) hB (by omega) (by rw [← HNN.out]; exact HI.out.2.2.1)
              rw [hv, HC9.out] at hcall
              clear hcl hrx hv
              subst hao
              have hw1 : (d : Int) + 1 = ((d + 1 : Nat) : Int) := by omega
              have HCL : Hid (Calls Try.prog 17 #[.agg #[.int .i64 k', .int .u64 (c'.1.toNat : Int), .int .u64 (c'.2.1.toNat : Int), .int .u64 (c'.2.2.1.toNat : Int), .int .u64 (c'.2.2.2.toNat : Int), .slice ao' n' cap'], .int .i64 ((d : Int) + 1), .pointer (some ⟨pn, 0, none⟩)] wr fun e w' => e = .returned (.int .i64 (er : Int)) ∧ w'.heap[pn]? = some (.cells #[.int .i64 (nr : Int)] 3) ∧ Below B wr w' ∧ ∀ b, b < wr.heap.size → b ≠ pn → w'.heap[b]? = wr.heap[b]?) := by rw [hw1]; exact hcall
              clear hcall hw1
              by_cases he : er = 0
              · subst he
                have hnr : nr ≤ 100 := by obtain ⟨_, _, _, h, _⟩ := chk_right HC9.out; exact h
                go_wp2_with (go_at_call 17; refine HCL.out.mono ?_; rintro e W4 ⟨rfl, hp4, hb4, hk4⟩)
                go_roundw
                case rel => exact ⟨i + 1, by omega, by go_num, ⟨by rw [HT.out], by rw [HT.out]; exact hnr, by rw [HT.out]; exact hp4, HI.out.2.2.2.1.trans hb4, (hk4 _ (blk_lt HI.out.2.2.2.2.1) (by have := hnpn; omega)).trans HI.out.2.2.2.2.1, fun b g1 g2 => (hk4 b (by omega) g2).trans (HI.out.2.2.2.2.2 b g1 g2)⟩⟩
                case measure => simp [intOf]; omega
              · have he' : ((er : Int) == 0) = false := by simp [he]
                have HF : Hid (chkL kids (d + 1) (n + 1) = (er, nr)) := by
                  show _ = _
                  have := chkL_stop (kids.take (i + 1)) (kids.drop (i + 1)) (d + 1) (n + 1) (by rw [HT.out]; exact he)
                  rw [List.take_append_drop, HT.out] at this
                  exact this
                go_wp2_with (go_at_call 17; refine HCL.out.mono ?_; rintro e W4 ⟨rfl, hp4, hb4, hk4⟩)
                go_ret
                rw [HE3.out, HF.out]
                exact ⟨rfl, hp4, HI.out.2.2.2.1.trans hb4, fun b g1 g2 => (hk4 b (by omega) g2).trans (HI.out.2.2.2.2.2 b g1 g2)⟩
            · have e : i = kids.length := by omega
              subst e
              go_wp2_with fail
              go_ret
              have h4 := HI.out
              rw [List.take_length] at h4
              rw [HE3.out]
              exact ⟨by rw [h4.1]; rfl, h4.2.2.1, h4.2.2.2.1, h4.2.2.2.2.2⟩
      · have hl' : ((kids.length : Int) != 1) = true := bne_iff_ne.2 (by omega)
        have HND : Hid (isNode k c kids.length = false) := node_len k c kids.length 1 hl HKC.out.2
        clear hl
        go_wp2_with fail
        go_quiet (fail)
        go_wp2_with fail
        go_ret
        rw [HE.out, if_neg h1, if_neg h2, if_neg (by rw [HND.out]; simp)]
        exact ⟨rfl, HW2.out, ⟨HB2.out.os, HB2.out.tape, HB2.out.output, HB2.out.size, HB2.out.block⟩, HK2.out⟩
end Go.Proofs.Ythloedfiomfnbaa

namespace Go.Proofs.Ythloedfiomfnbaa
open Go.RowKit
open Cls Rex
set_option maxHeartbeats 8000000 in
set_option maxRecDepth 20000 in
theorem refAt_four (k : Int) (c : Cl) (kids : List T) (hk6 : k ≠ 6) (hk4 : k = 4) (IH : ∀ i (hi : i < kids.length) v, RC v kids[i]) (v : Value) : RC v (.mk k c kids) := by
  intro d n pn B w hx hd hn hB hBw hp
  obtain ⟨k_, c_, ao, cap, kids_, vals, rfl, ht, hk, hkm, hc, hr⟩ := hx.shape
  injection ht with e1 e2 e3
  subst e1 e2 e3
  have HIH : Hid (∀ i (hi : i < kids.length) (v : Value) (d n pn B : Nat) (w : World), Rx w B v kids[i] → d ≤ 31 → n ≤ 100 → B ≤ pn → B ≤ w.heap.size → w.heap[pn]? = some (.cells #[.int .i64 (n : Int)] 3) → Calls Try.prog 17 #[v, .int .i64 (d : Int), .pointer (some ⟨pn, 0, none⟩)] w fun e w' => e = .returned (.int .i64 ((chk kids[i] d n).1 : Int)) ∧ w'.heap[pn]? = some (.cells #[.int .i64 ((chk kids[i] d n).2 : Int)] 3) ∧ Below B w w' ∧ ∀ b, b < w.heap.size → b ≠ pn → w'.heap[b]? = w.heap[b]?) := fun i hi v => IH i hi v
  have HR : Hid (∀ i (hi : i < kids.length), ∃ b o, ao = some ⟨b, o, none⟩ ∧ b < B ∧ Rx w B (vals i) kids[i] ∧ ∀ j, j < 6 → w.cell? ⟨b, o + i * 6 + j, none⟩ = (vals i).cells[j]?) := fun i hi => by
    rcases hc with h | ⟨b, o, h1, h2, h3⟩
    · subst h; cases hi
    · exact ⟨b, o, h1, h2, hr i hi, h3 i hi⟩
  have HE : Hid (chk (.mk k c kids) d n = if 100 < n + 1 then (2, n + 1) else if 30 < d then (7, n + 1) else if isNode k c kids.length then chkL kids (d + 1) (n + 1) else (1, n + 1)) := chk_eq (.mk k c kids) d n
  have hpl := blk_lt hp
  clear IH
  have e6 : (k == 6) = false := by simp; omega
  have e4 : (k == 4) = true := by simp; omega
  have e5 : (k == 5) = false := by simp; omega
  have HK3 : Hid ((k == 3) = false) := by show _ = _; simp; omega
  have hlo2 : decide (k < 1) = false := decide_eq_false (by omega)
  have hhi2 : decide (6 < k) = false := decide_eq_false (by omega)
  have hlo : ¬ k < 1 := by omega
  have hhi : ¬ 6 < k := by omega
  have HKC : Hid ((1 ≤ k ∧ k ≤ 6) ∧ ((k = 6 → 2 = 1) ∧ (k = 4 → 2 = 2) ∧ (k = 5 → 2 = 2) ∧ (k ≠ 6 → k ≠ 4 → k ≠ 5 → 2 = 0))) := ⟨by omega, by omega⟩
  clear hk6 hk4
  have hc0 := cnt_cell hp
  have hf0 := cnt_free hp
  have HP : Hid (w.heap[pn]? = some (.cells #[.int .i64 (n : Int)] 3)) := hp
  have hnpn : w.heap.size ≠ pn := by omega
  clear hp hx hc hr
  go_enter Try.func17, Try.ntmps17
  go_upto_region 2 with fail
  have HW2 : Hid (((w.setCell ⟨pn, 0, none⟩ (.int .i64 ((n : Int) + 1))).alloc (.cells #[.int .i64 k, .int .u64 (c.1.toNat : Int), .int .u64 (c.2.1.toNat : Int), .int .u64 (c.2.2.1.toNat : Int), .int .u64 (c.2.2.2.toNat : Int), .slice ao kids.length cap] 27)).heap[pn]? = some (.cells #[.int .i64 ((n + 1 : Nat) : Int)] 3)) := (Below.heap_alloc _ _ _ (by simp [World.setCell]; exact hpl)).trans (cnt_set HP.out _)
  have HB2 : Hid (Below B w ((w.setCell ⟨pn, 0, none⟩ (.int .i64 ((n : Int) + 1))).alloc (.cells #[.int .i64 k, .int .u64 (c.1.toNat : Int), .int .u64 (c.2.1.toNat : Int), .int .u64 (c.2.2.1.toNat : Int), .int .u64 (c.2.2.2.toNat : Int), .slice ao kids.length cap] 27))) := ((Below.refl B w).setCell hB _).alloc (by simp [World.setCell]; exact hBw) _
  have HZ2 : Hid (((w.setCell ⟨pn, 0, none⟩ (.int .i64 ((n : Int) + 1))).alloc (.cells #[.int .i64 k, .int .u64 (c.1.toNat : Int), .int .u64 (c.2.1.toNat : Int), .int .u64 (c.2.2.1.toNat : Int), .int .u64 (c.2.2.2.toNat : Int), .slice ao kids.length cap] 27)).heap[w.heap.size]? = some (.cells #[.int .i64 k, .int .u64 (c.1.toNat : Int), .int .u64 (c.2.1.toNat : Int), .int .u64 (c.2.2.1.toNat : Int), .int .u64 (c.2.2.2.toNat : Int), .slice ao kids.length cap] 27)) := by
    have := block_new (w.setCell ⟨pn, 0, none⟩ (.int .i64 ((n : Int) + 1))) (.cells #[.int .i64 k, .int .u64 (c.1.toNat : Int), .int .u64 (c.2.1.toNat : Int), .int .u64 (c.2.2.1.toNat : Int), .int .u64 (c.2.2.2.toNat : Int), .slice ao kids.length cap] 27)
    rw [show (w.setCell ⟨pn, 0, none⟩ (.int .i64 ((n : Int) + 1))).heap.size = w.heap.size by simp [World.setCell]] at this
    exact this
  have HK2 : Hid (∀ b, b < w.heap.size → b ≠ pn → ((w.setCell ⟨pn, 0, none⟩ (.int .i64 ((n : Int) + 1))).alloc (.cells #[.int .i64 k, .int .u64 (c.1.toNat : Int), .int .u64 (c.2.1.toNat : Int), .int .u64 (c.2.2.1.toNat : Int), .int .u64 (c.2.2.2.toNat : Int), .slice ao kids.length cap] 27)).heap[b]? = w.heap[b]?) := fun b g1 g2 => (Below.heap_alloc _ _ _ (by simp [World.setCell]; exact g1)).trans (Below.heap_setCell _ _ _ _ g2)
  generalize ((w.setCell ⟨pn, 0, none⟩ (.int .i64 ((n : Int) + 1))).alloc (.cells #[.int .i64 k, .int .u64 (c.1.toNat : Int), .int .u64 (c.2.1.toNat : Int), .int .u64 (c.2.2.1.toNat : Int), .int .u64 (c.2.2.2.toNat : Int), .slice ao kids.length cap] 27)) = W2 at HW2 HB2 HZ2 HK2 ⊢
  clear hc0 hf0
  have hc2 := cnt_cell HW2.out
  have s0 := cell_of_row W2 w.heap.size 0 _ 27 (0, 0) HZ2.out
  have s1 := cell_of_row W2 w.heap.size 1 _ 27 (0, 0) HZ2.out
  have s2 := cell_of_row W2 w.heap.size 2 _ 27 (0, 0) HZ2.out
  have s3 := cell_of_row W2 w.heap.size 3 _ 27 (0, 0) HZ2.out
  have s4 := cell_of_row W2 w.heap.size 4 _ 27 (0, 0) HZ2.out
  have s5 := cell_of_row W2 w.heap.size 5 _ 27 (0, 0) HZ2.out
  simp only [List.getElem?_toArray, List.getElem?_cons_zero, List.getElem?_cons_succ] at s0 s1 s2 s3 s4 s5
  by_cases h1 : 100 < n + 1
  · have h1' : 100 < ((n + 1 : Nat) : Int) := by omega
    go_wp2_with fail
    go_ret
    rw [HE.out, if_pos h1]
    exact ⟨rfl, HW2.out, HB2.out, HK2.out⟩
  · have h1' : ¬ (100 < ((n + 1 : Nat) : Int)) := by omega
    by_cases h2 : 30 < d
    · have h2' : 30 < (d : Int) := by omega
      go_wp2_with fail
      go_ret
      rw [HE.out, if_neg h1, if_pos h2]
      exact ⟨rfl, HW2.out, HB2.out, HK2.out⟩
    · have h2' : ¬ (30 < (d : Int)) := by omega
      obtain ⟨hcb, HC⟩ : ∃ hcb, Hid (decide (c = empty) = hcb) := ⟨_, (rfl : decide (c = empty) = decide (c = empty))⟩
      have hq : ∀ W, (Op.equalIn 10000 24 (.agg #[.int .u64 (c.1.toNat : Int), .int .u64 (c.2.1.toNat : Int), .int .u64 (c.2.2.1.toNat : Int), .int .u64 (c.2.2.2.toNat : Int)]) (.agg #[.int .u64 0, .int .u64 0, .int .u64 0, .int .u64 0])).run Try.prog W = .ok hcb W := fun W => by rw [eqIn_zero, HC.out]
      have hgd := guard24
      by_cases hl : kids.length = 2
      · have hl' : ((kids.length : Int) != 2) = false := by simp [hl]
        cases hcb
        · have HND : Hid (isNode k c kids.length = false) := node_of k c kids.length 2 hl HK3.out HC.out HKC.out.1 HKC.out.2
          have e3 : (k == 3) = false := HK3.out
          have HLE : Hid (kids.length = 2) := hl
          clear hl
          go_wp2_with fail
          go_quiet (fail)
          go_wp2_with fail
          go_ret
          rw [HE.out, if_neg h1, if_neg h2, if_neg (by rw [HND.out]; simp)]
          exact ⟨rfl, HW2.out, ⟨HB2.out.os, HB2.out.tape, HB2.out.output, HB2.out.size, HB2.out.block⟩, HK2.out⟩
        · have HND : Hid (isNode k c kids.length = true) := node_of k c kids.length 2 hl HK3.out HC.out HKC.out.1 HKC.out.2
          have e3 : (k == 3) = false := HK3.out
          have HLE : Hid (kids.length = 2) := hl
          clear hl
          have HE3 : Hid (chk (.mk k c kids) d n = chkL kids (d + 1) (n + 1)) := by
            show _ = _
            rw [HE.out, if_neg h1, if_neg h2, if_pos HND.out]
          go_wp2_with fail
          go_quiet (fail)
          go_wp2_with fail
          go_loopw [8] (fun z wr => ∃ i : Nat, i ≤ kids.length ∧ z = .int .i64 (i : Int) ∧ Hid ((chkL (kids.take i) (d + 1) (n + 1)).1 = 0 ∧ (chkL (kids.take i) (d + 1) (n + 1)).2 ≤ 100 ∧ wr.heap[pn]? = some (.cells #[.int .i64 ((chkL (kids.take i) (d + 1) (n + 1)).2 : Int)] 3) ∧ Below B w wr ∧ wr.heap[w.heap.size]? = some (.cells #[.int .i64 k, .int .u64 (c.1.toNat : Int), .int .u64 (c.2.1.toNat : Int), .int .u64 (c.2.2.1.toNat : Int), .int .u64 (c.2.2.2.toNat : Int), .slice ao kids.length cap] 27) ∧ ∀ b, b < w.heap.size → b ≠ pn → wr.heap[b]? = w.heap[b]?)) (fun z _ => kids.length - (intOf z).toNat)
          case atStart => exact ⟨0, by omega, rfl, ⟨rfl, by show n + 1 ≤ 100; omega, HW2.out, ⟨HB2.out.os, HB2.out.tape, HB2.out.output, HB2.out.size, HB2.out.block⟩, HZ2.out, HK2.out⟩⟩
          case round =>
            obtain ⟨i, hi, rfl, HI⟩ := hrel
            have t5 := cell_of_row wr w.heap.size 5 _ 27 (0, 0) HI.out.2.2.2.2.1
            simp only [List.getElem?_toArray, List.getElem?_cons_zero, List.getElem?_cons_succ] at t5
            clear s0 s1 s2 s3 s4 s5
            by_cases hlt : i < kids.length
            · obtain ⟨b, o, hao, hbB, hrx, hcl⟩ := HR.out i hlt
              have HX : Hid (Rx w B (vals i) kids[i]) := hrx
              obtain ⟨k', c', ao', n', cap', hv, q0, q1, q2, q3, q4, q5⟩ := kid_cells (hrx.next HI.out.2.2.2.1) (fun j hj => (HI.out.2.2.2.1.cell (p := ⟨b, o + i * 6 + j, none⟩) hbB).trans (hcl j hj))
              obtain ⟨nn, HNN⟩ : ∃ nn, Hid ((chkL (kids.take i) (d + 1) (n + 1)).2 = nn) := ⟨_, (rfl : (chkL (kids.take i) (d + 1) (n + 1)).2 = (chkL (kids.take i) (d + 1) (n + 1)).2)⟩
              obtain ⟨er, nr, HC9⟩ : ∃ er nr, Hid (chk kids[i] (d + 1) nn = (er, nr)) := ⟨_, _, (rfl : chk kids[i] (d + 1) nn = ((chk kids[i] (d + 1) nn).1, (chk kids[i] (d + 1) nn).2))⟩
              have HT : Hid (chkL (kids.take (i + 1)) (d + 1) (n + 1) = (er, nr)) := by
                show _ = _
                rw [List.take_succ_eq_append_getElem hlt, chkL_snoc, if_pos HI.out.1, HNN.out, HC9.out]
              have hbs := HI.out.2.2.2.1.size
              have hcall := HIH.out i hlt (vals i) (d + 1) nn pn B wr (HX.out.next HI.out.2.2.2.1) (by omega) (by rw [← HNN.out]; exact HI.out.2.1) hB (by omega) (by rw [← HNN.out]; exact HI.out.2.2.1)
              rw [hv, HC9.out] at hcall
              clear hcl hrx hv
              subst hao
              have hw1 : (d : Int) + 1 = ((d + 1 : Nat) : Int) := by omega
              have HCL : Hid (Calls Try.prog 17 #[.agg #[.int .i64 k', .int .u64 (c'.1.toNat : Int), .int .u64 (c'.2.1.toNat : Int), .int .u64 (c'.2.2.1.toNat : Int), .int .u64 (c'.2.2.2.toNat : Int), .slice ao' n' cap'], .int .i64 ((d : Int) + 1), .pointer (some ⟨pn, 0, none⟩)] wr fun e w' => e = .returned (.int .i64 (er : Int)) ∧ w'.heap[pn]? = some (.cells #[.int .i64 (nr : Int)] 3) ∧ Below B wr w' ∧ ∀ b, b < wr.heap.size → b ≠ pn → w'.heap[b]? = wr.heap[b]?) := by rw [hw1]; exact hcall
              clear hcall hw1
              by_cases he : er = 0
              · subst he
                have hnr : nr ≤ 100 := by obtain ⟨_, _, _, h, _⟩ := chk_right HC9.out; exact h
                go_wp2_with (go_at_call 17; refine HCL.out.mono ?_; rintro e W4 ⟨rfl, hp4, hb4, hk4⟩)
                go_roundw
                case rel => exact ⟨i + 1, by omega, by go_num, ⟨by rw [HT.out], by rw [HT.out]; exact hnr, by rw [HT.out]; exact hp4, HI.out.2.2.2.1.trans hb4, (hk4 _ (blk_lt HI.out.2.2.2.2.1) (by have := hnpn; omega)).trans HI.out.2.2.2.2.1, fun b g1 g2 => (hk4 b (by omega) g2).trans (HI.out.2.2.2.2.2 b g1 g2)⟩⟩
                case measure => simp [intOf]; omega
              · have he' : ((er : Int) == 0) = false := by simp [he]
                have HF : Hid (chkL kids (d + 1) (n + 1) = (er, nr)) := by
                  show _ = _
                  have := chkL_stop (kids.take (i + 1)) (kids.drop (i + 1)) (d + 1) (n + 1) (by rw [HT.out]; exact he)
                  rw [List.take_append_drop, HT.out] at this
                  exact this
                go_wp2_with (go_at_call 17; refine HCL.out.mono ?_; rintro e W4 ⟨rfl, hp4, hb4, hk4⟩)
                go_ret
                rw [HE3.out, HF.out]
                exact ⟨rfl, hp4, HI.out.2.2.2.1.trans hb4, fun b g1 g2 => (hk4 b (by omega) g2).trans (HI.out.2.2.2.2.2 b g1 g2)⟩
            · have e : i = kids.length := by omega
              subst e
              go_wp2_with fail
              go_ret
              have h4 := HI.out
              rw [List.take_length] at h4
              rw [HE3.out]
              exact ⟨by rw [h4.1]; rfl, h4.2.2.1, h4.2.2.2.1, h4.2.2.2.2.2⟩
      · have hl' : ((kids.length : Int) != 2) = true := bne_iff_ne.2 (by omega)
        have HND : Hid (isNode k c kids.length = false) := node_len k c kids.length 2 hl HKC.out.2
        clear hl
        go_wp2_with fail
        go_quiet (fail)
        go_wp2_with fail
        go_ret
        rw [HE.out, if_neg h1, if_neg h2, if_neg (by rw [HND.out]; simp)]
        exact ⟨rfl, HW2.out, ⟨HB2.out.os, HB2.out.tape, HB2.out.output, HB2.out.size, HB2.out.block⟩, HK2.out⟩
end Go.Proofs.Ythloedfiomfnbaa

namespace Go.Proofs.Ythloedfiomfnbaa
open Go.RowKit
open Cls Rex
set_option maxHeartbeats 8000000 in
set_option maxRecDepth 20000 in
theorem refAt_five (k : Int) (c : Cl) (kids : List T) (hk6 : k ≠ 6) (hk4 : k ≠ 4) (hk5 : k = 5) (IH : ∀ i (hi : i < kids.length) v, RC v kids[i]) (v : Value) : RC v (.mk k c kids) := by
  intro d n pn B w hx hd hn hB hBw hp
  obtain ⟨k_, c_, ao, cap, kids_, vals, rfl, ht, hk, hkm, hc, hr⟩ := hx.shape
  injection ht with e1 e2 e3
  subst e1 e2 e3
  have HIH : Hid (∀ i (hi : i < kids.length) (v : Value) (d n pn B : Nat) (w : World), Rx w B v kids[i] → d ≤ 31 → n ≤ 100 → B ≤ pn → B ≤ w.heap.size → w.heap[pn]? = some (.cells #[.int .i64 (n : Int)] 3) → Calls Try.prog 17 #[v, .int .i64 (d : Int), .pointer (some ⟨pn, 0, none⟩)] w fun e w' => e = .returned (.int .i64 ((chk kids[i] d n).1 : Int)) ∧ w'.heap[pn]? = some (.cells #[.int .i64 ((chk kids[i] d n).2 : Int)] 3) ∧ Below B w w' ∧ ∀ b, b < w.heap.size → b ≠ pn → w'.heap[b]? = w.heap[b]?) := fun i hi v => IH i hi v
  have HR : Hid (∀ i (hi : i < kids.length), ∃ b o, ao = some ⟨b, o, none⟩ ∧ b < B ∧ Rx w B (vals i) kids[i] ∧ ∀ j, j < 6 → w.cell? ⟨b, o + i * 6 + j, none⟩ = (vals i).cells[j]?) := fun i hi => by
    rcases hc with h | ⟨b, o, h1, h2, h3⟩
    · subst h; cases hi
    · exact ⟨b, o, h1, h2, hr i hi, h3 i hi⟩
  have HE : Hid (chk (.mk k c kids) d n = if 100 < n + 1 then (2, n + 1) else if 30 < d then (7, n + 1) else if isNode k c kids.length then chkL kids (d + 1) (n + 1) else (1, n + 1)) := chk_eq (.mk k c kids) d n
  have hpl := blk_lt hp
  clear IH
  have e6 : (k == 6) = false := by simp; omega
  have e4 : (k == 4) = false := by simp; omega
  have e5 : (k == 5) = true := by simp; omega
  have HK3 : Hid ((k == 3) = false) := by show _ = _; simp; omega
  have hlo2 : decide (k < 1) = false := decide_eq_false (by omega)
  have hhi2 : decide (6 < k) = false := decide_eq_false (by omega)
  have hlo : ¬ k < 1 := by omega
  have hhi : ¬ 6 < k := by omega
  have HKC : Hid ((1 ≤ k ∧ k ≤ 6) ∧ ((k = 6 → 2 = 1) ∧ (k = 4 → 2 = 2) ∧ (k = 5 → 2 = 2) ∧ (k ≠ 6 → k ≠ 4 → k ≠ 5 → 2 = 0))) := ⟨by omega, by omega⟩
  clear hk6 hk4 hk5
  have hc0 := cnt_cell hp
  have hf0 := cnt_free hp
  have HP : Hid (w.heap[pn]? = some (.cells #[.int .i64 (n : Int)] 3)) := hp
  have hnpn : w.heap.size ≠ pn := by omega
  clear hp hx hc hr
  go_enter Try.func17, Try.ntmps17
  go_upto_region 2 with fail
  have HW2 : Hid (((w.setCell ⟨pn, 0, none⟩ (.int .i64 ((n : Int) + 1))).alloc (.cells #[.int .i64 k, .int .u64 (c.1.toNat : Int), .int .u64 (c.2.1.toNat : Int), .int .u64 (c.2.2.1.toNat : Int), .int .u64 (c.2.2.2.toNat : Int), .slice ao kids.length cap] 27)).heap[pn]? = some (.cells #[.int .i64 ((n + 1 : Nat) : Int)] 3)) := (Below.heap_alloc _ _ _ (by simp [World.setCell]; exact hpl)).trans (cnt_set HP.out _)
  have HB2 : Hid (Below B w ((w.setCell ⟨pn, 0, none⟩ (.int .i64 ((n : Int) + 1))).alloc (.cells #[.int .i64 k, .int .u64 (c.1.toNat : Int), .int .u64 (c.2.1.toNat : Int), .int .u64 (c.2.2.1.toNat : Int), .int .u64 (c.2.2.2.toNat : Int), .slice ao kids.length cap] 27))) := ((Below.refl B w).setCell hB _).alloc (by simp [World.setCell]; exact hBw) _
  have HZ2 : Hid (((w.setCell ⟨pn, 0, none⟩ (.int .i64 ((n : Int) + 1))).alloc (.cells #[.int .i64 k, .int .u64 (c.1.toNat : Int), .int .u64 (c.2.1.toNat : Int), .int .u64 (c.2.2.1.toNat : Int), .int .u64 (c.2.2.2.toNat : Int), .slice ao kids.length cap] 27)).heap[w.heap.size]? = some (.cells #[.int .i64 k, .int .u64 (c.1.toNat : Int), .int .u64 (c.2.1.toNat : Int), .int .u64 (c.2.2.1.toNat : Int), .int .u64 (c.2.2.2.toNat : Int), .slice ao kids.length cap] 27)) := by
    have := block_new (w.setCell ⟨pn, 0, none⟩ (.int .i64 ((n : Int) + 1))) (.cells #[.int .i64 k, .int .u64 (c.1.toNat : Int), .int .u64 (c.2.1.toNat : Int), .int .u64 (c.2.2.1.toNat : Int), .int .u64 (c.2.2.2.toNat : Int), .slice ao kids.length cap] 27)
    rw [show (w.setCell ⟨pn, 0, none⟩ (.int .i64 ((n : Int) + 1))).heap.size = w.heap.size by simp [World.setCell]] at this
    exact this
  have HK2 : Hid (∀ b, b < w.heap.size → b ≠ pn → ((w.setCell ⟨pn, 0, none⟩ (.int .i64 ((n : Int) + 1))).alloc (.cells #[.int .i64 k, .int .u64 (c.1.toNat : Int), .int .u64 (c.2.1.toNat : Int), .int .u64 (c.2.2.1.toNat : Int), .int .u64 (c.2.2.2.toNat : Int), .slice ao kids.length cap] 27)).heap[b]? = w.heap[b]?) := fun b g1 g2 => (Below.heap_alloc _ _ _ (by simp [World.setCell]; exact g1)).trans (Below.heap_setCell _ _ _ _ g2)
  generalize ((w.setCell ⟨pn, 0, none⟩ (.int .i64 ((n : Int) + 1))).alloc (.cells #[.int .i64 k, .int .u64 (c.1.toNat : Int), .int .u64 (c.2.1.toNat : Int), .int .u64 (c.2.2.1.toNat : Int), .int .u64 (c.2.2.2.toNat : Int), .slice ao kids.length cap] 27)) = W2 at HW2 HB2 HZ2 HK2 ⊢
  clear hc0 hf0
  have hc2 := cnt_cell HW2.out
  have s0 := cell_of_row W2 w.heap.size 0 _ 27 (0, 0) HZ2.out
  have s1 := cell_of_row W2 w.heap.size 1 _ 27 (0, 0) HZ2.out
  have s2 := cell_of_row W2 w.heap.size 2 _ 27 (0, 0) HZ2.out
  have s3 := cell_of_row W2 w.heap.size 3 _ 27 (0, 0) HZ2.out
  have s4 := cell_of_row W2 w.heap.size 4 _ 27 (0, 0) HZ2.out
  have s5 := cell_of_row W2 w.heap.size 5 _ 27 (0, 0) HZ2.out
  simp only [List.getElem?_toArray, List.getElem?_cons_zero, List.getElem?_cons_succ] at s0 s1 s2 s3 s4 s5
  by_cases h1 : 100 < n + 1
  · have h1' : 100 < ((n + 1 : Nat) : Int) := by omega
    go_wp2_with fail
    go_ret
    rw [HE.out, if_pos h1]
    exact ⟨rfl, HW2.out, HB2.out, HK2.out⟩
  · have h1' : ¬ (100 < ((n + 1 : Nat) : Int)) := by omega
    by_cases h2 : 30 < d
    · have h2' : 30 < (d : Int) := by omega
      go_wp2_with fail
      go_ret
      rw [HE.out, if_neg h1, if_pos h2]
      exact ⟨rfl, HW2.out, HB2.out, HK2.out⟩
    · have h2' : ¬ (30 < (d : Int)) := by omega
      obtain ⟨hcb, HC⟩ : ∃ hcb, Hid (decide (c = empty) = hcb) := ⟨_, (rfl : decide (c = empty) = decide (c = empty))⟩
      have hq : ∀ W, (Op.equalIn 10000 24 (.agg #[.int .u64 (c.1.toNat : Int), .int .u64 (c.2.1.toNat : Int), .int .u64 (c.2.2.1.toNat : Int), .int .u64 (c.2.2.2.toNat : Int)]) (.agg #[.int .u64 0, .int .u64 0, .int .u64 0, .int .u64 0])).run Try.prog W = .ok hcb W := fun W => by rw [eqIn_zero, HC.out]
      have hgd := guard24
      by_cases hl : kids.length = 2
      · have hl' : ((kids.length : Int) != 2) = false := by simp [hl]
        cases hcb
        · have HND : Hid (isNode k c kids.length = false) := node_of k c kids.length 2 hl HK3.out HC.out HKC.out.1 HKC.out.2
          have e3 : (k == 3) = false := HK3.out
          have HLE : Hid (kids.length = 2) := hl
          clear hl
          go_wp2_with fail
          go_quiet (fail)
          go_wp2_with fail
          go_ret
          rw [HE.out, if_neg h1, if_neg h2, if_neg (by rw [HND.out]; simp)]
          exact ⟨rfl, HW2.out, ⟨HB2.out.os, HB2.out.tape, HB2.out.output, HB2.out.size, HB2.out.block⟩, HK2.out⟩
        · have HND : Hid (isNode k c kids.length = true) := node_of k c kids.length 2 hl HK3.out HC.out HKC.out.1 HKC.out.2
          have e3 : (k == 3) = false := HK3.out
          have HLE : Hid (kids.length = 2) := hl
          clear hl
          have HE3 : Hid (chk (.mk k c kids) d n = chkL kids (d + 1) (n + 1)) := by
            show _ = _
            rw [HE.out, if_neg h1, if_neg h2, if_pos HND.out]
          go_wp2_with fail
          go_quiet (fail)
          go_wp2_with fail
          go_loopw [8] (fun z wr => ∃ i : Nat, i ≤ kids.length ∧ z = .int .i64 (i : Int) ∧ Hid ((chkL (kids.take i) (d + 1) (n + 1)).1 = 0 ∧ (chkL (kids.take i) (d + 1) (n + 1)).2 ≤ 100 ∧ wr.heap[pn]? = some (.cells #[.int .i64 ((chkL (kids.take i) (d + 1) (n + 1)).2 : Int)] 3) ∧ Below B w wr ∧ wr.heap[w.heap.size]? = some (.cells #[.int .i64 k, .int .u64 (c.1.toNat : Int), .int .u64 (c.2.1.toNat : Int), .int .u64 (c.2.2.1.toNat : Int), .int .u64 (c.2.2.2.toNat : Int), .slice ao kids.length cap] 27) ∧ ∀ b, b < w.heap.size → b ≠ pn → wr.heap[b]? = w.heap[b]?)) (fun z _ => kids.length - (intOf z).toNat)
          case atStart => exact ⟨0, by omega, rfl, ⟨rfl, by show n + 1 ≤ 100; omega, HW2.out, ⟨HB2.out.os, HB2.out.tape, HB2.out.output, HB2.out.size, HB2.out.block⟩, HZ2.out, HK2.out⟩⟩
          case round =>
            obtain ⟨i, hi, rfl, HI⟩ := hrel
            have t5 := cell_of_row wr w.heap.size 5 _ 27 (0, 0) HI.out.2.2.2.2.1
            simp only [List.getElem?_toArray, List.getElem?_cons_zero, List.getElem?_cons_succ] at t5
            clear s0 s1 s2 s3 s4 s5
            by_cases hlt : i < kids.length
            · obtain ⟨b, o, hao, hbB, hrx, hcl⟩ := HR.out i hlt
              have HX : Hid (Rx w B (vals i) kids[i]) := hrx
              obtain ⟨k', c', ao', n', cap', hv, q0, q1, q2, q3, q4, q5⟩ := kid_cells (hrx.next HI.out.2.2.2.1) (fun j hj => (HI.out.2.2.2.1.cell (p := ⟨b, o + i * 6 + j, none⟩) hbB).trans (hcl j hj))
              obtain ⟨nn, HNN⟩ : ∃ nn, Hid ((chkL (kids.take i) (d + 1) (n + 1)).2 = nn) := ⟨_, (rfl : (chkL (kids.take i) (d + 1) (n + 1)).2 = (chkL (kids.take i) (d + 1) (n + 1)).2)⟩
              obtain ⟨er, nr, HC9⟩ : ∃ er nr, Hid (chk kids[i] (d + 1) nn = (er, nr)) := ⟨_, _, (rfl : chk kids[i] (d + 1) nn = ((chk kids[i] (d + 1) nn).1, (chk kids[i] (d + 1) nn).2))⟩
              have HT : Hid (chkL (kids.take (i + 1)) (d + 1) (n + 1) = (er, nr)) := by
                show _ = _
                rw [List.take_succ_eq_append_getElem hlt, chkL_snoc, if_pos HI.out.1, HNN.out, HC9.out]
              have hbs := HI.out.2.2.2.1.size
              have hcall := HIH.out i hlt (vals i) (d + 1) nn pn B wr (HX.out.next HI.out.2.2.2.1) (by omega) (by rw [← HNN.out]; exact HI.out.2.1) hB (by omega) (by rw [← HNN.out]; exact HI.out.2.2.1)
              rw [hv, HC9.out] at hcall
              clear hcl hrx hv
              subst hao
              have hw1 : (d : Int) + 1 = ((d + 1 : Nat) : Int) := by omega
              have HCL : Hid (Calls Try.prog 17 #[.agg #[.int .i64 k', .int .u64 (c'.1.toNat : Int), .int .u64 (c'.2.1.toNat : Int), .int .u64 (c'.2.2.1.toNat : Int), .int .u64 (c'.2.2.2.toNat : Int), .slice ao' n' cap'], .int .i64 ((d : Int) + 1), .pointer (some ⟨pn, 0, none⟩)] wr fun e w' => e = .returned (.int .i64 (er : Int)) ∧ w'.heap[pn]? = some (.cells #[.int .i64 (nr : Int)] 3) ∧ Below B wr w' ∧ ∀ b, b < wr.heap.size → b ≠ pn → w'.heap[b]? = wr.heap[b]?) := by rw [hw1]; exact hcall
              clear hcall hw1
              by_cases he : er = 0
              · subst he
                have hnr : nr ≤ 100 := by obtain ⟨_, _, _, h, _⟩ := chk_right HC9.out; exact h
                go_wp2_with (go_at_call 17; refine HCL.out.mono ?_; rintro e W4 ⟨rfl, hp4, hb4, hk4⟩)
                go_roundw
                case rel => exact ⟨i + 1, by omega, by go_num, ⟨by rw [HT.out], by rw [HT.out]; exact hnr, by rw [HT.out]; exact hp4, HI.out.2.2.2.1.trans hb4, (hk4 _ (blk_lt HI.out.2.2.2.2.1) (by have := hnpn; omega)).trans HI.out.2.2.2.2.1, fun b g1 g2 => (hk4 b (by omega) g2).trans (HI.out.2.2.2.2.2 b g1 g2)⟩⟩
                case measure => simp [intOf]; omega
              · have he' : ((er : Int) == 0) = false := by simp [he]
                have HF : Hid (chkL kids (d + 1) (n + 1) = (er, nr)) := by
                  show _ = _
                  have := chkL_stop (kids.take (i + 1)) (kids.drop (i + 1)) (d + 1) (n + 1) (by rw [HT.out]; exact he)
                  rw [List.take_append_drop, HT.out] at this
                  exact this
                go_wp2_with (go_at_call 17; refine HCL.out.mono ?_; rintro e W4 ⟨rfl, hp4, hb4, hk4⟩)
                go_ret
                rw [HE3.out, HF.out]
                exact ⟨rfl, hp4, HI.out.2.2.2.1.trans hb4, fun b g1 g2 => (hk4 b (by omega) g2).trans (HI.out.2.2.2.2.2 b g1 g2)⟩
            · have e : i = kids.length := by omega
              subst e
              go_wp2_with fail
              go_ret
              have h4 := HI.out
              rw [List.take_length] at h4
              rw [HE3.out]
              exact ⟨by rw [h4.1]; rfl, h4.2.2.1, h4.2.2.2.1, h4.2.2.2.2.2⟩
      · have hl' : ((kids.length : Int) != 2) = true := bne_iff_ne.2 (by omega)
        have HND : Hid (isNode k c kids.length = false) := node_len k c kids.length 2 hl HKC.out.2
        clear hl
        go_wp2_with fail
        go_quiet (fail)
        go_wp2_with fail
        go_ret
        rw [HE.out, if_neg h1, if_neg h2, if_neg (by rw [HND.out]; simp)]
        exact ⟨rfl, HW2.out, ⟨HB2.out.os, HB2.out.tape, HB2.out.output, HB2.out.size, HB2.out.block⟩, HK2.out⟩
end Go.Proofs.Ythloedfiomfnbaa

namespace Go.Proofs.Ythloedfiomfnbaa
open Go.RowKit
open Cls Rex
set_option maxHeartbeats 8000000 in
set_option maxRecDepth 20000 in
theorem refAt_none (k : Int) (c : Cl) (kids : List T) (hk6 : k ≠ 6) (hk4 : k ≠ 4) (hk5 : k ≠ 5) (IH : ∀ i (hi : i < kids.length) v, RC v kids[i]) (v : Value) : RC v (.mk k c kids) := by
  intro d n pn B w hx hd hn hB hBw hp
  obtain ⟨k_, c_, ao, cap, kids_, vals, rfl, ht, hk, hkm, hc, hr⟩ := hx.shape
  injection ht with e1 e2 e3
  subst e1 e2 e3
  have HIH : Hid (∀ i (hi : i < kids.length) (v : Value) (d n pn B : Nat) (w : World), Rx w B v kids[i] → d ≤ 31 → n ≤ 100 → B ≤ pn → B ≤ w.heap.size → w.heap[pn]? = some (.cells #[.int .i64 (n : Int)] 3) → Calls Try.prog 17 #[v, .int .i64 (d : Int), .pointer (some ⟨pn, 0, none⟩)] w fun e w' => e = .returned (.int .i64 ((chk kids[i] d n).1 : Int)) ∧ w'.heap[pn]? = some (.cells #[.int .i64 ((chk kids[i] d n).2 : Int)] 3) ∧ Below B w w' ∧ ∀ b, b < w.heap.size → b ≠ pn → w'.heap[b]? = w.heap[b]?) := fun i hi v => IH i hi v
  have HR : Hid (∀ i (hi : i < kids.length), ∃ b o, ao = some ⟨b, o, none⟩ ∧ b < B ∧ Rx w B (vals i) kids[i] ∧ ∀ j, j < 6 → w.cell? ⟨b, o + i * 6 + j, none⟩ = (vals i).cells[j]?) := fun i hi => by
    rcases hc with h | ⟨b, o, h1, h2, h3⟩
    · subst h; cases hi
    · exact ⟨b, o, h1, h2, hr i hi, h3 i hi⟩
  have HE : Hid (chk (.mk k c kids) d n = if 100 < n + 1 then (2, n + 1) else if 30 < d then (7, n + 1) else if isNode k c kids.length then chkL kids (d + 1) (n + 1) else (1, n + 1)) := chk_eq (.mk k c kids) d n
  have hpl := blk_lt hp
  clear IH
  have e6 : (k == 6) = false := by simp; omega
  have e4 : (k == 4) = false := by simp; omega
  have e5 : (k == 5) = false := by simp; omega
  have HKC0 : Hid ((k = 6 → 0 = 1) ∧ (k = 4 → 0 = 2) ∧ (k = 5 → 0 = 2) ∧ (k ≠ 6 → k ≠ 4 → k ≠ 5 → 0 = 0)) := by refine ⟨?_, ?_, ?_, ?_⟩ <;> omega
  clear hk6 hk4 hk5
  have hc0 := cnt_cell hp
  have hf0 := cnt_free hp
  have HP : Hid (w.heap[pn]? = some (.cells #[.int .i64 (n : Int)] 3)) := hp
  have hnpn : w.heap.size ≠ pn := by omega
  clear hp hx hc hr
  go_enter Try.func17, Try.ntmps17
  go_upto_region 2 with fail
  have HW2 : Hid (((w.setCell ⟨pn, 0, none⟩ (.int .i64 ((n : Int) + 1))).alloc (.cells #[.int .i64 k, .int .u64 (c.1.toNat : Int), .int .u64 (c.2.1.toNat : Int), .int .u64 (c.2.2.1.toNat : Int), .int .u64 (c.2.2.2.toNat : Int), .slice ao kids.length cap] 27)).heap[pn]? = some (.cells #[.int .i64 ((n + 1 : Nat) : Int)] 3)) := (Below.heap_alloc _ _ _ (by simp [World.setCell]; exact hpl)).trans (cnt_set HP.out _)
  have HB2 : Hid (Below B w ((w.setCell ⟨pn, 0, none⟩ (.int .i64 ((n : Int) + 1))).alloc (.cells #[.int .i64 k, .int .u64 (c.1.toNat : Int), .int .u64 (c.2.1.toNat : Int), .int .u64 (c.2.2.1.toNat : Int), .int .u64 (c.2.2.2.toNat : Int), .slice ao kids.length cap] 27))) := ((Below.refl B w).setCell hB _).alloc (by simp [World.setCell]; exact hBw) _
  have HZ2 : Hid (((w.setCell ⟨pn, 0, none⟩ (.int .i64 ((n : Int) + 1))).alloc (.cells #[.int .i64 k, .int .u64 (c.1.toNat : Int), .int .u64 (c.2.1.toNat : Int), .int .u64 (c.2.2.1.toNat : Int), .int .u64 (c.2.2.2.toNat : Int), .slice ao kids.length cap] 27)).heap[w.heap.size]? = some (.cells #[.int .i64 k, .int .u64 (c.1.toNat : Int), .int .u64 (c.2.1.toNat : Int), .int .u64 (c.2.2.1.toNat : Int), .int .u64 (c.2.2.2.toNat : Int), .slice ao kids.length cap] 27)) := by
    have := block_new (w.setCell ⟨pn, 0, none⟩ (.int .i64 ((n : Int) + 1))) (.cells #[.int .i64 k, .int .u64 (c.1.toNat : Int), .int .u64 (c.2.1.toNat : Int), .int .u64 (c.2.2.1.toNat : Int), .int .u64 (c.2.2.2.toNat : Int), .slice ao kids.length cap] 27)
    rw [show (w.setCell ⟨pn, 0, none⟩ (.int .i64 ((n : Int) + 1))).heap.size = w.heap.size by simp [World.setCell]] at this
    exact this
  have HK2 : Hid (∀ b, b < w.heap.size → b ≠ pn → ((w.setCell ⟨pn, 0, none⟩ (.int .i64 ((n : Int) + 1))).alloc (.cells #[.int .i64 k, .int .u64 (c.1.toNat : Int), .int .u64 (c.2.1.toNat : Int), .int .u64 (c.2.2.1.toNat : Int), .int .u64 (c.2.2.2.toNat : Int), .slice ao kids.length cap] 27)).heap[b]? = w.heap[b]?) := fun b g1 g2 => (Below.heap_alloc _ _ _ (by simp [World.setCell]; exact g1)).trans (Below.heap_setCell _ _ _ _ g2)
  generalize ((w.setCell ⟨pn, 0, none⟩ (.int .i64 ((n : Int) + 1))).alloc (.cells #[.int .i64 k, .int .u64 (c.1.toNat : Int), .int .u64 (c.2.1.toNat : Int), .int .u64 (c.2.2.1.toNat : Int), .int .u64 (c.2.2.2.toNat : Int), .slice ao kids.length cap] 27)) = W2 at HW2 HB2 HZ2 HK2 ⊢
  clear hc0 hf0
  have hc2 := cnt_cell HW2.out
  have s0 := cell_of_row W2 w.heap.size 0 _ 27 (0, 0) HZ2.out
  have s1 := cell_of_row W2 w.heap.size 1 _ 27 (0, 0) HZ2.out
  have s2 := cell_of_row W2 w.heap.size 2 _ 27 (0, 0) HZ2.out
  have s3 := cell_of_row W2 w.heap.size 3 _ 27 (0, 0) HZ2.out
  have s4 := cell_of_row W2 w.heap.size 4 _ 27 (0, 0) HZ2.out
  have s5 := cell_of_row W2 w.heap.size 5 _ 27 (0, 0) HZ2.out
  simp only [List.getElem?_toArray, List.getElem?_cons_zero, List.getElem?_cons_succ] at s0 s1 s2 s3 s4 s5
  by_cases h1 : 100 < n + 1
  · have h1' : 100 < ((n + 1 : Nat) : Int) := by omega
    go_wp2_with fail
    go_ret
    rw [HE.out, if_pos h1]
    exact ⟨rfl, HW2.out, HB2.out, HK2.out⟩
  · have h1' : ¬ (100 < ((n + 1 : Nat) : Int)) := by omega
    by_cases h2 : 30 < d
    · have h2' : 30 < (d : Int) := by omega
      go_wp2_with fail
      go_ret
      rw [HE.out, if_neg h1, if_pos h2]
      exact ⟨rfl, HW2.out, HB2.out, HK2.out⟩
    · have h2' : ¬ (30 < (d : Int)) := by omega
      obtain ⟨hcb, HC⟩ : ∃ hcb, Hid (decide (c = empty) = hcb) := ⟨_, (rfl : decide (c = empty) = decide (c = empty))⟩
      have hq : ∀ W, (Op.equalIn 10000 24 (.agg #[.int .u64 (c.1.toNat : Int), .int .u64 (c.2.1.toNat : Int), .int .u64 (c.2.2.1.toNat : Int), .int .u64 (c.2.2.2.toNat : Int)]) (.agg #[.int .u64 0, .int .u64 0, .int .u64 0, .int .u64 0])).run Try.prog W = .ok hcb W := fun W => by rw [eqIn_zero, HC.out]
      have hgd := guard24
      obtain ⟨b3, HK3⟩ : ∃ b3, Hid ((k == 3) = b3) := ⟨_, (rfl : (k == 3) = (k == 3))⟩
      by_cases hlo : k < 1
      · have HND : Hid (isNode k c kids.length = false) := node_out k c kids.length (Or.inl hlo)
        have hlo2 : decide (k < 1) = true := decide_eq_true hlo
        go_wp2_with fail
        go_quiet (fail)
        go_wp2_with fail
        go_ret
        rw [HE.out, if_neg h1, if_neg h2, if_neg (by rw [HND.out]; simp)]
        exact ⟨rfl, HW2.out, ⟨HB2.out.os, HB2.out.tape, HB2.out.output, HB2.out.size, HB2.out.block⟩, HK2.out⟩
      · have hlo2 : decide (k < 1) = false := decide_eq_false hlo
        by_cases hhi : 6 < k
        · have HND : Hid (isNode k c kids.length = false) := node_out k c kids.length (Or.inr hhi)
          have hhi2 : decide (6 < k) = true := decide_eq_true hhi
          go_wp2_with fail
          go_quiet (fail)
          go_wp2_with fail
          go_ret
          rw [HE.out, if_neg h1, if_neg h2, if_neg (by rw [HND.out]; simp)]
          exact ⟨rfl, HW2.out, ⟨HB2.out.os, HB2.out.tape, HB2.out.output, HB2.out.size, HB2.out.block⟩, HK2.out⟩
        · have hhi2 : decide (6 < k) = false := decide_eq_false hhi
          have HKC : Hid ((1 ≤ k ∧ k ≤ 6) ∧ ((k = 6 → 0 = 1) ∧ (k = 4 → 0 = 2) ∧ (k = 5 → 0 = 2) ∧ (k ≠ 6 → k ≠ 4 → k ≠ 5 → 0 = 0))) := ⟨by omega, HKC0.out⟩
          by_cases hl : kids.length = 0
          · have hl' : ((kids.length : Int) != 0) = false := by simp [hl]
            cases b3 <;> cases hcb
            · have HND : Hid (isNode k c kids.length = false) := node_of k c kids.length 0 hl HK3.out HC.out HKC.out.1 HKC.out.2
              have e3 : (k == 3) = false := HK3.out
              have HLE : Hid (kids.length = 0) := hl
              clear hl
              go_wp2_with fail
              go_quiet (fail)
              go_wp2_with fail
              go_ret
              rw [HE.out, if_neg h1, if_neg h2, if_neg (by rw [HND.out]; simp)]
              exact ⟨rfl, HW2.out, ⟨HB2.out.os, HB2.out.tape, HB2.out.output, HB2.out.size, HB2.out.block⟩, HK2.out⟩
            · have HND : Hid (isNode k c kids.length = true) := node_of k c kids.length 0 hl HK3.out HC.out HKC.out.1 HKC.out.2
              have e3 : (k == 3) = false := HK3.out
              have HLE : Hid (kids.length = 0) := hl
              clear hl
              have HE3 : Hid (chk (.mk k c kids) d n = chkL kids (d + 1) (n + 1)) := by
                show _ = _
                rw [HE.out, if_neg h1, if_neg h2, if_pos HND.out]
              go_wp2_with fail
              go_quiet (fail)
              go_wp2_with fail
              go_loopw [8] (fun z wr => ∃ i : Nat, i ≤ kids.length ∧ z = .int .i64 (i : Int) ∧ Hid ((chkL (kids.take i) (d + 1) (n + 1)).1 = 0 ∧ (chkL (kids.take i) (d + 1) (n + 1)).2 ≤ 100 ∧ wr.heap[pn]? = some (.cells #[.int .i64 ((chkL (kids.take i) (d + 1) (n + 1)).2 : Int)] 3) ∧ Below B w wr ∧ wr.heap[w.heap.size]? = some (.cells #[.int .i64 k, .int .u64 (c.1.toNat : Int), .int .u64 (c.2.1.toNat : Int), .int .u64 (c.2.2.1.toNat : Int), .int .u64 (c.2.2.2.toNat : Int), .slice ao kids.length cap] 27) ∧ ∀ b, b < w.heap.size → b ≠ pn → wr.heap[b]? = w.heap[b]?)) (fun z _ => kids.length - (intOf z).toNat)
              case atStart => exact ⟨0, by omega, rfl, ⟨rfl, by show n + 1 ≤ 100; omega, HW2.out, ⟨HB2.out.os, HB2.out.tape, HB2.out.output, HB2.out.size, HB2.out.block⟩, HZ2.out, HK2.out⟩⟩
              case round =>
                obtain ⟨i, hi, rfl, HI⟩ := hrel
                have t5 := cell_of_row wr w.heap.size 5 _ 27 (0, 0) HI.out.2.2.2.2.1
                simp only [List.getElem?_toArray, List.getElem?_cons_zero, List.getElem?_cons_succ] at t5
                clear s0 s1 s2 s3 s4 s5
                by_cases hlt : i < kids.length
                · exact absurd hlt (by have := HLE.out; omega)
                · have e : i = kids.length := by omega
                  subst e
                  go_wp2_with fail
                  go_ret
                  have h4 := HI.out
                  rw [List.take_length] at h4
                  rw [HE3.out]
                  exact ⟨by rw [h4.1]; rfl, h4.2.2.1, h4.2.2.2.1, h4.2.2.2.2.2⟩
            · have HND : Hid (isNode k c kids.length = true) := node_of k c kids.length 0 hl HK3.out HC.out HKC.out.1 HKC.out.2
              have e3 : (k == 3) = true := HK3.out
              have HLE : Hid (kids.length = 0) := hl
              clear hl
              have HE3 : Hid (chk (.mk k c kids) d n = chkL kids (d + 1) (n + 1)) := by
                show _ = _
                rw [HE.out, if_neg h1, if_neg h2, if_pos HND.out]
              go_wp2_with fail
              go_quiet (fail)
              go_wp2_with fail
              go_loopw [8] (fun z wr => ∃ i : Nat, i ≤ kids.length ∧ z = .int .i64 (i : Int) ∧ Hid ((chkL (kids.take i) (d + 1) (n + 1)).1 = 0 ∧ (chkL (kids.take i) (d + 1) (n + 1)).2 ≤ 100 ∧ wr.heap[pn]? = some (.cells #[.int .i64 ((chkL (kids.take i) (d + 1) (n + 1)).2 : Int)] 3) ∧ Below B w wr ∧ wr.heap[w.heap.size]? = some (.cells #[.int .i64 k, .int .u64 (c.1.toNat : Int), .int .u64 (c.2.1.toNat : Int), .int .u64 (c.2.2.1.toNat : Int), .int .u64 (c.2.2.2.toNat : Int), .slice ao kids.length cap] 27) ∧ ∀ b, b < w.heap.size → b ≠ pn → wr.heap[b]? = w.heap[b]?)) (fun z _ => kids.length - (intOf z).toNat)
              case atStart => exact ⟨0, by omega, rfl, ⟨rfl, by show n + 1 ≤ 100; omega, HW2.out, ⟨HB2.out.os, HB2.out.tape, HB2.out.output, HB2.out.size, HB2.out.block⟩, HZ2.out, HK2.out⟩⟩
              case round =>
                obtain ⟨i, hi, rfl, HI⟩ := hrel
                have t5 := cell_of_row wr w.heap.size 5 _ 27 (0, 0) HI.out.2.2.2.2.1
                simp only [List.getElem?_toArray, List.getElem?_cons_zero, List.getElem?_cons_succ] at t5
                clear s0 s1 s2 s3 s4 s5
                by_cases hlt : i < kids.length
                · exact absurd hlt (by have := HLE.out; omega)
                · have e : i = kids.length := by omega
                  subst e
                  go_wp2_with fail
                  go_ret
                  have h4 := HI.out
                  rw [List.take_length] at h4
                  rw [HE3.out]
                  exact ⟨by rw [h4.1]; rfl, h4.2.2.1, h4.2.2.2.1, h4.2.2.2.2.2⟩
            · have HND : Hid (isNode k c kids.length = false) := node_of k c kids.length 0 hl HK3.out HC.out HKC.out.1 HKC.out.2
              have e3 : (k == 3) = true := HK3.out
              have HLE : Hid (kids.length = 0) := hl
              clear hl
              go_wp2_with fail
              go_quiet (fail)
              go_wp2_with fail
              go_ret
              rw [HE.out, if_neg h1, if_neg h2, if_neg (by rw [HND.out]; simp)]
              exact ⟨rfl, HW2.out, ⟨HB2.out.os, HB2.out.tape, HB2.out.output, HB2.out.size, HB2.out.block⟩, HK2.out⟩
          · have hl' : ((kids.length : Int) != 0) = true := bne_iff_ne.2 (by omega)
            have HND : Hid (isNode k c kids.length = false) := node_len k c kids.length 0 hl HKC.out.2
            clear hl
            go_wp2_with fail
            go_quiet (fail)
            go_wp2_with fail
            go_ret
            rw [HE.out, if_neg h1, if_neg h2, if_neg (by rw [HND.out]; simp)]
            exact ⟨rfl, HW2.out, ⟨HB2.out.os, HB2.out.tape, HB2.out.output, HB2.out.size, HB2.out.block⟩, HK2.out⟩
end Go.Proofs.Ythloedfiomfnbaa

namespace Go.Proofs.Ythloedfiomfnbaa
open Go.RowKit
open Cls Rex
theorem refAt_all : ∀ (m : Nat) (t : T), t.sz ≤ m → ∀ v, RC v t
  | 0, t, hm => by have := t.sz_pos; omega
  | m + 1, .mk k c kids, hm => by
    have IH : ∀ i (hi : i < kids.length) v, RC v kids[i] := fun i hi v => refAt_all m kids[i] (by have := T.sz_lt (t := .mk k c kids) (List.getElem_mem hi); omega) v
    intro v
    by_cases hk6 : k = 6
    · exact refAt_six k c kids hk6 IH v
    · by_cases hk4 : k = 4
      · exact refAt_four k c kids hk6 hk4 IH v
      · by_cases hk5 : k = 5
        · exact refAt_five k c kids hk6 hk4 hk5 IH v
        · exact refAt_none k c kids hk6 hk4 hk5 IH v
set_option maxHeartbeats 1000000 in
theorem Ref_any (t : T) (v : Value) (B : Nat) (w : World) (hx : Rx w B v t) (hBw : B ≤ w.heap.size) :
    Calls Try.prog 7 #[v] w fun e w' => e = .returned (.int .i64 (err t : Int)) ∧ Below w.heap.size w w' := by
  obtain ⟨k, c, ao, cap, kids, vals, rfl, rfl, -⟩ := hx.shape
  have hcall := refAt_all _ _ (Nat.le_refl _) _ 1 0 (w.heap.size + 1) B ((w.alloc (.cells #[.int .i64 k, .int .u64 (c.1.toNat : Int), .int .u64 (c.2.1.toNat : Int), .int .u64 (c.2.2.1.toNat : Int), .int .u64 (c.2.2.2.toNat : Int), .slice ao kids.length cap] 27)).alloc (.cells #[.int .i64 0] 3)) (hx.next (((Below.refl B w).alloc hBw _).alloc (by simp; omega) _)) (by omega) (by omega) (by omega) (by simp; omega) (by
    have h := block_new (w.alloc (.cells #[.int .i64 k, .int .u64 (c.1.toNat : Int), .int .u64 (c.2.1.toNat : Int), .int .u64 (c.2.2.1.toNat : Int), .int .u64 (c.2.2.2.toNat : Int), .slice ao kids.length cap] 27)) (.cells #[.int .i64 0] 3)
    have e : (w.alloc (.cells #[.int .i64 k, .int .u64 (c.1.toNat : Int), .int .u64 (c.2.1.toNat : Int), .int .u64 (c.2.2.1.toNat : Int), .int .u64 (c.2.2.2.toNat : Int), .slice ao kids.length cap] 27)).heap.size = w.heap.size + 1 := by simp
    rw [e] at h; exact h)
  have HB : Hid (Below w.heap.size w ((w.alloc (.cells #[.int .i64 k, .int .u64 (c.1.toNat : Int), .int .u64 (c.2.1.toNat : Int), .int .u64 (c.2.2.1.toNat : Int), .int .u64 (c.2.2.2.toNat : Int), .slice ao kids.length cap] 27)).alloc (.cells #[.int .i64 0] 3))) := ((Below.refl _ w).alloc (Nat.le_refl _) _).alloc (by simp) _
  clear hx
  go_enter Try.func7, Try.ntmps7
  go_wp2_with fail
  refine hcall.mono ?_
  rintro e W1 ⟨rfl, _, hb, hk⟩
  have HX : Hid (Below w.heap.size w W1) := ⟨hb.os.trans HB.out.os, hb.tape.trans HB.out.tape, hb.output.trans HB.out.output, Nat.le_trans HB.out.size hb.size, fun b g => (hk b (by simp; omega) (by omega)).trans (HB.out.block b g)⟩
  clear hb hk
  go_wp2_with fail
  go_ret
  exact ⟨by unfold err; rfl, HX.out⟩
end Go.Proofs.Ythloedfiomfnbaa
