/-
  pushref.rexAt at a node of no kids.
-/
import Derived.Test.YthloedfiomfnbaaRefC
namespace Go.Proofs.Ythloedfiomfnbaa
open Go.RowKit
open Cls Rex
set_option maxHeartbeats 8000000 in
set_option maxRecDepth 20000 in
theorem refAt_none (k : Int) (c : Cl) (kids : List T) (hk6 : k ≠ 6) (hk4 : k ≠ 4) (hk5 : k ≠ 5) (IH : ∀ i (hi : i < kids.length) v, RC v kids[i]) (v : Value) : RC v (.mk k c kids) := by
  intro d n pn B w hx hd hn hB hBw hp
  obtain ⟨k_, c_, ao, cap, kids_, vals, rfl, ht, hk, hkm, hc, hr⟩ := hx.shape
  injection ht with e1 e2 e3
  subst e1 e2 e3
  have HIH : Hid (∀ i (hi : i < kids.length) (v : Value) (d n pn B : Nat) (w : World), Rx w B v kids[i] → d ≤ 31 → n ≤ 100 → B ≤ pn → B ≤ w.heap.size → w.heap[pn]? = some (.cells #[.int .i64 (n : Int)] 3) → Calls Try.prog 17 #[v, .int .i64 (d : Int), .pointer (some ⟨pn, 0, none⟩)] w fun e w' => e = .returned (.int .i64 ((chk kids[i] d n).1 : Int)) ∧ w'.heap[pn]? = some (.cells #[.int .i64 ((chk kids[i] d n).2 : Int)] 3) ∧ Below B w w' ∧ ∀ b, b < w.heap.size → b ≠ pn → w'.heap[b]? = w.heap[b]?) := fun i hi v => IH i hi v
  have HR : Hid (∀ i (hi : i < kids.length), ∃ b o, ao = some ⟨b, o, none⟩ ∧ b < B ∧ Rx w B (vals i) kids[i] ∧ ∀ j, j < 6 → w.cell? ⟨b, o + i * 6 + j, none⟩ = (vals i).cells[j]?) := fun i hi => by
    rcases hc with h | ⟨b, o, h1, h2, h3⟩
    · subst h; cases hi
    · exact ⟨b, o, h1, h2, hr i hi, h3 i hi⟩
  have HE : Hid (chk (.mk k c kids) d n = if 100 < n + 1 then (2, n + 1) else if 30 < d then (7, n + 1) else if isNode k c kids.length then chkL kids (d + 1) (n + 1) else (1, n + 1)) := chk_eq (.mk k c kids) d n
  have hpl := blk_lt hp
  clear IH
  have e6 : (k == 6) = false := by simp; omega
  have e4 : (k == 4) = false := by simp; omega
  have e5 : (k == 5) = false := by simp; omega
  have HKC0 : Hid ((k = 6 → 0 = 1) ∧ (k = 4 → 0 = 2) ∧ (k = 5 → 0 = 2) ∧ (k ≠ 6 → k ≠ 4 → k ≠ 5 → 0 = 0)) := by refine ⟨?_, ?_, ?_, ?_⟩ <;> omega
  clear hk6 hk4 hk5
  have hc0 := cnt_cell hp
  have hf0 := cnt_free hp
  have HP : Hid (w.heap[pn]? = some (.cells #[.int .i64 (n : Int)] 3)) := hp
  have hnpn : w.heap.size ≠ pn := by omega
  clear hp hx hc hr
  go_enter Try.func17, Try.ntmps17
  go_upto_region 2 with fail
  have HW2 : Hid (((w.setCell ⟨pn, 0, none⟩ (.int .i64 ((n : Int) + 1))).alloc (.cells #[.int .i64 k, .int .u64 (c.1.toNat : Int), .int .u64 (c.2.1.toNat : Int), .int .u64 (c.2.2.1.toNat : Int), .int .u64 (c.2.2.2.toNat : Int), .slice ao kids.length cap] 27)).heap[pn]? = some (.cells #[.int .i64 ((n + 1 : Nat) : Int)] 3)) := (Below.heap_alloc _ _ _ (by simp [World.setCell]; exact hpl)).trans (cnt_set HP.out _)
  have HB2 : Hid (Below B w ((w.setCell ⟨pn, 0, none⟩ (.int .i64 ((n : Int) + 1))).alloc (.cells #[.int .i64 k, .int .u64 (c.1.toNat : Int), .int .u64 (c.2.1.toNat : Int), .int .u64 (c.2.2.1.toNat : Int), .int .u64 (c.2.2.2.toNat : Int), .slice ao kids.length cap] 27))) := ((Below.refl B w).setCell hB _).alloc (by simp [World.setCell]; exact hBw) _
  have HZ2 : Hid (((w.setCell ⟨pn, 0, none⟩ (.int .i64 ((n : Int) + 1))).alloc (.cells #[.int .i64 k, .int .u64 (c.1.toNat : Int), .int .u64 (c.2.1.toNat : Int), .int .u64 (c.2.2.1.toNat : Int), .int .u64 (c.2.2.2.toNat : Int), .slice ao kids.length cap] 27)).heap[w.heap.size]? = some (.cells #[.int .i64 k, .int .u64 (c.1.toNat : Int), .int .u64 (c.2.1.toNat : Int), .int .u64 (c.2.2.1.toNat : Int), .int .u64 (c.2.2.2.toNat : Int), .slice ao kids.length cap] 27)) := by
    have := block_new (w.setCell ⟨pn, 0, none⟩ (.int .i64 ((n : Int) + 1))) (.cells #[.int .i64 k, .int .u64 (c.1.toNat : Int), .int .u64 (c.2.1.toNat : Int), .int .u64 (c.2.2.1.toNat : Int), .int .u64 (c.2.2.2.toNat : Int), .slice ao kids.length cap] 27)
    rw [show (w.setCell ⟨pn, 0, none⟩ (.int .i64 ((n : Int) + 1))).heap.size = w.heap.size by simp [World.setCell]] at this
    exact this
  have HK2 : Hid (∀ b, b < w.heap.size → b ≠ pn → ((w.setCell ⟨pn, 0, none⟩ (.int .i64 ((n : Int) + 1))).alloc (.cells #[.int .i64 k, .int .u64 (c.1.toNat : Int), .int .u64 (c.2.1.toNat : Int), .int .u64 (c.2.2.1.toNat : Int), .int .u64 (c.2.2.2.toNat : Int), .slice ao kids.length cap] 27)).heap[b]? = w.heap[b]?) := fun b g1 g2 => (Below.heap_alloc _ _ _ (by simp [World.setCell]; exact g1)).trans (Below.heap_setCell _ _ _ _ g2)
  generalize ((w.setCell ⟨pn, 0, none⟩ (.int .i64 ((n : Int) + 1))).alloc (.cells #[.int .i64 k, .int .u64 (c.1.toNat : Int), .int .u64 (c.2.1.toNat : Int), .int .u64 (c.2.2.1.toNat : Int), .int .u64 (c.2.2.2.toNat : Int), .slice ao kids.length cap] 27)) = W2 at HW2 HB2 HZ2 HK2 ⊢
  clear hc0 hf0
  have hc2 := cnt_cell HW2.out
  have s0 := cell_of_row W2 w.heap.size 0 _ 27 (0, 0) HZ2.out
  have s1 := cell_of_row W2 w.heap.size 1 _ 27 (0, 0) HZ2.out
  have s2 := cell_of_row W2 w.heap.size 2 _ 27 (0, 0) HZ2.out
  have s3 := cell_of_row W2 w.heap.size 3 _ 27 (0, 0) HZ2.out
  have s4 := cell_of_row W2 w.heap.size 4 _ 27 (0, 0) HZ2.out
  have s5 := cell_of_row W2 w.heap.size 5 _ 27 (0, 0) HZ2.out
  simp only [List.getElem?_toArray, List.getElem?_cons_zero, List.getElem?_cons_succ] at s0 s1 s2 s3 s4 s5
  by_cases h1 : 100 < n + 1
  · have h1' : 100 < ((n + 1 : Nat) : Int) := by omega
    go_wp2_with fail
    go_ret
    rw [HE.out, if_pos h1]
    exact ⟨rfl, HW2.out, HB2.out, HK2.out⟩
  · have h1' : ¬ (100 < ((n + 1 : Nat) : Int)) := by omega
    by_cases h2 : 30 < d
    · have h2' : 30 < (d : Int) := by omega
      go_wp2_with fail
      go_ret
      rw [HE.out, if_neg h1, if_pos h2]
      exact ⟨rfl, HW2.out, HB2.out, HK2.out⟩
    · have h2' : ¬ (30 < (d : Int)) := by omega
      obtain ⟨hcb, HC⟩ : ∃ hcb, Hid (decide (c = empty) = hcb) := ⟨_, (rfl : decide (c = empty) = decide (c = empty))⟩
      have hq : ∀ W, (Op.equalIn 10000 24 (.agg #[.int .u64 (c.1.toNat : Int), .int .u64 (c.2.1.toNat : Int), .int .u64 (c.2.2.1.toNat : Int), .int .u64 (c.2.2.2.toNat : Int)]) (.agg #[.int .u64 0, .int .u64 0, .int .u64 0, .int .u64 0])).run Try.prog W = .ok hcb W := fun W => by rw [eqIn_zero, HC.out]
      have hgd := guard24
      obtain ⟨b3, HK3⟩ : ∃ b3, Hid ((k == 3) = b3) := ⟨_, (rfl : (k == 3) = (k == 3))⟩
      by_cases hlo : k < 1
      · have HND : Hid (isNode k c kids.length = false) := node_out k c kids.length (Or.inl hlo)
        have hlo2 : decide (k < 1) = true := decide_eq_true hlo
        go_wp2_with fail
        go_quiet (fail)
        go_wp2_with fail
        go_ret
        rw [HE.out, if_neg h1, if_neg h2, if_neg (by rw [HND.out]; simp)]
        exact ⟨rfl, HW2.out, ⟨HB2.out.os, HB2.out.tape, HB2.out.output, HB2.out.size, HB2.out.block⟩, HK2.out⟩
      · have hlo2 : decide (k < 1) = false := decide_eq_false hlo
        by_cases hhi : 6 < k
        · have HND : Hid (isNode k c kids.length = false) := node_out k c kids.length (Or.inr hhi)
          have hhi2 : decide (6 < k) = true := decide_eq_true hhi
          go_wp2_with fail
          go_quiet (fail)
          go_wp2_with fail
          go_ret
          rw [HE.out, if_neg h1, if_neg h2, if_neg (by rw [HND.out]; simp)]
          exact ⟨rfl, HW2.out, ⟨HB2.out.os, HB2.out.tape, HB2.out.output, HB2.out.size, HB2.out.block⟩, HK2.out⟩
        · have hhi2 : decide (6 < k) = false := decide_eq_false hhi
          have HKC : Hid ((1 ≤ k ∧ k ≤ 6) ∧ ((k = 6 → 0 = 1) ∧ (k = 4 → 0 = 2) ∧ (k = 5 → 0 = 2) ∧ (k ≠ 6 → k ≠ 4 → k ≠ 5 → 0 = 0))) := ⟨by omega, HKC0.out⟩
          by_cases hl : kids.length = 0
          · have hl' : ((kids.length : Int) != 0) = false := by simp [hl]
            cases b3 <;> cases hcb
            · have HND : Hid (isNode k c kids.length = false) := node_of k c kids.length 0 hl HK3.out HC.out HKC.out.1 HKC.out.2
              have e3 : (k == 3) = false := HK3.out
              have HLE : Hid (kids.length = 0) := hl
              clear hl
              go_wp2_with fail
              go_quiet (fail)
              go_wp2_with fail
              go_ret
              rw [HE.out, if_neg h1, if_neg h2, if_neg (by rw [HND.out]; simp)]
              exact ⟨rfl, HW2.out, ⟨HB2.out.os, HB2.out.tape, HB2.out.output, HB2.out.size, HB2.out.block⟩, HK2.out⟩
            · have HND : Hid (isNode k c kids.length = true) := node_of k c kids.length 0 hl HK3.out HC.out HKC.out.1 HKC.out.2
              have e3 : (k == 3) = false := HK3.out
              have HLE : Hid (kids.length = 0) := hl
              clear hl
              have HE3 : Hid (chk (.mk k c kids) d n = chkL kids (d + 1) (n + 1)) := by
                show _ = _
                rw [HE.out, if_neg h1, if_neg h2, if_pos HND.out]
              go_wp2_with fail
              go_quiet (fail)
              go_wp2_with fail
              go_loopw [8] (fun z wr => ∃ i : Nat, i ≤ kids.length ∧ z = .int .i64 (i : Int) ∧ Hid ((chkL (kids.take i) (d + 1) (n + 1)).1 = 0 ∧ (chkL (kids.take i) (d + 1) (n + 1)).2 ≤ 100 ∧ wr.heap[pn]? = some (.cells #[.int .i64 ((chkL (kids.take i) (d + 1) (n + 1)).2 : Int)] 3) ∧ Below B w wr ∧ wr.heap[w.heap.size]? = some (.cells #[.int .i64 k, .int .u64 (c.1.toNat : Int), .int .u64 (c.2.1.toNat : Int), .int .u64 (c.2.2.1.toNat : Int), .int .u64 (c.2.2.2.toNat : Int), .slice ao kids.length cap] 27) ∧ ∀ b, b < w.heap.size → b ≠ pn → wr.heap[b]? = w.heap[b]?)) (fun z _ => kids.length - (intOf z).toNat)
              case atStart => exact ⟨0, by omega, rfl, ⟨rfl, by show n + 1 ≤ 100; omega, HW2.out, ⟨HB2.out.os, HB2.out.tape, HB2.out.output, HB2.out.size, HB2.out.block⟩, HZ2.out, HK2.out⟩⟩
              case round =>
                obtain ⟨i, hi, rfl, HI⟩ := hrel
                have t5 := cell_of_row wr w.heap.size 5 _ 27 (0, 0) HI.out.2.2.2.2.1
                simp only [List.getElem?_toArray, List.getElem?_cons_zero, List.getElem?_cons_succ] at t5
                clear s0 s1 s2 s3 s4 s5
                by_cases hlt : i < kids.length
                · exact absurd hlt (by have := HLE.out; omega)
                · have e : i = kids.length := by omega
                  subst e
                  go_wp2_with fail
                  go_ret
                  have h4 := HI.out
                  rw [List.take_length] at h4
                  rw [HE3.out]
                  exact ⟨by rw [h4.1]; rfl, h4.2.2.1, h4.2.2.2.1, h4.2.2.2.2.2⟩
            · have HND : Hid (isNode k c kids.length = true) := node_of k c kids.length 0 hl HK3.out HC.out HKC.out.1 HKC.out.2
              have e3 : (k == 3) = true := HK3.out
              have HLE : Hid (kids.length = 0) := hl
              clear hl
              have HE3 : Hid (chk (.mk k c kids) d n = chkL kids (d + 1) (n + 1)) := by
                show _ = _
                rw [HE.out, if_neg h1, if_neg h2, if_pos HND.out]
              go_wp2_with fail
              go_quiet (fail)
              go_wp2_with fail
              go_loopw [8] (fun z wr => ∃ i : Nat, i ≤ kids.length ∧ z = .int .i64 (i : Int) ∧ Hid ((chkL (kids.take i) (d + 1) (n + 1)).1 = 0 ∧ (chkL (kids.take i) (d + 1) (n + 1)).2 ≤ 100 ∧ wr.heap[pn]? = some (.cells #[.int .i64 ((chkL (kids.take i) (d + 1) (n + 1)).2 : Int)] 3) ∧ Below B w wr ∧ wr.heap[w.heap.size]? = some (.cells #[.int .i64 k, .int .u64 (c.1.toNat : Int), .int .u64 (c.2.1.toNat : Int), .int .u64 (c.2.2.1.toNat : Int), .int .u64 (c.2.2.2.toNat : Int), .slice ao kids.length cap] 27) ∧ ∀ b, b < w.heap.size → b ≠ pn → wr.heap[b]? = w.heap[b]?)) (fun z _ => kids.length - (intOf z).toNat)
              case atStart => exact ⟨0, by omega, rfl, ⟨rfl, by show n + 1 ≤ 100; omega, HW2.out, ⟨HB2.out.os, HB2.out.tape, HB2.out.output, HB2.out.size, HB2.out.block⟩, HZ2.out, HK2.out⟩⟩
              case round =>
                obtain ⟨i, hi, rfl, HI⟩ := hrel
                have t5 := cell_of_row wr w.heap.size 5 _ 27 (0, 0) HI.out.2.2.2.2.1
                simp only [List.getElem?_toArray, List.getElem?_cons_zero, List.getElem?_cons_succ] at t5
                clear s0 s1 s2 s3 s4 s5
                by_cases hlt : i < kids.length
                · exact absurd hlt (by have := HLE.out; omega)
                · have e : i = kids.length := by omega
                  subst e
                  go_wp2_with fail
                  go_ret
                  have h4 := HI.out
                  rw [List.take_length] at h4
                  rw [HE3.out]
                  exact ⟨by rw [h4.1]; rfl, h4.2.2.1, h4.2.2.2.1, h4.2.2.2.2.2⟩
            · have HND : Hid (isNode k c kids.length = false) := node_of k c kids.length 0 hl HK3.out HC.out HKC.out.1 HKC.out.2
              have e3 : (k == 3) = true := HK3.out
              have HLE : Hid (kids.length = 0) := hl
              clear hl
              go_wp2_with fail
              go_quiet (fail)
              go_wp2_with fail
              go_ret
              rw [HE.out, if_neg h1, if_neg h2, if_neg (by rw [HND.out]; simp)]
              exact ⟨rfl, HW2.out, ⟨HB2.out.os, HB2.out.tape, HB2.out.output, HB2.out.size, HB2.out.block⟩, HK2.out⟩
          · have hl' : ((kids.length : Int) != 0) = true := bne_iff_ne.2 (by omega)
            have HND : Hid (isNode k c kids.length = false) := node_len k c kids.length 0 hl HKC.out.2
            clear hl
            go_wp2_with fail
            go_quiet (fail)
            go_wp2_with fail
            go_ret
            rw [HE.out, if_neg h1, if_neg h2, if_neg (by rw [HND.out]; simp)]
            exact ⟨rfl, HW2.out, ⟨HB2.out.os, HB2.out.tape, HB2.out.output, HB2.out.size, HB2.out.block⟩, HK2.out⟩
end Go.Proofs.Ythloedfiomfnbaa
