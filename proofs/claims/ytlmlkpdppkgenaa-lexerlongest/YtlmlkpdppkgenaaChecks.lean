/-
  The contracts of rex.check and rex.Check: what is wrong with a tree first, for every tree.
-/
import Derived.Test.YtlmlkpdppkgenaaNodes
namespace Go.Proofs.Ytlmlkpdppkgenaa
open Go.RowKit
open Cls Rex

theorem blk_lt {W : World} {b : Nat} {o : Obj} (h : W.heap[b]? = some o) : b < W.heap.size := by
  rcases Nat.lt_or_ge b W.heap.size with h' | h'
  · exact h'
  · rw [Array.getElem?_eq_none h'] at h; cases h
theorem blk_next {W W' : World} {b : Nat} {o : Obj} (hb : Below W.heap.size W W') (h : W.heap[b]? = some o) : W'.heap[b]? = some o := (hb.block b (blk_lt h)).trans h
theorem cnt_cell {W : World} {bb : Nat} {z : Value} (h : W.heap[bb]? = some (.cells #[z] 3)) : W.cell? ⟨bb, 0, none⟩ = some z := by simp [World.cell?, h]
theorem cnt_free {W : World} {bb : Nat} {z : Value} (h : W.heap[bb]? = some (.cells #[z] 3)) : W.frozen? ⟨bb, 0, none⟩ = false := by simp [World.frozen?, h]
theorem cnt_set {W : World} {bb : Nat} {z : Value} (h : W.heap[bb]? = some (.cells #[z] 3)) (y : Value) : (W.setCell ⟨bb, 0, none⟩ y).heap[bb]? = some (.cells #[y] 3) := by simp [World.setCell, Array.getElem?_modify, h]
/-- The six cells of a Kid. -/
theorem kid_cells {W : World} {B b o i : Nat} {v : Value} {t : T} (h : Rx W B v t) (hc : ∀ j, j < 6 → W.cell? ⟨b, o + i * 6 + j, none⟩ = v.cells[j]?) : ∃ (k : Int) (c : Cl) (ao : Option Addr) (n cap : Nat), v = .agg #[.int .i64 k, .int .u64 (c.1.toNat : Int), .int .u64 (c.2.1.toNat : Int), .int .u64 (c.2.2.1.toNat : Int), .int .u64 (c.2.2.2.toNat : Int), .slice ao n cap] ∧ W.cell? ⟨b, o + i * 6, none⟩ = some (.int .i64 k) ∧ W.cell? ⟨b, o + i * 6 + 1, none⟩ = some (.int .u64 (c.1.toNat : Int)) ∧ W.cell? ⟨b, o + i * 6 + 2, none⟩ = some (.int .u64 (c.2.1.toNat : Int)) ∧ W.cell? ⟨b, o + i * 6 + 3, none⟩ = some (.int .u64 (c.2.2.1.toNat : Int)) ∧ W.cell? ⟨b, o + i * 6 + 4, none⟩ = some (.int .u64 (c.2.2.2.toNat : Int)) ∧ W.cell? ⟨b, o + i * 6 + 5, none⟩ = some (.slice ao n cap) := by
  obtain ⟨k, c, ao, cap, kids, vals, rfl, _⟩ := h.shape
  exact ⟨k, c, _, _, _, rfl, hc 0 (by omega), hc 1 (by omega), hc 2 (by omega), hc 3 (by omega), hc 4 (by omega), hc 5 (by omega)⟩

set_option maxHeartbeats 4000000 in
set_option maxRecDepth 20000 in
theorem rxcheck_all : ∀ (m : Nat) (t : T), t.sz ≤ m → ∀ (v : Value) (d n pn B : Nat) (w : World), Rx w B v t → d ≤ 31 → n ≤ 100 → B ≤ pn → B ≤ w.heap.size → w.heap[pn]? = some (.cells #[.int .i64 (n : Int)] 3) →
    Calls Try.prog 73 #[v, .int .i64 (d : Int), .pointer (some ⟨pn, 0, none⟩)] w fun e w' => e = .returned (.int .i64 ((chk t d n).1 : Int)) ∧ w'.heap[pn]? = some (.cells #[.int .i64 ((chk t d n).2 : Int)] 3) ∧ Below B w w'
  | 0, t, hm => by have := t.sz_pos; omega
  | m + 1, t, hm => by
    intro v d n pn B w hx hd hn hB hBw hp
    obtain ⟨k, c, ao, cap, kids, vals, rfl, rfl, hk, hkm, hc, hr⟩ := hx.shape
    have HKS : Hid (∀ s ∈ kids, s.sz ≤ m) := fun s hs => by have := T.sz_lt (t := .mk k c kids) hs; omega
    have HP : Hid (w.heap[pn]? = some (.cells #[.int .i64 (n : Int)] 3)) := hp
    have HR : Hid (∀ i (hi : i < kids.length), ∃ b o, ao = some ⟨b, o, none⟩ ∧ b < B ∧ Rx w B (vals i) kids[i] ∧ ∀ j, j < 6 → w.cell? ⟨b, o + i * 6 + j, none⟩ = (vals i).cells[j]?) := fun i hi => by
      rcases hc with h | ⟨b, o, h1, h2, h3⟩
      · subst h; cases hi
      · exact ⟨b, o, h1, h2, hr i hi, h3 i hi⟩
    have HE : Hid (chk (.mk k c kids) d n = if 100 < n + 1 then (2, n + 1) else if 30 < d then (7, n + 1) else if isNode k c kids.length then chkL kids (d + 1) (n + 1) else (1, n + 1)) := chk_eq (.mk k c kids) d n
    have hc0 := cnt_cell hp
    have hf0 := cnt_free hp
    have hpl := blk_lt hp
    clear hp hx hc hr
    go_enter Try.func73, Try.ntmps73
    go_upto_region 2 with fail
    have HW2 : Hid (((w.setCell ⟨pn, 0, none⟩ (.int .i64 ((n : Int) + 1))).alloc (.cells #[.int .i64 k, .int .u64 (c.1.toNat : Int), .int .u64 (c.2.1.toNat : Int), .int .u64 (c.2.2.1.toNat : Int), .int .u64 (c.2.2.2.toNat : Int), .slice ao kids.length cap] 44)).heap[pn]? = some (.cells #[.int .i64 ((n + 1 : Nat) : Int)] 3)) := (Below.heap_alloc _ _ _ (by simp [World.setCell]; exact hpl)).trans (cnt_set HP.out _)
    have HB2 : Hid (Below B w ((w.setCell ⟨pn, 0, none⟩ (.int .i64 ((n : Int) + 1))).alloc (.cells #[.int .i64 k, .int .u64 (c.1.toNat : Int), .int .u64 (c.2.1.toNat : Int), .int .u64 (c.2.2.1.toNat : Int), .int .u64 (c.2.2.2.toNat : Int), .slice ao kids.length cap] 44))) := ((Below.refl B w).setCell hB _).alloc (by simp [World.setCell]; exact hBw) _
    have HS2 := (s6_new (w.setCell ⟨pn, 0, none⟩ (.int .i64 ((n : Int) + 1))) k c (.slice ao kids.length cap)).2
    rw [show (w.setCell ⟨pn, 0, none⟩ (.int .i64 ((n : Int) + 1))).heap.size = w.heap.size by simp [World.setCell]] at HS2
    have HZ2 : Hid (w.heap.size < ((w.setCell ⟨pn, 0, none⟩ (.int .i64 ((n : Int) + 1))).alloc (.cells #[.int .i64 k, .int .u64 (c.1.toNat : Int), .int .u64 (c.2.1.toNat : Int), .int .u64 (c.2.2.1.toNat : Int), .int .u64 (c.2.2.2.toNat : Int), .slice ao kids.length cap] 44)).heap.size) := by show _ < _; simp [World.setCell]
    generalize ((w.setCell ⟨pn, 0, none⟩ (.int .i64 ((n : Int) + 1))).alloc (.cells #[.int .i64 k, .int .u64 (c.1.toNat : Int), .int .u64 (c.2.1.toNat : Int), .int .u64 (c.2.2.1.toNat : Int), .int .u64 (c.2.2.2.toNat : Int), .slice ao kids.length cap] 44)) = W2 at HW2 HB2 HS2 HZ2 ⊢
    clear hc0 hf0
    have hc2 := cnt_cell HW2.out
    have HS : Hid (W2.cell? ⟨w.heap.size, 0, none⟩ = some (.int .i64 k) ∧ W2.cell? ⟨w.heap.size, 1, none⟩ = some (.int .u64 (c.1.toNat : Int)) ∧ W2.cell? ⟨w.heap.size, 2, none⟩ = some (.int .u64 (c.2.1.toNat : Int)) ∧ W2.cell? ⟨w.heap.size, 3, none⟩ = some (.int .u64 (c.2.2.1.toNat : Int)) ∧ W2.cell? ⟨w.heap.size, 4, none⟩ = some (.int .u64 (c.2.2.2.toNat : Int)) ∧ W2.cell? ⟨w.heap.size, 5, none⟩ = some (.slice ao kids.length cap)) := HS2
    obtain ⟨s0, s1, s2, s3, s4, s5⟩ := HS2
    by_cases h1 : 100 < n + 1
    · have h1' : 100 < ((n + 1 : Nat) : Int) := by omega
      go_wp2_with fail
      go_ret
      rw [HE.out, if_pos h1]
      exact ⟨rfl, HW2.out, HB2.out⟩
    · have h1' : ¬ (100 < ((n + 1 : Nat) : Int)) := by omega
      by_cases h2 : 30 < d
      · have h2' : 30 < (d : Int) := by omega
        go_wp2_with fail
        go_ret
        rw [HE.out, if_neg h1, if_pos h2]
        exact ⟨rfl, HW2.out, HB2.out⟩
      · have h2' : ¬ (30 < (d : Int)) := by omega
        have hI := isNode_any k c ao kids.length cap W2
        cases h3 : isNode k c kids.length with
        | false =>
          rw [h3] at hI
          go_wp2_with (go_at_call 82; refine hI.mono ?_; rintro e W3 ⟨rfl, hb3⟩)
          go_ret
          rw [HE.out, if_neg h1, if_neg h2, if_neg (by rw [h3]; simp)]
          exact ⟨rfl, blk_next hb3 HW2.out, HB2.out.trans (hb3.mono (by have := HB2.out.size; omega))⟩
        | true =>
          rw [h3] at hI
          go_wp2_with (go_at_call 82; refine hI.mono ?_; rintro e W3 ⟨rfl, hb3⟩; have t5 := cell_next HS.out.2.2.2.2.2 hb3)
          have HB3 : Hid (Below B w W3) := HB2.out.trans (hb3.mono (by have := HB2.out.size; omega))
          have HP3 : Hid (W3.heap[pn]? = some (.cells #[.int .i64 ((n + 1 : Nat) : Int)] 3)) := blk_next hb3 HW2.out
          have HE3 : Hid (chk (.mk k c kids) d n = chkL kids (d + 1) (n + 1)) := by
            show _ = _
            rw [HE.out, if_neg h1, if_neg h2, if_pos h3]
          go_loopw [30] (fun z wr => ∃ i : Nat, i ≤ kids.length ∧ z = .int .i64 (i : Int) ∧ Hid ((chkL (kids.take i) (d + 1) (n + 1)).1 = 0 ∧ (chkL (kids.take i) (d + 1) (n + 1)).2 ≤ 100 ∧ wr.heap[pn]? = some (.cells #[.int .i64 ((chkL (kids.take i) (d + 1) (n + 1)).2 : Int)] 3) ∧ Below B w wr)) (fun z _ => kids.length - (intOf z).toNat)
          case atStart => exact ⟨0, by omega, rfl, ⟨rfl, by show n + 1 ≤ 100; omega, HP3.out, HB3.out⟩⟩
          case round =>
            obtain ⟨i, hi, rfl, HI⟩ := hrel
            by_cases hlt : i < kids.length
            · obtain ⟨b, o, hao, hbB, hrx, hcl⟩ := HR.out i hlt
              have HX : Hid (Rx w B (vals i) kids[i]) := hrx
              obtain ⟨k', c', ao', n', cap', hv, q0, q1, q2, q3, q4, q5⟩ := kid_cells (hrx.next HI.out.2.2.2) (fun j hj => (HI.out.2.2.2.cell (p := ⟨b, o + i * 6 + j, none⟩) hbB).trans (hcl j hj))
              obtain ⟨nn, HNN⟩ : ∃ nn, Hid ((chkL (kids.take i) (d + 1) (n + 1)).2 = nn) := ⟨_, (rfl : (chkL (kids.take i) (d + 1) (n + 1)).2 = (chkL (kids.take i) (d + 1) (n + 1)).2)⟩
              obtain ⟨er, nr, HC⟩ : ∃ er nr, Hid (chk kids[i] (d + 1) nn = (er, nr)) := ⟨_, _, (rfl : chk kids[i] (d + 1) nn = ((chk kids[i] (d + 1) nn).1, (chk kids[i] (d + 1) nn).2))⟩
              have HT : Hid (chkL (kids.take (i + 1)) (d + 1) (n + 1) = (er, nr)) := by
                show _ = _
                rw [List.take_succ_eq_append_getElem hlt, chkL_snoc, if_pos HI.out.1, HNN.out, HC.out]
              have hbs := HI.out.2.2.2.size
              have hcall := rxcheck_all m kids[i] (HKS.out _ (List.getElem_mem hlt)) (vals i) (d + 1) nn pn B (wr.alloc (.cells #[.int .i64 k', .int .u64 (c'.1.toNat : Int), .int .u64 (c'.2.1.toNat : Int), .int .u64 (c'.2.2.1.toNat : Int), .int .u64 (c'.2.2.2.toNat : Int), .slice ao' n' cap'] 44)) (HX.out.next (HI.out.2.2.2.alloc (by omega) _)) (by omega) (by rw [← HNN.out]; exact HI.out.2.1) hB (by simp; omega) ((Below.heap_alloc _ _ _ (blk_lt HI.out.2.2.1)).trans (by rw [← HNN.out]; exact HI.out.2.2.1))
              rw [hv, HC.out] at hcall
              clear hcl hrx hv
              subst hao
              have hw1 : (d : Int) + 1 = ((d + 1 : Nat) : Int) := by omega
              have HCL : Hid (Calls Try.prog 73 #[.agg #[.int .i64 k', .int .u64 (c'.1.toNat : Int), .int .u64 (c'.2.1.toNat : Int), .int .u64 (c'.2.2.1.toNat : Int), .int .u64 (c'.2.2.2.toNat : Int), .slice ao' n' cap'], .int .i64 ((d : Int) + 1), .pointer (some ⟨pn, 0, none⟩)] (wr.alloc (.cells #[.int .i64 k', .int .u64 (c'.1.toNat : Int), .int .u64 (c'.2.1.toNat : Int), .int .u64 (c'.2.2.1.toNat : Int), .int .u64 (c'.2.2.2.toNat : Int), .slice ao' n' cap'] 44)) fun e w' => e = .returned (.int .i64 (er : Int)) ∧ w'.heap[pn]? = some (.cells #[.int .i64 (nr : Int)] 3) ∧ Below B (wr.alloc (.cells #[.int .i64 k', .int .u64 (c'.1.toNat : Int), .int .u64 (c'.2.1.toNat : Int), .int .u64 (c'.2.2.1.toNat : Int), .int .u64 (c'.2.2.2.toNat : Int), .slice ao' n' cap'] 44)) w') := by rw [hw1]; exact hcall
              clear hcall hw1 t5
              by_cases he : er = 0
              · subst he
                have hnr : nr ≤ 100 := by obtain ⟨_, _, _, h, _⟩ := chk_right HC.out; exact h
                go_wp2_with (go_at_call 73; refine HCL.out.mono ?_; rintro e W4 ⟨rfl, hp4, hb4⟩)
                go_roundw
                case rel => exact ⟨i + 1, by omega, by go_num, ⟨by rw [HT.out], by rw [HT.out]; exact hnr, by rw [HT.out]; exact hp4, (HI.out.2.2.2.alloc (by omega) _).trans hb4⟩⟩
                case measure => simp [intOf]; omega
              · have he' : ((er : Int) == 0) = false := by simp [he]
                have HF : Hid (chkL kids (d + 1) (n + 1) = (er, nr)) := by
                  show _ = _
                  have := chkL_stop (kids.take (i + 1)) (kids.drop (i + 1)) (d + 1) (n + 1) (by rw [HT.out]; exact he)
                  rw [List.take_append_drop, HT.out] at this
                  exact this
                go_wp2_with (go_at_call 73; refine HCL.out.mono ?_; rintro e W4 ⟨rfl, hp4, hb4⟩)
                go_ret
                rw [HE3.out, HF.out]
                exact ⟨rfl, hp4, (HI.out.2.2.2.alloc (by omega) _).trans hb4⟩
            · have e : i = kids.length := by omega
              subst e
              go_wp2_with fail
              go_ret
              have h4 := HI.out
              rw [List.take_length] at h4
              rw [HE3.out]
              exact ⟨by rw [h4.1]; rfl, h4.2.2.1, h4.2.2.2⟩
theorem rxcheck_any (t : T) (v : Value) (d n pn B : Nat) (w : World) (hx : Rx w B v t) (hd : d ≤ 31) (hn : n ≤ 100) (hB : B ≤ pn) (hBw : B ≤ w.heap.size) (hp : w.heap[pn]? = some (.cells #[.int .i64 (n : Int)] 3)) :
    Calls Try.prog 73 #[v, .int .i64 (d : Int), .pointer (some ⟨pn, 0, none⟩)] w fun e w' => e = .returned (.int .i64 ((chk t d n).1 : Int)) ∧ w'.heap[pn]? = some (.cells #[.int .i64 ((chk t d n).2 : Int)] 3) ∧ Below B w w' :=
  rxcheck_all t.sz t (Nat.le_refl _) v d n pn B w hx hd hn hB hBw hp
/-- Check, whole. -/
def rerr (t : T) : Nat := (chk t 1 0).1
set_option maxHeartbeats 1000000 in
theorem RxCheck_any (t : T) (v : Value) (B : Nat) (w : World) (hx : Rx w B v t) (hBw : B ≤ w.heap.size) :
    Calls Try.prog 59 #[v] w fun e w' => e = .returned (.int .i64 (rerr t : Int)) ∧ Below B w w' := by
  obtain ⟨k, c, ao, cap, kids, vals, rfl, rfl, _⟩ := hx.shape
  have hcall := rxcheck_any _ _ 1 0 (w.heap.size + 1) B ((w.alloc (.cells #[.int .i64 k, .int .u64 (c.1.toNat : Int), .int .u64 (c.2.1.toNat : Int), .int .u64 (c.2.2.1.toNat : Int), .int .u64 (c.2.2.2.toNat : Int), .slice ao kids.length cap] 44)).alloc (.cells #[.int .i64 0] 3)) (hx.next (((Below.refl B w).alloc hBw _).alloc (by simp; omega) _)) (by omega) (by omega) (by omega) (by simp; omega) (by
    have h := block_new (w.alloc (.cells #[.int .i64 k, .int .u64 (c.1.toNat : Int), .int .u64 (c.2.1.toNat : Int), .int .u64 (c.2.2.1.toNat : Int), .int .u64 (c.2.2.2.toNat : Int), .slice ao kids.length cap] 44)) (.cells #[.int .i64 0] 3)
    have e : (w.alloc (.cells #[.int .i64 k, .int .u64 (c.1.toNat : Int), .int .u64 (c.2.1.toNat : Int), .int .u64 (c.2.2.1.toNat : Int), .int .u64 (c.2.2.2.toNat : Int), .slice ao kids.length cap] 44)).heap.size = w.heap.size + 1 := by simp
    rw [e] at h; exact h)
  clear hx
  go_enter Try.func59, Try.ntmps59
  go_wp2_with fail
  refine hcall.mono ?_
  rintro e W1 ⟨rfl, _, hb⟩
  go_wp2_with fail
  go_ret
  exact ⟨by unfold rerr; rfl, (((Below.refl B w).alloc hBw _).alloc (by simp; omega) _).trans hb⟩
end Go.Proofs.Ytlmlkpdppkgenaa
