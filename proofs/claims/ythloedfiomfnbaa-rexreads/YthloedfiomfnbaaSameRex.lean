/-
  The contract of pushref.SameRex at two trees that are the same.
-/
import Derived.Test.YthloedfiomfnbaaChecks
namespace Go.Proofs.Ythloedfiomfnbaa
open Go.RowKit
open Cls Rex

def Sw (w : World) (g h : Nat) (s0 s1 : Value) (W : World) : Prop := Below w.heap.size w W ∧ W.cell? ⟨g, 5, none⟩ = some s0 ∧ W.cell? ⟨h, 5, none⟩ = some s1
theorem Sw.next {w : World} {g h : Nat} {s0 s1 : Value} (W W' : World) (k : Sw w g h s0 s1 W) (hb : Below W.heap.size W W') : Sw w g h s0 s1 W' := ⟨k.1.trans (hb.mono k.1.size), cell_next k.2.1 hb, cell_next k.2.2 hb⟩
set_option maxHeartbeats 4000000 in
set_option maxRecDepth 20000 in
theorem sameRex_all : ∀ (m : Nat) (t : T), t.sz ≤ m → ∀ (v v2 : Value) (w : World), Rx w w.heap.size v t → Rx w w.heap.size v2 t →
    Calls Try.prog 13 #[v, v2] w fun e w' => e = .returned (.bool true) ∧ Below w.heap.size w w'
  | 0, t, h => absurd (T.sz_pos t) (by omega)
  | m + 1, t, hm => by
    intro v v2 w hx hx2
    obtain ⟨k, c, ao, cap, kids, vals, rfl, rfl, hk, hkm, hc, hr⟩ := hx.shape
    obtain ⟨k2, c2, ao2, cap2, kids2, vals2, rfl, e2, hk2, hkm2, hc2, hr2⟩ := hx2.shape
    injection e2 with e3 e4 e5
    subst e3 e4 e5
    have HKS : Hid (∀ s ∈ kids, s.sz ≤ m) := fun s hs => by have := T.sz_lt (t := .mk k c kids) hs; omega
    have HR : Hid (∀ i (hi : i < kids.length), ∃ b o, ao = some ⟨b, o, none⟩ ∧ b < w.heap.size ∧ Rx w w.heap.size (vals i) kids[i] ∧ ∀ j, j < 6 → w.cell? ⟨b, o + i * 6 + j, none⟩ = (vals i).cells[j]?) := fun i hi => by
      rcases hc with h | ⟨b, o, h1, h2, h3⟩
      · subst h; cases hi
      · exact ⟨b, o, h1, h2, hr i hi, h3 i hi⟩
    have HR2 : Hid (∀ i (hi : i < kids.length), ∃ b o, ao2 = some ⟨b, o, none⟩ ∧ b < w.heap.size ∧ Rx w w.heap.size (vals2 i) kids[i] ∧ ∀ j, j < 6 → w.cell? ⟨b, o + i * 6 + j, none⟩ = (vals2 i).cells[j]?) := fun i hi => by
      rcases hc2 with h | ⟨b, o, h1, h2, h3⟩
      · subst h; cases hi
      · exact ⟨b, o, h1, h2, hr2 i hi, h3 i hi⟩
    clear hx hx2 hc hr hc2 hr2 hk hk2 hkm2
    have S0 := s6_new w k c (.slice ao kids.length cap)
    have S1 := s6_new (w.alloc (.cells #[.int .i64 k, .int .u64 (c.1.toNat : Int), .int .u64 (c.2.1.toNat : Int), .int .u64 (c.2.2.1.toNat : Int), .int .u64 (c.2.2.2.toNat : Int), .slice ao kids.length cap] 27)) k c (.slice ao2 kids.length cap2)
    have hsz : (w.alloc (.cells #[.int .i64 k, .int .u64 (c.1.toNat : Int), .int .u64 (c.2.1.toNat : Int), .int .u64 (c.2.2.1.toNat : Int), .int .u64 (c.2.2.2.toNat : Int), .slice ao kids.length cap] 27)).heap.size = w.heap.size + 1 := by simp
    have S2 := S6.next _ _ S0 S1.1
    rw [hsz] at S1
    obtain ⟨sb, x0, x1, x2, x3, x4, x5⟩ := S2
    obtain ⟨-, y0, y1, y2, y3, y4, y5⟩ := S1
    have HB : Hid (Below w.heap.size w ((w.alloc (.cells #[.int .i64 k, .int .u64 (c.1.toNat : Int), .int .u64 (c.2.1.toNat : Int), .int .u64 (c.2.2.1.toNat : Int), .int .u64 (c.2.2.2.toNat : Int), .slice ao kids.length cap] 27)).alloc (.cells #[.int .i64 k, .int .u64 (c.1.toNat : Int), .int .u64 (c.2.1.toNat : Int), .int .u64 (c.2.2.1.toNat : Int), .int .u64 (c.2.2.2.toNat : Int), .slice ao2 kids.length cap2] 27))) := sb
    have HX5 : Hid (((w.alloc (.cells #[.int .i64 k, .int .u64 (c.1.toNat : Int), .int .u64 (c.2.1.toNat : Int), .int .u64 (c.2.2.1.toNat : Int), .int .u64 (c.2.2.2.toNat : Int), .slice ao kids.length cap] 27)).alloc (.cells #[.int .i64 k, .int .u64 (c.1.toNat : Int), .int .u64 (c.2.1.toNat : Int), .int .u64 (c.2.2.1.toNat : Int), .int .u64 (c.2.2.2.toNat : Int), .slice ao2 kids.length cap2] 27)).cell? ⟨w.heap.size, 5, none⟩ = some (.slice ao kids.length cap) ∧ ((w.alloc (.cells #[.int .i64 k, .int .u64 (c.1.toNat : Int), .int .u64 (c.2.1.toNat : Int), .int .u64 (c.2.2.1.toNat : Int), .int .u64 (c.2.2.2.toNat : Int), .slice ao kids.length cap] 27)).alloc (.cells #[.int .i64 k, .int .u64 (c.1.toNat : Int), .int .u64 (c.2.1.toNat : Int), .int .u64 (c.2.2.1.toNat : Int), .int .u64 (c.2.2.2.toNat : Int), .slice ao2 kids.length cap2] 27)).cell? ⟨w.heap.size + 1, 5, none⟩ = some (.slice ao2 kids.length cap2)) := ⟨x5, y5⟩
    clear S0 sb hsz
    have hne : ∀ w, (binOp .neq 24 (.agg #[.int .u64 (c.1.toNat : Int), .int .u64 (c.2.1.toNat : Int), .int .u64 (c.2.2.1.toNat : Int), .int .u64 (c.2.2.2.toNat : Int)]) (.agg #[.int .u64 (c.1.toNat : Int), .int .u64 (c.2.1.toNat : Int), .int .u64 (c.2.2.1.toNat : Int), .int .u64 (c.2.2.2.toNat : Int)])).run Try.prog w = .ok (.bool false) w := fun w => by rw [neq24]; simp
    have hkk : (k != k) = false := by simp
    have hll : ((kids.length : Int) != (kids.length : Int)) = false := by simp
    go_enter Try.func13, Try.ntmps13
    go_upto_region 3 with (fail)
    clear hne hkk hll x0 x1 x2 x3 x4 y0 y1 y2 y3 y4 x5 y5
    generalize ((w.alloc (.cells #[.int .i64 k, .int .u64 (c.1.toNat : Int), .int .u64 (c.2.1.toNat : Int), .int .u64 (c.2.2.1.toNat : Int), .int .u64 (c.2.2.2.toNat : Int), .slice ao kids.length cap] 27)).alloc (.cells #[.int .i64 k, .int .u64 (c.1.toNat : Int), .int .u64 (c.2.1.toNat : Int), .int .u64 (c.2.2.1.toNat : Int), .int .u64 (c.2.2.2.toNat : Int), .slice ao2 kids.length cap2] 27)) = W2 at HB HX5 ⊢
    go_wp2_with fail
    go_loopw [5] (fun z wr => ∃ i : Nat, i ≤ kids.length ∧ z = .int .i64 (i : Int) ∧ Hid (Sw w w.heap.size (w.heap.size + 1) (.slice ao kids.length cap) (.slice ao2 kids.length cap2) wr)) (fun z _ => kids.length - (intOf z).toNat)
    case atStart => exact ⟨0, by omega, rfl, HB.out, HX5.out⟩
    case round =>
      obtain ⟨i, hi, rfl, HS⟩ := hrel
      have x5 := HS.out.2.1
      by_cases hlt : i < kids.length
      · obtain ⟨b, o, rfl, hb, hrx, hcl⟩ := HR.out i hlt
        obtain ⟨b2, o2, rfl, hb2, hrx2, hcl2⟩ := HR2.out i hlt
        obtain ⟨k', c', a', n', cap', hv, q0, q1, q2, q3, q4, q5⟩ := kid_cells hrx hcl
        obtain ⟨k'', c'', a'', n'', cap'', hv2, r0, r1, r2, r3, r4, r5⟩ := kid_cells hrx2 hcl2
        have HCL : Hid (∀ W, Below w.heap.size w W → Calls Try.prog 13 #[vals i, vals2 i] W fun e w' => e = .returned (.bool true) ∧ Below W.heap.size W w') := fun W hW =>
          sameRex_all m kids[i] (HKS.out _ (List.getElem_mem hlt)) (vals i) (vals2 i) W ((hrx.next hW).wide hW.size) ((hrx2.next hW).wide hW.size)
        rw [hv, hv2] at HCL
        have hk1 : (i : Int) < (kids.length : Int) := by omega
        have hk0 : (0 : Int) ≤ (i : Int) := by omega
        clear hcl hcl2 hrx hrx2 hv hv2
        go_upto_region 6 with (fail)
        clear x5
        have S1' : Sw w w.heap.size (w.heap.size + 1) (.slice (some ⟨b, o, none⟩) kids.length cap) (.slice (some ⟨b2, o2, none⟩) kids.length cap2) wr.drew := ⟨HS.out.1.drew, HS.out.2⟩
        have p5 : ∀ p : Kp (Sw w w.heap.size (w.heap.size + 1) (.slice (some ⟨b, o, none⟩) kids.length cap) (.slice (some ⟨b2, o2, none⟩) kids.length cap2)), p.W.cell? ⟨w.heap.size, 5, none⟩ = some (.slice (some ⟨b, o, none⟩) kids.length cap) := fun p => p.h.2.1
        have p6 : ∀ p : Kp (Sw w w.heap.size (w.heap.size + 1) (.slice (some ⟨b, o, none⟩) kids.length cap) (.slice (some ⟨b2, o2, none⟩) kids.length cap2)), p.W.cell? ⟨w.heap.size + 1, 5, none⟩ = some (.slice (some ⟨b2, o2, none⟩) kids.length cap2) := fun p => p.h.2.2
        have pq0 : ∀ p : Kp (Sw w w.heap.size (w.heap.size + 1) (.slice (some ⟨b, o, none⟩) kids.length cap) (.slice (some ⟨b2, o2, none⟩) kids.length cap2)), p.W.cell? ⟨b, o + i * 6, none⟩ = some (.int .i64 k') := fun p => (p.h.1.cell (p := ⟨b, o + i * 6, none⟩) hb).trans q0
        have pq1 : ∀ p : Kp (Sw w w.heap.size (w.heap.size + 1) (.slice (some ⟨b, o, none⟩) kids.length cap) (.slice (some ⟨b2, o2, none⟩) kids.length cap2)), p.W.cell? ⟨b, o + i * 6 + 1, none⟩ = some (.int .u64 (c'.1.toNat : Int)) := fun p => (p.h.1.cell (p := ⟨b, o + i * 6 + 1, none⟩) hb).trans q1
        have pq2 : ∀ p : Kp (Sw w w.heap.size (w.heap.size + 1) (.slice (some ⟨b, o, none⟩) kids.length cap) (.slice (some ⟨b2, o2, none⟩) kids.length cap2)), p.W.cell? ⟨b, o + i * 6 + 2, none⟩ = some (.int .u64 (c'.2.1.toNat : Int)) := fun p => (p.h.1.cell (p := ⟨b, o + i * 6 + 2, none⟩) hb).trans q2
        have pq3 : ∀ p : Kp (Sw w w.heap.size (w.heap.size + 1) (.slice (some ⟨b, o, none⟩) kids.length cap) (.slice (some ⟨b2, o2, none⟩) kids.length cap2)), p.W.cell? ⟨b, o + i * 6 + 3, none⟩ = some (.int .u64 (c'.2.2.1.toNat : Int)) := fun p => (p.h.1.cell (p := ⟨b, o + i * 6 + 3, none⟩) hb).trans q3
        have pq4 : ∀ p : Kp (Sw w w.heap.size (w.heap.size + 1) (.slice (some ⟨b, o, none⟩) kids.length cap) (.slice (some ⟨b2, o2, none⟩) kids.length cap2)), p.W.cell? ⟨b, o + i * 6 + 4, none⟩ = some (.int .u64 (c'.2.2.2.toNat : Int)) := fun p => (p.h.1.cell (p := ⟨b, o + i * 6 + 4, none⟩) hb).trans q4
        have pq5 : ∀ p : Kp (Sw w w.heap.size (w.heap.size + 1) (.slice (some ⟨b, o, none⟩) kids.length cap) (.slice (some ⟨b2, o2, none⟩) kids.length cap2)), p.W.cell? ⟨b, o + i * 6 + 5, none⟩ = some (.slice a' n' cap') := fun p => (p.h.1.cell (p := ⟨b, o + i * 6 + 5, none⟩) hb).trans q5
        have pr0 : ∀ p : Kp (Sw w w.heap.size (w.heap.size + 1) (.slice (some ⟨b, o, none⟩) kids.length cap) (.slice (some ⟨b2, o2, none⟩) kids.length cap2)), p.W.cell? ⟨b2, o2 + i * 6, none⟩ = some (.int .i64 k'') := fun p => (p.h.1.cell (p := ⟨b2, o2 + i * 6, none⟩) hb2).trans r0
        have pr1 : ∀ p : Kp (Sw w w.heap.size (w.heap.size + 1) (.slice (some ⟨b, o, none⟩) kids.length cap) (.slice (some ⟨b2, o2, none⟩) kids.length cap2)), p.W.cell? ⟨b2, o2 + i * 6 + 1, none⟩ = some (.int .u64 (c''.1.toNat : Int)) := fun p => (p.h.1.cell (p := ⟨b2, o2 + i * 6 + 1, none⟩) hb2).trans r1
        have pr2 : ∀ p : Kp (Sw w w.heap.size (w.heap.size + 1) (.slice (some ⟨b, o, none⟩) kids.length cap) (.slice (some ⟨b2, o2, none⟩) kids.length cap2)), p.W.cell? ⟨b2, o2 + i * 6 + 2, none⟩ = some (.int .u64 (c''.2.1.toNat : Int)) := fun p => (p.h.1.cell (p := ⟨b2, o2 + i * 6 + 2, none⟩) hb2).trans r2
        have pr3 : ∀ p : Kp (Sw w w.heap.size (w.heap.size + 1) (.slice (some ⟨b, o, none⟩) kids.length cap) (.slice (some ⟨b2, o2, none⟩) kids.length cap2)), p.W.cell? ⟨b2, o2 + i * 6 + 3, none⟩ = some (.int .u64 (c''.2.2.1.toNat : Int)) := fun p => (p.h.1.cell (p := ⟨b2, o2 + i * 6 + 3, none⟩) hb2).trans r3
        have pr4 : ∀ p : Kp (Sw w w.heap.size (w.heap.size + 1) (.slice (some ⟨b, o, none⟩) kids.length cap) (.slice (some ⟨b2, o2, none⟩) kids.length cap2)), p.W.cell? ⟨b2, o2 + i * 6 + 4, none⟩ = some (.int .u64 (c''.2.2.2.toNat : Int)) := fun p => (p.h.1.cell (p := ⟨b2, o2 + i * 6 + 4, none⟩) hb2).trans r4
        have pr5 : ∀ p : Kp (Sw w w.heap.size (w.heap.size + 1) (.slice (some ⟨b, o, none⟩) kids.length cap) (.slice (some ⟨b2, o2, none⟩) kids.length cap2)), p.W.cell? ⟨b2, o2 + i * 6 + 5, none⟩ = some (.slice a'' n'' cap'') := fun p => (p.h.1.cell (p := ⟨b2, o2 + i * 6 + 5, none⟩) hb2).trans r5
        clear q0 q1 q2 q3 q4 q5 r0 r1 r2 r3 r4 r5
        have hne : Nonempty (Kp (Sw w w.heap.size (w.heap.size + 1) (.slice (some ⟨b, o, none⟩) kids.length cap) (.slice (some ⟨b2, o2, none⟩) kids.length cap2))) := ⟨⟨_, S1'⟩⟩
        have HCP : Hid (∀ p : Kp (Sw w w.heap.size (w.heap.size + 1) (.slice (some ⟨b, o, none⟩) kids.length cap) (.slice (some ⟨b2, o2, none⟩) kids.length cap2)), Calls Try.prog 13 #[.agg #[.int .i64 k', .int .u64 (c'.1.toNat : Int), .int .u64 (c'.2.1.toNat : Int), .int .u64 (c'.2.2.1.toNat : Int), .int .u64 (c'.2.2.2.toNat : Int), .slice a' n' cap'], .agg #[.int .i64 k'', .int .u64 (c''.1.toNat : Int), .int .u64 (c''.2.1.toNat : Int), .int .u64 (c''.2.2.1.toNat : Int), .int .u64 (c''.2.2.2.toNat : Int), .slice a'' n'' cap'']] p.W fun e w' => e = .returned (.bool true) ∧ Below p.W.heap.size p.W w') := fun p => HCL.out _ p.h.1
        refine wp_region_kept mixed (by kernel_rfl) S1' ?_
        clear S1'
        repeat (go_big_quiet_step (first | (go_at_call 13; with_reducible exact Kp.calls _ Sw.next (HCP.out _))))
        refine wpQuiet_nil ?_
        intro W1 hw1
        obtain ⟨⟨W1, HS1⟩, rfl⟩ := hw1
        have HS9 : Hid (Sw w w.heap.size (w.heap.size + 1) (.slice (some ⟨b, o, none⟩) kids.length cap) (.slice (some ⟨b2, o2, none⟩) kids.length cap2) W1) := HS1
        clear p5 p6 pq0 pq1 pq2 pq3 pq4 pq5 pr0 pr1 pr2 pr3 pr4 pr5 hne HS1
        go_wp2_with fail
        go_roundw
        case rel => exact ⟨i + 1, by omega, by go_num, HS9⟩
        case measure => simp [intOf]; omega
      · have hk1 : ¬ (i : Int) < (kids.length : Int) := by omega
        have HB9 : Hid (Below w.heap.size w wr) := HS.out.1
        go_wp2_with fail
        go_ret
        exact ⟨rfl, HB9.out⟩
theorem sameRex_true (t : T) (v v2 : Value) (w : World) (h : Rx w w.heap.size v t) (h2 : Rx w w.heap.size v2 t) : Calls Try.prog 13 #[v, v2] w fun e w' => e = .returned (.bool true) ∧ Below w.heap.size w w' := sameRex_all t.sz t (Nat.le_refl _) v v2 w h h2
end Go.Proofs.Ythloedfiomfnbaa
