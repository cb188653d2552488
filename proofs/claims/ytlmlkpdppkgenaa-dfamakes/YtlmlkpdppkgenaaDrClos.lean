/-
  The contracts of the two closures of pushref.Dfa: the least rule, and marks.
-/
import Derived.Test.YtlmlkpdppkgenaaWLow
import Derived.Test.YtlmlkpdppkgenaaPoWalks
import Derived.BigQuiet
namespace Go.Proofs.Ytlmlkpdppkgenaa
open Go.RowKit
open Cls Po Dm

/-- Is the rule done, of a list of places? -/
def lb (p : P) (e : Bool) (l : List Int) (i : Nat) : Bool := (e && p.empty.getD i false) || l.any fun y => decide (p.rules.getD y.toNat 0 = (i : Int)) && p.last.getD y.toNat false
theorem lb_tag (p : P) (c : Cl) : firstR p.empty.length (lb p false (sel p.cls.length (mem c))) = tgF p c := by
  unfold tgF
  refine firstR_congr fun i _ => ?_
  unfold lb dn
  rw [Bool.false_and, Bool.false_or, sel_any]
  congr 1
  funext x
  rw [show ((x : Int)).toNat = x by omega]
  cases mem c x <;> cases p.last.getD x false <;> simp
theorem lb_tag0 (p : P) : firstR p.empty.length (lb p true []) = tag0 p := by
  unfold tag0
  refine firstR_congr fun i _ => ?_
  simp [lb]
theorem any_take (l : List Int) (f : Int → Bool) (k : Nat) (h : k < l.length) : (l.take (k + 1)).any f = ((l.take k).any f || f l[k]) := by
  rw [List.take_succ_eq_append_getElem h, List.any_append]; simp

set_option maxHeartbeats 8000000 in
set_option maxRecDepth 20000 in
theorem leastF_any (uo : Option Addr) (uc : Nat) (l : List Int) (pb : Nat) (p : P) (v0 v2 v3 : Value) (b1 b4 b5 : Option Addr) (k1 k4 k5 : Nat) (w : World) (hl : Ints w (.slice uo l.length uc) l) (hp : Pn w v0 (.slice b1 p.rules.length k1) v2 v3 (.slice b4 p.last.length k4) (.slice b5 p.empty.length k5) p) (hin : ∀ y ∈ l, 0 ≤ y ∧ y < (p.cls.length : Int)) (hok : ok p = true) (hn : p.cls.length ≤ 200)
    (h1 : w.cell? ⟨pb, 1, none⟩ = some (.slice b1 p.rules.length k1)) (h4 : w.cell? ⟨pb, 4, none⟩ = some (.slice b4 p.last.length k4)) (h5 : w.cell? ⟨pb, 5, none⟩ = some (.slice b5 p.empty.length k5)) :
    Calls Try.prog 34 #[.slice uo l.length uc, .bool false, .pointer (some ⟨pb, 0, none⟩)] w fun r w' => r = .returned (.int .i64 (firstR p.empty.length (lb p false l))) ∧ Below w.heap.size w w' := by
  obtain ⟨hr, -, hla, -, h20, -, -, -⟩ := (ok_iff p).1 hok
  obtain ⟨-, hp1, -, -, hp4, hp5⟩ := hp
  obtain ⟨_, _, e1, -, q1⟩ := hp1
  cases e1
  obtain ⟨_, _, e1, -, q4⟩ := hp4
  cases e1
  obtain ⟨_, _, e1, -, q5⟩ := hp5
  cases e1
  obtain ⟨_, _, e1, hm0, q0⟩ := hl
  cases e1
  have HQ0 : Hid (l = [] ∨ ∃ b o, uo = some ⟨b, o, none⟩ ∧ b < w.heap.size ∧ ∀ i (hi : i < l.length), w.cell? ⟨b, o + i, none⟩ = some (.int .i64 l[i])) := q0
  have HQ1 : Hid (p.rules = [] ∨ ∃ b o, b1 = some ⟨b, o, none⟩ ∧ b < w.heap.size ∧ ∀ i (hi : i < p.rules.length), w.cell? ⟨b, o + i, none⟩ = some (.int .i64 p.rules[i])) := q1
  have HQ4 : Hid (p.last = [] ∨ ∃ b o, b4 = some ⟨b, o, none⟩ ∧ b < w.heap.size ∧ ∀ i (hi : i < p.last.length), w.cell? ⟨b, o + i, none⟩ = some (.bool p.last[i])) := q4
  have HQ5 : Hid (p.empty = [] ∨ ∃ b o, b5 = some ⟨b, o, none⟩ ∧ b < w.heap.size ∧ ∀ i (hi : i < p.empty.length), w.cell? ⟨b, o + i, none⟩ = some (.bool p.empty[i])) := q5
  have HIN : Hid (∀ y ∈ l, 0 ≤ y ∧ y < (p.cls.length : Int)) := hin
  have HLR : Hid (p.rules.length = p.cls.length ∧ p.last.length = p.cls.length ∧ p.cls.length ≤ 200 ∧ p.empty.length ≤ 20) := ⟨hr, hla, hn, h20⟩
  have HPC : Hid (w.cell? ⟨pb, 1, none⟩ = some (.slice b1 p.rules.length k1) ∧ w.cell? ⟨pb, 4, none⟩ = some (.slice b4 p.last.length k4) ∧ w.cell? ⟨pb, 5, none⟩ = some (.slice b5 p.empty.length k5)) := ⟨h1, h4, h5⟩
  obtain ⟨rr, HRR⟩ : ∃ z, Hid (firstR p.empty.length (lb p false l) = z) := ⟨_, (rfl : _ = _)⟩
  rw [HRR.out]
  obtain ⟨n1, HN1⟩ : ∃ q, Hid (p.rules.length = q) := ⟨_, (rfl : _ = _)⟩
  obtain ⟨n4, HN4⟩ : ∃ q, Hid (p.last.length = q) := ⟨_, (rfl : _ = _)⟩
  obtain ⟨n5, HN5⟩ : ∃ q, Hid (p.empty.length = q) := ⟨_, (rfl : _ = _)⟩
  obtain ⟨ul, HUL⟩ : ∃ q, Hid (l.length = q) := ⟨_, (rfl : _ = _)⟩
  rw [HN1.out, HN4.out, HN5.out] at HPC
  rw [HUL.out]
  have h20i : n5 ≤ 20 := by rw [← HN5.out]; exact HLR.out.2.2.2
  rw [HUL.out] at hm0
  clear q0 q1 q4 q5 hin hr hla hn h20 h1 h4 h5 hok
  go_enter Try.func34, Try.ntmps34
  go_wp2_with fail
  go_loopw [6] (fun z wr => ∃ i : Nat, i ≤ n5 ∧ z = .int .i64 (i : Int) ∧ Hid (∀ j, j < i → lb p false l j = false) ∧ Below w.heap.size w wr) (fun z _ => n5 - (intOf z).toNat)
  case atStart => exact ⟨0, by omega, rfl, fun j hj => by omega, Below.refl _ _⟩
  case round =>
    obtain ⟨i, hi, rfl, HA, hbel⟩ := hrel
    have HBE : Hid (Below w.heap.size w wr) := hbel
    have cellB : ∀ {b : Nat} {o : Nat} {u : Value}, b < w.heap.size → w.cell? ⟨b, o, none⟩ = some u → wr.cell? ⟨b, o, none⟩ = some u := fun hb hu => (hbel.cell hb).trans hu
    have hpb : pb < w.heap.size := World.block_lt_of_cell? w ⟨pb, 1, none⟩ HPC.out.1
    have y5 := cellB hpb HPC.out.2.2
    have y1 := cellB hpb HPC.out.1
    have y4 := cellB hpb HPC.out.2.1
    have hi0 : (0 : Int) ≤ (i : Int) := by omega
    by_cases hlt : i < n5
    · have hi1 : (i : Int) < (n5 : Int) := by omega
      have hle5 : i < p.empty.length := by rw [HN5.out]; exact hlt
      obtain ⟨c5, o5, rfl, hc5, hcell5⟩ := HQ5.out.resolve_left (fun e => by rw [e] at hle5; simp at hle5)
      have ye := cellB hc5 (hcell5 i hle5)
      have ee : p.empty.getD i false = p.empty[i] := by rw [List.getD_eq_getElem?_getD, List.getElem?_eq_getElem hle5]; rfl
      rw [← ee] at ye
      obtain ⟨em, HEM⟩ : ∃ q, Hid (p.empty.getD i false = q) := ⟨_, (rfl : _ = _)⟩
      rw [HEM.out] at ye
      obtain ⟨W0, rfl⟩ : ∃ q, q = wr := ⟨_, rfl⟩
      clear hcell5 ee hbel cellB
      go_wp2_with fail
      clear ye
      go_loopw [8, 7] (fun z sv wx => ∃ (k : Nat) (sb : Bool), k ≤ ul ∧ z = .int .i64 (k : Int) ∧ sv = .bool sb ∧ Hid (sb = ((false && em) || (l.take k).any fun y => decide (p.rules.getD y.toNat 0 = (i : Int)) && p.last.getD y.toNat false)) ∧ Below w.heap.size w wx) (fun z _ _ => ul - (intOf z).toNat)
      case atStart => exact ⟨0, _, by omega, rfl, rfl, by show _ = _; simp, HBE.out⟩
      case round =>
        obtain ⟨k, sb, hk, rfl, rfl, HSB, hbel⟩ := hrel
        have cellB : ∀ {b : Nat} {o : Nat} {u : Value}, b < w.heap.size → w.cell? ⟨b, o, none⟩ = some u → wr.cell? ⟨b, o, none⟩ = some u := fun hb hu => (hbel.cell hb).trans hu
        have z1 := cellB hpb HPC.out.1
        have z4 := cellB hpb HPC.out.2.1
        by_cases hkl : k < ul
        · have hk0 : (0 : Int) ≤ (k : Int) := by omega
          have hk1 : (k : Int) < (ul : Int) := by omega
          have hll : k < l.length := by rw [HUL.out]; exact hkl
          obtain ⟨c0, o0, rfl, hc0, hcell0⟩ := HQ0.out.resolve_left (fun e => by rw [e] at hll; simp at hll)
          have yk := cellB hc0 (hcell0 k hll)
          obtain ⟨x, hx, hx2⟩ : ∃ x : Nat, l[k] = (x : Int) ∧ x < p.cls.length := by
            have := HIN.out l[k] (List.getElem_mem hll)
            exact ⟨l[k].toNat, by omega, by omega⟩
          have hxr : x < p.rules.length := by have := HLR.out.1; omega
          have hxl : x < p.last.length := by have := HLR.out.2.1; omega
          obtain ⟨c1, o1, rfl, hc1, hcell1⟩ := HQ1.out.resolve_left (fun e => by rw [e] at hxr; simp at hxr)
          obtain ⟨c4, o4, rfl, hc4, hcell4⟩ := HQ4.out.resolve_left (fun e => by rw [e] at hxl; simp at hxl)
          have yr := cellB hc1 (hcell1 x hxr)
          have yl := cellB hc4 (hcell4 x hxl)
          have er : p.rules.getD x 0 = p.rules[x] := by rw [List.getD_eq_getElem?_getD, List.getElem?_eq_getElem hxr]; rfl
          have el : p.last.getD x false = p.last[x] := by rw [List.getD_eq_getElem?_getD, List.getElem?_eq_getElem hxl]; rfl
          rw [hx] at yk
          rw [← er] at yr
          rw [← el] at yl
          have HST : Hid (((false && em) || (l.take (k + 1)).any fun y => decide (p.rules.getD y.toNat 0 = (i : Int)) && p.last.getD y.toNat false) = (sb || (decide (p.rules.getD x 0 = (i : Int)) && p.last.getD x false))) := by
            show _ = _
            rw [any_take _ _ k hll, hx, show ((x : Int)).toNat = x by omega, ← Bool.or_assoc, HSB.out]
          obtain ⟨rx, HRX⟩ : ∃ q, Hid (p.rules.getD x 0 = q) := ⟨_, (rfl : _ = _)⟩
          obtain ⟨lx, HLX⟩ : ∃ q, Hid (p.last.getD x false = q) := ⟨_, (rfl : _ = _)⟩
          rw [HRX.out] at yr HST
          rw [HLX.out] at yl HST
          have hx0 : (0 : Int) ≤ (x : Int) := by omega
          have hx1 : (x : Int) < (n1 : Int) := by have := HN1.out; omega
          have hx4 : (x : Int) < (n4 : Int) := by have := HN4.out; omega
          clear hcell0 hcell1 hcell4 er el hx cellB
          cases sb with
          | true =>
            have HNX : Hid (true = ((false && em) || (l.take (k + 1)).any fun y => decide (p.rules.getD y.toNat 0 = (i : Int)) && p.last.getD y.toNat false)) := by show _ = _; rw [HST.out]; rfl
            go_upto_region 8 with fail
            go_quiet (fail)
            have HB9 : Hid (Below w.heap.size w (wr.drewN nq)) := hbel.trans ⟨rfl, rfl, rfl, Nat.le_refl _, fun _ _ => rfl⟩
            go_wp2_with fail
            go_roundw
            case rel => exact ⟨k + 1, true, by omega, by go_num, rfl, HNX, HB9.out⟩
            case measure => simp [intOf]; omega
          | false =>
            by_cases hrx : rx = (i : Int)
            · have brx : (rx == (i : Int)) = true := by simpa using hrx
              have HNX : Hid (lx = ((false && em) || (l.take (k + 1)).any fun y => decide (p.rules.getD y.toNat 0 = (i : Int)) && p.last.getD y.toNat false)) := by show _ = _; rw [HST.out, decide_eq_true hrx]; simp
              clear hrx
              go_upto_region 8 with fail
              go_quiet (fail)
              have HB9 : Hid (Below w.heap.size w (wr.drewN nq)) := hbel.trans ⟨rfl, rfl, rfl, Nat.le_refl _, fun _ _ => rfl⟩
              go_wp2_with fail
              go_roundw
              case rel => exact ⟨k + 1, lx, by omega, by go_num, rfl, HNX, HB9.out⟩
              case measure => simp [intOf]; omega
            · have brx : (rx == (i : Int)) = false := by simpa using hrx
              have HNX : Hid (false = ((false && em) || (l.take (k + 1)).any fun y => decide (p.rules.getD y.toNat 0 = (i : Int)) && p.last.getD y.toNat false)) := by show _ = _; rw [HST.out, decide_eq_false hrx]; rfl
              clear hrx
              go_upto_region 8 with fail
              go_quiet (fail)
              have HB9 : Hid (Below w.heap.size w (wr.drewN nq)) := hbel.trans ⟨rfl, rfl, rfl, Nat.le_refl _, fun _ _ => rfl⟩
              go_wp2_with fail
              go_roundw
              case rel => exact ⟨k + 1, false, by omega, by go_num, rfl, HNX, HB9.out⟩
              case measure => simp [intOf]; omega
        · obtain rfl : k = ul := by omega
          have HLB : Hid (lb p false l i = sb) := by
            show _ = _
            rw [HSB.out, List.take_of_length_le (by rw [HUL.out]; exact Nat.le_refl _), ← HEM.out]; rfl
          have HBL : Hid (Below w.heap.size w wr) := hbel
          clear cellB hbel
          cases sb with
          | true =>
            have HF : Hid (rr = (i : Int)) := by
              show _ = _
              rw [← HRR.out]
              exact firstR_some hle5 HLB.out HA.out
            go_wp2_with fail
            go_ret
            exact ⟨by simp [HF.out], HBL.out⟩
          | false =>
            have HNX : Hid (∀ j, j < i + 1 → lb p false l j = false) := fun j hj => by
              by_cases ej : j = i
              · rw [ej]; exact HLB.out
              · exact HA.out j (by omega)
            go_wp2_with fail
            go_roundw
            case rel => exact ⟨i + 1, by omega, by go_num, HNX, HBL.out⟩
            case measure => simp [intOf]; omega
    · obtain rfl : i = n5 := by omega
      have HF : Hid (rr = -1) := by
        show _ = _
        rw [← HRR.out]
        exact firstR_none (fun j hj => HA.out j (by rw [HN5.out] at hj; exact hj))
      clear cellB
      go_wp2_with fail
      go_ret
      exact ⟨by simp [HF.out], HBE.out⟩

set_option maxHeartbeats 8000000 in
set_option maxRecDepth 20000 in
theorem leastT_any (uo : Option Addr) (uc : Nat) (l : List Int) (pb : Nat) (p : P) (v0 v2 v3 : Value) (b1 b4 b5 : Option Addr) (k1 k4 k5 : Nat) (w : World) (hl : Ints w (.slice uo l.length uc) l) (hp : Pn w v0 (.slice b1 p.rules.length k1) v2 v3 (.slice b4 p.last.length k4) (.slice b5 p.empty.length k5) p) (hin : ∀ y ∈ l, 0 ≤ y ∧ y < (p.cls.length : Int)) (hok : ok p = true) (hn : p.cls.length ≤ 200)
    (h1 : w.cell? ⟨pb, 1, none⟩ = some (.slice b1 p.rules.length k1)) (h4 : w.cell? ⟨pb, 4, none⟩ = some (.slice b4 p.last.length k4)) (h5 : w.cell? ⟨pb, 5, none⟩ = some (.slice b5 p.empty.length k5)) :
    Calls Try.prog 34 #[.slice uo l.length uc, .bool true, .pointer (some ⟨pb, 0, none⟩)] w fun r w' => r = .returned (.int .i64 (firstR p.empty.length (lb p true l))) ∧ Below w.heap.size w w' := by
  obtain ⟨hr, -, hla, -, h20, -, -, -⟩ := (ok_iff p).1 hok
  obtain ⟨-, hp1, -, -, hp4, hp5⟩ := hp
  obtain ⟨_, _, e1, -, q1⟩ := hp1
  cases e1
  obtain ⟨_, _, e1, -, q4⟩ := hp4
  cases e1
  obtain ⟨_, _, e1, -, q5⟩ := hp5
  cases e1
  obtain ⟨_, _, e1, hm0, q0⟩ := hl
  cases e1
  have HQ0 : Hid (l = [] ∨ ∃ b o, uo = some ⟨b, o, none⟩ ∧ b < w.heap.size ∧ ∀ i (hi : i < l.length), w.cell? ⟨b, o + i, none⟩ = some (.int .i64 l[i])) := q0
  have HQ1 : Hid (p.rules = [] ∨ ∃ b o, b1 = some ⟨b, o, none⟩ ∧ b < w.heap.size ∧ ∀ i (hi : i < p.rules.length), w.cell? ⟨b, o + i, none⟩ = some (.int .i64 p.rules[i])) := q1
  have HQ4 : Hid (p.last = [] ∨ ∃ b o, b4 = some ⟨b, o, none⟩ ∧ b < w.heap.size ∧ ∀ i (hi : i < p.last.length), w.cell? ⟨b, o + i, none⟩ = some (.bool p.last[i])) := q4
  have HQ5 : Hid (p.empty = [] ∨ ∃ b o, b5 = some ⟨b, o, none⟩ ∧ b < w.heap.size ∧ ∀ i (hi : i < p.empty.length), w.cell? ⟨b, o + i, none⟩ = some (.bool p.empty[i])) := q5
  have HIN : Hid (∀ y ∈ l, 0 ≤ y ∧ y < (p.cls.length : Int)) := hin
  have HLR : Hid (p.rules.length = p.cls.length ∧ p.last.length = p.cls.length ∧ p.cls.length ≤ 200 ∧ p.empty.length ≤ 20) := ⟨hr, hla, hn, h20⟩
  have HPC : Hid (w.cell? ⟨pb, 1, none⟩ = some (.slice b1 p.rules.length k1) ∧ w.cell? ⟨pb, 4, none⟩ = some (.slice b4 p.last.length k4) ∧ w.cell? ⟨pb, 5, none⟩ = some (.slice b5 p.empty.length k5)) := ⟨h1, h4, h5⟩
  obtain ⟨rr, HRR⟩ : ∃ z, Hid (firstR p.empty.length (lb p true l) = z) := ⟨_, (rfl : _ = _)⟩
  rw [HRR.out]
  obtain ⟨n1, HN1⟩ : ∃ q, Hid (p.rules.length = q) := ⟨_, (rfl : _ = _)⟩
  obtain ⟨n4, HN4⟩ : ∃ q, Hid (p.last.length = q) := ⟨_, (rfl : _ = _)⟩
  obtain ⟨n5, HN5⟩ : ∃ q, Hid (p.empty.length = q) := ⟨_, (rfl : _ = _)⟩
  obtain ⟨ul, HUL⟩ : ∃ q, Hid (l.length = q) := ⟨_, (rfl : _ = _)⟩
  rw [HN1.out, HN4.out, HN5.out] at HPC
  rw [HUL.out]
  have h20i : n5 ≤ 20 := by rw [← HN5.out]; exact HLR.out.2.2.2
  rw [HUL.out] at hm0
  clear q0 q1 q4 q5 hin hr hla hn h20 h1 h4 h5 hok
  go_enter Try.func34, Try.ntmps34
  go_wp2_with fail
  go_loopw [6] (fun z wr => ∃ i : Nat, i ≤ n5 ∧ z = .int .i64 (i : Int) ∧ Hid (∀ j, j < i → lb p true l j = false) ∧ Below w.heap.size w wr) (fun z _ => n5 - (intOf z).toNat)
  case atStart => exact ⟨0, by omega, rfl, fun j hj => by omega, Below.refl _ _⟩
  case round =>
    obtain ⟨i, hi, rfl, HA, hbel⟩ := hrel
    have HBE : Hid (Below w.heap.size w wr) := hbel
    have cellB : ∀ {b : Nat} {o : Nat} {u : Value}, b < w.heap.size → w.cell? ⟨b, o, none⟩ = some u → wr.cell? ⟨b, o, none⟩ = some u := fun hb hu => (hbel.cell hb).trans hu
    have hpb : pb < w.heap.size := World.block_lt_of_cell? w ⟨pb, 1, none⟩ HPC.out.1
    have y5 := cellB hpb HPC.out.2.2
    have y1 := cellB hpb HPC.out.1
    have y4 := cellB hpb HPC.out.2.1
    have hi0 : (0 : Int) ≤ (i : Int) := by omega
    by_cases hlt : i < n5
    · have hi1 : (i : Int) < (n5 : Int) := by omega
      have hle5 : i < p.empty.length := by rw [HN5.out]; exact hlt
      obtain ⟨c5, o5, rfl, hc5, hcell5⟩ := HQ5.out.resolve_left (fun e => by rw [e] at hle5; simp at hle5)
      have ye := cellB hc5 (hcell5 i hle5)
      have ee : p.empty.getD i false = p.empty[i] := by rw [List.getD_eq_getElem?_getD, List.getElem?_eq_getElem hle5]; rfl
      rw [← ee] at ye
      obtain ⟨em, HEM⟩ : ∃ q, Hid (p.empty.getD i false = q) := ⟨_, (rfl : _ = _)⟩
      rw [HEM.out] at ye
      obtain ⟨W0, rfl⟩ : ∃ q, q = wr := ⟨_, rfl⟩
      clear hcell5 ee hbel cellB
      go_wp2_with fail
      clear ye
      go_loopw [8, 7] (fun z sv wx => ∃ (k : Nat) (sb : Bool), k ≤ ul ∧ z = .int .i64 (k : Int) ∧ sv = .bool sb ∧ Hid (sb = ((true && em) || (l.take k).any fun y => decide (p.rules.getD y.toNat 0 = (i : Int)) && p.last.getD y.toNat false)) ∧ Below w.heap.size w wx) (fun z _ _ => ul - (intOf z).toNat)
      case atStart => exact ⟨0, _, by omega, rfl, rfl, by show _ = _; simp, HBE.out⟩
      case round =>
        obtain ⟨k, sb, hk, rfl, rfl, HSB, hbel⟩ := hrel
        have cellB : ∀ {b : Nat} {o : Nat} {u : Value}, b < w.heap.size → w.cell? ⟨b, o, none⟩ = some u → wr.cell? ⟨b, o, none⟩ = some u := fun hb hu => (hbel.cell hb).trans hu
        have z1 := cellB hpb HPC.out.1
        have z4 := cellB hpb HPC.out.2.1
        by_cases hkl : k < ul
        · have hk0 : (0 : Int) ≤ (k : Int) := by omega
          have hk1 : (k : Int) < (ul : Int) := by omega
          have hll : k < l.length := by rw [HUL.out]; exact hkl
          obtain ⟨c0, o0, rfl, hc0, hcell0⟩ := HQ0.out.resolve_left (fun e => by rw [e] at hll; simp at hll)
          have yk := cellB hc0 (hcell0 k hll)
          obtain ⟨x, hx, hx2⟩ : ∃ x : Nat, l[k] = (x : Int) ∧ x < p.cls.length := by
            have := HIN.out l[k] (List.getElem_mem hll)
            exact ⟨l[k].toNat, by omega, by omega⟩
          have hxr : x < p.rules.length := by have := HLR.out.1; omega
          have hxl : x < p.last.length := by have := HLR.out.2.1; omega
          obtain ⟨c1, o1, rfl, hc1, hcell1⟩ := HQ1.out.resolve_left (fun e => by rw [e] at hxr; simp at hxr)
          obtain ⟨c4, o4, rfl, hc4, hcell4⟩ := HQ4.out.resolve_left (fun e => by rw [e] at hxl; simp at hxl)
          have yr := cellB hc1 (hcell1 x hxr)
          have yl := cellB hc4 (hcell4 x hxl)
          have er : p.rules.getD x 0 = p.rules[x] := by rw [List.getD_eq_getElem?_getD, List.getElem?_eq_getElem hxr]; rfl
          have el : p.last.getD x false = p.last[x] := by rw [List.getD_eq_getElem?_getD, List.getElem?_eq_getElem hxl]; rfl
          rw [hx] at yk
          rw [← er] at yr
          rw [← el] at yl
          have HST : Hid (((true && em) || (l.take (k + 1)).any fun y => decide (p.rules.getD y.toNat 0 = (i : Int)) && p.last.getD y.toNat false) = (sb || (decide (p.rules.getD x 0 = (i : Int)) && p.last.getD x false))) := by
            show _ = _
            rw [any_take _ _ k hll, hx, show ((x : Int)).toNat = x by omega, ← Bool.or_assoc, HSB.out]
          obtain ⟨rx, HRX⟩ : ∃ q, Hid (p.rules.getD x 0 = q) := ⟨_, (rfl : _ = _)⟩
          obtain ⟨lx, HLX⟩ : ∃ q, Hid (p.last.getD x false = q) := ⟨_, (rfl : _ = _)⟩
          rw [HRX.out] at yr HST
          rw [HLX.out] at yl HST
          have hx0 : (0 : Int) ≤ (x : Int) := by omega
          have hx1 : (x : Int) < (n1 : Int) := by have := HN1.out; omega
          have hx4 : (x : Int) < (n4 : Int) := by have := HN4.out; omega
          clear hcell0 hcell1 hcell4 er el hx cellB
          cases sb with
          | true =>
            have HNX : Hid (true = ((true && em) || (l.take (k + 1)).any fun y => decide (p.rules.getD y.toNat 0 = (i : Int)) && p.last.getD y.toNat false)) := by show _ = _; rw [HST.out]; rfl
            go_upto_region 8 with fail
            go_quiet (fail)
            have HB9 : Hid (Below w.heap.size w (wr.drewN nq)) := hbel.trans ⟨rfl, rfl, rfl, Nat.le_refl _, fun _ _ => rfl⟩
            go_wp2_with fail
            go_roundw
            case rel => exact ⟨k + 1, true, by omega, by go_num, rfl, HNX, HB9.out⟩
            case measure => simp [intOf]; omega
          | false =>
            by_cases hrx : rx = (i : Int)
            · have brx : (rx == (i : Int)) = true := by simpa using hrx
              have HNX : Hid (lx = ((true && em) || (l.take (k + 1)).any fun y => decide (p.rules.getD y.toNat 0 = (i : Int)) && p.last.getD y.toNat false)) := by show _ = _; rw [HST.out, decide_eq_true hrx]; simp
              clear hrx
              go_upto_region 8 with fail
              go_quiet (fail)
              have HB9 : Hid (Below w.heap.size w (wr.drewN nq)) := hbel.trans ⟨rfl, rfl, rfl, Nat.le_refl _, fun _ _ => rfl⟩
              go_wp2_with fail
              go_roundw
              case rel => exact ⟨k + 1, lx, by omega, by go_num, rfl, HNX, HB9.out⟩
              case measure => simp [intOf]; omega
            · have brx : (rx == (i : Int)) = false := by simpa using hrx
              have HNX : Hid (false = ((true && em) || (l.take (k + 1)).any fun y => decide (p.rules.getD y.toNat 0 = (i : Int)) && p.last.getD y.toNat false)) := by show _ = _; rw [HST.out, decide_eq_false hrx]; rfl
              clear hrx
              go_upto_region 8 with fail
              go_quiet (fail)
              have HB9 : Hid (Below w.heap.size w (wr.drewN nq)) := hbel.trans ⟨rfl, rfl, rfl, Nat.le_refl _, fun _ _ => rfl⟩
              go_wp2_with fail
              go_roundw
              case rel => exact ⟨k + 1, false, by omega, by go_num, rfl, HNX, HB9.out⟩
              case measure => simp [intOf]; omega
        · obtain rfl : k = ul := by omega
          have HLB : Hid (lb p true l i = sb) := by
            show _ = _
            rw [HSB.out, List.take_of_length_le (by rw [HUL.out]; exact Nat.le_refl _), ← HEM.out]; rfl
          have HBL : Hid (Below w.heap.size w wr) := hbel
          clear cellB hbel
          cases sb with
          | true =>
            have HF : Hid (rr = (i : Int)) := by
              show _ = _
              rw [← HRR.out]
              exact firstR_some hle5 HLB.out HA.out
            go_wp2_with fail
            go_ret
            exact ⟨by simp [HF.out], HBL.out⟩
          | false =>
            have HNX : Hid (∀ j, j < i + 1 → lb p true l j = false) := fun j hj => by
              by_cases ej : j = i
              · rw [ej]; exact HLB.out
              · exact HA.out j (by omega)
            go_wp2_with fail
            go_roundw
            case rel => exact ⟨i + 1, by omega, by go_num, HNX, HBL.out⟩
            case measure => simp [intOf]; omega
    · obtain rfl : i = n5 := by omega
      have HF : Hid (rr = -1) := by
        show _ = _
        rw [← HRR.out]
        exact firstR_none (fun j hj => HA.out j (by rw [HN5.out] at hj; exact hj))
      clear cellB
      go_wp2_with fail
      go_ret
      exact ⟨by simp [HF.out], HBE.out⟩

set_option maxHeartbeats 4000000 in
set_option maxRecDepth 20000 in
theorem mark_any (uo : Option Addr) (uc : Nat) (l : List Int) (xb ab n : Nat) (F : Nat → Bool) (w : World) (hl : Ints w (.slice uo l.length uc) l) (hin : ∀ x ∈ l, 0 ≤ x ∧ x < (n : Int)) (hx : w.cell? ⟨xb, 0, none⟩ = some (.slice (some ⟨ab, 0, none⟩) n n)) (hr : w.rowIs ab 4 n (fun i => .bool (F i))) :
    Calls Try.prog 35 #[.slice uo l.length uc, .pointer (some ⟨xb, 0, none⟩)] w fun e w' => e = .returned (.tuple #[]) ∧ w'.rowIs ab 4 n (fun i => .bool (F i || l.contains (i : Int))) ∧ w.grownBy w' (some ab) := by
  obtain ⟨_, _, e1, hm0, q0⟩ := hl
  cases e1
  have HQ0 : Hid (l = [] ∨ ∃ b o, uo = some ⟨b, o, none⟩ ∧ b < w.heap.size ∧ ∀ i (hi : i < l.length), w.cell? ⟨b, o + i, none⟩ = some (.int .i64 l[i])) := q0
  have HIN : Hid (∀ x ∈ l, 0 ≤ x ∧ x < (n : Int)) := hin
  have HX : Hid (w.cell? ⟨xb, 0, none⟩ = some (.slice (some ⟨ab, 0, none⟩) n n)) := hx
  have HR : Hid (w.rowIs ab 4 n (fun i => .bool (F i))) := hr
  have HXA : Hid (xb ≠ ab) := by
    rintro rfl
    by_cases h0 : 0 < n
    · have := hr.cell h0; rw [hx] at this; cases this
    · obtain ⟨c, hc, hsz, -⟩ := hr
      have e0 : n = 0 := by omega
      simp [World.cell?, hc] at hx
      have := (Array.getElem?_eq_some_iff.1 hx).1
      omega
  obtain ⟨ul, HUL⟩ : ∃ q, Hid (l.length = q) := ⟨_, (rfl : _ = _)⟩
  rw [HUL.out] at hm0 ⊢
  clear q0 hin hx hr
  go_enter Try.func35, Try.ntmps35
  go_wp2_with fail
  go_loopw [3] (fun z wr => ∃ k : Nat, k ≤ ul ∧ z = .int .i64 (k : Int) ∧ Hid (wr.rowIs ab 4 n (fun i => .bool (F i || (l.take k).contains (i : Int))) ∧ w.grownBy wr (some ab))) (fun z _ => ul - (intOf z).toNat)
  case atStart => exact ⟨0, by omega, rfl, HR.out.congr fun i _ => by simp, ⟨rfl, rfl, rfl, Nat.le_refl _, fun _ _ _ => rfl⟩⟩
  case round =>
    obtain ⟨k, hk, rfl, HA⟩ := hrel
    by_cases hkl : k < ul
    · have hk0 : (0 : Int) ≤ (k : Int) := by omega
      have hk1 : (k : Int) < (ul : Int) := by omega
      have hll : k < l.length := by rw [HUL.out]; exact hkl
      obtain ⟨c0, o0, rfl, hc0, hcell0⟩ := HQ0.out.resolve_left (fun e => by rw [e] at hll; simp at hll)
      obtain ⟨x, hx, hx2⟩ : ∃ x : Nat, l[k] = (x : Int) ∧ x < n := by
        have := HIN.out l[k] (List.getElem_mem hll)
        exact ⟨l[k].toNat, by omega, by omega⟩
      have hca : c0 ≠ ab := by
        rintro rfl
        have e0 := hcell0 k hll
        obtain ⟨c, hc, hsz, hcc⟩ := HR.out
        have e1 : w.cell? ⟨c0, o0 + k, none⟩ = c[o0 + k]? := by simp [World.cell?, hc]
        rw [e1] at e0
        have hlt := (Array.getElem?_eq_some_iff.1 e0).1
        have e2 := HR.out.cell (i := o0 + k) (by omega)
        rw [e1, e0] at e2; cases e2
      have yk := (HA.out.2.cell_far ⟨c0, o0 + k, none⟩ hc0 (by simpa using hca)).trans (hcell0 k hll)
      have yx := (HA.out.2.cell_far ⟨xb, 0, none⟩ (World.block_lt_of_cell? w ⟨xb, 0, none⟩ HX.out) (by simpa using HXA.out)).trans HX.out
      rw [hx] at yk
      have y0 := HA.out.1.cell (i := x) hx2
      have y1 := HA.out.1.frozen x
      have hx0 : (0 : Int) ≤ (x : Int) := by omega
      have hx1 : (x : Int) < (n : Int) := by omega
      have HNX : Hid ((wr.drew.setCell ⟨ab, x, none⟩ (.bool true)).rowIs ab 4 n (fun i => .bool (F i || (l.take (k + 1)).contains (i : Int))) ∧ w.grownBy (wr.drew.setCell ⟨ab, x, none⟩ (.bool true)) (some ab)) := by
        refine ⟨(HA.out.1.drew.set x _).congr fun i _ => ?_, HA.out.2.trans ⟨rfl, rfl, rfl, by simp [World.setCell], fun q _ hq => Below.heap_setCell _ _ _ _ (fun e => hq (by rw [e]))⟩⟩
        rw [List.take_succ_eq_append_getElem hll, hx]
        by_cases ei : i = x
        · subst ei; simp
        · have : ¬ ((i : Int) = (x : Int)) := by omega
          simp [ei, this]
      clear hcell0 hx HA
      go_upto_region 3 with fail
      go_region
      go_wp2_with fail
      go_roundw
      case rel => exact ⟨k + 1, by omega, by go_num, HNX⟩
      case measure => simp [intOf]; omega
    · obtain rfl : k = ul := by omega
      have HF : Hid (wr.rowIs ab 4 n (fun i => .bool (F i || l.contains (i : Int))) ∧ w.grownBy wr (some ab)) := by
        have := HA.out
        rwa [List.take_of_length_le (by rw [HUL.out]; exact Nat.le_refl _)] at this
      clear HA
      go_wp2_with fail
      exact bodyPost_end (v := .tuple #[]) (by simp [results, Try.results35, go_sem]) rfl ⟨rfl, HF.out.1, HF.out.2⟩
end Go.Proofs.Ytlmlkpdppkgenaa
