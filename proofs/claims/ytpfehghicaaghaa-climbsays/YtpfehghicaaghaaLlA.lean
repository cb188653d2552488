/-
  Rows of rows of numbers, and clashes, in memory. No function is walked here. The contracts of ll.bitOf, ll.isProdOf, pushref.Col. The contracts of pushref.Col and ll.isRow. The contracts of ll.Check and pushref.RightRows: both answer chkR.
-/
import Derived.Test.YtpfehghicaaghaaGrM
import Derived.Test.YtpfehghicaaghaaFcW
import Derived.Lib.SmallJoins
import Derived.Lib.OwnKind
namespace Go.Proofs.Ytpfehghicaaghaa
open Go.ChangeShapes Go.WideShapes Go.ChangeAt Go.RowKit
open Cg

theorem kcells25 : Try.prog.cellsOf 25 = 1 := by kernel_rfl
theorem info25 : (Try.prog.info? 25).map (fun i => (i.zero, i.size, i.bytes)) = some (some (.slice none 0 0), 1, 24) := by kernel_rfl
theorem info146 : (Try.prog.info? 146).map (fun i => (i.zero, i.size, i.bytes)) = some (some (.agg #[.int .i64 0, .int .i64 0, .int .i64 0, .int .i64 0]), 4, 32) := by kernel_rfl
/-- A value is a slice that holds these rows. -/
def Rws (w : World) (v : Value) (l : List (List Int)) : Prop :=
  ∃ ao cap, v = .slice ao l.length cap ∧ l.length ≤ 9223372036854775807 ∧ (l = [] ∨ ∃ b o, ao = some ⟨b, o, none⟩ ∧ b < w.heap.size ∧ ∀ i (hi : i < l.length), ∃ u, w.cell? ⟨b, o + i, none⟩ = some u ∧ Ints w u l[i])
theorem Rws.below {w w' : World} {v : Value} {l : List (List Int)} (h : Rws w v l) (hb : Below w.heap.size w w') : Rws w' v l := by
  obtain ⟨ao, cap, hv, hm, h | ⟨b, o, h1, h2, h3⟩⟩ := h
  · exact ⟨ao, cap, hv, hm, Or.inl h⟩
  · refine ⟨ao, cap, hv, hm, Or.inr ⟨b, o, h1, Nat.lt_of_lt_of_le h2 hb.size, fun i hi => ?_⟩⟩
    obtain ⟨u, g1, g2⟩ := h3 i hi
    exact ⟨u, (hb.cell (p := ⟨b, o + i, none⟩) h2).trans g1, g2.below hb⟩
/-- .. these clashes. -/
def Cls (w : World) (v : Value) (l : List Cl) : Prop :=
  ∃ ao cap, v = .slice ao l.length cap ∧ l.length ≤ 9223372036854775807 ∧ (l = [] ∨ ∃ b o, ao = some ⟨b, o, none⟩ ∧ b < w.heap.size ∧ ∀ i (hi : i < l.length), w.cell? ⟨b, o + i * 4, none⟩ = some (.int .i64 l[i].1) ∧ w.cell? ⟨b, o + i * 4 + 1, none⟩ = some (.int .i64 l[i].2.1) ∧ w.cell? ⟨b, o + i * 4 + 2, none⟩ = some (.int .i64 l[i].2.2.1) ∧ w.cell? ⟨b, o + i * 4 + 3, none⟩ = some (.int .i64 l[i].2.2.2))
theorem Cls.below {w w' : World} {v : Value} {l : List Cl} (h : Cls w v l) (hb : Below w.heap.size w w') : Cls w' v l := by
  obtain ⟨ao, cap, hv, hm, h | ⟨b, o, h1, h2, h3⟩⟩ := h
  · exact ⟨ao, cap, hv, hm, Or.inl h⟩
  · refine ⟨ao, cap, hv, hm, Or.inr ⟨b, o, h1, Nat.lt_of_lt_of_le h2 hb.size, fun i hi => ?_⟩⟩
    obtain ⟨g0, g1, g2, g3⟩ := h3 i hi
    exact ⟨(hb.cell (p := ⟨b, o + i * 4, none⟩) h2).trans g0, (hb.cell (p := ⟨b, o + i * 4 + 1, none⟩) h2).trans g1, (hb.cell (p := ⟨b, o + i * 4 + 2, none⟩) h2).trans g2, (hb.cell (p := ⟨b, o + i * 4 + 3, none⟩) h2).trans g3⟩
/-- The cells of clashes. -/
def ccs : List Cl → List Value
  | [] => []
  | c :: l => .int .i64 c.1 :: .int .i64 c.2.1 :: .int .i64 c.2.2.1 :: .int .i64 c.2.2.2 :: ccs l
theorem ccs_app (l m : List Cl) : ccs (l ++ m) = ccs l ++ ccs m := by
  induction l with
  | nil => rfl
  | cons c l ih => simp [ccs, ih]
theorem ccs_length (l : List Cl) : (ccs l).length = l.length * 4 := by
  induction l with
  | nil => rfl
  | cons c l ih => simp [ccs, ih]; omega
theorem ccs_at (l : List Cl) (i : Nat) (hi : i < l.length) : (ccs l)[i * 4]? = some (.int .i64 l[i].1) ∧ (ccs l)[i * 4 + 1]? = some (.int .i64 l[i].2.1) ∧ (ccs l)[i * 4 + 2]? = some (.int .i64 l[i].2.2.1) ∧ (ccs l)[i * 4 + 3]? = some (.int .i64 l[i].2.2.2) := by
  induction l generalizing i with
  | nil => simp at hi
  | cons c l ih =>
    cases i with
    | zero => exact ⟨rfl, rfl, rfl, rfl⟩
    | succ i =>
      obtain ⟨h0, h1, h2, h3⟩ := ih i (by simpa using hi)
      have e : ∀ j, (ccs (c :: l))[(i + 1) * 4 + j]? = (ccs l)[i * 4 + j]? := fun j => by
        rw [show (i + 1) * 4 + j = i * 4 + j + 1 + 1 + 1 + 1 by omega]; rfl
      exact ⟨(e 0).trans h0, (e 1).trans h1, (e 2).trans h2, (e 3).trans h3⟩
theorem cls_of_own {w : World} {base : Nat} {v : Value} {l : List Cl} (h : w.ownsRow base 146 4 v l.length (ccs l)) (hm : l.length ≤ 9223372036854775807) : Cls w v l := by
  obtain ⟨hl, ⟨h1, h2⟩ | ⟨g, cap, cur, hv, hg, hh, hn, hc, hs, ht⟩⟩ := h
  · exact ⟨none, 0, by rw [h1, h2], hm, Or.inl (List.length_eq_zero_iff.1 h2)⟩
  · refine ⟨some ⟨g, 0, none⟩, cap, hv, hm, Or.inr ⟨g, 0, rfl, ?_, fun i hi => ?_⟩⟩
    · rcases Nat.lt_or_ge g w.heap.size with h' | h'
      · exact h'
      · simp [Array.getElem?_eq_none h'] at hh
    · obtain ⟨f0, f1, f2, f3⟩ := ccs_at l i hi
      have e : ∀ j, j < 4 → w.cell? ⟨g, 0 + i * 4 + j, none⟩ = (ccs l)[i * 4 + j]? := fun j hj => by
        have e1 : w.cell? ⟨g, 0 + i * 4 + j, none⟩ = cur[i * 4 + j]? := by simp [World.cell?, hh]
        rw [e1, ← ht, List.getElem?_take_of_lt (by omega)]; simp
      exact ⟨(e 0 (by omega)).trans f0, (e 1 (by omega)).trans f1, (e 2 (by omega)).trans f2, (e 3 (by omega)).trans f3⟩
variable {H : Type} {enc : TypeId × Value → H}
set_option maxRecDepth 20000 in
theorem open_ints {W : World} {fuel : Nat} {cs : List Value} {y : DataW H × List MemPlace} (hf : DataW.trod enc Try.prog W 0 (fun _ => true) true fuel 25 cs = some y) : ∃ v l, cs = [v] ∧ Ints W v l := by
  obtain ⟨ao, n, cap, rfl, hm, h⟩ := open_seq Try.underlying25 kcells3 (by omega) hf
  rcases h with h | ⟨b, o, h1, h2, h3⟩
  · exact ⟨_, [], rfl, ao, cap, by rw [h]; rfl, by simp, Or.inl rfl⟩
  · obtain ⟨l, g1, g2⟩ := list_of n (fun i (z : Int) => W.cell? ⟨b, o + i, none⟩ = some (.int .i64 z)) fun i hi => by
      obtain ⟨fu, cs', y', k1, k2, k3⟩ := h3 i hi
      obtain ⟨z0, e0, _, _⟩ := DataW.trod_int Try.underlying3 k3
      subst e0
      exact ⟨z0, by simpa using k1 0 (by omega)⟩
    exact ⟨_, l, rfl, ao, cap, by rw [g1], by omega, Or.inr ⟨b, o, h1, h2, g2⟩⟩
set_option maxRecDepth 20000 in
theorem open_rws {W : World} {fuel : Nat} {cs : List Value} {y : DataW H × List MemPlace} (hf : DataW.trod enc Try.prog W 0 (fun _ => true) true fuel 40 cs = some y) : ∃ v l, cs = [v] ∧ Rws W v l := by
  obtain ⟨ao, n, cap, rfl, hm, h⟩ := open_seq Try.underlying40 kcells25 (by omega) hf
  rcases h with h | ⟨b, o, h1, h2, h3⟩
  · exact ⟨_, [], rfl, ao, cap, by rw [h]; rfl, by simp, Or.inl rfl⟩
  · obtain ⟨l, g1, g2⟩ := list_of n (fun i (z : List Int) => ∃ u, W.cell? ⟨b, o + i, none⟩ = some u ∧ Ints W u z) fun i hi => by
      obtain ⟨fu, cs', y', k1, k2, k3⟩ := h3 i hi
      obtain ⟨u, l1, e1, g1⟩ := open_ints k3
      subst e1
      exact ⟨l1, u, by simpa using k1 0 (by omega), g1⟩
    exact ⟨_, l, rfl, ao, cap, by rw [g1], by omega, Or.inr ⟨b, o, h1, h2, g2⟩⟩
end Go.Proofs.Ytpfehghicaaghaa

namespace Go.Proofs.Ytpfehghicaaghaa
open Go.RowKit
open Cg

set_option maxHeartbeats 1600000 in
set_option maxRecDepth 20000 in
theorem bitOf_any (T col : Nat) (n : Int) (pv : Value) (w : World) (hpv : ∃ ao m c, pv = .slice ao m c) :
    Calls Try.prog 100 #[.agg #[.int .i64 (T : Int), .int .i64 n, pv], .int .i64 (col : Int)] w fun e w' => e = .returned (.int .i64 (bc T col : Int)) ∧ Below w.heap.size w w' := by
  obtain ⟨ao, m, c, rfl⟩ := hpv
  by_cases h : col = T
  · have h1 : ((col : Int) == (T : Int)) = true := by simp [h]
    have h2 : bc T col = 63 := if_pos h
    rw [h2]
    clear h h2
    go_enter Try.func100, Try.ntmps100
    go_wp2_with fail
    go_ret
    exact ⟨by simp, below_alloc _ _⟩
  · have h1 : ((col : Int) == (T : Int)) = false := by simp; omega
    have h2 : bc T col = col := if_neg h
    rw [h2]
    clear h h2
    go_enter Try.func100, Try.ntmps100
    go_wp2_with fail
    go_ret
    exact ⟨by simp, below_alloc _ _⟩
set_option maxHeartbeats 1600000 in
set_option maxRecDepth 20000 in
theorem isProdOf_any (t n : Int) (pv : Value) (ps : List Pd) (non x : Int) (w : World) (hp : Pds w pv ps) :
    Calls Try.prog 113 #[.agg #[.int .i64 t, .int .i64 n, pv], .int .i64 non, .int .i64 x] w fun e w' => e = .returned (.bool (okP ps non x)) ∧ Below w.heap.size w w' := by
  obtain ⟨ao, c, rfl, hm, hcs⟩ := hp
  by_cases h0 : 0 ≤ x
  · have b0 : decide ((0 : Int) ≤ x) = true := by simpa using h0
    by_cases h1 : x < (ps.length : Int)
    · have b1 : decide (x < (ps.length : Int)) = true := by simpa using h1
      obtain ⟨k, rfl⟩ : ∃ k : Nat, x = (k : Int) := ⟨x.toNat, by omega⟩
      have hk : k < ps.length := by omega
      obtain ⟨b, o, rfl, hb, hc⟩ := hcs.resolve_left (by intro e; subst e; simp at hk)
      obtain ⟨c0, -⟩ := hc k hk
      have hz := below_alloc w (Obj.cells #[.int .i64 t, .int .i64 n, .slice (some ⟨b, o, none⟩) ps.length c] 24)
      have c1 : (w.alloc (Obj.cells #[.int .i64 t, .int .i64 n, .slice (some ⟨b, o, none⟩) ps.length c] 24)).cell? ⟨b, o + k * 2, none⟩ = some (.int .i64 ps[k].1) := (hz.cell (p := ⟨b, o + k * 2, none⟩) hb).trans c0
      have e1 : okP ps non (k : Int) = (ps[k].1 == non) := by
        have e : ps.getD k (0, []) = ps[k] := by rw [List.getD_eq_getElem?_getD, List.getElem?_eq_getElem hk]; rfl
        unfold okP; simp only [Int.toNat_natCast, e]; rw [show decide ((0 : Int) ≤ (k : Int)) = true from b0, b1]; simp; exact Bool.eq_iff_iff.2 (by simp)
      rw [e1]
      generalize ps[k].1 = h at c1
      have hk1 : (k : Int) < (ps.length : Int) := by omega
      clear hc hcs c0 e1 h0 h1 hz
      go_enter Try.func113, Try.ntmps113
      go_wp2_with fail
      go_ret
      exact ⟨by simp, below_alloc _ _⟩
    · have b1 : decide (x < (ps.length : Int)) = false := by simpa using h1
      have e1 : okP ps non x = false := by unfold okP; rw [b1]; simp
      rw [e1]
      clear e1 hcs h0 h1
      go_enter Try.func113, Try.ntmps113
      go_wp2_with fail
      go_ret
      exact ⟨by simp, below_alloc _ _⟩
  · have b0 : decide ((0 : Int) ≤ x) = false := by simpa using h0
    have e1 : okP ps non x = false := by unfold okP; rw [b0]; simp
    rw [e1]
    clear e1 hcs h0
    go_enter Try.func113, Try.ntmps113
    go_wp2_with fail
    go_ret
    exact ⟨by simp, below_alloc _ _⟩
end Go.Proofs.Ytpfehghicaaghaa

namespace Go.Proofs.Ytpfehghicaaghaa
open Go.RowKit
open Cg

theorem wd_div (x : Wd) (k : Nat) : ((x.toNat : Int) / 2 ^ k) = ((x.toNat / 2 ^ k : Nat) : Int) := by simp
theorem wd_bit (x : Wd) (k : Nat) : x.getLsbD k = decide (x.toNat / 2 ^ k % 2 = 1) := by
  show x.toNat.testBit k = _
  exact Nat.testBit_eq_decide_div_mod_eq
theorem mod_wd (x : Wd) (k : Nat) : ((((x.toNat : Int) / 2 ^ k).tmod 2 : Int) == 1) = x.getLsbD k := by
  rw [wd_div, Int.tmod_eq_emod_of_nonneg (Int.natCast_nonneg _), wd_bit]
  generalize x.toNat / 2 ^ k = n
  by_cases h : n % 2 = 1
  · simp [h]; omega
  · simp [h]; omega
theorem top_wd (x : Wd) : (((x.toNat : Int) / 9223372036854775808 : Int) == 1) = x.getLsbD 63 := by
  have h := x.isLt
  rw [wd_bit, show (2 : Nat) ^ 63 = 9223372036854775808 from rfl]
  have h2 : x.toNat / 9223372036854775808 < 2 := by omega
  have e : ((x.toNat : Int) / 9223372036854775808) = ((x.toNat / 9223372036854775808 : Nat) : Int) := by simp
  rw [e]
  generalize x.toNat / 9223372036854775808 = n at h2
  have : n = 0 ∨ n = 1 := by omega
  rcases this with rfl | rfl <;> rfl
theorem and_wd (x : Wd) (k : Nat) : (bits .and .u64 ((x.toNat : Int) / 2 ^ k) 1 == 0) = !x.getLsbD k := by
  have h1 := x.isLt
  have h2 : x.toNat / 2 ^ k ≤ x.toNat := Nat.div_le_self _ _
  rw [wd_div]
  have := u64_and_nat (x.toNat / 2 ^ k) 1 (by omega) (by omega)
  rw [show ((1 : Nat) : Int) = 1 from rfl] at this
  rw [this, Nat.and_one_is_mod, wd_bit]
  generalize x.toNat / 2 ^ k = n
  have : n % 2 = 0 ∨ n % 2 = 1 := by omega
  rcases this with h | h <;> rw [h] <;> rfl
theorem ret_bool {a b : Bool} (h : a = b) : Ending.returned (.bool a) = .returned (.bool b) := by rw [h]
set_option maxHeartbeats 3200000 in
set_option maxRecDepth 20000 in
theorem isRow_any (t n : Int) (ht0 : 0 ≤ t) (ht : t ≤ 30) (pv : Value) (ps : List Pd) (non : Int) (rv : Value) (row : List Int) (w : World) (hp : Pds w pv ps) (hr : Ints w rv row) :
    Calls Try.prog 94 #[.agg #[.int .i64 t, .int .i64 n, pv], .int .i64 non, rv] w fun e w' => e = .returned (.bool (okRow t ps non row)) ∧ Below w.heap.size w w' := by
  have HGB := Gb.box hp t n
  obtain ⟨ao, c, rfl, hm, -⟩ := hp
  have HG0 : Hid (Gb w w.heap.size t n (.slice ao ps.length c) ps (w.alloc (Obj.cells #[.int .i64 t, .int .i64 n, .slice ao ps.length c] 24))) := HGB
  obtain ⟨ro, rc, rfl, hrm, hcs⟩ := hr
  clear HGB
  obtain ⟨r, HR⟩ : ∃ r, Hid (okRow t ps non row = r) := ⟨_, (rfl : okRow t ps non row = okRow t ps non row)⟩
  rw [HR.out]
  by_cases hl : (row.length : Int) = t + 1
  · have b0 : ((row.length : Int) != t + 1) = false := by simp [hl]
    have HR2 : Hid (row.all (okX ps non) = r) := by show _ = _; rw [← HR.out]; unfold okRow; rw [decide_eq_true hl]; rfl
    have HL : Hid ((row.length : Int) = t + 1) := hl
    clear HR hl
    go_enter Try.func94, Try.ntmps94
    go_wp2_with fail
    clear b0
    go_loopw [17] (fun i wr => ∃ q : Nat, q ≤ row.length ∧ i = .int .i64 (q : Int) ∧ Hid ((row.take q).all (okX ps non) = true) ∧ Hid (Gb w w.heap.size t n (.slice ao ps.length c) ps wr)) (fun i _ => row.length - (intOf i).toNat)
    case atStart => exact ⟨0, by omega, rfl, rfl, HG0⟩
    case round =>
      obtain ⟨q, hq, rfl, HA, HG⟩ := hrel
      clear HG0
      by_cases hlt : q < row.length
      · obtain ⟨b2, o, rfl, hb, hc⟩ := hcs.resolve_left (by intro e; subst e; simp at hlt)
        have c0 := hc q hlt
        have HAS : Hid ((row.take (q + 1)).all (okX ps non) = okX ps non row[q]) := by
          show _ = _
          rw [List.take_succ_eq_append_getElem hlt, List.all_append, HA.out]; simp
        have HF : Hid (okX ps non row[q] = false → row.all (okX ps non) = false) := fun e => by
          rw [List.all_eq_false]; exact ⟨row[q], List.getElem_mem hlt, by rw [e]; decide⟩
        generalize row[q] = x at c0 HAS HF
        replace c0 : wr.cell? ⟨b2, o + q, none⟩ = _ := (HG.out.below.cell (p := ⟨b2, o + q, none⟩) hb).trans c0
        have z0 := HG.out.c0
        have z1 := HG.out.c1
        have z2 := HG.out.c2
        have hk1 : (q : Int) < (row.length : Int) := by omega
        by_cases hx : x = -1
        · have b1 : (x != -1) = false := by simp [hx]
          have HOK : Hid (okX ps non x = true) := by show _ = _; unfold okX; rw [hx]; rfl
          clear hx hcs hc
          go_wp2_with fail
          go_roundw
          case rel => exact ⟨q + 1, by omega, by go_num, HAS.out.trans HOK.out, HG⟩
          case measure => simp [intOf]; omega
        · have b1 : (x != -1) = true := by simp [hx]
          obtain ⟨rr, HRR⟩ : ∃ rr, Hid (okP ps non x = rr) := ⟨_, (rfl : okP ps non x = okP ps non x)⟩
          have HOK : Hid (okX ps non x = rr) := by show _ = _; unfold okX; rw [show (x == -1) = false by simp [hx], HRR.out]; rfl
          have hcc := isProdOf_any t n (.slice ao ps.length c) ps non x wr HG.out.pds
          rw [HRR.out] at hcc
          rw [HOK.out] at HAS HF
          clear hx hcs hc HRR HOK
          go_wp2_with fail
          refine hcc.mono ?_
          rintro _ w2 ⟨rfl, hb2⟩
          have HG3 : Hid (Gb w w.heap.size t n (.slice ao ps.length c) ps w2) := HG.out.next hb2
          clear hcc hb2 z0 z1 z2 c0 HG
          cases rr with
          | true =>
            go_wp2_with fail
            go_roundw
            case rel => exact ⟨q + 1, by omega, by go_num, HAS.out, HG3⟩
            case measure => simp [intOf]; omega
          | false =>
            obtain rfl : r = false := by rw [← HR2.out, HF.out rfl]
            go_wp2_with fail
            go_ret
            exact ⟨by simp, HG3.out.below⟩
      · obtain rfl : r = true := by rw [← HR2.out, ← List.take_of_length_le (i := q) (l := row) (by omega), HA.out]
        clear hcs
        go_wp2_with fail
        go_ret
        exact ⟨by simp, HG.out.below⟩
  · have b0 : ((row.length : Int) != t + 1) = true := by simp [hl]
    obtain rfl : r = false := by rw [← HR.out]; unfold okRow; rw [decide_eq_false hl]; rfl
    clear HR hl hcs
    go_enter Try.func94, Try.ntmps94
    go_wp2_with fail
    go_ret
    exact ⟨by simp, HG0.out.below⟩
end Go.Proofs.Ytpfehghicaaghaa

namespace Go.Proofs.Ytpfehghicaaghaa
open Go.RowKit
open Cg

set_option maxHeartbeats 3200000 in
set_option maxRecDepth 20000 in
theorem LCheck_any (t n : Int) (pv : Value) (ps : List Pd) (rv : Value) (rows : List (List Int)) (w : World) (hp : Pds w pv ps) (hr : Rws w rv rows) :
    Calls Try.prog 74 #[.agg #[.int .i64 t, .int .i64 n, pv], rv] w fun e w' => e = .returned (.int .i64 (chkR t n ps rows)) ∧ Below w.heap.size w w' := by
  have HGB := Gb.box hp t n
  have hcall := Check_any t n _ ps (w.alloc (Obj.cells #[.int .i64 t, .int .i64 n, pv] 24)) (hp.below (below_alloc w _))
  obtain ⟨ao, c, rfl, hm, -⟩ := hp
  have HG0 : Hid (Gb w w.heap.size t n (.slice ao ps.length c) ps (w.alloc (Obj.cells #[.int .i64 t, .int .i64 n, .slice ao ps.length c] 24))) := HGB
  have HRW : Hid (Rws w rv rows) := hr
  obtain ⟨ro, rc, rfl, hrm, hcs⟩ := hr
  clear HGB
  obtain ⟨r, HR⟩ : ∃ r, Hid (chkR t n ps rows = r) := ⟨_, (rfl : chkR t n ps rows = chkR t n ps rows)⟩
  rw [HR.out]
  by_cases h0 : chk t n ps = 0
  · rw [h0] at hcall
    have HOK : Hid (0 ≤ t ∧ t ≤ 30 ∧ 1 ≤ n ∧ n ≤ 20) := okTN_le (chk_zero h0).1
    by_cases hl : (rows.length : Int) = n
    · have b0 : ((rows.length : Int) != n) = false := by simp [hl]
      have HR2 : Hid ((if okRows t ps 0 rows = true then (0 : Int) else 1) = r) := by show _ = _; rw [← HR.out]; unfold chkR; rw [if_pos h0, if_pos hl]
      have HL : Hid ((rows.length : Int) = n) := hl
      clear HR hl h0
      go_enter Try.func74, Try.ntmps74
      go_wp2_with fail
      refine hcall.mono ?_
      rintro _ w1 ⟨rfl, hb1⟩
      have HG1 : Hid (Gb w w.heap.size t n (.slice ao ps.length c) ps w1) := HG0.out.next hb1
      clear hb1 hcall HG0
      have z0 := HG1.out.c0
      have z1 := HG1.out.c1
      have z2 := HG1.out.c2
      go_wp2_with fail
      clear b0 z0 z1 z2
      go_loopw [20] (fun i wr => ∃ q : Nat, q ≤ rows.length ∧ i = .int .i64 (q : Int) ∧ Hid (okRows t ps 0 rows = okRows t ps q (rows.drop q)) ∧ Hid (Gb w w.heap.size t n (.slice ao ps.length c) ps wr)) (fun i _ => rows.length - (intOf i).toNat)
      case atStart => exact ⟨0, by omega, rfl, rfl, HG1⟩
      case round =>
        obtain ⟨q, hq, rfl, HA, HG⟩ := hrel
        clear HG1
        by_cases hlt : q < rows.length
        · obtain ⟨b2, o, rfl, hb, hc⟩ := hcs.resolve_left (by intro e; subst e; simp at hlt)
          obtain ⟨u, c0, hu⟩ := hc q hlt
          have HAS : Hid (okRows t ps 0 rows = (okRow t ps (q : Int) rows[q] && okRows t ps (q + 1) (rows.drop (q + 1)))) := by
            show _ = _
            rw [HA.out, okRows_at hlt]
          replace c0 : wr.cell? ⟨b2, o + q, none⟩ = _ := (HG.out.below.cell (p := ⟨b2, o + q, none⟩) hb).trans c0
          have hcc := isRow_any t n HOK.out.1 HOK.out.2.1 (.slice ao ps.length c) ps (q : Int) u rows[q] wr HG.out.pds (hu.below HG.out.below)
          obtain ⟨rr, HRR⟩ : ∃ rr, Hid (okRow t ps (q : Int) rows[q] = rr) := ⟨_, (rfl : okRow t ps (q : Int) rows[q] = okRow t ps (q : Int) rows[q])⟩
          rw [HRR.out] at hcc HAS
          obtain ⟨uo, uc, rfl, -, -⟩ := hu
          generalize rows[q].length = ul at c0 hcc
          have z0 := HG.out.c0
          have z1 := HG.out.c1
          have z2 := HG.out.c2
          have hk1 : (q : Int) < (rows.length : Int) := by omega
          clear hcs hc HRR HA
          go_wp2_with fail
          refine hcc.mono ?_
          rintro _ w2 ⟨rfl, hb2⟩
          have HG3 : Hid (Gb w w.heap.size t n (.slice ao ps.length c) ps w2) := HG.out.next hb2
          clear hcc hb2 z0 z1 z2 c0 HG
          cases rr with
          | true =>
            go_wp2_with fail
            go_roundw
            case rel => exact ⟨q + 1, by omega, by go_num, by rw [HAS.out, Bool.true_and]; exact (rfl : _ = _), HG3⟩
            case measure => simp [intOf]; omega
          | false =>
            obtain rfl : r = 1 := by rw [← HR2.out, HAS.out]; rfl
            go_wp2_with fail
            go_ret
            exact ⟨by simp, HG3.out.below⟩
        · obtain rfl : r = 0 := by rw [← HR2.out, HA.out, List.drop_of_length_le (by omega)]; rfl
          clear hcs
          go_wp2_with fail
          go_ret
          exact ⟨by simp, HG.out.below⟩
    · have b0 : ((rows.length : Int) != n) = true := by simp [hl]
      obtain rfl : r = 1 := by rw [← HR.out]; unfold chkR; rw [if_pos h0, if_neg hl]
      clear HR hl hcs h0
      go_enter Try.func74, Try.ntmps74
      go_wp2_with fail
      refine hcall.mono ?_
      rintro _ w1 ⟨rfl, hb1⟩
      have HG1 : Hid (Gb w w.heap.size t n (.slice ao ps.length c) ps w1) := HG0.out.next hb1
      clear hb1 hcall HG0
      have z0 := HG1.out.c0
      have z1 := HG1.out.c1
      have z2 := HG1.out.c2
      go_wp2_with fail
      go_ret
      exact ⟨by simp, HG1.out.below⟩
  · obtain rfl : r = chk t n ps := by rw [← HR.out]; unfold chkR; rw [if_neg h0]
    obtain ⟨rr, HRR⟩ : ∃ rr, Hid (chk t n ps = rr) := ⟨_, (rfl : chk t n ps = chk t n ps)⟩
    rw [HRR.out] at hcall h0 ⊢
    have hk2 : (rr != 0) = true := by simpa using h0
    clear h0 HR hcs
    go_enter Try.func74, Try.ntmps74
    go_wp2_with fail
    refine hcall.mono ?_
    rintro _ w1 ⟨rfl, hb1⟩
    have HG1 : Hid (Gb w w.heap.size t n (.slice ao ps.length c) ps w1) := HG0.out.next hb1
    clear hb1 hcall HG0
    go_wp2_with fail
    go_ret
    exact ⟨by simp, HG1.out.below⟩
end Go.Proofs.Ytpfehghicaaghaa
