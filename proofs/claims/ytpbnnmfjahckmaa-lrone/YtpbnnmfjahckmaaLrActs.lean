/-
  The contracts of lr.areActs and areNext.
-/
import Derived.Test.YtpbnnmfjahckmaaLrLow
namespace Go.Proofs.Ytpbnnmfjahckmaa
open Go.RowKit
open Cg

set_option maxHeartbeats 3200000 in
set_option maxRecDepth 20000 in
theorem areActs_any (t n S : Int) (ht0 : 0 ≤ t) (ht : t ≤ 30) (pv : Value) (ps : List Pd) (rv : Value) (row : List Sy) (w : World) (hp : Pds w pv ps) (hr : Syms w rv row) :
    Calls Try.prog 35 #[.agg #[.int .i64 t, .int .i64 n, pv], .int .i64 S, rv] w fun e w' => e = .returned (.bool (okActs t S (ps.length : Int) row)) ∧ Below w.heap.size w w' := by
  have HGB := Gb.box hp t n
  obtain ⟨ao, c, rfl, hm, -⟩ := hp
  have HG0 : Hid (Gb w w.heap.size t n (.slice ao ps.length c) ps (w.alloc (Obj.cells #[.int .i64 t, .int .i64 n, .slice ao ps.length c] 24))) := HGB
  obtain ⟨ro, rc, rfl, hrm, hcs⟩ := hr
  clear HGB
  obtain ⟨r, HR⟩ : ∃ r, Hid (okActs t S (ps.length : Int) row = r) := ⟨_, (rfl : okActs t S (ps.length : Int) row = okActs t S (ps.length : Int) row)⟩
  rw [HR.out]
  by_cases hl : (row.length : Int) = t + 1
  · have b0 : ((row.length : Int) != t + 1) = false := by simp [hl]
    have HR2 : Hid (okFrom t S (ps.length : Int) 0 row = r) := by show _ = _; rw [← HR.out]; unfold okActs; rw [decide_eq_true hl]; rfl
    have HL : Hid ((row.length : Int) = t + 1) := hl
    clear HR hl
    go_enter Try.func35, Try.ntmps35
    go_wp2_with fail
    clear b0
    go_loopw [17] (fun i wr => ∃ q : Nat, q ≤ row.length ∧ i = .int .i64 (q : Int) ∧ Hid (okFrom t S (ps.length : Int) q (row.drop q) = r) ∧ Hid (Gb w w.heap.size t n (.slice ao ps.length c) ps wr)) (fun i _ => row.length - (intOf i).toNat)
    case atStart => exact ⟨0, by omega, rfl, HR2, HG0⟩
    case round =>
      obtain ⟨q, hq, rfl, HA, HG⟩ := hrel
      clear HG0
      by_cases hlt : q < row.length
      · obtain ⟨b2, o, rfl, hb, hc⟩ := hcs.resolve_left (by intro e; subst e; simp at hlt)
        obtain ⟨c0, c1⟩ := hc q hlt
        have HAS : Hid (okFrom t S (ps.length : Int) q (row.drop q) = (okAct S (ps.length : Int) ((q : Int) == t) (row[q].1, row[q].2) && okFrom t S (ps.length : Int) (q + 1) (row.drop (q + 1)))) := okFrom_at hlt
        generalize row[q].1 = x0 at c0 HAS
        generalize row[q].2 = x1 at c1 HAS
        replace c0 : wr.cell? ⟨b2, o + q * 2, none⟩ = _ := (HG.out.below.cell (p := ⟨b2, o + q * 2, none⟩) hb).trans c0
        replace c1 : wr.cell? ⟨b2, o + q * 2 + 1, none⟩ = _ := (HG.out.below.cell (p := ⟨b2, o + q * 2 + 1, none⟩) hb).trans c1
        have HG2 : Hid (Gb w w.heap.size t n (.slice ao ps.length c) ps (wr.alloc (Obj.cells #[.int .i64 x0, .int .i64 x1] 104))) := HG.out.next (below_alloc _ _)
        have z0 := HG2.out.c0
        have z1 := HG2.out.c1
        have z2 := HG2.out.c2
        have hk1 : (q : Int) < (row.length : Int) := by omega
        obtain ⟨ee, HE⟩ : ∃ ee, Hid (((q : Int) == t) = ee) := ⟨_, (rfl : ((q : Int) == t) = ((q : Int) == t))⟩
        obtain ⟨rr, HRR⟩ : ∃ rr, Hid (okAct S (ps.length : Int) ee (x0, x1) = rr) := ⟨_, (rfl : okAct S (ps.length : Int) ee (x0, x1) = okAct S (ps.length : Int) ee (x0, x1))⟩
        have hee : ((q : Int) == t) = ee := HE.out
        have hcc := isAct_any t n S ao ps.length c ee x0 x1 (wr.alloc (Obj.cells #[.int .i64 x0, .int .i64 x1] 104))
        rw [HRR.out] at hcc
        rw [HE.out, HRR.out] at HAS
        clear hcs hc HE HRR
        go_wp2_with fail
        refine hcc.mono ?_
        rintro _ w2 ⟨rfl, hb2⟩
        have HG3 : Hid (Gb w w.heap.size t n (.slice ao ps.length c) ps w2) := HG2.out.next hb2
        clear hcc hb2 z0 z1 z2 c0 c1 HG HG2 hee
        cases rr with
        | true =>
          go_wp2_with fail
          go_roundw
          case rel => exact ⟨q + 1, by omega, by go_num, by show _ = _; rw [← HA.out, HAS.out, Bool.true_and], HG3⟩
          case measure => simp [intOf]; omega
        | false =>
          obtain rfl : r = false := by rw [← HA.out, HAS.out]; rfl
          go_wp2_with fail
          go_ret
          exact ⟨by simp, HG3.out.below⟩
      · obtain rfl : r = true := by rw [← HA.out, List.drop_of_length_le (by omega)]; rfl
        clear hcs
        go_wp2_with fail
        go_ret
        exact ⟨by simp, HG.out.below⟩
  · have b0 : ((row.length : Int) != t + 1) = true := by simp [hl]
    obtain rfl : r = false := by rw [← HR.out]; unfold okActs; rw [decide_eq_false hl]; rfl
    clear HR hl hcs
    go_enter Try.func35, Try.ntmps35
    go_wp2_with fail
    go_ret
    exact ⟨by simp, HG0.out.below⟩
set_option maxHeartbeats 3200000 in
set_option maxRecDepth 20000 in
theorem areNext_any (t n S : Int) (pv : Value) (ps : List Pd) (rv : Value) (row : List Int) (w : World) (hp : Pds w pv ps) (hr : Ints w rv row) :
    Calls Try.prog 36 #[.agg #[.int .i64 t, .int .i64 n, pv], .int .i64 S, rv] w fun e w' => e = .returned (.bool (okNext n S row)) ∧ Below w.heap.size w w' := by
  have HGB := Gb.box hp t n
  obtain ⟨ao, c, rfl, hm, -⟩ := hp
  have HG0 : Hid (Gb w w.heap.size t n (.slice ao ps.length c) ps (w.alloc (Obj.cells #[.int .i64 t, .int .i64 n, .slice ao ps.length c] 24))) := HGB
  obtain ⟨ro, rc, rfl, hrm, hcs⟩ := hr
  clear HGB
  obtain ⟨r, HR⟩ : ∃ r, Hid (okNext n S row = r) := ⟨_, (rfl : okNext n S row = okNext n S row)⟩
  rw [HR.out]
  by_cases hl : (row.length : Int) = n
  · have b0 : ((row.length : Int) != n) = false := by simp [hl]
    have HR2 : Hid (row.all (okTo S) = r) := by show _ = _; rw [← HR.out]; unfold okNext; rw [decide_eq_true hl]; rfl
    clear HR hl
    go_enter Try.func36, Try.ntmps36
    go_wp2_with fail
    clear b0
    go_loopw [16] (fun i wr => ∃ q : Nat, q ≤ row.length ∧ i = .int .i64 (q : Int) ∧ Hid ((row.take q).all (okTo S) = true) ∧ Hid (Gb w w.heap.size t n (.slice ao ps.length c) ps wr)) (fun i _ => row.length - (intOf i).toNat)
    case atStart => exact ⟨0, by omega, rfl, rfl, HG0⟩
    case round =>
      obtain ⟨q, hq, rfl, HA, HG⟩ := hrel
      clear HG0
      by_cases hlt : q < row.length
      · obtain ⟨b2, o, rfl, hb, hc⟩ := hcs.resolve_left (by intro e; subst e; simp at hlt)
        have c0 := hc q hlt
        have HAS : Hid ((row.take (q + 1)).all (okTo S) = okTo S row[q]) := by
          show _ = _
          rw [List.take_succ_eq_append_getElem hlt, List.all_append, HA.out]; simp
        have HF : Hid (okTo S row[q] = false → row.all (okTo S) = false) := fun e => by
          rw [List.all_eq_false]; exact ⟨row[q], List.getElem_mem hlt, by rw [e]; decide⟩
        generalize row[q] = x at c0 HAS HF
        replace c0 : wr.cell? ⟨b2, o + q, none⟩ = _ := (HG.out.below.cell (p := ⟨b2, o + q, none⟩) hb).trans c0
        have hk1 : (q : Int) < (row.length : Int) := by omega
        by_cases hx : x = -1
        · have b1 : (x != -1) = false := by simp [hx]
          have HOK : Hid (okTo S x = true) := by show _ = _; unfold okTo; rw [hx]; rfl
          clear hx hcs hc
          go_wp2_with fail
          go_roundw
          case rel => exact ⟨q + 1, by omega, by go_num, HAS.out.trans HOK.out, HG⟩
          case measure => simp [intOf]; omega
        · have b1 : (x != -1) = true := by simp [hx]
          obtain ⟨rr, HRR⟩ : ∃ rr, Hid (okN S x = rr) := ⟨_, (rfl : okN S x = okN S x)⟩
          have HOK : Hid (okTo S x = rr) := by show _ = _; unfold okTo; rw [show (x == -1) = false by simp [hx], HRR.out]; rfl
          have hcc := isBelow_any x S wr
          rw [HRR.out] at hcc
          rw [HOK.out] at HAS HF
          clear hx hcs hc HRR HOK
          go_wp2_with fail
          refine hcc.mono ?_
          rintro _ w2 ⟨rfl, hb2⟩
          have HG3 : Hid (Gb w w.heap.size t n (.slice ao ps.length c) ps w2) := HG.out.next hb2
          clear hcc hb2 c0 HG
          cases rr with
          | true =>
            go_wp2_with fail
            go_roundw
            case rel => exact ⟨q + 1, by omega, by go_num, HAS.out, HG3⟩
            case measure => simp [intOf]; omega
          | false =>
            obtain rfl : r = false := by rw [← HR2.out, HF.out rfl]
            go_wp2_with fail
            go_ret
            exact ⟨by simp, HG3.out.below⟩
      · obtain rfl : r = true := by rw [← HR2.out, ← List.take_of_length_le (i := q) (l := row) (by omega), HA.out]
        clear hcs
        go_wp2_with fail
        go_ret
        exact ⟨by simp, HG.out.below⟩
  · have b0 : ((row.length : Int) != n) = true := by simp [hl]
    obtain rfl : r = false := by rw [← HR.out]; unfold okNext; rw [decide_eq_false hl]; rfl
    clear HR hl hcs
    go_enter Try.func36, Try.ntmps36
    go_wp2_with fail
    go_ret
    exact ⟨by simp, HG0.out.below⟩
end Go.Proofs.Ytpbnnmfjahckmaa
