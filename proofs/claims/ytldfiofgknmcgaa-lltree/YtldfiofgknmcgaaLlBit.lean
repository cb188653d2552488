/-
  The contracts of pushref.Col and ll.isRow.
-/
import Derived.Test.YtldfiofgknmcgaaLlLow
namespace Go.Proofs.Ytldfiofgknmcgaa
open Go.RowKit
open Cg

theorem wd_div (x : Wd) (k : Nat) : ((x.toNat : Int) / 2 ^ k) = ((x.toNat / 2 ^ k : Nat) : Int) := by simp
theorem wd_bit (x : Wd) (k : Nat) : x.getLsbD k = decide (x.toNat / 2 ^ k % 2 = 1) := by
  show x.toNat.testBit k = _
  exact Nat.testBit_eq_decide_div_mod_eq
theorem mod_wd (x : Wd) (k : Nat) : ((((x.toNat : Int) / 2 ^ k).tmod 2 : Int) == 1) = x.getLsbD k := by
  rw [wd_div, Int.tmod_eq_emod_of_nonneg (Int.natCast_nonneg _), wd_bit]
  generalize x.toNat / 2 ^ k = n
  by_cases h : n % 2 = 1
  · simp [h]; omega
  · simp [h]; omega
theorem top_wd (x : Wd) : (((x.toNat : Int) / 9223372036854775808 : Int) == 1) = x.getLsbD 63 := by
  have h := x.isLt
  rw [wd_bit, show (2 : Nat) ^ 63 = 9223372036854775808 from rfl]
  have h2 : x.toNat / 9223372036854775808 < 2 := by omega
  have e : ((x.toNat : Int) / 9223372036854775808) = ((x.toNat / 9223372036854775808 : Nat) : Int) := by simp
  rw [e]
  generalize x.toNat / 9223372036854775808 = n at h2
  have : n = 0 ∨ n = 1 := by omega
  rcases this with rfl | rfl <;> rfl
theorem and_wd (x : Wd) (k : Nat) : (bits .and .u64 ((x.toNat : Int) / 2 ^ k) 1 == 0) = !x.getLsbD k := by
  have h1 := x.isLt
  have h2 : x.toNat / 2 ^ k ≤ x.toNat := Nat.div_le_self _ _
  rw [wd_div]
  have := u64_and_nat (x.toNat / 2 ^ k) 1 (by omega) (by omega)
  rw [show ((1 : Nat) : Int) = 1 from rfl] at this
  rw [this, Nat.and_one_is_mod, wd_bit]
  generalize x.toNat / 2 ^ k = n
  have : n % 2 = 0 ∨ n % 2 = 1 := by omega
  rcases this with h | h <;> rw [h] <;> rfl
theorem ret_bool {a b : Bool} (h : a = b) : Ending.returned (.bool a) = .returned (.bool b) := by rw [h]
set_option maxHeartbeats 3200000 in
set_option maxRecDepth 20000 in
theorem isRow_any (t n : Int) (ht0 : 0 ≤ t) (ht : t ≤ 30) (pv : Value) (ps : List Pd) (non : Int) (rv : Value) (row : List Int) (w : World) (hp : Pds w pv ps) (hr : Ints w rv row) :
    Calls Try.prog 50 #[.agg #[.int .i64 t, .int .i64 n, pv], .int .i64 non, rv] w fun e w' => e = .returned (.bool (okRow t ps non row)) ∧ Below w.heap.size w w' := by
  have HGB := Gb.box hp t n
  obtain ⟨ao, c, rfl, hm, -⟩ := hp
  have HG0 : Hid (Gb w w.heap.size t n (.slice ao ps.length c) ps (w.alloc (Obj.cells #[.int .i64 t, .int .i64 n, .slice ao ps.length c] 24))) := HGB
  obtain ⟨ro, rc, rfl, hrm, hcs⟩ := hr
  clear HGB
  obtain ⟨r, HR⟩ : ∃ r, Hid (okRow t ps non row = r) := ⟨_, (rfl : okRow t ps non row = okRow t ps non row)⟩
  rw [HR.out]
  by_cases hl : (row.length : Int) = t + 1
  · have b0 : ((row.length : Int) != t + 1) = false := by simp [hl]
    have HR2 : Hid (row.all (okX ps non) = r) := by show _ = _; rw [← HR.out]; unfold okRow; rw [decide_eq_true hl]; rfl
    have HL : Hid ((row.length : Int) = t + 1) := hl
    clear HR hl
    go_enter Try.func50, Try.ntmps50
    go_wp2_with fail
    clear b0
    go_loopw [17] (fun i wr => ∃ q : Nat, q ≤ row.length ∧ i = .int .i64 (q : Int) ∧ Hid ((row.take q).all (okX ps non) = true) ∧ Hid (Gb w w.heap.size t n (.slice ao ps.length c) ps wr)) (fun i _ => row.length - (intOf i).toNat)
    case atStart => exact ⟨0, by omega, rfl, rfl, HG0⟩
    case round =>
      obtain ⟨q, hq, rfl, HA, HG⟩ := hrel
      clear HG0
      by_cases hlt : q < row.length
      · obtain ⟨b2, o, rfl, hb, hc⟩ := hcs.resolve_left (by intro e; subst e; simp at hlt)
        have c0 := hc q hlt
        have HAS : Hid ((row.take (q + 1)).all (okX ps non) = okX ps non row[q]) := by
          show _ = _
          rw [List.take_succ_eq_append_getElem hlt, List.all_append, HA.out]; simp
        have HF : Hid (okX ps non row[q] = false → row.all (okX ps non) = false) := fun e => by
          rw [List.all_eq_false]; exact ⟨row[q], List.getElem_mem hlt, by rw [e]; decide⟩
        generalize row[q] = x at c0 HAS HF
        replace c0 : wr.cell? ⟨b2, o + q, none⟩ = _ := (HG.out.below.cell (p := ⟨b2, o + q, none⟩) hb).trans c0
        have z0 := HG.out.c0
        have z1 := HG.out.c1
        have z2 := HG.out.c2
        have hk1 : (q : Int) < (row.length : Int) := by omega
        by_cases hx : x = -1
        · have b1 : (x != -1) = false := by simp [hx]
          have HOK : Hid (okX ps non x = true) := by show _ = _; unfold okX; rw [hx]; rfl
          clear hx hcs hc
          go_wp2_with fail
          go_roundw
          case rel => exact ⟨q + 1, by omega, by go_num, HAS.out.trans HOK.out, HG⟩
          case measure => simp [intOf]; omega
        · have b1 : (x != -1) = true := by simp [hx]
          obtain ⟨rr, HRR⟩ : ∃ rr, Hid (okP ps non x = rr) := ⟨_, (rfl : okP ps non x = okP ps non x)⟩
          have HOK : Hid (okX ps non x = rr) := by show _ = _; unfold okX; rw [show (x == -1) = false by simp [hx], HRR.out]; rfl
          have hcc := isProdOf_any t n (.slice ao ps.length c) ps non x wr HG.out.pds
          rw [HRR.out] at hcc
          rw [HOK.out] at HAS HF
          clear hx hcs hc HRR HOK
          go_wp2_with fail
          refine hcc.mono ?_
          rintro _ w2 ⟨rfl, hb2⟩
          have HG3 : Hid (Gb w w.heap.size t n (.slice ao ps.length c) ps w2) := HG.out.next hb2
          clear hcc hb2 z0 z1 z2 c0 HG
          cases rr with
          | true =>
            go_wp2_with fail
            go_roundw
            case rel => exact ⟨q + 1, by omega, by go_num, HAS.out, HG3⟩
            case measure => simp [intOf]; omega
          | false =>
            obtain rfl : r = false := by rw [← HR2.out, HF.out rfl]
            go_wp2_with fail
            go_ret
            exact ⟨by simp, HG3.out.below⟩
      · obtain rfl : r = true := by rw [← HR2.out, ← List.take_of_length_le (i := q) (l := row) (by omega), HA.out]
        clear hcs
        go_wp2_with fail
        go_ret
        exact ⟨by simp, HG.out.below⟩
  · have b0 : ((row.length : Int) != t + 1) = true := by simp [hl]
    obtain rfl : r = false := by rw [← HR.out]; unfold okRow; rw [decide_eq_false hl]; rfl
    clear HR hl hcs
    go_enter Try.func50, Try.ntmps50
    go_wp2_with fail
    go_ret
    exact ⟨by simp, HG0.out.below⟩
end Go.Proofs.Ytldfiofgknmcgaa
