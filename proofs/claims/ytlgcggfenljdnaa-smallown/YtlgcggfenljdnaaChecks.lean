/-
  The contracts of dfa.Check, dfa.run, dfa.Run and dfa.Tag.
-/
import Derived.Test.YtlgcggfenljdnaaStates
import Derived.WalkSmall
namespace Go.Proofs.Ytlgcggfenljdnaa
open Go.RowKit
open Dfa

set_option maxHeartbeats 1600000 in
set_option maxRecDepth 20000 in
theorem check_any (rv tv : Value) (n m : Nat) (R : Nat → Nat → Int) (T : Nat → Int) (w : World) (hr : Rw w rv n R) (ht : Ts w tv m T) :
    Calls Try.prog 13 #[.agg #[rv, tv]] w fun e w' => e = .returned (.int .i64 (chk n m R T)) ∧ Below w.heap.size w w' := by
  have HR : Hid (Rw w rv n R) := hr
  have HT : Hid (Ts w tv m T) := ht
  obtain ⟨ao, cap, rfl, hn, hwf, -⟩ := hr
  obtain ⟨ao', cap', rfl, hm, hwf', -⟩ := ht
  clear hwf hwf'
  go_enter Try.func13, Try.ntmps13
  by_cases h1 : 200 < n
  · have h1' : (200 : Int) < (n : Int) := by omega
    go_wp2_with fail
    go_ret
    exact ⟨by unfold chk; rw [if_pos h1]; rfl, (Below.refl _ _).alloc (Nat.le_refl _) _⟩
  · by_cases h2 : n = 0 ∨ m ≠ n
    · have E : Hid (chk n m R T = 1) := by show _ = _; unfold chk; rw [if_neg h1, if_pos h2]
      by_cases h3 : n = 0
      · subst h3
        go_wp2_with fail
        go_ret
        exact ⟨by rw [E.out]; rfl, (Below.refl _ _).alloc (Nat.le_refl _) _⟩
      · have h4 : m ≠ n := by omega
        have h5 : ((m : Int) != (n : Int)) = true := by simp; omega
        have h6 : ((n : Int) == 0) = false := by simp; omega
        go_wp2_with fail
        go_ret
        exact ⟨by rw [E.out]; rfl, (Below.refl _ _).alloc (Nat.le_refl _) _⟩
    · obtain rfl : m = n := by omega
      have h6 : ¬ ((m : Int) = 0) := by omega
      go_wp2_with fail
      have B0 : Below w.heap.size w (w.alloc (Obj.cells #[Value.slice ao m cap, Value.slice ao' m cap'] 25)) := (Below.refl _ _).alloc (Nat.le_refl _) _
      refine (areStates_any _ m R _ (HR.out.below B0 (Nat.le_refl _))).mono ?_
      rintro _ w1 ⟨rfl, hb1⟩
      have c0 : w1.cell? ⟨w.heap.size, 0, none⟩ = some (Value.slice ao m cap) := (hb1.cell (by simp)).trans (by simp)
      have c1 : w1.cell? ⟨w.heap.size, 1, none⟩ = some (Value.slice ao' m cap') := (hb1.cell (by simp)).trans (by simp)
      have B1 : Below w.heap.size w w1 := B0.trans (hb1.mono (by simp))
      have E : Hid (chk m m R T = if rowsOk m R = true ∧ tagsOk m T = true then 0 else 1) := by show _ = _; unfold chk; rw [if_neg h1, if_neg h2]
      rcases hrs : rowsOk m R with _ | _
      · go_wp2_with fail
        go_ret
        exact ⟨by rw [E.out, hrs]; rfl, B1⟩
      · go_wp2_with fail
        refine (areTags_any _ m T w1 (HT.out.below B1 (Nat.le_refl _))).mono ?_
        rintro _ w2 ⟨rfl, rfl⟩
        rcases hts : tagsOk m T with _ | _
        · go_wp2_with fail
          go_ret
          exact ⟨by rw [E.out, hrs, hts]; rfl, B1⟩
        · go_wp2_with fail
          go_ret
          exact ⟨by rw [E.out, hrs, hts]; rfl, B1⟩

/-- A byte of a text. -/
theorem byte_run (s : ByteArray) (k : Nat) (h : k < s.size) (w : World) : (Instr.index 9 (.string s) (.int .i64 (k : Int))).run Try.prog w = .ok (.int .u8 (s[k].toNat : Int)) w := by
  rw [run_index_string (h := Try.underlying9)]
  simp [h]
theorem data_size (s : ByteArray) : s.data.toList.length = s.size := by rw [Array.length_toList]; rfl
theorem take_snoc (s : ByteArray) (k : Nat) (h : k < s.size) : s.data.toList.take (k + 1) = s.data.toList.take k ++ [s[k]] := by
  rw [List.take_succ_eq_append_getElem (by rw [data_size]; exact h)]; rfl
theorem take_all (s : ByteArray) (k : Nat) (h : s.size ≤ k) : s.data.toList.take k = s.data.toList := List.take_of_length_le (by rw [data_size]; exact h)

set_option maxHeartbeats 1600000 in
set_option maxRecDepth 20000 in
theorem run_any (rv tv : Value) (n : Nat) (R : Nat → Nat → Int) (s : ByteArray) (w : World) (hr : Rw w rv n R) (h0 : 0 < n) (hok : rowsOk n R = true) (hs : s.size ≤ 9223372036854775807) :
    Calls Try.prog 36 #[.agg #[rv, tv], .string s] w fun e w' => e = .returned (.int .i64 (goes R 0 s.data.toList)) ∧ Below w.heap.size w w' := by
  obtain ⟨ao, cap, rfl, hn, hwf, hcs⟩ := hr
  have HW : Hid (∀ i j, -32768 ≤ R i j ∧ R i j ≤ 32767) := hwf
  have HO : Hid (rowsOk n R = true) := hok
  obtain ⟨b, o, rfl, hb, hc⟩ := hcs.resolve_left (by omega)
  have HC : Hid (∀ i, i < n → ∀ j, j < 256 → w.cell? ⟨b, o + i * 256 + j, none⟩ = some (.int .i16 (R i j))) := hc
  clear hwf hok hcs hc
  go_enter Try.func36, Try.ntmps36
  go_wp2_with fail
  go_loopw [6, 5] (fun i z wr => ∃ (k : Nat) (q : Int), k ≤ s.size ∧ i = .int .i64 (k : Int) ∧ z = .int .i64 q ∧ At n q ∧ Hid (goes R 0 (s.data.toList.take k) = q) ∧ wr.cell? ⟨w.heap.size, 0, none⟩ = some (.slice (some ⟨b, o, none⟩) n cap) ∧ Below w.heap.size w wr) (fun i _ _ => s.size - (intOf i).toNat)
  case atStart => exact ⟨0, 0, by omega, rfl, rfl, ⟨by omega, by omega⟩, rfl, by simp, (Below.refl _ _).alloc (Nat.le_refl _) _⟩
  case round =>
    obtain ⟨k, q, hk, rfl, rfl, ⟨hq1, hq2⟩, HG, hcell, hbel⟩ := hrel
    have hsb := hbel.size
    by_cases hlt : k < s.size
    · have hk1 : (k : Int) < (s.size : Int) := by omega
      by_cases hq : q = -1
      · have HQ : Hid (q = -1) := hq
        subst hq
        go_wp2_with fail
        go_ret
        refine ⟨?_, hbel⟩
        have : goes R 0 s.data.toList = -1 := by
          rw [← List.take_append_drop k s.data.toList, goes_append, HG.out, goes_neg _ _ (by omega)]
        rw [this]; rfl
      · obtain ⟨p, rfl⟩ : ∃ p : Nat, q = (p : Int) := ⟨q.toNat, by omega⟩
        have hp : p < n := by omega
        have hp1 : (p : Int) < (n : Int) := by omega
        have hbr := byte_run s k hlt
        obtain ⟨x, HX⟩ : ∃ x, Hid (s[k] = x) := ⟨_, (rfl : s[k] = s[k])⟩
        rw [HX.out] at hbr
        have hx : x.toNat < 256 := x.toNat_lt
        have hx1 : (x.toNat : Int) < 256 := by omega
        have c0 : wr.cell? ⟨b, o + p * 256 + x.toNat, none⟩ = some (.int .i16 (R p x.toNat)) := (hbel.cell (p := ⟨b, o + p * 256 + x.toNat, none⟩) hb).trans (HC.out p hp x.toNat hx)
        have hz := HW.out p x.toNat
        have HS : Hid (goes R 0 (s.data.toList.take (k + 1)) = R p x.toNat) := by
          show _ = _
          rw [take_snoc s k hlt, goes_snoc, HG.out, HX.out]
          unfold Dfa.step
          rw [if_neg (by omega)]
          rfl
        have hat : At n (R p x.toNat) := by rw [← HS.out]; exact at_goes HO.out _ ⟨by omega, by omega⟩
        obtain ⟨z, HZ⟩ : ∃ z, Hid (R p x.toNat = z) := ⟨_, (rfl : R p x.toNat = R p x.toNat)⟩
        rw [HZ.out] at c0 hz hat
        have hwr := wrap_small hz
        go_wp2_with (go_quiet (fail))
        go_roundw
        case rel => exact ⟨k + 1, z, by omega, by go_num, rfl, hat, by show _ = _; rw [HS.out, HZ.out], by simpa using hcell, below_drewN hbel nq⟩
        case measure => simp [intOf]; omega
    · go_wp2_with fail
      go_ret
      refine ⟨?_, hbel⟩
      rw [← HG.out, take_all s k (by omega)]; rfl

set_option maxHeartbeats 1600000 in
set_option maxRecDepth 20000 in
theorem Tag_any (rv tv : Value) (n m : Nat) (R : Nat → Nat → Int) (T : Nat → Int) (s : ByteArray) (w : World) (hr : Rw w rv n R) (ht : Ts w tv m T) (hs : s.size ≤ 9223372036854775807) :
    Calls Try.prog 14 #[.agg #[rv, tv], .string s] w fun e w' => e = .returned (.tuple #[.int .i64 (tagAns n m R T s.data.toList), .int .i64 (chk n m R T)]) ∧ Below w.heap.size w w' := by
  have HR : Hid (Rw w rv n R) := hr
  have HT : Hid (Ts w tv m T) := ht
  obtain ⟨ao, cap, rfl, hn, hwf, -⟩ := hr
  obtain ⟨ao', cap', rfl, hm, hwf', hcs⟩ := ht
  have HCS : Hid (m = 0 ∨ ∃ b o, ao' = some ⟨b, o, none⟩ ∧ b < w.heap.size ∧ ∀ i, i < m → w.cell? ⟨b, o + i, none⟩ = some (.int .i64 (T i))) := hcs
  clear hwf hwf' hcs
  go_enter Try.func14, Try.ntmps14
  go_wp2_with fail
  have B0 : Below w.heap.size w (w.alloc (Obj.cells #[Value.slice ao n cap, Value.slice ao' m cap'] 25)) := (Below.refl _ _).alloc (Nat.le_refl _) _
  refine (check_any _ _ n m R T _ (HR.out.below B0 (Nat.le_refl _)) (HT.out.below B0 (Nat.le_refl _))).mono ?_
  rintro _ w1 ⟨rfl, hb1⟩
  have c0 : w1.cell? ⟨w.heap.size, 0, none⟩ = some (Value.slice ao n cap) := (hb1.cell (by simp)).trans (by simp)
  have c1 : w1.cell? ⟨w.heap.size, 1, none⟩ = some (Value.slice ao' m cap') := (hb1.cell (by simp)).trans (by simp)
  have B1 : Below w.heap.size w w1 := B0.trans (hb1.mono (by simp))
  have hl1 : w.heap.size < w1.heap.size := by have := hb1.size; simp at this; omega
  obtain ⟨c, HC⟩ : ∃ c, Hid (chk n m R T = c) := ⟨_, (rfl : chk n m R T = chk n m R T)⟩
  rw [HC.out]
  clear hb1
  by_cases h0 : c = 0
  · subst h0
    obtain ⟨g0, -, g2, g1, -⟩ := chk_zero HC.out
    have G2 : Hid (m = n) := g2
    clear g2
    go_wp2_with fail
    have hat : At n (goes R 0 s.data.toList) := at_goes g1 _ ⟨by omega, by omega⟩
    have hcall := run_any (.slice ao n cap) (.slice ao' m cap') n R s w1 (HR.out.below B1 (Nat.le_refl _)) g0 g1 hs
    obtain ⟨q, HQ⟩ : ∃ q, Hid (goes R 0 s.data.toList = q) := ⟨_, (rfl : goes R 0 s.data.toList = goes R 0 s.data.toList)⟩
    rw [HQ.out] at hat hcall
    refine hcall.mono ?_
    rintro _ w2 ⟨rfl, hb2⟩
    have B2 : Below w.heap.size w w2 := B1.trans (hb2.mono B1.size)
    have d1 : w2.cell? ⟨w.heap.size, 1, none⟩ = some (Value.slice ao' m cap') := (hb2.cell (p := ⟨w.heap.size, 1, none⟩) hl1).trans c1
    obtain ⟨hq1, hq2⟩ := hat
    clear c0 c1 hb2 g1
    by_cases hq : q = -1
    · subst hq
      go_wp2_with fail
      go_ret2
      exact ⟨by rw [tagAns_ok HC.out, HQ.out, HC.out]; rfl, B2⟩
    · obtain ⟨p, rfl⟩ : ∃ p : Nat, q = (p : Int) := ⟨q.toNat, by omega⟩
      obtain ⟨b, o, rfl, hb, hc⟩ := HCS.out.resolve_left (by have := G2.out; omega)
      have hp1 : (p : Int) < (m : Int) := by have := G2.out; omega
      have e0 : w2.cell? ⟨b, o + p, none⟩ = some (.int .i64 (T p)) := (B2.cell (p := ⟨b, o + p, none⟩) hb).trans (hc p (by omega))
      have hb0 : ((p : Int) == -1) = false := by simp
      clear hc
      go_wp2_with fail
      go_ret2
      exact ⟨by rw [tagAns_ok HC.out, HQ.out, HC.out]; unfold tagOf; rw [if_neg (by omega)]; rfl, B2⟩
  · have hb0 : (c != 0) = true := by simp; exact h0
    go_wp2_with fail
    go_ret2
    exact ⟨by rw [tagAns_bad (by rw [HC.out]; exact h0), HC.out]; rfl, B1⟩
end Go.Proofs.Ytlgcggfenljdnaa
