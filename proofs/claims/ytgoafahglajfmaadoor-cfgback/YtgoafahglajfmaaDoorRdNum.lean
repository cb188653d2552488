/-
  The contract of cfg.readNumber.
-/
import Derived.Test.YtgoafahglajfmaaDoorTxMath
import Derived.Test.YtgoafahglajfmaaDoorSame
import Derived.Test.YtgoafahglajfmaaDoorShelf
namespace Go.Proofs.YtgoafahglajfmaaDoor
open Go.RowKit
open Cg

theorem data_size (s : ByteArray) : s.data.toList.length = s.size := by rw [Array.length_toList]; rfl
theorem list_loop (b : ByteArray) : ∀ (k i : Nat) (r : List UInt8), b.size - i = k → ByteArray.toList.loop b i r = r.reverse ++ b.data.toList.drop i := by
  intro k
  induction k with
  | zero =>
    intro i r h
    unfold ByteArray.toList.loop
    rw [if_neg (by omega), List.drop_eq_nil_of_le (by simp; omega)]; simp
  | succ k ih =>
    intro i r h
    unfold ByteArray.toList.loop
    rw [if_pos (by omega), ih _ _ (by omega)]
    have h2 : i < b.data.toList.length := by simp; omega
    rw [List.drop_eq_getElem_cons h2]
    have h3 : b.get! i = b.data.toList[i] := by
      have h4 : i < b.data.size := by simpa using h2
      show b.data[i]! = _
      rw [getElem!_pos b.data i h4]; simp
    rw [h3]; simp
theorem list_data (b : ByteArray) : b.toList = b.data.toList := by
  unfold ByteArray.toList
  rw [list_loop b b.size 0 [] (by omega)]; simp
theorem empty_is (s : ByteArray) : s.toList.isEmpty = decide (s.size = 0) := by
  rw [list_data, ← data_size]
  cases s.data.toList <;> simp
theorem at_data (s : ByteArray) (k : Nat) (h : k < s.size) : s.data.toList[k]'(by rw [data_size]; exact h) = s[k] := rfl
set_option maxHeartbeats 3200000 in
set_option maxRecDepth 20000 in
theorem readNumber_any (s : ByteArray) (w : World) :
    Calls Tryd.prog 39 #[.string s] w fun e w' => e = .returned (.tuple #[.int .i64 (numR s.data.toList).1, .bool (numR s.data.toList).2]) ∧ w' = w := by
  obtain ⟨l, HL⟩ : ∃ l, Hid (s.data.toList = l) := ⟨_, (rfl : s.data.toList = s.data.toList)⟩
  have HLS : Hid (l.length = s.size) := by show _ = _; rw [← HL.out]; exact data_size s
  have HLK : Hid (∀ k (h : k < s.size) (h' : k < l.length), l[k] = s[k]) := fun k h h' => by have := at_data s k h; simp only [HL.out] at this; exact this
  have HEM : Hid (s.toList.isEmpty = decide (s.size = 0)) := empty_is s
  rw [HL.out]
  obtain ⟨r, HR⟩ : ∃ r, Hid (numR l = r) := ⟨_, (rfl : numR l = numR l)⟩
  rw [HR.out]
  by_cases h0 : s.size = 0
  · obtain rfl : r = (0, false) := by
      have e : l = [] := List.length_eq_zero_iff.1 (by rw [HLS.out]; exact h0)
      rw [← HR.out, e]; rfl
    have b0 : s.toList.isEmpty = true := by rw [HEM.out]; simpa using h0
    clear h0
    go_enter Tryd.func39, Tryd.ntmps39
    go_wp2_with fail
    go_ret2
    exact ⟨rfl, rfl⟩
  · have b0 : s.toList.isEmpty = false := by rw [HEM.out]; simpa using h0
    have hpos : 0 < s.size := by omega
    clear h0
    by_cases h9 : 9 < s.size
    · have b9 : decide ((9 : Int) < (s.size : Int)) = true := by simp; omega
      obtain rfl : r = (0, false) := by rw [← HR.out]; unfold numR headOk; rw [if_neg (by simp [HLS.out]; omega)]
      go_enter Tryd.func39, Tryd.ntmps39
      go_wp2_with fail
      go_ret2
      exact ⟨rfl, rfl⟩
    · have b9 : decide ((9 : Int) < (s.size : Int)) = false := by simp; omega
      have HH : Hid (l.head? = some s[0]) := by
        show _ = _
        rw [List.head?_eq_getElem?, List.getElem?_eq_getElem (by rw [HLS.out]; exact hpos), HLK.out 0 hpos (by rw [HLS.out]; exact hpos)]
      have HNE : Hid (l ≠ []) := by intro e; rw [e] at HLS; have := HLS.out; simp at this; omega
      by_cases hz : s[0].toNat = 48 ∧ 1 < s.size
      · have hz1 := hz.1
        have b1 : decide ((1 : Int) < (s.size : Int)) = true := by simp; omega
        obtain rfl : r = (0, false) := by
          rw [← HR.out]; unfold numR headOk
          rw [if_neg]
          rw [HH.out]
          have e : s[0] = 48 := UInt8.toNat_inj.1 (by rw [hz.1]; rfl)
          simp [HLS.out, e, hz.2]
        clear hz
        go_enter Tryd.func39, Tryd.ntmps39
        go_wp2_with fail
        go_ret2
        exact ⟨rfl, rfl⟩
      · have HHO : Hid (headOk l = true) := by
          show _ = _
          unfold headOk
          rw [HH.out, HLS.out]
          simp only [Bool.and_eq_true, decide_eq_true_eq, Bool.not_eq_true', Bool.and_eq_false_iff, decide_eq_false_iff_not]
          refine ⟨⟨HNE.out, by omega⟩, ?_⟩
          by_cases h1 : 1 < s.size
          · left; intro e; have e2 : s[0] = 48 := Option.some.inj e; exact hz ⟨by rw [e2]; rfl, h1⟩
          · right; exact h1
        obtain ⟨b2, HB2⟩ : ∃ b2, Hid (((s[0].toNat : Int) == 48) = b2) := ⟨_, (rfl : ((s[0].toNat : Int) == 48) = ((s[0].toNat : Int) == 48))⟩
        have hb2 := HB2.out
        obtain ⟨b3, HB3⟩ : ∃ b3, Hid (decide ((1 : Int) < (s.size : Int)) = b3) := ⟨_, (rfl : decide ((1 : Int) < (s.size : Int)) = decide ((1 : Int) < (s.size : Int)))⟩
        have hb3 := HB3.out
        have HRN : Hid (r = if l.all isD = true then ((val l : Int), true) else (0, false)) := by show _ = _; rw [← HR.out]; unfold numR; rw [if_pos HHO.out]
        have key : ∀ (K : Prop), (b2 = true → b3 = true → K) := fun K e1 e2 => by
          exfalso; apply hz
          rw [e1] at hb2; rw [e2] at hb3
          simp at hb2 hb3
          exact ⟨by omega, by omega⟩
        have HKEY : Hid (b2 = true → b3 = true → False) := key False
        clear hz key HR
        go_enter Tryd.func39, Tryd.ntmps39
        cases b2 with
        | false =>
          go_wp2_with fail
          clear hb2 hb3 b9 b0
          go_loopw [25, 4] (fun i v wr => ∃ q : Nat, q ≤ s.size ∧ i = .int .i64 (q : Int) ∧ v = .int .i64 ((val (l.take q) : Nat) : Int) ∧ Hid ((l.take q).all isD = true) ∧ wr = w) (fun i _ _ => s.size - (intOf i).toNat)
          case atStart => exact ⟨0, by omega, rfl, rfl, rfl, rfl⟩
          case round =>
            obtain ⟨q, hq, rfl, rfl, HA, rfl⟩ := hrel
            by_cases hlt : q < s.size
            · have hll : q < l.length := by rw [HLS.out]; exact hlt
              have hk1 : (q : Int) < (s.size : Int) := by omega
              have HV : Hid (val (l.take (q + 1)) = val (l.take q) * 10 + (s[q].toNat - 48)) := by
                show _ = _
                rw [val_take l q hll, HLK.out q hlt hll]
              have HAN : Hid ((l.take (q + 1)).all isD = isD s[q]) := by
                show _ = _
                rw [List.take_succ_eq_append_getElem hll, List.all_append, HA.out, HLK.out q hlt hll]; simp
              have HAF : Hid (isD s[q] = false → l.all isD = false) := fun e => by
                rw [List.all_eq_false]; exact ⟨l[q], List.getElem_mem hll, by rw [HLK.out q hlt hll, e]; simp⟩
              have hvb : val (l.take q) < 1000000000 := by
                have h1 := val_lt (l.take q) HA.out (l.take q).length (Nat.le_refl _)
                rw [List.take_of_length_le (Nat.le_refl _), List.length_take, Nat.min_eq_left (by omega)] at h1
                have h2 : 10 ^ q ≤ 10 ^ 9 := Nat.pow_le_pow_right (by omega) (by omega)
                omega
              obtain ⟨vq, HVQ⟩ : ∃ vq, Hid (val (l.take q) = vq) := ⟨_, (rfl : val (l.take q) = val (l.take q))⟩
              rw [HVQ.out] at HV hvb ⊢
              by_cases hc1 : s[q].toNat < 48
              · have b1 : decide ((s[q].toNat : Int) < 48) = true := by simp; omega
                obtain rfl : r = (0, false) := by rw [HRN.out, HAF.out (by unfold isD; simp; omega)]; rfl
                go_wp2_with fail
                go_ret2
                exact ⟨rfl, rfl⟩
              · have b1 : decide ((s[q].toNat : Int) < 48) = false := by simp; omega
                by_cases hc2 : 57 < s[q].toNat
                · have b2 : decide ((57 : Int) < (s[q].toNat : Int)) = true := by simp; omega
                  obtain rfl : r = (0, false) := by rw [HRN.out, HAF.out (by unfold isD; simp; omega)]; rfl
                  go_wp2_with fail
                  go_ret2
                  exact ⟨rfl, rfl⟩
                · have b2 : decide ((57 : Int) < (s[q].toNat : Int)) = false := by simp; omega
                  have HAT : Hid ((l.take (q + 1)).all isD = true) := by show _ = _; rw [HAN.out]; unfold isD; simp; omega
                  go_wp2_with fail
                  go_roundw
                  case rel => exact ⟨q + 1, by omega, by go_num, by rw [HV.out]; congr 1; omega, HAT, by trivial⟩
                  case measure => simp [intOf]; omega
            · have HALL : Hid (l.take q = l) := List.take_of_length_le (by rw [HLS.out]; omega)
              obtain rfl : r = ((val l : Int), true) := by
                have := HA.out
                rw [HALL.out] at this
                rw [HRN.out, this]; rfl
              rw [HALL.out]
              go_wp2_with fail
              go_ret2
              exact ⟨rfl, rfl⟩
        | true =>
          cases b3 with
          | true => exact (HKEY.out rfl rfl).elim
          | false =>
            go_wp2_with fail
            clear hb2 hb3 b9 b0
            go_loopw [25, 4] (fun i v wr => ∃ q : Nat, q ≤ s.size ∧ i = .int .i64 (q : Int) ∧ v = .int .i64 ((val (l.take q) : Nat) : Int) ∧ Hid ((l.take q).all isD = true) ∧ wr = w) (fun i _ _ => s.size - (intOf i).toNat)
            case atStart => exact ⟨0, by omega, rfl, rfl, rfl, rfl⟩
            case round =>
              obtain ⟨q, hq, rfl, rfl, HA, rfl⟩ := hrel
              by_cases hlt : q < s.size
              · have hll : q < l.length := by rw [HLS.out]; exact hlt
                have hk1 : (q : Int) < (s.size : Int) := by omega
                have HV : Hid (val (l.take (q + 1)) = val (l.take q) * 10 + (s[q].toNat - 48)) := by
                  show _ = _
                  rw [val_take l q hll, HLK.out q hlt hll]
                have HAN : Hid ((l.take (q + 1)).all isD = isD s[q]) := by
                  show _ = _
                  rw [List.take_succ_eq_append_getElem hll, List.all_append, HA.out, HLK.out q hlt hll]; simp
                have HAF : Hid (isD s[q] = false → l.all isD = false) := fun e => by
                  rw [List.all_eq_false]; exact ⟨l[q], List.getElem_mem hll, by rw [HLK.out q hlt hll, e]; simp⟩
                have hvb : val (l.take q) < 1000000000 := by
                  have h1 := val_lt (l.take q) HA.out (l.take q).length (Nat.le_refl _)
                  rw [List.take_of_length_le (Nat.le_refl _), List.length_take, Nat.min_eq_left (by omega)] at h1
                  have h2 : 10 ^ q ≤ 10 ^ 9 := Nat.pow_le_pow_right (by omega) (by omega)
                  omega
                obtain ⟨vq, HVQ⟩ : ∃ vq, Hid (val (l.take q) = vq) := ⟨_, (rfl : val (l.take q) = val (l.take q))⟩
                rw [HVQ.out] at HV hvb ⊢
                by_cases hc1 : s[q].toNat < 48
                · have b1 : decide ((s[q].toNat : Int) < 48) = true := by simp; omega
                  obtain rfl : r = (0, false) := by rw [HRN.out, HAF.out (by unfold isD; simp; omega)]; rfl
                  go_wp2_with fail
                  go_ret2
                  exact ⟨rfl, rfl⟩
                · have b1 : decide ((s[q].toNat : Int) < 48) = false := by simp; omega
                  by_cases hc2 : 57 < s[q].toNat
                  · have b2 : decide ((57 : Int) < (s[q].toNat : Int)) = true := by simp; omega
                    obtain rfl : r = (0, false) := by rw [HRN.out, HAF.out (by unfold isD; simp; omega)]; rfl
                    go_wp2_with fail
                    go_ret2
                    exact ⟨rfl, rfl⟩
                  · have b2 : decide ((57 : Int) < (s[q].toNat : Int)) = false := by simp; omega
                    have HAT : Hid ((l.take (q + 1)).all isD = true) := by show _ = _; rw [HAN.out]; unfold isD; simp; omega
                    go_wp2_with fail
                    go_roundw
                    case rel => exact ⟨q + 1, by omega, by go_num, by rw [HV.out]; congr 1; omega, HAT, by trivial⟩
                    case measure => simp [intOf]; omega
              · have HALL : Hid (l.take q = l) := List.take_of_length_le (by rw [HLS.out]; omega)
                obtain rfl : r = ((val l : Int), true) := by
                  have := HA.out
                  rw [HALL.out] at this
                  rw [HRN.out, this]; rfl
                rw [HALL.out]
                go_wp2_with fail
                go_ret2
                exact ⟨rfl, rfl⟩
end Go.Proofs.YtgoafahglajfmaaDoor
