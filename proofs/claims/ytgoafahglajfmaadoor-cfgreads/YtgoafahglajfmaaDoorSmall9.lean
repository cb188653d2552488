/-
  The contract of pushref.Small9.
-/
import Derived.Test.YtgoafahglajfmaaDoorRdNum
namespace Go.Proofs.YtgoafahglajfmaaDoor
open Go.RowKit
open Cg

/-- The digits that stand from a place on. -/
def digs (l : List UInt8) (a : Nat) : List UInt8 := (l.drop a).takeWhile isD
theorem tw_get (p : UInt8 → Bool) : ∀ (l : List UInt8) (i : Nat), i < (l.takeWhile p).length → ∃ h : i < l.length, (l.takeWhile p)[i]? = some l[i] ∧ p l[i] = true
  | [], i, h => by simp at h
  | b :: l, i, h => by
    by_cases hb : p b = true
    · rw [List.takeWhile_cons_of_pos hb] at h ⊢
      cases i with
      | zero => exact ⟨by simp, by simp, by simpa using hb⟩
      | succ i =>
        obtain ⟨h1, h2, h3⟩ := tw_get p l i (by simpa using h)
        exact ⟨by simp; omega, by simpa using h2, by simpa using h3⟩
    · rw [List.takeWhile_cons_of_neg hb] at h; simp at h
theorem tw_end (p : UInt8 → Bool) : ∀ (l : List UInt8) (h : (l.takeWhile p).length < l.length), p (l[(l.takeWhile p).length]) = false
  | [], h => by simp at h
  | b :: l, h => by
    by_cases hb : p b = true
    · have e : (b :: l).takeWhile p = b :: l.takeWhile p := List.takeWhile_cons_of_pos hb
      have ih := tw_end p l (by rw [e] at h; simpa using h)
      simp only [e, List.length_cons, List.getElem_cons_succ]
      exact ih
    · have e : (b :: l).takeWhile p = [] := List.takeWhile_cons_of_neg hb
      simp only [e, List.length_nil, List.getElem_cons_zero]
      simpa using hb
/-- What the digits are, place by place. -/
theorem digs_at (s : ByteArray) (a i : Nat) (h : i < (digs s.data.toList a).length) : ∃ h1 : a + i < s.size, (digs s.data.toList a)[i] = s[a + i] ∧ isD s[a + i] = true := by
  obtain ⟨h1, h2, h3⟩ := tw_get isD (s.data.toList.drop a) i h
  have hs : a + i < s.data.toList.length := by rw [List.length_drop] at h1; omega
  have e0 : (s.data.toList.drop a)[i] = s.data.toList[a + i] := by simp
  have e : s.data.toList[a + i] = s[a + i]'(by rw [← data_size]; exact hs) := rfl
  rw [e0, e] at h2 h3
  change (digs s.data.toList a)[i]? = _ at h2
  rw [List.getElem?_eq_getElem h] at h2
  exact ⟨by rw [← data_size]; exact hs, Option.some.inj h2, h3⟩
theorem digs_end (s : ByteArray) (a : Nat) (h : a + (digs s.data.toList a).length < s.size) : isD s[a + (digs s.data.toList a).length] = false := by
  have h1 : (digs s.data.toList a).length < (s.data.toList.drop a).length := by rw [List.length_drop, data_size]; omega
  have h2 := tw_end isD (s.data.toList.drop a) h1
  have e0 : (s.data.toList.drop a)[(digs s.data.toList a).length] = s.data.toList[a + (digs s.data.toList a).length]'(by rw [data_size]; exact h) := by simp
  rw [show (s.data.toList.drop a)[((s.data.toList.drop a).takeWhile isD).length]'h1 = _ from e0] at h2
  exact h2
theorem digs_le (s : ByteArray) (a : Nat) : (digs s.data.toList a).length ≤ s.size - a := by
  have h := (List.takeWhile_sublist isD (l := s.data.toList.drop a)).length_le
  rw [List.length_drop, data_size] at h
  exact h
def small9 (l : List UInt8) (a : Nat) : Int × Nat := if headOk (digs l a) = true then ((val (digs l a) : Int), a + (digs l a).length) else (-1, a)
theorem headOk_of (d : List UInt8) (h : headOk d = true) : d ≠ [] ∧ d.length ≤ 9 ∧ ¬ (d.head? = some 48 ∧ 1 < d.length) := by
  unfold headOk at h
  simp only [Bool.and_eq_true, decide_eq_true_eq, Bool.not_eq_true', Bool.and_eq_false_iff, decide_eq_false_iff_not] at h
  exact ⟨h.1.1, h.1.2, fun h2 => by rcases h.2 with h3 | h3 <;> simp_all⟩
theorem of_headOk (d : List UInt8) (h0 : d ≠ []) (h1 : d.length ≤ 9) (h2 : ¬ (d.head? = some 48 ∧ 1 < d.length)) : headOk d = true := by
  unfold headOk
  simp only [Bool.and_eq_true, decide_eq_true_eq, Bool.not_eq_true', Bool.and_eq_false_iff, decide_eq_false_iff_not]
  refine ⟨⟨h0, h1⟩, ?_⟩
  by_cases e : d.head? = some 48
  · right; exact fun h => h2 ⟨e, h⟩
  · left; exact e
set_option maxHeartbeats 8000000 in
set_option maxRecDepth 20000 in
theorem Small9_any (s : ByteArray) (a : Nat) (w : World) (ha : a ≤ 10000) (hs : s.size ≤ 4097) :
    Calls Tryd.prog 22 #[.string s, .int .i64 (a : Int)] w fun e w' => e = .returned (.tuple #[.int .i64 (small9 s.data.toList a).1, .int .i64 ((small9 s.data.toList a).2 : Int)]) ∧ w' = w := by
  obtain ⟨d, HD⟩ : ∃ d, Hid (digs s.data.toList a = d) := ⟨_, (rfl : digs s.data.toList a = digs s.data.toList a)⟩
  have HAT : Hid (∀ i (h : i < d.length), ∃ h1 : a + i < s.size, d[i] = s[a + i] ∧ isD s[a + i] = true) := fun i h => by
    have := digs_at s a i (by rw [HD.out]; exact h)
    simp only [HD.out] at this
    exact this
  have HEN : Hid (∀ h : a + d.length < s.size, isD s[a + d.length] = false) := fun h => by
    have := digs_end s a (by rw [HD.out]; exact h)
    simp only [HD.out] at this
    exact this
  have HDL : Hid (d.length ≤ s.size - a) := by show _ ≤ _; rw [← HD.out]; exact digs_le s a
  have HDA : Hid (d.all isD = true) := by
    show _ = _
    rw [List.all_eq_true]
    intro x hx
    obtain ⟨i, hi, rfl⟩ := List.getElem_of_mem hx
    obtain ⟨h1, h2, h3⟩ := HAT.out i hi
    rw [h2]; exact h3
  obtain ⟨rv, rk, HR⟩ : ∃ rv rk, Hid (small9 s.data.toList a = (rv, rk)) := ⟨_, _, (rfl : small9 s.data.toList a = small9 s.data.toList a)⟩
  have HRE : Hid ((rv, rk) = if headOk d = true then ((val d : Int), a + d.length) else (-1, a)) := by show _ = _; rw [← HR.out]; unfold small9; rw [HD.out]
  rw [HR.out]
  clear HR HD
  go_enter Tryd.func22, Tryd.ntmps22
  go_wp2_with fail
  go_loopw [6, 7] (fun v i wr => ∃ q : Nat, q ≤ d.length ∧ q ≤ 9 ∧ i = .int .i64 ((a + q : Nat) : Int) ∧ v = .int .i64 ((val (d.take q) : Nat) : Int) ∧ wr = w) (fun _ i _ => a + 10 - (intOf i).toNat)
  case atStart => exact ⟨0, by omega, by omega, by simp, by simp [val], rfl⟩
  case round =>
    obtain ⟨q, hq, hq9, rfl, rfl, rfl⟩ := hrel
    obtain ⟨k, HK⟩ : ∃ k, Hid (a + q = k) := ⟨_, (rfl : a + q = a + q)⟩
    rw [HK.out]
    have hka : a ≤ k := by rw [← HK.out]; omega
    have hk0 : k ≤ 20000 := by rw [← HK.out]; omega
    by_cases hqd : q < d.length
    · obtain ⟨h1, h2, h3⟩ := HAT.out q hqd
      have hks : k < s.size := by rw [← HK.out]; exact h1
      have HDQ : Hid (d[q] = s[k]) := by show _ = _; rw [h2]; simp only [HK.out]
      have HIS : Hid (isD s[k] = true) := by show _ = _; simp only [← HK.out]; exact h3
      have hdd := HIS.out
      unfold isD at hdd
      simp at hdd
      have b1 : decide ((k : Int) < (s.size : Int)) = true := by simp; omega
      have b2 : decide ((48 : Int) ≤ (s[k].toNat : Int)) = true := by simp; omega
      have b3 : decide ((s[k].toNat : Int) ≤ 57) = true := by simp; omega
      have hki : (k : Int) < (s.size : Int) := by omega
      clear h1 h2 h3
      by_cases h9 : q < 9
      · have b4 : decide ((k : Int) < (a : Int) + 9) = true := by have := HK.out; simp; omega
        have HV : Hid (val (d.take (q + 1)) = val (d.take q) * 10 + (s[k].toNat - 48)) := by
          show _ = _
          rw [val_take d q hqd, HDQ.out]
        have hvb : val (d.take q) < 1000000000 := by
          have h1 := val_lt d HDA.out q (by omega)
          have h2 : 10 ^ q ≤ 10 ^ 9 := Nat.pow_le_pow_right (by omega) (by omega)
          omega
        obtain ⟨vq, HVQ⟩ : ∃ vq, Hid (val (d.take q) = vq) := ⟨_, (rfl : val (d.take q) = val (d.take q))⟩
        rw [HVQ.out] at HV hvb ⊢
        go_wp2_with fail
        go_roundw
        case rel => exact ⟨q + 1, by omega, by omega, by have := HK.out; congr 1; omega, by rw [HV.out]; congr 1; omega, by trivial⟩
        case measure => have := HK.out; simp [intOf]; omega
      · have b4 : decide ((k : Int) < (a : Int) + 9) = false := by have := HK.out; simp; omega
        have hkk : ((k : Int) == (a : Int)) = false := by have := HK.out; simp; omega
        have hgt : decide ((a : Int) + 1 < (k : Int)) = true := by have := HK.out; simp; omega
        obtain ⟨rfl, rfl⟩ : rv = -1 ∧ a = rk := by
          have := HRE.out
          rw [if_neg (fun h => by have := (headOk_of d h).2.1; omega)] at this
          simp only [Prod.mk.injEq] at this
          exact ⟨this.1, this.2.symm⟩
        have hal : a < s.size := by omega
        have hai : (a : Int) < (s.size : Int) := by omega
        obtain ⟨vq, HVQ⟩ : ∃ vq, Hid (val (d.take q) = vq) := ⟨_, (rfl : val (d.take q) = val (d.take q))⟩
        rw [HVQ.out]
        by_cases hz : s[a].toNat = 48
        · have bz : ((s[a].toNat : Int) == 48) = true := by simp; omega
          go_wp2_with fail
          go_ret2
          exact ⟨rfl, rfl⟩
        · have bz : ((s[a].toNat : Int) == 48) = false := by simp; omega
          go_wp2_with fail
          go_ret2
          exact ⟨rfl, rfl⟩
    · have hqe : q = d.length := by omega
      subst hqe
      have HTK : Hid (d.take d.length = d) := List.take_of_length_le (Nat.le_refl _)
      rw [HTK.out]
      have hnd : ∀ h : k < s.size, ¬ (48 ≤ s[k].toNat ∧ s[k].toNat ≤ 57) := fun h hh => by
        have := HEN.out (by rw [HK.out]; exact h)
        simp only [HK.out] at this
        unfold isD at this
        simp at this
        omega
      have HND : Hid (∀ h : k < s.size, ¬ (48 ≤ s[k].toNat ∧ s[k].toNat ≤ 57)) := hnd
      clear hnd
      obtain ⟨vq, HVQ⟩ : ∃ vq, Hid (val d = vq) := ⟨_, (rfl : val d = val d)⟩
      rw [HVQ.out]
      by_cases hks : k < s.size
      · have b1 : decide ((k : Int) < (s.size : Int)) = true := by simp; omega
        have hki : (k : Int) < (s.size : Int) := by omega
        by_cases hlo : s[k].toNat < 48
        · have b2 : decide ((48 : Int) ≤ (s[k].toNat : Int)) = false := by simp; omega
          by_cases hd0 : d.length = 0
          · have hkk : ((k : Int) == (a : Int)) = true := by have := HK.out; simp; omega
            obtain ⟨rfl, rfl⟩ : rv = -1 ∧ a = rk := by
              have := HRE.out
              rw [if_neg (fun h => (headOk_of d h).1 (List.length_eq_zero_iff.1 hd0))] at this
              simp only [Prod.mk.injEq] at this
              exact ⟨this.1, this.2.symm⟩
            go_wp2_with fail
            go_ret2
            exact ⟨rfl, rfl⟩
          · have hkk : ((k : Int) == (a : Int)) = false := by have := HK.out; simp; omega
            obtain ⟨ha1, ha2, ha3⟩ := HAT.out 0 (by omega)
            have hal : a < s.size := by omega
            have hai : (a : Int) < (s.size : Int) := by omega
            have HH : Hid (d.head? = some s[a]) := by
              show _ = _
              rw [List.head?_eq_getElem?, List.getElem?_eq_getElem (by omega), ha2]; simp
            clear ha1 ha2 ha3
            by_cases hz : s[a].toNat = 48
            · have bz : ((s[a].toNat : Int) == 48) = true := by simp; omega
              have HZ : Hid (s[a] = 48) := UInt8.toNat_inj.1 (by rw [hz]; rfl)
              by_cases h1 : 1 < d.length
              · have bg : decide ((a : Int) + 1 < (k : Int)) = true := by have := HK.out; simp; omega
                obtain ⟨rfl, rfl⟩ : rv = -1 ∧ a = rk := by
                  have := HRE.out
                  rw [if_neg (fun h => (headOk_of d h).2.2 ⟨by rw [HH.out, HZ.out], h1⟩)] at this
                  simp only [Prod.mk.injEq] at this
                  exact ⟨this.1, this.2.symm⟩
                go_wp2_with fail
                go_ret2
                exact ⟨rfl, rfl⟩
              · have bg : decide ((a : Int) + 1 < (k : Int)) = false := by have := HK.out; simp; omega
                obtain ⟨rfl, rfl⟩ : rv = (vq : Int) ∧ rk = k := by
                  have := HRE.out
                  rw [if_pos (of_headOk d (fun e => hd0 (by rw [e]; rfl)) (by omega) (fun h => h1 h.2))] at this
                  simp only [Prod.mk.injEq] at this
                  exact ⟨by rw [this.1, HVQ.out], by rw [this.2]; exact HK.out⟩
                go_wp2_with fail
                go_ret2
                exact ⟨rfl, rfl⟩
            · have bz : ((s[a].toNat : Int) == 48) = false := by simp; omega
              have HNZ : Hid (s[a] ≠ 48) := fun e => hz (by rw [e]; rfl)
              obtain ⟨rfl, rfl⟩ : rv = (vq : Int) ∧ rk = k := by
                have := HRE.out
                rw [if_pos (of_headOk d (fun e => hd0 (by rw [e]; rfl)) (by omega) (fun h => by have := h.1; rw [HH.out] at this; exact HNZ.out (Option.some.inj this)))] at this
                simp only [Prod.mk.injEq] at this
                exact ⟨by rw [this.1, HVQ.out], by rw [this.2]; exact HK.out⟩
              go_wp2_with fail
              go_ret2
              exact ⟨rfl, rfl⟩
        · have b2 : decide ((48 : Int) ≤ (s[k].toNat : Int)) = true := by simp; omega
          have b3 : decide ((s[k].toNat : Int) ≤ 57) = false := by have := HND.out hks; simp; omega
          by_cases hd0 : d.length = 0
          · have hkk : ((k : Int) == (a : Int)) = true := by have := HK.out; simp; omega
            obtain ⟨rfl, rfl⟩ : rv = -1 ∧ a = rk := by
              have := HRE.out
              rw [if_neg (fun h => (headOk_of d h).1 (List.length_eq_zero_iff.1 hd0))] at this
              simp only [Prod.mk.injEq] at this
              exact ⟨this.1, this.2.symm⟩
            go_wp2_with fail
            go_ret2
            exact ⟨rfl, rfl⟩
          · have hkk : ((k : Int) == (a : Int)) = false := by have := HK.out; simp; omega
            obtain ⟨ha1, ha2, ha3⟩ := HAT.out 0 (by omega)
            have hal : a < s.size := by omega
            have hai : (a : Int) < (s.size : Int) := by omega
            have HH : Hid (d.head? = some s[a]) := by
              show _ = _
              rw [List.head?_eq_getElem?, List.getElem?_eq_getElem (by omega), ha2]; simp
            clear ha1 ha2 ha3
            by_cases hz : s[a].toNat = 48
            · have bz : ((s[a].toNat : Int) == 48) = true := by simp; omega
              have HZ : Hid (s[a] = 48) := UInt8.toNat_inj.1 (by rw [hz]; rfl)
              by_cases h1 : 1 < d.length
              · have bg : decide ((a : Int) + 1 < (k : Int)) = true := by have := HK.out; simp; omega
                obtain ⟨rfl, rfl⟩ : rv = -1 ∧ a = rk := by
                  have := HRE.out
                  rw [if_neg (fun h => (headOk_of d h).2.2 ⟨by rw [HH.out, HZ.out], h1⟩)] at this
                  simp only [Prod.mk.injEq] at this
                  exact ⟨this.1, this.2.symm⟩
                go_wp2_with fail
                go_ret2
                exact ⟨rfl, rfl⟩
              · have bg : decide ((a : Int) + 1 < (k : Int)) = false := by have := HK.out; simp; omega
                obtain ⟨rfl, rfl⟩ : rv = (vq : Int) ∧ rk = k := by
                  have := HRE.out
                  rw [if_pos (of_headOk d (fun e => hd0 (by rw [e]; rfl)) (by omega) (fun h => h1 h.2))] at this
                  simp only [Prod.mk.injEq] at this
                  exact ⟨by rw [this.1, HVQ.out], by rw [this.2]; exact HK.out⟩
                go_wp2_with fail
                go_ret2
                exact ⟨rfl, rfl⟩
            · have bz : ((s[a].toNat : Int) == 48) = false := by simp; omega
              have HNZ : Hid (s[a] ≠ 48) := fun e => hz (by rw [e]; rfl)
              obtain ⟨rfl, rfl⟩ : rv = (vq : Int) ∧ rk = k := by
                have := HRE.out
                rw [if_pos (of_headOk d (fun e => hd0 (by rw [e]; rfl)) (by omega) (fun h => by have := h.1; rw [HH.out] at this; exact HNZ.out (Option.some.inj this)))] at this
                simp only [Prod.mk.injEq] at this
                exact ⟨by rw [this.1, HVQ.out], by rw [this.2]; exact HK.out⟩
              go_wp2_with fail
              go_ret2
              exact ⟨rfl, rfl⟩
      · have b1 : decide ((k : Int) < (s.size : Int)) = false := by simp; omega
        by_cases hd0 : d.length = 0
        · have hkk : ((k : Int) == (a : Int)) = true := by have := HK.out; simp; omega
          obtain ⟨rfl, rfl⟩ : rv = -1 ∧ a = rk := by
            have := HRE.out
            rw [if_neg (fun h => (headOk_of d h).1 (List.length_eq_zero_iff.1 hd0))] at this
            simp only [Prod.mk.injEq] at this
            exact ⟨this.1, this.2.symm⟩
          go_wp2_with fail
          go_ret2
          exact ⟨rfl, rfl⟩
        · have hkk : ((k : Int) == (a : Int)) = false := by have := HK.out; simp; omega
          obtain ⟨ha1, ha2, ha3⟩ := HAT.out 0 (by omega)
          have hal : a < s.size := by omega
          have hai : (a : Int) < (s.size : Int) := by omega
          have HH : Hid (d.head? = some s[a]) := by
            show _ = _
            rw [List.head?_eq_getElem?, List.getElem?_eq_getElem (by omega), ha2]; simp
          clear ha1 ha2 ha3
          by_cases hz : s[a].toNat = 48
          · have bz : ((s[a].toNat : Int) == 48) = true := by simp; omega
            have HZ : Hid (s[a] = 48) := UInt8.toNat_inj.1 (by rw [hz]; rfl)
            by_cases h1 : 1 < d.length
            · have bg : decide ((a : Int) + 1 < (k : Int)) = true := by have := HK.out; simp; omega
              obtain ⟨rfl, rfl⟩ : rv = -1 ∧ a = rk := by
                have := HRE.out
                rw [if_neg (fun h => (headOk_of d h).2.2 ⟨by rw [HH.out, HZ.out], h1⟩)] at this
                simp only [Prod.mk.injEq] at this
                exact ⟨this.1, this.2.symm⟩
              go_wp2_with fail
              go_ret2
              exact ⟨rfl, rfl⟩
            · have bg : decide ((a : Int) + 1 < (k : Int)) = false := by have := HK.out; simp; omega
              obtain ⟨rfl, rfl⟩ : rv = (vq : Int) ∧ rk = k := by
                have := HRE.out
                rw [if_pos (of_headOk d (fun e => hd0 (by rw [e]; rfl)) (by omega) (fun h => h1 h.2))] at this
                simp only [Prod.mk.injEq] at this
                exact ⟨by rw [this.1, HVQ.out], by rw [this.2]; exact HK.out⟩
              go_wp2_with fail
              go_ret2
              exact ⟨rfl, rfl⟩
          · have bz : ((s[a].toNat : Int) == 48) = false := by simp; omega
            have HNZ : Hid (s[a] ≠ 48) := fun e => hz (by rw [e]; rfl)
            obtain ⟨rfl, rfl⟩ : rv = (vq : Int) ∧ rk = k := by
              have := HRE.out
              rw [if_pos (of_headOk d (fun e => hd0 (by rw [e]; rfl)) (by omega) (fun h => by have := h.1; rw [HH.out] at this; exact HNZ.out (Option.some.inj this)))] at this
              simp only [Prod.mk.injEq] at this
              exact ⟨by rw [this.1, HVQ.out], by rw [this.2]; exact HK.out⟩
            go_wp2_with fail
            go_ret2
            exact ⟨rfl, rfl⟩
end Go.Proofs.YtgoafahglajfmaaDoor
