/-
  The contracts of strings.Clone, frame.look and frame.read: each answers what YtnheaafepejaoaaMath says (frame.read of bytes that are a frame's); what was there stays.
-/
import Derived.Test.YtnheaafepejaoaaWrites
import Derived.Test.YtnheaafepejaoaaShelf
import Derived.Deep.RegionHeld3
import Derived.Lib.SmallJoins
import Derived.Laws.BitsAllLaws
namespace Go.Proofs.Ytnheaafepejaoaa
open Go.RowKit
open Frm Crc

theorem clone_any (s : ByteArray) (h : s.size ≤ 281474976710656) (w : World) :
    Calls Try.prog 22 #[.string s] w fun e w' => e = .returned (.string s) ∧ Below w.heap.size w w' := by
  go_enter Try.func22, Try.ntmps22
  go_wp2_with fail
  refine (Try.stringslite_Clone s _ h).mono ?_
  rintro e w1 ⟨rfl, hb1⟩
  go_wp2_with fail
  go_ret
  exact ⟨rfl, hb1⟩

theorem at_list (s : ByteArray) (k : Nat) (h : k < s.size) : s[k] = s.data.toList.getD k 0 := by
  have h2 : k < s.data.toList.length := by simpa using h
  rw [List.getD_eq_getElem?_getD, List.getElem?_eq_getElem h2]; rfl
theorem len_list (s : ByteArray) : s.data.toList.length = s.size := by simp

theorem wrap64_byte (c : UInt8) : wrap64 (c.toNat : Int) = (c.toNat : Int) := by
  have := c.toNat_lt
  unfold wrap64; omega
theorem ext_list (s : ByteArray) (k n : Nat) : (s.extract k (k + n)).data.toList = (s.data.toList.drop k).take n := by simp
theorem front_list (s : ByteArray) (n : Nat) : (s.extract 0 n).data.toList = s.data.toList.take n := by simp
theorem tail_list (s : ByteArray) (k : Nat) : (s.extract k s.size).data.toList = s.data.toList.drop k := by
  simp
  exact List.take_of_length_le (by simp)
theorem tup2i {a a' b b' : Int} (h1 : a = a') (h2 : b = b') : Ending.returned (.tuple #[.int .i64 a, .int .i64 b]) = .returned (.tuple #[.int .i64 a', .int .i64 b']) := by rw [h1, h2]
theorem list_loop (b : ByteArray) : ∀ (k i : Nat) (r : List UInt8), b.size - i = k → ByteArray.toList.loop b i r = r.reverse ++ b.data.toList.drop i := by
  intro k
  induction k with
  | zero =>
    intro i r h
    unfold ByteArray.toList.loop
    rw [if_neg (by omega), List.drop_eq_nil_of_le (by simp; omega)]; simp
  | succ k ih =>
    intro i r h
    unfold ByteArray.toList.loop
    rw [if_pos (by omega), ih _ _ (by omega)]
    have h2 : i < b.data.toList.length := by simp; omega
    rw [List.drop_eq_getElem_cons h2]
    have h3 : b.get! i = b.data.toList[i] := by
      have h4 : i < b.data.size := by simpa using h2
      show b.data[i]! = _
      rw [getElem!_pos b.data i h4]; simp
    rw [h3]; simp
theorem list_data (b : ByteArray) : b.toList = b.data.toList := by
  unfold ByteArray.toList
  rw [list_loop b b.size 0 [] (by omega)]; simp
theorem wrap_i64 (n : Nat) (h : n < 9223372036854775808) : IntKind.i64.wrap (n : Int) = (n : Int) := by
  have e : (n : Int) % 2 ^ 64 = n := Int.emod_eq_of_lt (by omega) (by omega)
  simp only [IntKind.wrap, IntKind.bits, IntKind.signed, e]
  rw [if_neg]
  simp
  omega
theorem or_bytes (a b : Nat) (ha : a < 256) (hb : b < 256) : bits .or .i64 (a : Int) ((b : Int) * 256) = ((a + 256 * b : Nat) : Int) := by
  show IntKind.i64.wrap ((BitVec.ofInt 64 (a : Int) ||| BitVec.ofInt 64 (((b * 256 : Nat)) : Int)).toNat : Int) = _
  have e := Nat.two_pow_add_eq_or_of_lt (i := 8) (b := a) (by omega) b
  rw [BitVec.toNat_or, ofInt_u64 a (by omega), ofInt_u64 (b * 256) (by omega), Nat.or_comm, Nat.mul_comm b 256, show (256 : Nat) = 2 ^ 8 by decide, ← e, wrap_i64 _ (by omega)]
  omega
theorem data_at (s : ByteArray) (k : Nat) : s.data[k]?.getD 0 = s.data.toList.getD k 0 := by simp [List.getD]
theorem or_len (s : ByteArray) : bits .or .i64 (wrap64 ((s.data[2]?.getD 0).toNat : Int)) (wrap64 (wrap64 ((s.data[3]?.getD 0).toNat : Int) * 256)) = ((bl s.data.toList : Nat) : Int) := by
  have h2 := (s.data[2]?.getD 0).toNat_lt
  have h3 := (s.data[3]?.getD 0).toNat_lt
  have e : wrap64 (((s.data[3]?.getD 0).toNat : Int) * 256) = ((s.data[3]?.getD 0).toNat : Int) * 256 := by unfold wrap64; omega
  rw [wrap64_byte, wrap64_byte, e, or_bytes _ _ h2 h3, data_at, data_at]
  rfl
set_option maxHeartbeats 800000 in
set_option maxRecDepth 20000 in
theorem look_any (s : ByteArray) (hs : s.size ≤ 9223372036854775000) (w : World) :
    Calls Try.prog 23 #[.string s] w fun e w' => e = .returned (.tuple #[.int .i64 ((lkN s.data.toList : Nat) : Int), .int .i64 ((lkE s.data.toList : Nat) : Int)]) ∧ Below w.heap.size w w' := by
  have hl := len_list s
  by_cases h0 : 0 < s.size
  · have e0 := at_list s 0 h0
    have hw0 := wrap64_byte s[0]
    by_cases hk : okk s.data.toList
    · have hk2 := hk (by omega)
      rw [← e0] at hk2
      have hd : decide ((1 : Int) ≤ (s[0].toNat : Int) ∧ (s[0].toNat : Int) ≤ 9) = true := decide_eq_true (by omega)
      by_cases h4 : 4 ≤ s.size
      · have e2 := at_list s 2 (by omega)
        have e3 := at_list s 3 (by omega)
        have hq4 : (4 : Int) ≤ (s.size : Int) := by omega
        have hw2 := wrap64_byte s[2]
        have hw3 := wrap64_byte s[3]
        clear e0 hk2
        go_enter Try.func23, Try.ntmps23
        go_wp2_with fail
        refine (isKind_any _ _).mono ?_
        rintro e w1 ⟨rfl, hw1⟩
        subst hw1
        rw [hd]
        clear hd
        go_wp2_with fail
        go_quiet (fail)
        rw [or_len s]
        obtain ⟨n, HN⟩ : ∃ n, Hid (n = bl s.data.toList) := ⟨_, rfl⟩
        have HM := HN.out
        rw [← HM]
        by_cases h5 : n ≤ 1024
        · by_cases h6 : 8 + n ≤ s.size
          · have j5 : (n : Int) ≤ 1024 := by omega
            have j6 : 4 + (n : Int) + 4 ≤ (s.size : Int) := by omega
            have j7 : 0 ≤ (n : Int) := by omega
            have j8 : 4 + (n : Int) ≤ (s.size : Int) := by omega
            have hT : (4 + (n : Int)).toNat = 4 + n := by omega
            have HX : (s.extract (4 + n) (4 + n + 4)).toList = (s.data.toList.drop (4 + n)).take 4 := by rw [list_data, ext_list]
            by_cases h7 : tail (s.data.toList.take (4 + n)) = (s.data.toList.drop (4 + n)).take 4
            · obtain ⟨t1, t2⟩ := lk_whole s.data.toList hk (by omega) (by omega) (by omega) (by rw [← HM]; exact h7)
              rw [← HM] at t2
              have T1 : Hid (lkE s.data.toList = 0) := t1
              have T2 : Hid (lkN s.data.toList = 8 + n) := t2
              have hq : (tail (s.data.toList.take (4 + n)) == (s.extract (4 + n) (4 + n + 4)).toList) = true := by rw [HX]; simpa using h7
              clear t1 t2 HM HX h7
              go_wp2_with fail
              go_region_with ((go_at_call 18; refine (tail_any _ (by simp; omega) _).mono ?_; rintro e w' ⟨rfl, hbel⟩))
              all_goals
                go_wp2_with fail
                go_ret2
                exact ⟨by rw [T1.out, T2.out]; exact tup2i (by omega) rfl, (Go.Joins.below_draws _ _ _).trans (hbel.mono (by simp))⟩
            · obtain ⟨t1, t2⟩ := lk_sum s.data.toList hk (by omega) (by omega) (by omega) (by rw [← HM]; exact h7)
              have T1 : Hid (lkE s.data.toList = 5) := t1
              have T2 : Hid (lkN s.data.toList = 0) := t2
              have hq : (tail (s.data.toList.take (4 + n)) == (s.extract (4 + n) (4 + n + 4)).toList) = false := by rw [HX]; simpa using h7
              clear t1 t2 HM HX h7
              go_wp2_with fail
              go_region_with ((go_at_call 18; refine (tail_any _ (by simp; omega) _).mono ?_; rintro e w' ⟨rfl, hbel⟩))
              all_goals
                go_wp2_with fail
                go_ret2
                exact ⟨by rw [T1.out, T2.out]; rfl, (Go.Joins.below_draws _ _ _).trans (hbel.mono (by simp))⟩
          · obtain ⟨t1, t2⟩ := lk_short s.data.toList hk (by omega) (by omega) (by omega)
            have T1 : Hid (lkE s.data.toList = 0) := t1
            have T2 : Hid (lkN s.data.toList = 0) := t2
            clear t1 t2 HM
            have h5 : (n : Int) ≤ 1024 := by omega
            have h6 : (s.size : Int) < 4 + (n : Int) + 4 := by omega
            go_wp2_with fail
            go_ret2
            exact ⟨by rw [T1.out, T2.out]; rfl, Go.Joins.below_draws _ _ _⟩
        · obtain ⟨t1, t2⟩ := lk_large s.data.toList hk (by omega) (by omega)
          have T1 : Hid (lkE s.data.toList = 2) := t1
          have T2 : Hid (lkN s.data.toList = 0) := t2
          clear t1 t2 HM
          have h5 : (1024 : Int) < (n : Int) := by omega
          go_wp2_with fail
          go_ret2
          exact ⟨by rw [T1.out, T2.out]; rfl, Go.Joins.below_draws _ _ _⟩
      · obtain ⟨t1, t2⟩ := lk_few _ hk (by omega)
        rw [t1, t2]
        have h4 : (s.size : Int) < 4 := by omega
        clear t1 t2 e0 hk2
        go_enter Try.func23, Try.ntmps23
        go_wp2_with fail
        refine (isKind_any _ _).mono ?_
        rintro e w1 ⟨rfl, hw1⟩
        subst hw1
        rw [hd]
        go_wp2_with fail
        go_ret2
        exact ⟨rfl, Below.refl _ _⟩
    · obtain ⟨t1, t2⟩ := lk_kind _ hk
      rw [t1, t2]
      have hd : decide ((1 : Int) ≤ (s[0].toNat : Int) ∧ (s[0].toNat : Int) ≤ 9) = false := decide_eq_false (fun x => hk (fun _ => by rw [← e0]; omega))
      clear t1 t2 e0
      go_enter Try.func23, Try.ntmps23
      go_wp2_with fail
      refine (isKind_any _ _).mono ?_
      rintro e w1 ⟨rfl, hw1⟩
      subst hw1
      rw [hd]
      go_wp2_with fail
      go_ret2
      exact ⟨rfl, Below.refl _ _⟩
  · obtain ⟨t1, t2⟩ := lk_few s.data.toList (fun x => by omega) (by omega)
    rw [t1, t2]
    have h0 : s.size = 0 := by omega
    clear t1 t2
    go_enter Try.func23, Try.ntmps23
    go_wp2_with fail
    go_ret2
    exact ⟨rfl, Below.refl _ _⟩
end Go.Proofs.Ytnheaafepejaoaa
