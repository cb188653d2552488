/-
  The contracts of pack.Text, pack.readLength, pack.ReadText and pushref.ReadText: each answers what YtompnobaledpaaaMath says, for every text of at most 2^63 - 1 bytes (of at most 2^48 where it is copied); what was there stays.
-/
import Derived.Test.YtompnobaledpaaaNumWalks
import Derived.Test.YtompnobaledpaaaShelf
namespace Go.Proofs.Ytompnobaledpaaa
open Go.RowKit
open Pack

theorem cat_text (s : ByteArray) : ByteArray.mk (num s.size).toArray ++ s = ByteArray.mk (text s.data.toList).toArray := by
  apply ByteArray.ext
  unfold text
  simp
theorem text_ok (s : ByteArray) (h : s.size ≤ 4096) (w : World) :
    Calls Try.prog 13 #[.string s] w fun e w' => e = .returned (.tuple #[.string ⟨(text s.data.toList).toArray⟩, .int .i64 0]) ∧ Below w.heap.size w w' := by
  have hl := (num_len s.size (by omega)).1
  have hs1 : (ByteArray.mk (num s.size).toArray).size + s.size ≤ 9223372036854775807 := by show (num s.size).toArray.size + s.size ≤ _; simp; omega
  have hq : (s.size : Int) ≤ 4096 := by omega
  go_enter Try.func13, Try.ntmps13
  go_wp2_with fail
  refine (num_any s.size (by omega) _).mono ?_
  rintro e w1 ⟨rfl, hb1⟩
  go_wp2_with fail
  go_ret2
  exact ⟨by rw [cat_text]; rfl, hb1⟩
theorem text_large (s : ByteArray) (h : 4096 < s.size) (w : World) :
    Calls Try.prog 13 #[.string s] w fun e w' => e = .returned (.tuple #[.string ⟨#[]⟩, .int .i64 2]) ∧ w' = w := by
  have hq : (4096 : Int) < (s.size : Int) := by omega
  go_enter Try.func13, Try.ntmps13
  go_wp2_with fail
  go_ret2
  exact ⟨rfl, rfl⟩
theorem clone_any (s : ByteArray) (h : s.size ≤ 281474976710656) (w : World) :
    Calls Try.prog 24 #[.string s] w fun e w' => e = .returned (.string s) ∧ Below w.heap.size w w' := by
  go_enter Try.func24, Try.ntmps24
  go_wp2_with fail
  refine (Try.stringslite_Clone s _ h).mono ?_
  rintro e w1 ⟨rfl, hb1⟩
  go_wp2_with fail
  go_ret
  exact ⟨rfl, hb1⟩
/-- Reading a length of at most m: the error, the number, how many bytes. -/
def lE (m : Nat) (l : List UInt8) : Nat := if re l ≠ 0 then re l else if m < rn l then 2 else 0
def lN (m : Nat) (l : List UInt8) : Nat := if lE m l = 0 then rn l else 0
def lK (m : Nat) (l : List UInt8) : Nat := if lE m l = 0 then rk l else 0
theorem tup3i {a a' b b' c c' : Int} (h1 : a = a') (h2 : b = b') (h3 : c = c') : Ending.returned (.tuple #[.int .i64 a, .int .i64 b, .int .i64 c]) = .returned (.tuple #[.int .i64 a', .int .i64 b', .int .i64 c']) := by rw [h1, h2, h3]
theorem lE_bad (m : Nat) (l : List UInt8) (h : re l ≠ 0) : lE m l = re l ∧ lN m l = 0 ∧ lK m l = 0 := by
  have e : lE m l = re l := by unfold lE; rw [if_pos h]
  unfold lN lK; rw [e, if_neg h, if_neg h]; exact ⟨rfl, rfl, rfl⟩
theorem lE_large (m : Nat) (l : List UInt8) (h : re l = 0) (h2 : m < rn l) : lE m l = 2 ∧ lN m l = 0 ∧ lK m l = 0 := by
  have e : lE m l = 2 := by unfold lE; rw [if_neg (by omega), if_pos h2]
  unfold lN lK; rw [e, if_neg (by omega), if_neg (by omega)]; exact ⟨rfl, rfl, rfl⟩
theorem lE_ok (m : Nat) (l : List UInt8) (h : re l = 0) (h2 : rn l ≤ m) : lE m l = 0 ∧ lN m l = rn l ∧ lK m l = rk l := by
  have e : lE m l = 0 := by unfold lE; rw [if_neg (by omega), if_neg (by omega)]
  unfold lN lK; rw [e, if_pos rfl, if_pos rfl]; exact ⟨rfl, rfl, rfl⟩
set_option maxRecDepth 20000 in
theorem length_any (s : ByteArray) (hs : s.size ≤ 9223372036854775807) (z : Int) (m : Nat) (hz : z = (m : Int)) (hm : m ≤ 4096) (w : World) :
    Calls Try.prog 23 #[.string s, .int .u64 z] w fun e w' => e = .returned (.tuple #[.int .i64 ((lN m s.data.toList : Nat) : Int), .int .i64 ((lK m s.data.toList : Nat) : Int), .int .i64 ((lE m s.data.toList : Nat) : Int)]) ∧ w' = w := by
  subst hz
  have hlt := re_lt s.data.toList
  have hrn := rn_lt s.data.toList
  by_cases h0 : re s.data.toList = 0
  · by_cases h1 : m < rn s.data.toList
    · obtain ⟨e1, e2, e3⟩ := lE_large m _ h0 h1
      rw [e1, e2, e3]
      clear e1 e2 e3
      go_enter Try.func23, Try.ntmps23
      go_wp2_with fail
      refine (read_any s hs _).mono ?_
      rintro e w' ⟨rfl, rfl⟩
      rw [h0]
      go_wp2_with fail
      go_ret3
      exact ⟨rfl, rfl⟩
    · obtain ⟨e1, e2, e3⟩ := lE_ok m _ h0 (by omega)
      rw [e1, e2, e3]
      clear e1 e2 e3
      go_enter Try.func23, Try.ntmps23
      go_wp2_with fail
      refine (read_any s hs _).mono ?_
      rintro e w' ⟨rfl, rfl⟩
      rw [h0]
      go_wp2_with fail
      go_ret3
      exact ⟨tup3i (by first | rfl | omega) rfl rfl, rfl⟩
  · obtain ⟨e1, e2, e3⟩ := lE_bad m _ h0
    rw [e1, e2, e3]
    clear e1 e2 e3
    have hb : (((re s.data.toList : Nat) : Int) == 0) = false := by simp; omega
    go_enter Try.func23, Try.ntmps23
    go_wp2_with fail
    refine (read_any s hs _).mono ?_
    rintro e w' ⟨rfl, rfl⟩
    go_wp2_with fail
    go_ret3
    exact ⟨rfl, rfl⟩

theorem ext_list (s : ByteArray) (k n : Nat) : s.extract k (k + n) = ByteArray.mk ((s.data.toList.drop k).take n).toArray := by
  apply ByteArray.ext
  apply Array.ext'
  simp
theorem te_bad (l : List UInt8) (h : re l ≠ 0) : te l = re l ∧ tt l = [] ∧ tk l = 0 := by
  have e : te l = re l := by unfold te; rw [if_pos h]
  unfold tt tk; rw [e, if_neg h, if_neg h]; exact ⟨rfl, rfl, rfl⟩
theorem te_large (l : List UInt8) (h : re l = 0) (h2 : 4096 < rn l) : te l = 2 ∧ tt l = [] ∧ tk l = 0 := by
  have e : te l = 2 := by unfold te; rw [if_neg (by omega), if_pos h2]
  unfold tt tk; rw [e, if_neg (by omega), if_neg (by omega)]; exact ⟨rfl, rfl, rfl⟩
theorem te_short (l : List UInt8) (h : re l = 0) (h2 : rn l ≤ 4096) (h3 : l.length < rk l + rn l) : te l = 3 ∧ tt l = [] ∧ tk l = 0 := by
  have e : te l = 3 := by unfold te; rw [if_neg (by omega), if_neg (by omega), if_pos h3]
  unfold tt tk; rw [e, if_neg (by omega), if_neg (by omega)]; exact ⟨rfl, rfl, rfl⟩
theorem te_ok (l : List UInt8) (h : re l = 0) (h2 : rn l ≤ 4096) (h3 : rk l + rn l ≤ l.length) : te l = 0 ∧ tt l = (l.drop (rk l)).take (rn l) ∧ tk l = rk l + rn l := by
  have e : te l = 0 := by unfold te; rw [if_neg (by omega), if_neg (by omega), if_neg (by omega)]
  unfold tt tk; rw [if_pos e, if_pos e]; exact ⟨e, rfl, rfl⟩

set_option maxHeartbeats 800000 in
set_option maxRecDepth 20000 in
theorem readtext_any (s : ByteArray) (hs : s.size ≤ 9223372036854775000) (w : World) :
    Calls Try.prog 14 #[.string s] w fun e w' => e = .returned (.tuple #[.string ⟨(tt s.data.toList).toArray⟩, .int .i64 ((tk s.data.toList : Nat) : Int), .int .i64 ((te s.data.toList : Nat) : Int)]) ∧ Below w.heap.size w w' := by
  have hlen : s.data.toList.length = s.size := by simp
  have hrk := rk_le s.data.toList
  by_cases h0 : re s.data.toList = 0
  · by_cases h1 : 4096 < rn s.data.toList
    · obtain ⟨e1, e2, e3⟩ := lE_large 4096 _ h0 h1
      obtain ⟨t1, t2, t3⟩ := te_large _ h0 h1
      rw [t1, t2, t3]
      clear t1 t2 t3
      go_enter Try.func14, Try.ntmps14
      go_wp2_with fail
      refine (length_any s (by omega) _ 4096 rfl (by omega) _).mono ?_
      rintro e w' ⟨rfl, rfl⟩
      rw [e1, e2, e3]
      go_wp2_with fail
      go_ret3
      exact ⟨rfl, Below.refl _ _⟩
    · obtain ⟨e1, e2, e3⟩ := lE_ok 4096 _ h0 (by omega)
      obtain ⟨k, hk⟩ : ∃ k, k = rk s.data.toList := ⟨_, rfl⟩
      obtain ⟨n, hn⟩ : ∃ n, n = rn s.data.toList := ⟨_, rfl⟩
      rw [← hn] at h1 e2
      rw [← hk] at hrk e3
      by_cases h2 : s.size < k + n
      · obtain ⟨t1, t2, t3⟩ := te_short s.data.toList h0 (by omega) (by omega)
        rw [t1, t2, t3]
        clear t1 t2 t3 hk hn
        go_enter Try.func14, Try.ntmps14
        go_wp2_with fail
        refine (length_any s (by omega) _ 4096 rfl (by omega) _).mono ?_
        rintro e w' ⟨rfl, rfl⟩
        rw [e1, e2, e3]
        clear e1 e2 e3
        go_wp2_with fail
        go_ret3
        exact ⟨rfl, Below.refl _ _⟩
      · obtain ⟨t1, t2, t3⟩ := te_ok s.data.toList h0 (by omega) (by omega)
        rw [← hn, ← hk] at t2 t3
        have he := ext_list s k n
        rw [← t2] at he
        rw [t1, t3]
        have HE : Hid (s.extract k (k + n) = ByteArray.mk (tt s.data.toList).toArray) := he
        have hsz : (s.extract k (k + n)).size ≤ 281474976710656 := by simp; omega
        clear t1 t2 t3 hk hn he
        go_enter Try.func14, Try.ntmps14
        go_wp2_with fail
        refine (length_any s (by omega) _ 4096 rfl (by omega) _).mono ?_
        rintro e w' ⟨rfl, rfl⟩
        rw [e1, e2, e3]
        clear e1 e2 e3
        go_wp2_with fail
        refine (clone_any (s.extract k (k + n)) hsz _).mono ?_
        rintro e w2 ⟨rfl, hb⟩
        go_wp2_with fail
        go_ret3
        exact ⟨by rw [← HE.out]; rfl, hb⟩
  · obtain ⟨e1, e2, e3⟩ := lE_bad 4096 _ h0
    obtain ⟨t1, t2, t3⟩ := te_bad _ h0
    rw [t1, t2, t3]
    clear t1 t2 t3
    have hb : (((re s.data.toList : Nat) : Int) == 0) = false := by simp; omega
    go_enter Try.func14, Try.ntmps14
    go_wp2_with fail
    refine (length_any s (by omega) _ 4096 rfl (by omega) _).mono ?_
    rintro e w' ⟨rfl, rfl⟩
    rw [e1, e2, e3]
    go_wp2_with fail
    go_ret3
    exact ⟨rfl, Below.refl _ _⟩

set_option maxHeartbeats 800000 in
set_option maxRecDepth 20000 in
theorem reftext_any (s : ByteArray) (hs : s.size ≤ 9223372036854775000) (w : World) :
    Calls Try.prog 15 #[.string s] w fun e w' => e = .returned (.tuple #[.string ⟨(tt s.data.toList).toArray⟩, .int .i64 ((tk s.data.toList : Nat) : Int), .int .i64 ((te s.data.toList : Nat) : Int)]) ∧ w' = w := by
  have hlen : s.data.toList.length = s.size := by simp
  have hrk := rk_le s.data.toList
  by_cases h0 : re s.data.toList = 0
  · obtain ⟨k, hk⟩ : ∃ k, k = rk s.data.toList := ⟨_, rfl⟩
    obtain ⟨n, hn⟩ : ∃ n, n = rn s.data.toList := ⟨_, rfl⟩
    have hrn := rn_lt s.data.toList
    by_cases h1 : 4096 < n
    · obtain ⟨t1, t2, t3⟩ := te_large _ h0 (by omega)
      rw [t1, t2, t3]
      clear t1 t2 t3
      go_enter Try.func15, Try.ntmps15
      go_wp2_with fail
      refine (refread_any s (by omega) _).mono ?_
      rintro e w' ⟨rfl, rfl⟩
      rw [h0, ← hk, ← hn]
      rw [← hk] at hrk
      rw [← hn] at hrn
      clear hk hn
      go_wp2_with fail
      go_ret3
      exact ⟨rfl, rfl⟩
    · by_cases h2 : s.size < k + n
      · obtain ⟨t1, t2, t3⟩ := te_short s.data.toList h0 (by omega) (by omega)
        rw [t1, t2, t3]
        clear t1 t2 t3
        go_enter Try.func15, Try.ntmps15
        go_wp2_with fail
        refine (refread_any s (by omega) _).mono ?_
        rintro e w' ⟨rfl, rfl⟩
        rw [h0, ← hk, ← hn]
        rw [← hk] at hrk
        rw [← hn] at hrn
        clear hk hn
        go_wp2_with fail
        go_ret3
        exact ⟨rfl, rfl⟩
      · obtain ⟨t1, t2, t3⟩ := te_ok s.data.toList h0 (by omega) (by omega)
        rw [← hn, ← hk] at t2 t3
        have he := ext_list s k n
        rw [← t2] at he
        rw [t1, t3]
        have HE : Hid (s.extract k (k + n) = ByteArray.mk (tt s.data.toList).toArray) := he
        clear t1 t2 t3 he
        go_enter Try.func15, Try.ntmps15
        go_wp2_with fail
        refine (refread_any s (by omega) _).mono ?_
        rintro e w' ⟨rfl, rfl⟩
        rw [h0, ← hk, ← hn]
        rw [← hk] at hrk
        rw [← hn] at hrn
        clear hk hn
        go_wp2_with fail
        go_ret3
        exact ⟨by rw [← HE.out]; rfl, rfl⟩
  · obtain ⟨t1, t2, t3⟩ := te_bad _ h0
    rw [t1, t2, t3]
    clear t1 t2 t3
    have hb : (((re s.data.toList : Nat) : Int) == 0) = false := by simp; omega
    go_enter Try.func15, Try.ntmps15
    go_wp2_with fail
    refine (refread_any s (by omega) _).mono ?_
    rintro e w' ⟨rfl, rfl⟩
    go_wp2_with fail
    go_ret3
    exact ⟨rfl, rfl⟩
end Go.Proofs.Ytompnobaledpaaa
