/-
  The contracts of pack.ReadList and pushref.ReadList: each answers what YtompnobaledpaaaMath says, for every text of at most 2^47 bytes, the texts in a slice of new memory; what was there stays.
-/
import Derived.Test.YtompnobaledpaaaListWalks
namespace Go.Proofs.Ytompnobaledpaaa
open Go.RowKit
open Pack

/-- Bytes as texts. -/
def mk (l : List (List UInt8)) : List ByteArray := l.map (fun t => ByteArray.mk t.toArray)
theorem mk_length (l : List (List UInt8)) : (mk l).length = l.length := by simp [mk]
theorem bytes_mk (l : List (List UInt8)) : bytes (mk l) = l := by
  unfold bytes mk
  rw [List.map_map]
  have : ((fun s : ByteArray => s.data.toList) ∘ fun t : List UInt8 => ByteArray.mk t.toArray) = id := by funext t; simp
  rw [this, List.map_id]
theorem mk_bytes (ls : List ByteArray) : mk (bytes ls) = ls := by
  unfold bytes mk
  rw [List.map_map]
  have : ((fun t : List UInt8 => ByteArray.mk t.toArray) ∘ fun s : ByteArray => s.data.toList) = id := by funext t; simp
  rw [this, List.map_id]
/-- What was read already, ahead of the rest's reading. -/
def ahead (acc : List (List UInt8)) (x : Nat × List (List UInt8) × List UInt8) : Nat × List (List UInt8) × List UInt8 := (x.1, acc ++ x.2.1, x.2.2)
theorem ahead_step (acc : List (List UInt8)) (c : Nat) (l : List UInt8) (h : te l = 0) : ahead acc (rl (c + 1) l) = ahead (acc ++ [tt l]) (rl c (l.drop (tk l))) := by
  unfold ahead; rw [rl, if_pos h]; simp
theorem rl_bad (c : Nat) (l : List UInt8) (h : te l ≠ 0) : (rl (c + 1) l).1 = te l := by rw [rl, if_neg h]
theorem tail_bytes (s : ByteArray) (a : Nat) : (s.extract a s.size).data.toList = s.data.toList.drop a := by
  simp
  exact List.take_of_length_le (by simp)
theorem le_len (l : List UInt8) (h : lE 100 l ≠ 0) : le l = lE 100 l ∧ ll l = [] := by
  have e : le l = lE 100 l := by
    unfold le
    unfold lE at h ⊢
    split
    · rfl
    · split
      · rfl
      · rename_i a b; rw [if_neg a, if_neg b] at h; exact absurd rfl h
  exact ⟨e, by unfold ll; rw [if_neg (by omega)]⟩
theorem lE_zero (l : List UInt8) (h : lE 100 l = 0) : re l = 0 ∧ rn l ≤ 100 ∧ lN 100 l = rn l ∧ lK 100 l = rk l := by
  by_cases h0 : re l = 0
  · by_cases h1 : 100 < rn l
    · have := (lE_large 100 l h0 h1).1; omega
    · exact ⟨h0, by omega, (lE_ok 100 l h0 (by omega)).2⟩
  · have := (lE_bad 100 l h0).1; omega
/-- A text cannot be read. -/
theorem le_text (l : List UInt8) (h : lE 100 l = 0) (acc : List (List UInt8)) (c : Nat) (m : List UInt8) (hm : te m ≠ 0) (hr : rl (rn l) (l.drop (rk l)) = ahead acc (rl (c + 1) m)) : le l = te m ∧ ll l = [] := by
  obtain ⟨h0, h1, _, _⟩ := lE_zero l h
  have e1 : (rl (rn l) (l.drop (rk l))).1 = te m := by rw [hr]; exact rl_bad c m hm
  have e : le l = te m := by
    unfold le; rw [if_neg (by omega), if_neg (by omega), if_pos (by rw [e1]; exact hm), e1]
  exact ⟨e, by unfold ll; rw [if_neg (by omega)]⟩
/-- All texts are read, bytes are left. -/
theorem le_left (l : List UInt8) (h : lE 100 l = 0) (acc : List (List UInt8)) (m : List UInt8) (hm : m ≠ []) (hr : rl (rn l) (l.drop (rk l)) = ahead acc (rl 0 m)) : le l = 4 ∧ ll l = [] := by
  obtain ⟨h0, h1, _, _⟩ := lE_zero l h
  have e : le l = 4 := by
    unfold le; rw [if_neg (by omega), if_neg (by omega), hr]; simp [ahead, rl, hm]
  exact ⟨e, by unfold ll; rw [if_neg (by omega)]⟩
/-- All is read. -/
theorem le_done (l : List UInt8) (h : lE 100 l = 0) (acc : List (List UInt8)) (hr : rl (rn l) (l.drop (rk l)) = ahead acc (rl 0 [])) : le l = 0 ∧ ll l = acc := by
  obtain ⟨h0, h1, _, _⟩ := lE_zero l h
  have e : le l = 0 := by
    unfold le; rw [if_neg (by omega), if_neg (by omega), hr]; simp [ahead, rl]
  exact ⟨e, by unfold ll; rw [if_pos e, hr]; simp [ahead, rl]⟩
theorem info9 : (Try.prog.info? 9).map (fun i => (i.zero, i.size, i.bytes)) = some (some (.string ⟨#[]⟩), 1, 16) := by kernel_rfl
theorem texts_snoc (acc : List (List UInt8)) (t : List UInt8) : (mk (acc ++ [t])).map Value.string = (mk acc).map Value.string ++ [.string ⟨t.toArray⟩] := by simp [mk]

set_option maxHeartbeats 1600000 in
set_option maxRecDepth 20000 in
theorem readlist_any (s : ByteArray) (hs : s.size ≤ 140737488351232) (w : World) :
    Calls Try.prog 18 #[.string s] w fun e w' => ∃ v, e = .returned (.tuple #[v, .int .i64 ((le s.data.toList : Nat) : Int)]) ∧ w'.ownsRow w.heap.size 9 1 v (mk (ll s.data.toList)).length ((mk (ll s.data.toList)).map Value.string) ∧ Below w.heap.size w w' := by
  have hlen : s.data.toList.length = s.size := by simp
  have hrk := rk_le s.data.toList
  obtain ⟨i0, hi, hz0, hz1, hz2⟩ := info_parts info9
  by_cases h0 : lE 100 s.data.toList = 0
  · obtain ⟨_, hn, e2, e3⟩ := lE_zero _ h0
    obtain ⟨n, HN, hn2⟩ : ∃ n : Nat, Hid (n = rn s.data.toList) ∧ n ≤ 100 := ⟨_, rfl, hn⟩
    obtain ⟨k0, HK, hk0, hk1⟩ : ∃ k : Nat, Hid (k = rk s.data.toList) ∧ k ≤ s.size ∧ k ≤ 10 := ⟨_, rfl, by omega, by omega⟩
    have H0 : Hid (lE 100 s.data.toList = 0) := h0
    rw [← HN.out] at e2
    rw [← HK.out] at e3
    clear hn hrk
    go_enter Try.func18, Try.ntmps18
    go_wp2_with fail
    refine (length_any s (by omega) _ 100 rfl (by omega) _).mono ?_
    rintro e w' ⟨rfl, hw'⟩
    subst hw'
    rw [h0, e2, e3]
    clear h0 e2 e3
    go_wp2_with fail
    go_loopw [21, 5, 7] (fun i a v wr => ∃ (k p : Nat) (acc : List (List UInt8)), k ≤ n ∧ p ≤ s.size ∧ i = .int .i64 (k : Int) ∧ a = .int .i64 (p : Int) ∧ acc.length = k ∧ Hid (rl (rn s.data.toList) (s.data.toList.drop (rk s.data.toList)) = ahead acc (rl (n - k) (s.data.toList.drop p))) ∧ wr.ownsRow w'.heap.size 9 1 v (mk acc).length ((mk acc).map Value.string) ∧ Below w'.heap.size w' wr) (fun i _ _ _ => n - (intOf i).toNat)
    case atStart => exact ⟨0, k0, [], by omega, hk0, rfl, rfl, rfl, by rw [← HN.out, ← HK.out]; simp [ahead]; exact trivial, World.ownsRow_nil _ _ _ _, Below.refl _ _⟩
    case round =>
      obtain ⟨k, p, acc, hk, hp, rfl, rfl, hacc, HR, hown, hbel⟩ := hrel
      have hsz := hbel.size
      have hml := mk_length acc
      by_cases hlt : k < n
      · have hp0 : (0 : Int) ≤ (p : Int) := Int.natCast_nonneg _
        have hp1 : (p : Int) ≤ (s.size : Int) := by omega
        have hte : (s.extract p s.size).size ≤ 9223372036854775000 := by simp; omega
        go_wp2_with fail
        refine (readtext_any (s.extract p s.size) hte _).mono ?_
        rintro e w2 ⟨rfl, hb2⟩
        rw [tail_bytes]
        by_cases ht : te (s.data.toList.drop p) = 0
        · obtain ⟨z, HZ, hz⟩ : ∃ z : Nat, tk (s.data.toList.drop p) = z ∧ p + z ≤ s.size := ⟨_, rfl, by have := (tk_pos _ ht).2; rw [List.length_drop] at this; omega⟩
          have HR2 : Hid (rl (rn s.data.toList) (s.data.toList.drop (rk s.data.toList)) = ahead (acc ++ [tt (s.data.toList.drop p)]) (rl (n - (k + 1)) (s.data.toList.drop (p + z)))) := by
            show _ = _
            rw [HR.out, show n - k = (n - (k + 1)) + 1 by omega, ahead_step _ _ _ ht, List.drop_drop, HZ]
          rw [ht, HZ]
          clear HZ ht
          have hsz2 := hb2.size
          go_wp2_with (at_builtin; refine wpList_append_own _ rfl _ _ 33 rfl w'.heap.size 9 i0 (.string ⟨#[]⟩) 1 16 Try.underlying33 hi hz0 hz1 hz2 rfl (by decide) _ _ _ rfl ((owns_below hown hb2).alloc _) ⟨w2.heap.size, 0, none⟩ 1 1 [.string ⟨(tt (s.data.toList.drop p)).toArray⟩] rfl rfl (World.news_of_block (t := 9) (fr := (0, 0)) (heap_alloc_new w2 _)) (by simp [Value.oneCell']) (by unfold maxLen; omega) (by omega) (by simp; omega) ?_)
          intro v' w3 hown' hgrow _
          have R : w3.ownsRow w'.heap.size 9 1 v' (mk (acc ++ [tt (s.data.toList.drop p)])).length ((mk (acc ++ [tt (s.data.toList.drop p)])).map Value.string) ∧ Below w'.heap.size w' w3 :=
            ⟨by rw [texts_snoc, mk_length, List.length_append, hacc]; exact hown', Below.grown ((hbel.trans (hb2.mono hsz)).alloc (by omega) _) hgrow (by simp; omega) (own_ge (owns_below hown hb2))⟩
          clear hown' hgrow hown hbel HR hb2
          go_wp2_with fail
          go_roundw
          case rel => exact ⟨k + 1, p + z, acc ++ [tt (s.data.toList.drop p)], by omega, by omega, by go_num, by go_num, by simp [hacc], HR2, R.1, R.2⟩
          case measure => simp [intOf]; omega
        · have hb : (((te (s.data.toList.drop p) : Nat) : Int) == 0) = false := by simp; omega
          have T : le s.data.toList = te (s.data.toList.drop p) ∧ ll s.data.toList = [] := le_text s.data.toList H0.out acc (n - (k + 1)) _ ht (by rw [HR.out, show n - k = (n - (k + 1)) + 1 by omega])
          have T1 : Hid (le s.data.toList = te (s.data.toList.drop p)) := T.1
          have T2 : Hid (ll s.data.toList = []) := T.2
          clear T
          go_wp2_with fail
          go_ret2
          exact ⟨_, by rw [T1.out]; rfl, by rw [T2.out]; exact World.ownsRow_nil _ _ _ _, hbel.trans (hb2.mono hsz)⟩
      · have hkn : n - k = 0 := by omega
        have HR3 : Hid (rl (rn s.data.toList) (s.data.toList.drop (rk s.data.toList)) = ahead acc (rl 0 (s.data.toList.drop p))) := by
          show _ = _
          rw [HR.out, hkn]
        clear hkn
        by_cases hps : p < s.size
        · have hps2 : (p : Int) < (s.size : Int) := by omega
          have T : le s.data.toList = 4 ∧ ll s.data.toList = [] := le_left s.data.toList H0.out acc _ (by intro e; have := congrArg List.length e; simp at this; omega) HR3.out
          have T1 : Hid (le s.data.toList = 4) := T.1
          have T2 : Hid (ll s.data.toList = []) := T.2
          clear T
          go_wp2_with fail
          go_ret2
          exact ⟨_, by rw [T1.out]; rfl, by rw [T2.out]; exact World.ownsRow_nil _ _ _ _, hbel⟩
        · have hps2 : (s.size : Int) ≤ (p : Int) := by omega
          have T : le s.data.toList = 0 ∧ ll s.data.toList = acc := le_done s.data.toList H0.out acc (by rw [HR3.out, List.drop_eq_nil_of_le (by omega)])
          have T1 : Hid (le s.data.toList = 0) := T.1
          have T2 : Hid (ll s.data.toList = acc) := T.2
          clear T
          go_wp2_with fail
          go_ret2
          exact ⟨_, by rw [T1.out]; rfl, by rw [T2.out]; exact hown, hbel⟩
  · obtain ⟨t1, t2⟩ := le_len _ h0
    rw [t1, t2]
    have hb : (((lE 100 s.data.toList : Nat) : Int) == 0) = false := by simp; omega
    go_enter Try.func18, Try.ntmps18
    go_wp2_with fail
    refine (length_any s (by omega) _ 100 rfl (by omega) _).mono ?_
    rintro e w' ⟨rfl, rfl⟩
    go_wp2_with fail
    go_ret2
    exact ⟨_, rfl, World.ownsRow_nil _ _ _ _, Below.refl _ _⟩

set_option maxHeartbeats 1600000 in
set_option maxRecDepth 20000 in
theorem refreadlist_any (s : ByteArray) (hs : s.size ≤ 140737488351232) (w : World) :
    Calls Try.prog 19 #[.string s] w fun e w' => ∃ v, e = .returned (.tuple #[v, .int .i64 ((le s.data.toList : Nat) : Int)]) ∧ w'.ownsRow w.heap.size 9 1 v (mk (ll s.data.toList)).length ((mk (ll s.data.toList)).map Value.string) ∧ Below w.heap.size w w' := by
  have hlen : s.data.toList.length = s.size := by simp
  have hrk := rk_le s.data.toList
  have hrn := rn_lt s.data.toList
  obtain ⟨i0, hi, hz0, hz1, hz2⟩ := info_parts info9
  by_cases h0 : lE 100 s.data.toList = 0
  · obtain ⟨e1, hn, _, _⟩ := lE_zero _ h0
    obtain ⟨n, HN, hn2⟩ : ∃ n : Nat, Hid (n = rn s.data.toList) ∧ n ≤ 100 := ⟨_, rfl, hn⟩
    obtain ⟨k0, HK, hk0, hk1⟩ : ∃ k : Nat, Hid (k = rk s.data.toList) ∧ k ≤ s.size ∧ k ≤ 10 := ⟨_, rfl, by omega, by omega⟩
    have H0 : Hid (lE 100 s.data.toList = 0) := h0
    clear hn hrk hrn h0
    go_enter Try.func19, Try.ntmps19
    go_wp2_with fail
    refine (refread_any s (by omega) _).mono ?_
    rintro e w' ⟨rfl, hw'⟩
    subst hw'
    rw [e1, ← HN.out, ← HK.out]
    clear e1
    go_wp2_with fail
    go_loopw [9, 7, 8] (fun i a v wr => ∃ (k p : Nat) (acc : List (List UInt8)), k ≤ n ∧ p ≤ s.size ∧ i = .int .i64 (k : Int) ∧ a = .int .i64 (p : Int) ∧ acc.length = k ∧ Hid (rl (rn s.data.toList) (s.data.toList.drop (rk s.data.toList)) = ahead acc (rl (n - k) (s.data.toList.drop p))) ∧ wr.ownsRow w'.heap.size 9 1 v (mk acc).length ((mk acc).map Value.string) ∧ Below w'.heap.size w' wr) (fun i _ _ _ => n - (intOf i).toNat)
    case atStart => exact ⟨0, k0, [], by omega, hk0, rfl, rfl, rfl, by rw [← HN.out, ← HK.out]; simp [ahead]; exact trivial, World.ownsRow_nil _ _ _ _, Below.refl _ _⟩
    case round =>
      obtain ⟨k, p, acc, hk, hp, rfl, rfl, hacc, HR, hown, hbel⟩ := hrel
      have hsz := hbel.size
      have hml := mk_length acc
      by_cases hlt : k < n
      · have hp0 : (0 : Int) ≤ (p : Int) := Int.natCast_nonneg _
        have hp1 : (p : Int) ≤ (s.size : Int) := by omega
        have hte : (s.extract p s.size).size ≤ 9223372036854775000 := by simp; omega
        go_wp2_with fail
        refine (reftext_any (s.extract p s.size) hte _).mono ?_
        rintro e w2 ⟨rfl, hw2⟩
        subst hw2
        rw [tail_bytes]
        by_cases ht : te (s.data.toList.drop p) = 0
        · obtain ⟨z, HZ, hz⟩ : ∃ z : Nat, tk (s.data.toList.drop p) = z ∧ p + z ≤ s.size := ⟨_, rfl, by have := (tk_pos _ ht).2; rw [List.length_drop] at this; omega⟩
          have HR2 : Hid (rl (rn s.data.toList) (s.data.toList.drop (rk s.data.toList)) = ahead (acc ++ [tt (s.data.toList.drop p)]) (rl (n - (k + 1)) (s.data.toList.drop (p + z)))) := by
            show _ = _
            rw [HR.out, show n - k = (n - (k + 1)) + 1 by omega, ahead_step _ _ _ ht, List.drop_drop, HZ]
          rw [ht, HZ]
          clear HZ ht
          go_wp2_with (at_builtin; refine wpList_append_own _ rfl _ _ 33 rfl w'.heap.size 9 i0 (.string ⟨#[]⟩) 1 16 Try.underlying33 hi hz0 hz1 hz2 rfl (by decide) _ _ _ rfl ((hown).alloc _) ⟨w2.heap.size, 0, none⟩ 1 1 [.string ⟨(tt (s.data.toList.drop p)).toArray⟩] rfl rfl (World.news_of_block (t := 9) (fr := (0, 0)) (heap_alloc_new w2 _)) (by simp [Value.oneCell']) (by unfold maxLen; omega) (by omega) (by simp; omega) ?_)
          intro v' w3 hown' hgrow _
          have R : w3.ownsRow w'.heap.size 9 1 v' (mk (acc ++ [tt (s.data.toList.drop p)])).length ((mk (acc ++ [tt (s.data.toList.drop p)])).map Value.string) ∧ Below w'.heap.size w' w3 :=
            ⟨by rw [texts_snoc, mk_length, List.length_append, hacc]; exact hown', Below.grown (hbel.alloc (by omega) _) hgrow (by simp; omega) (own_ge (hown))⟩
          clear hown' hgrow hown hbel HR
          go_wp2_with fail
          go_roundw
          case rel => exact ⟨k + 1, p + z, acc ++ [tt (s.data.toList.drop p)], by omega, by omega, by go_num, by go_num, by simp [hacc], HR2, R.1, R.2⟩
          case measure => simp [intOf]; omega
        · have hb : (((te (s.data.toList.drop p) : Nat) : Int) == 0) = false := by simp; omega
          have T : le s.data.toList = te (s.data.toList.drop p) ∧ ll s.data.toList = [] := le_text s.data.toList H0.out acc (n - (k + 1)) _ ht (by rw [HR.out, show n - k = (n - (k + 1)) + 1 by omega])
          have T1 : Hid (le s.data.toList = te (s.data.toList.drop p)) := T.1
          have T2 : Hid (ll s.data.toList = []) := T.2
          clear T
          go_wp2_with fail
          go_ret2
          exact ⟨_, by rw [T1.out]; rfl, by rw [T2.out]; exact World.ownsRow_nil _ _ _ _, hbel⟩
      · have hkn : n - k = 0 := by omega
        have HR3 : Hid (rl (rn s.data.toList) (s.data.toList.drop (rk s.data.toList)) = ahead acc (rl 0 (s.data.toList.drop p))) := by
          show _ = _
          rw [HR.out, hkn]
        clear hkn
        by_cases hps : p < s.size
        · have hps2 : (p : Int) < (s.size : Int) := by omega
          have hpb : ((p : Int) == (s.size : Int)) = false := by simp; omega
          have T : le s.data.toList = 4 ∧ ll s.data.toList = [] := le_left s.data.toList H0.out acc _ (by intro e; have := congrArg List.length e; simp at this; omega) HR3.out
          have T1 : Hid (le s.data.toList = 4) := T.1
          have T2 : Hid (ll s.data.toList = []) := T.2
          clear T
          go_wp2_with fail
          go_ret2
          exact ⟨_, by rw [T1.out]; rfl, by rw [T2.out]; exact World.ownsRow_nil _ _ _ _, hbel⟩
        · have hps2 : (s.size : Int) ≤ (p : Int) := by omega
          have hpe : p = s.size := by omega
          have T : le s.data.toList = 0 ∧ ll s.data.toList = acc := le_done s.data.toList H0.out acc (by rw [HR3.out, List.drop_eq_nil_of_le (by omega)])
          have T1 : Hid (le s.data.toList = 0) := T.1
          have T2 : Hid (ll s.data.toList = acc) := T.2
          clear T
          go_wp2_with fail
          go_ret2
          exact ⟨_, by rw [T1.out]; rfl, by rw [T2.out]; exact hown, hbel⟩
  · obtain ⟨t1, t2⟩ := le_len _ h0
    by_cases h1 : re s.data.toList = 0
    · by_cases h2 : 100 < rn s.data.toList
      · have T1 : Hid (le s.data.toList = 2) := by show le _ = 2; rw [t1]; exact (lE_large 100 _ h1 h2).1
        have T2 : Hid (ll s.data.toList = []) := t2
        clear t1 t2
        go_enter Try.func19, Try.ntmps19
        go_wp2_with fail
        refine (refread_any s (by omega) _).mono ?_
        rintro e w' ⟨rfl, rfl⟩
        rw [h1]
        go_wp2_with fail
        go_ret2
        exact ⟨_, by rw [T1.out]; rfl, by rw [T2.out]; exact World.ownsRow_nil _ _ _ _, Below.refl _ _⟩
      · exact absurd (lE_ok 100 _ h1 (by omega)).1 h0
    · have T1 : Hid (le s.data.toList = re s.data.toList) := by show le _ = _; rw [t1]; exact (lE_bad 100 _ h1).1
      have T2 : Hid (ll s.data.toList = []) := t2
      clear t1 t2
      have hb : (((re s.data.toList : Nat) : Int) == 0) = false := by simp; omega
      go_enter Try.func19, Try.ntmps19
      go_wp2_with fail
      refine (refread_any s (by omega) _).mono ?_
      rintro e w' ⟨rfl, rfl⟩
      go_wp2_with fail
      go_ret2
      exact ⟨_, by rw [T1.out]; rfl, by rw [T2.out]; exact World.ownsRow_nil _ _ _ _, Below.refl _ _⟩
end Go.Proofs.Ytompnobaledpaaa
