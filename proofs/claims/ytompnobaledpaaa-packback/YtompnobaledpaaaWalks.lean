/-
  The contracts of package pack's and pushref's calls on numbers: each answers what YtompnobaledpaaaMath says, for every text of at most 2^63 - 1 bytes and every number below 2^64.
-/
import Derived.Test.YtompnobaledpaaaRows
import Derived.Test.YtompnobaledpaaaMath
import Derived.WalkKit
import Derived.WalkLawsBesides
import Derived.WalkSpells
import Derived.Laws.BitsAllLaws
import Derived.Below
namespace Go.Proofs.Ytompnobaledpaaa
open Go.RowKit
open Pack

theorem ret_int {k : IntKind} {a b : Int} (h : a = b) : Ending.returned (.int k a) = .returned (.int k b) := by rw [h]
theorem val_int {k : IntKind} {a b : Int} (h : a = b) : Value.int k a = .int k b := by rw [h]

/-- May a byte end a number? -/
def good (i c : Nat) : Bool := !(decide (0 < i) && decide (c = 0)) && (decide (i < 9) || decide (c ≤ 1))

theorem ends_any (i c : Nat) (hi : i < 10) (hc : c < 256) (w : World) :
    Calls Try.prog 22 #[.int .i64 (i : Int), .int .u8 (c : Int)] w fun e w' => e = .returned (.bool (good i c)) ∧ w' = w := by
  by_cases h1 : 0 < i
  · by_cases h2 : c = 0
    · subst h2
      go_enter Try.func22, Try.ntmps22
      go_wp2
      go_ret
      exact ⟨by simp [good, h1], rfl⟩
    · have h3 : (((c : Int) == 0) = false) := by simp; omega
      by_cases h4 : i < 9
      · go_enter Try.func22, Try.ntmps22
        go_wp2
        go_ret
        exact ⟨by simp [good, h2, h4], rfl⟩
      · go_enter Try.func22, Try.ntmps22
        go_wp2
        go_ret
        exact ⟨by
          have e : (decide ((i : Int) < 9)) = false := by simp; omega
          have e2 : (decide ((c : Int) ≤ 1)) = decide (c ≤ 1) := by simp; omega
          simp [good, h2, h4, e, e2], rfl⟩
  · have h4 : i = 0 := by omega
    subst h4
    go_enter Try.func22, Try.ntmps22
    go_wp2
    go_ret
    exact ⟨by simp [good], rfl⟩

theorem or_byte (x c k : Nat) (hx : x < 18446744073709551616) : bits .or .u64 (x : Int) (IntKind.u64.wrap ((c : Int) % 128 * 2 ^ (7 * k))) = ((x ||| (c % 128 * 2 ^ (7 * k)) % 18446744073709551616 : Nat) : Int) := by
  have e : IntKind.u64.wrap ((c : Int) % 128 * 2 ^ (7 * k)) = ((c % 128 * 2 ^ (7 * k) % 18446744073709551616 : Nat) : Int) := by
    simp only [IntKind.wrap, IntKind.bits, IntKind.signed]
    simp
  rw [e]
  exact u64_or_nat x _ hx (Nat.mod_lt _ (by omega))
theorem byte_at (s : ByteArray) (k : Nat) (h : k < s.size) : (s.data.toList[k]'(by simpa using h)) = s[k] := rfl
theorem tup3 {a a' b b' c c' : Int} (h1 : a = a') (h2 : b = b') (h3 : c = c') : Ending.returned (.tuple #[.int .u64 a, .int .i64 b, .int .i64 c]) = .returned (.tuple #[.int .u64 a', .int .i64 b', .int .i64 c']) := by rw [h1, h2, h3]
theorem good_iff (k c : Nat) (hk : k ≤ 9) : good k c = true ↔ ¬ ((c = 0 ∧ 0 < k) ∨ (k = 9 ∧ 1 < c)) := by
  simp [good]; omega

set_option maxHeartbeats 800000 in
set_option maxRecDepth 20000 in
theorem read_any (s : ByteArray) (hs : s.size ≤ 9223372036854775807) (w : World) :
    Calls Try.prog 9 #[.string s] w fun e w' => e = .returned (.tuple #[.int .u64 ((rn s.data.toList : Nat) : Int), .int .i64 ((rk s.data.toList : Nat) : Int), .int .i64 ((re s.data.toList : Nat) : Int)]) ∧ w' = w := by
  obtain ⟨n, hm, hn1, hn2, hn3⟩ : ∃ n : Nat, (if (10 : Int) < (s.size : Int) then (10 : Int) else (s.size : Int)) = (n : Int) ∧ n ≤ s.size ∧ n ≤ 10 ∧ (n = s.size ∨ n = 10) := by
    refine ⟨min 10 s.size, ?_, by omega, by omega, by omega⟩
    split <;> omega
  have hlen : s.data.toList.length = s.size := by simp
  go_enter Try.func9, Try.ntmps9
  go_wp2
  clear hm
  go_loop [5, 10] (fun t i => ∃ k x : Nat, k ≤ n ∧ x < 18446744073709551616 ∧ k ≤ lead s.data.toList ∧ Hid (k ≤ 9 → x = val (s.data.toList.take k)) ∧ i = .int .i64 (k : Int) ∧ t = .int .u64 (x : Int)) (fun _ i => n - (intOf i).toNat)
  case atStart => exact ⟨0, 0, by omega, by omega, by omega, fun _ => rfl, rfl, rfl⟩
  case round =>
    obtain ⟨k, x, hk, hx, hl, HX, rfl, rfl⟩ := hrel
    by_cases hlt : k < n
    · have hk0 : (0 : Int) ≤ (k : Int) := Int.natCast_nonneg _
      have hk1 : (k : Int) < (s.size : Int) := by omega
      have hb := s[k].toNat_lt
      have hlk : k < s.data.toList.length := by omega
      have hx2 : x < 128 ^ k := by rw [HX.out (by omega)]; exact val_front_lt _ _
      have HS : Hid (val (s.data.toList.take (k + 1)) = val (s.data.toList.take k) + 128 ^ k * (s[k].toNat % 128)) := val_snoc s.data.toList k hlk
      by_cases hc : 128 ≤ s[k].toNat
      · have hl2 := lead_more s.data.toList k hlk hl hc
        go_wp2_with fail
        go_round
        case rel => exact ⟨k + 1, _, by omega, or_lt x _ hx, hl2, fun h9 => by rw [or_next x _ k (by omega) hx2 (by omega), HS.out, HX.out (by omega)], by go_num, val_int (or_byte x _ k hx)⟩
        case measure => simp [intOf]; omega
      · have he := lead_end s.data.toList k hlk hl (by rw [byte_at s k (by omega)]; omega)
        have hr := re_end s.data.toList k hlk he (by omega)
        have HR : Hid (re s.data.toList = if (s[k].toNat = 0 ∧ 0 < k) ∨ (k = 9 ∧ 1 < s[k].toNat) then 4 else 0) := hr
        clear hr
        go_wp2_with fail
        refine (ends_any k s[k].toNat (by omega) hb _).mono ?_
        rintro e w' ⟨rfl, rfl⟩
        by_cases hg : good k s[k].toNat = true
        · have hr : re s.data.toList = 0 := by rw [HR.out, if_neg ((good_iff k _ (by omega)).1 hg)]
          obtain ⟨h1, h2⟩ := rn_end s.data.toList k he hr
          have h3 : k = 9 → s[k].toNat ≤ 1 := fun e => by have := (good_iff k _ (by omega)).1 hg; omega
          rw [hg]
          go_wp2_with fail
          go_ret3
          exact ⟨tup3 (by rw [or_byte x _ k hx, or_next x _ k (by omega) hx2 h3, h1, HS.out, HX.out (by omega)]) (by rw [h2]; simp) (by first | rfl | (rw [hr]; rfl)), rfl⟩
        · have hr : re s.data.toList = 4 := by rw [HR.out, if_pos (Classical.not_not.1 fun h => hg ((good_iff k _ (by omega)).2 h))]
          have hg2 : good k s[k].toNat = false := by simpa using hg
          rw [hg2]
          go_wp2_with fail
          go_ret3
          exact ⟨tup3 (by rw [rn_bad _ (by omega)]; rfl) (by rw [rk_bad _ (by omega)]; rfl) (by first | rfl | (rw [hr]; rfl)), rfl⟩
    · by_cases h10 : s.size < 10
      · have hr := re_short s.data.toList (by omega) (by omega)
        go_wp2
        go_ret3
        exact ⟨tup3 (by rw [rn_bad _ (by omega)]; rfl) (by rw [rk_bad _ (by omega)]; rfl) (by first | rfl | (rw [hr]; rfl)), rfl⟩
      · have hr := re_long s.data.toList (by omega)
        go_wp2
        go_ret3
        exact ⟨tup3 (by rw [rn_bad _ (by omega)]; rfl) (by rw [rk_bad _ (by omega)]; rfl) (by first | rfl | (rw [hr]; rfl)), rfl⟩

set_option maxHeartbeats 1600000 in
set_option maxRecDepth 20000 in
theorem refread_any (s : ByteArray) (hs : s.size ≤ 9223372036854775807) (w : World) :
    Calls Try.prog 10 #[.string s] w fun e w' => e = .returned (.tuple #[.int .u64 ((rn s.data.toList : Nat) : Int), .int .i64 ((rk s.data.toList : Nat) : Int), .int .i64 ((re s.data.toList : Nat) : Int)]) ∧ w' = w := by
  have hlen : s.data.toList.length = s.size := by simp
  have hll := lead_le s.data.toList
  go_enter Try.func10, Try.ntmps10
  go_wp2
  go_loop [5] (fun i => ∃ k : Nat, k ≤ s.size ∧ k ≤ 10 ∧ k ≤ lead s.data.toList ∧ i = .int .i64 (k : Int)) (fun i => 10 - (intOf i).toNat)
  case atStart => exact ⟨0, by omega, by omega, by omega, rfl⟩
  case round =>
    obtain ⟨k, hk, hk10, hl, rfl⟩ := hrel
    have hk0 : (0 : Int) ≤ (k : Int) := Int.natCast_nonneg _
    by_cases h10 : k = 10
    · subst h10
      have hr := re_long s.data.toList (by omega)
      by_cases hs10 : (10 : Nat) < s.size
      · go_wp2_with fail
        go_ret3
        exact ⟨tup3 (by rw [rn_bad _ (by omega)]; rfl) (by rw [rk_bad _ (by omega)]; rfl) (by first | rfl | (rw [hr]; rfl)), rfl⟩
      · go_wp2_with fail
        go_ret3
        exact ⟨tup3 (by rw [rn_bad _ (by omega)]; rfl) (by rw [rk_bad _ (by omega)]; rfl) (by first | rfl | (rw [hr]; rfl)), rfl⟩
    · by_cases hlt : k < s.size
      · have hk1 : (k : Int) < (s.size : Int) := by omega
        have hb := s[k].toNat_lt
        have hlk : k < s.data.toList.length := by omega
        by_cases hc : 128 ≤ s[k].toNat
        · have hl2 := lead_more s.data.toList k hlk hl hc
          go_wp2_with fail
          go_round
          case rel => exact ⟨k + 1, by omega, by omega, hl2, by go_num⟩
          case measure => simp [intOf]; omega
        · have he := lead_end s.data.toList k hlk hl (by rw [byte_at s k (by omega)]; omega)
          have HR : Hid (re s.data.toList = if (s[k].toNat = 0 ∧ 0 < k) ∨ (k = 9 ∧ 1 < s[k].toNat) then 4 else 0) := re_end s.data.toList k hlk he (by omega)
          by_cases hg : (s[k].toNat = 0 ∧ 0 < k) ∨ (k = 9 ∧ 1 < s[k].toNat)
          · have hr : re s.data.toList = 4 := by rw [HR.out, if_pos hg]
            go_wp2_with fail
            all_goals first
              | (exfalso; have e9 : k = 9 := by omega
                 subst e9; omega)
              | (go_ret3
                 exact ⟨tup3 (by rw [rn_bad _ (by omega)]; rfl) (by rw [rk_bad _ (by omega)]; rfl) (by first | rfl | (rw [hr]; rfl)), rfl⟩)
          · have hr : re s.data.toList = 0 := by rw [HR.out, if_neg hg]
            obtain ⟨h1, h2⟩ := rn_end s.data.toList k he hr
            have H1 : Hid (rn s.data.toList = val (s.data.toList.take (k + 1))) := h1
            have H2 : Hid (rk s.data.toList = k + 1) := h2
            clear h1 h2
            by_cases hz : s[k].toNat = 0
            · have e0 : Hid (k = 0) := by show k = 0; omega
              have hzb : ((s[k].toNat : Int) == 0) = true := by simp [hz]
              have e0b : (k : Int) ≤ 0 := by have := e0.out; omega
              have h9b : ((k : Int) == 9) = false := by simp; have := e0.out; omega
              clear hz hg HR
              go_wp2_with fail
              go_loop [6, 7] (fun t i => ∃ m x : Nat, m ≤ k + 1 ∧ x < 18446744073709551616 ∧ Hid (x = val ((s.data.toList.take (k + 1)).drop m)) ∧ i = .int .i64 ((m : Int) - 1) ∧ t = .int .u64 (x : Int)) (fun _ i => (intOf i + 1).toNat)
              case atStart => exact ⟨k + 1, 0, by omega, by omega, by rw [List.drop_eq_nil_of_le (by simp; omega)]; rfl, val_int (by omega), rfl⟩
              case round =>
                obtain ⟨m, x, hmk, hx, HV, rfl, rfl⟩ := hrel
                by_cases hm0 : m = 0
                · subst hm0
                  go_wp2_with fail
                  go_ret3
                  exact ⟨tup3 (by rw [HV.out, H1.out]; rfl) (by rw [H2.out]; omega) (by first | rfl | (rw [hr]; rfl)), rfl⟩
                · obtain ⟨j, rfl⟩ : ∃ j, m = j + 1 := ⟨m - 1, by omega⟩
                  have hj : ((j + 1 : Nat) : Int) - 1 = (j : Int) := by omega
                  have hj0 : (0 : Int) ≤ (j : Int) := Int.natCast_nonneg _
                  have hj1 : (j : Int) < (s.size : Int) := by omega
                  have HD : Hid (val ((s.data.toList.take (k + 1)).drop j) = s[j].toNat % 128 + 128 * val ((s.data.toList.take (k + 1)).drop (j + 1))) := val_down s.data.toList k j (by omega) hlk
                  have HL : Hid (val ((s.data.toList.take (k + 1)).drop j) < 18446744073709551616) := down_lt s.data.toList k j he hr
                  have hbd : s[j].toNat % 128 + 128 * x < 18446744073709551616 := by have := HL.out; rw [HD.out, ← HV.out] at this; exact this
                  have hb1 : (x : Int) * 128 < 18446744073709551616 := by omega
                  have hb2 : (x : Int) * 128 + (s[j].toNat : Int) % 128 < 18446744073709551616 := by omega
                  rw [hj]
                  clear hj
                  go_wp2_with fail
                  go_round
                  case rel => exact ⟨j, s[j].toNat % 128 + 128 * x, by omega, hbd, by rw [HD.out, HV.out]; exact rfl, by first | rfl | go_num, val_int (by omega)⟩
                  case measure => simp [intOf] <;> omega
            · have hzb : ((s[k].toNat : Int) == 0) = false := by simp; omega
              by_cases h9 : ((k : Int) == 9) = true
              · have hc1 : (s[k].toNat : Int) ≤ 1 := by simp at h9; omega
                go_wp2_with fail
                go_loop [6, 7] (fun t i => ∃ m x : Nat, m ≤ k + 1 ∧ x < 18446744073709551616 ∧ Hid (x = val ((s.data.toList.take (k + 1)).drop m)) ∧ i = .int .i64 ((m : Int) - 1) ∧ t = .int .u64 (x : Int)) (fun _ i => (intOf i + 1).toNat)
                case atStart => exact ⟨k + 1, 0, by omega, by omega, by rw [List.drop_eq_nil_of_le (by simp; omega)]; rfl, val_int (by omega), rfl⟩
                case round =>
                  obtain ⟨m, x, hmk, hx, HV, rfl, rfl⟩ := hrel
                  by_cases hm0 : m = 0
                  · subst hm0
                    go_wp2_with fail
                    go_ret3
                    exact ⟨tup3 (by rw [HV.out, H1.out]; rfl) (by rw [H2.out]; omega) (by first | rfl | (rw [hr]; rfl)), rfl⟩
                  · obtain ⟨j, rfl⟩ : ∃ j, m = j + 1 := ⟨m - 1, by omega⟩
                    have hj : ((j + 1 : Nat) : Int) - 1 = (j : Int) := by omega
                    have hj0 : (0 : Int) ≤ (j : Int) := Int.natCast_nonneg _
                    have hj1 : (j : Int) < (s.size : Int) := by omega
                    have HD : Hid (val ((s.data.toList.take (k + 1)).drop j) = s[j].toNat % 128 + 128 * val ((s.data.toList.take (k + 1)).drop (j + 1))) := val_down s.data.toList k j (by omega) hlk
                    have HL : Hid (val ((s.data.toList.take (k + 1)).drop j) < 18446744073709551616) := down_lt s.data.toList k j he hr
                    have hbd : s[j].toNat % 128 + 128 * x < 18446744073709551616 := by have := HL.out; rw [HD.out, ← HV.out] at this; exact this
                    have hb1 : (x : Int) * 128 < 18446744073709551616 := by omega
                    have hb2 : (x : Int) * 128 + (s[j].toNat : Int) % 128 < 18446744073709551616 := by omega
                    rw [hj]
                    clear hj
                    go_wp2_with fail
                    go_round
                    case rel => exact ⟨j, s[j].toNat % 128 + 128 * x, by omega, hbd, by rw [HD.out, HV.out]; exact rfl, by first | rfl | go_num, val_int (by omega)⟩
                    case measure => simp [intOf] <;> omega
              · have h9b : ((k : Int) == 9) = false := by simpa using h9
                go_wp2_with fail
                go_loop [6, 7] (fun t i => ∃ m x : Nat, m ≤ k + 1 ∧ x < 18446744073709551616 ∧ Hid (x = val ((s.data.toList.take (k + 1)).drop m)) ∧ i = .int .i64 ((m : Int) - 1) ∧ t = .int .u64 (x : Int)) (fun _ i => (intOf i + 1).toNat)
                case atStart => exact ⟨k + 1, 0, by omega, by omega, by rw [List.drop_eq_nil_of_le (by simp; omega)]; rfl, val_int (by omega), rfl⟩
                case round =>
                  obtain ⟨m, x, hmk, hx, HV, rfl, rfl⟩ := hrel
                  by_cases hm0 : m = 0
                  · subst hm0
                    go_wp2_with fail
                    go_ret3
                    exact ⟨tup3 (by rw [HV.out, H1.out]; rfl) (by rw [H2.out]; omega) (by first | rfl | (rw [hr]; rfl)), rfl⟩
                  · obtain ⟨j, rfl⟩ : ∃ j, m = j + 1 := ⟨m - 1, by omega⟩
                    have hj : ((j + 1 : Nat) : Int) - 1 = (j : Int) := by omega
                    have hj0 : (0 : Int) ≤ (j : Int) := Int.natCast_nonneg _
                    have hj1 : (j : Int) < (s.size : Int) := by omega
                    have HD : Hid (val ((s.data.toList.take (k + 1)).drop j) = s[j].toNat % 128 + 128 * val ((s.data.toList.take (k + 1)).drop (j + 1))) := val_down s.data.toList k j (by omega) hlk
                    have HL : Hid (val ((s.data.toList.take (k + 1)).drop j) < 18446744073709551616) := down_lt s.data.toList k j he hr
                    have hbd : s[j].toNat % 128 + 128 * x < 18446744073709551616 := by have := HL.out; rw [HD.out, ← HV.out] at this; exact this
                    have hb1 : (x : Int) * 128 < 18446744073709551616 := by omega
                    have hb2 : (x : Int) * 128 + (s[j].toNat : Int) % 128 < 18446744073709551616 := by omega
                    rw [hj]
                    clear hj
                    go_wp2_with fail
                    go_round
                    case rel => exact ⟨j, s[j].toNat % 128 + 128 * x, by omega, hbd, by rw [HD.out, HV.out]; exact rfl, by first | rfl | go_num, val_int (by omega)⟩
                    case measure => simp [intOf] <;> omega
      · have ek : k = s.size := by omega
        have hr := re_short s.data.toList (by omega) (by omega)
        go_wp2_with fail
        go_ret3
        exact ⟨tup3 (by rw [rn_bad _ (by omega)]; rfl) (by rw [rk_bad _ (by omega)]; rfl) (by first | rfl | (rw [hr]; rfl)), rfl⟩
end Go.Proofs.Ytompnobaledpaaa
