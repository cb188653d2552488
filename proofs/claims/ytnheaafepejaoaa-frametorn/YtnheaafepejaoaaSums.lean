/-
  The contracts of sum.moveByte, sum.More, sum.Sum and pushref.Sum: each answers the number that YtnheaafepejaoaaCrc says, for every text of at most 2^63 - 1 bytes, and leaves the world as it was.
-/
import Derived.Test.YtnheaafepejaoaaRows
import Derived.Test.YtnheaafepejaoaaCrc
import Derived.WalkKit
import Derived.WalkLawsBesides
import Derived.WalkSpells
import Derived.Laws.BitsAllLaws
namespace Go.Proofs.Ytnheaafepejaoaa
open Go.RowKit
open Crc

theorem ret_int {k : IntKind} {a b : Int} (h : a = b) : Ending.returned (.int k a) = .returned (.int k b) := by rw [h]
theorem val_int {k : IntKind} {a b : Int} (h : a = b) : Value.int k a = .int k b := by rw [h]

theorem and_one32 (x : Nat) (hx : x < 4294967296) : bits .and .u32 (x : Int) 1 = ((x % 2 : Nat) : Int) := by
  rw [u32_and _ _ (by omega) (by omega) (by omega) (by omega)]
  simp
theorem xor32 (x y : Nat) (hx : x < 4294967296) (hy : y < 4294967296) : bits .xor .u32 (x : Int) (y : Int) = ((x ^^^ y : Nat) : Int) := u32_xor_nat x y hx hy
theorem step_odd (x : Nat) (hx : x < 4294967296) (h : (bits .and .u32 (x : Int) 1 == 1) = true) : bits .xor .u32 ((x : Int) / 2) 3988292384 = ((bstep x : Nat) : Int) := by
  rw [and_one32 x hx] at h
  have h2 : x % 2 = 1 := by simp at h; omega
  unfold bstep
  rw [if_pos h2, ← xor32 _ _ (by omega) (by omega)]
  rfl
theorem step_even (x : Nat) (hx : x < 4294967296) (h : (bits .and .u32 (x : Int) 1 == 1) = false) : (x : Int) / 2 = ((bstep x : Nat) : Int) := by
  rw [and_one32 x hx] at h
  have h2 : ¬ x % 2 = 1 := by simp at h; omega
  unfold bstep
  rw [if_neg h2]; omega

set_option maxHeartbeats 400000 in
theorem move_any (z : Int) (r : Nat) (hz : z = (r : Int)) (hr : r < 4294967296) (w : World) :
    Calls Try.prog 28 #[.int .u32 z] w fun e w' => e = .returned (.int .u32 ((itb 8 r : Nat) : Int)) ∧ w' = w := by
  subst hz
  go_enter Try.func28, Try.ntmps28
  go_wp2
  go_loop [0, 4] (fun t i => ∃ k : Nat, k ≤ 8 ∧ i = .int .i64 (k : Int) ∧ t = .int .u32 ((itb k r : Nat) : Int)) (fun _ i => 8 - (intOf i).toNat)
  case atStart => exact ⟨0, by omega, rfl, rfl⟩
  case round =>
    obtain ⟨k, hk, rfl, rfl⟩ := hrel
    have hx := itb_lt hr k
    by_cases hlt : k < 8
    · go_wp2
      all_goals
        go_round
        case rel => exact ⟨k + 1, by omega, by go_num, val_int (by first | exact step_odd _ hx ‹_› | exact step_even _ hx ‹_›)⟩
        case measure => simp [intOf]; omega
    · go_wp2
      go_ret
      have e8 : k = 8 := by omega
      subst e8
      exact ⟨rfl, rfl⟩

theorem take_snoc (s : ByteArray) (k : Nat) (h : k < s.size) : s.data.toList.take (k + 1) = s.data.toList.take k ++ [s[k]] := by
  rw [List.take_succ_eq_append_getElem (by simpa using h)]; rfl


theorem xor_byte (x : Nat) (c : UInt8) (hx : x < 4294967296) : bits .xor .u32 (x : Int) ((c.toNat : Int) % 4294967296) = ((x ^^^ c.toNat : Nat) : Int) := by
  have := u8_lt32 c
  rw [Int.emod_eq_of_lt (by omega) (by omega)]
  exact xor32 _ _ hx (u8_lt32 c)
theorem flip32 (n : Nat) (hn : n < 4294967296) : bits .xor .u32 IntKind.u32.max (n : Int) = ((4294967295 ^^^ n : Nat) : Int) := by
  rw [← xor32 _ _ (by omega) hn]; rfl

set_option maxHeartbeats 400000 in
theorem more_any (z : Int) (n : Nat) (hz : z = (n : Int)) (s : ByteArray) (hn : n < 4294967296) (hs : s.size ≤ 9223372036854775807) (w : World) :
    Calls Try.prog 27 #[.int .u32 z, .string s] w fun e w' => e = .returned (.int .u32 ((more n s.data.toList : Nat) : Int)) ∧ w' = w := by
  subst hz
  have hf : (4294967295 ^^^ n : Nat) < 4294967296 := xor_lt32 (by omega) hn
  go_enter Try.func27, Try.ntmps27
  go_wp2
  go_loop [5, 6] (fun t i => ∃ k : Nat, k ≤ s.size ∧ i = .int .i64 (k : Int) ∧ t = .int .u32 ((crc (4294967295 ^^^ n) (s.data.toList.take k) : Nat) : Int)) (fun _ i => s.size - (intOf i).toNat)
  case atStart => exact ⟨0, by omega, rfl, val_int (flip32 n hn)⟩
  case round =>
    obtain ⟨k, hk, rfl, rfl⟩ := hrel
    have hx := crc_lt hf (s.data.toList.take k)
    by_cases hlt : k < s.size
    · have HS : Hid (crc (4294967295 ^^^ n) (s.data.toList.take (k + 1)) = itb 8 (crc (4294967295 ^^^ n) (s.data.toList.take k) ^^^ s[k].toNat)) := by rw [take_snoc s k hlt, crc_snoc]; rfl
      go_wp2_with fail
      refine (move_any _ (crc (4294967295 ^^^ n) (s.data.toList.take k) ^^^ s[k].toNat) (xor_byte _ s[k] hx) (xor_lt32 hx (u8_lt32 _)) _).mono ?_
      rintro e w' ⟨rfl, rfl⟩
      go_wp2
      go_round
      case rel => exact ⟨k + 1, by omega, by go_num, val_int (by rw [HS.out])⟩
      case measure => simp [intOf]; omega
    · go_wp2
      go_ret
      have ek : k = s.size := by omega
      subst ek
      exact ⟨ret_int (by rw [flip32 _ hx, List.take_of_length_le (by simp)]; rfl), rfl⟩

set_option maxHeartbeats 400000 in
theorem sum_any (s : ByteArray) (hs : s.size ≤ 9223372036854775807) (w : World) :
    Calls Try.prog 25 #[.string s] w fun e w' => e = .returned (.int .u32 ((more 0 s.data.toList : Nat) : Int)) ∧ w' = w := by
  go_enter Try.func25, Try.ntmps25
  go_wp2_with fail
  refine (more_any _ 0 rfl s (by omega) hs _).mono ?_
  rintro e w' ⟨rfl, rfl⟩
  go_wp2
  go_ret
  exact ⟨rfl, rfl⟩

theorem ref_head (n : Nat) (hn : n < 4294967296) : bits .xor .u64 (n : Int) 4294967295 = ((4294967295 ^^^ n : Nat) : Int) := by
  rw [Nat.xor_comm, ← u64_xor_nat n 4294967295 (by omega) (by omega)]; rfl

theorem wrap_byte (c : UInt8) : IntKind.u64.wrap (c.toNat : Int) = (c.toNat : Int) := by
  have := c.toNat_lt
  simp only [IntKind.wrap, IntKind.bits, IntKind.signed]
  exact Int.emod_eq_of_lt (by omega) (by omega)
theorem and_one64 (y : Nat) (hy : y < 4294967296) : bits .and .u64 (y : Int) 1 = ((y % 2 : Nat) : Int) := by
  rw [u64_and _ _ (by omega) (by omega) (by omega) (by omega)]; simp
theorem ref_bit (y : Nat) (hy : y < 4294967296) (c : UInt8) (b : Nat) :
    bits .xor .u64 (bits .and .u64 (y : Int) 1) (bits .and .u64 (IntKind.u64.wrap (c.toNat : Int) / 2 ^ b) 1) = (((y % 2) ^^^ (c.toNat / 2 ^ b) % 2 : Nat) : Int) := by
  have hc := c.toNat_lt
  have hd : c.toNat / 2 ^ b < 256 := Nat.lt_of_le_of_lt (Nat.div_le_self _ _) hc
  have e1 : ((c.toNat : Int) / 2 ^ b) = ((c.toNat / 2 ^ b : Nat) : Int) := by simp
  rw [wrap_byte, e1, and_one64 y (by omega), and_one64 (c.toNat / 2 ^ b) (by omega)]
  exact u64_xor_nat _ _ (by omega) (by omega)
theorem ref_state_lt (x b : Nat) (hx : x < 4294967296) (c : UInt8) : itb b (x ^^^ c.toNat) ^^^ (c.toNat / 2 ^ b) < 4294967296 :=
  xor_lt32 (itb_lt (xor_lt32 hx (u8_lt32 c)) b) (Nat.lt_of_le_of_lt (Nat.div_le_self _ _) (u8_lt32 c))
theorem ref_odd (x y b : Nat) (c : UInt8) (hy : y < 4294967296) (HY : y = itb b (x ^^^ c.toNat) ^^^ (c.toNat / 2 ^ b))
    (h : (bits .xor .u64 (bits .and .u64 (y : Int) 1) (bits .and .u64 (IntKind.u64.wrap (c.toNat : Int) / 2 ^ b) 1) == 1) = true) :
    bits .xor .u64 ((y : Int) / 2) 3988292384 = ((itb (b + 1) (x ^^^ c.toNat) ^^^ (c.toNat / 2 ^ (b + 1)) : Nat) : Int) := by
  rw [ref_bit y hy] at h
  have h1 : y % 2 ^^^ (c.toNat / 2 ^ b) % 2 = 1 := by
    generalize y % 2 ^^^ (c.toNat / 2 ^ b) % 2 = m at h
    simp at h; omega
  rw [bit_by_bit, ← HY, if_pos h1, ← u64_xor_nat (y / 2) 3988292384 (by omega) (by omega)]
  rfl
theorem ref_even (x y b : Nat) (c : UInt8) (hy : y < 4294967296) (HY : y = itb b (x ^^^ c.toNat) ^^^ (c.toNat / 2 ^ b))
    (h : (bits .xor .u64 (bits .and .u64 (y : Int) 1) (bits .and .u64 (IntKind.u64.wrap (c.toNat : Int) / 2 ^ b) 1) == 1) = false) :
    (y : Int) / 2 = ((itb (b + 1) (x ^^^ c.toNat) ^^^ (c.toNat / 2 ^ (b + 1)) : Nat) : Int) := by
  rw [ref_bit y hy] at h
  have h1 : ¬ y % 2 ^^^ (c.toNat / 2 ^ b) % 2 = 1 := by
    generalize y % 2 ^^^ (c.toNat / 2 ^ b) % 2 = m at h
    simp at h; omega
  rw [bit_by_bit, ← HY, if_neg h1]
  omega

set_option maxHeartbeats 800000 in
theorem ref_any (n : Nat) (s : ByteArray) (hn : n < 4294967296) (hs : s.size ≤ 9223372036854775807) (w : World) :
    Calls Try.prog 20 #[.int .u32 (n : Int), .string s] w fun e w' => e = .returned (.int .u32 ((more n s.data.toList : Nat) : Int)) ∧ w' = w := by
  have hf : (4294967295 ^^^ n : Nat) < 4294967296 := xor_lt32 (by omega) hn
  go_enter Try.func20, Try.ntmps20
  go_wp2
  go_loop [5, 6] (fun t i => ∃ k x : Nat, k ≤ s.size ∧ x < 4294967296 ∧ Hid (x = crc (4294967295 ^^^ n) (s.data.toList.take k)) ∧ i = .int .i64 (k : Int) ∧ t = .int .u64 (x : Int)) (fun _ i => s.size - (intOf i).toNat)
  case atStart => exact ⟨0, 4294967295 ^^^ n, by omega, hf, rfl, rfl, val_int (ref_head n hn)⟩
  case round =>
    obtain ⟨k, x, hk, hx, HX, rfl, rfl⟩ := hrel
    by_cases hlt : k < s.size
    · go_wp2
      go_loop [5, 7] (fun t i => ∃ b y : Nat, b ≤ 8 ∧ y < 4294967296 ∧ Hid (y = itb b (x ^^^ s[k].toNat) ^^^ (s[k].toNat / 2 ^ b)) ∧ i = .int .i64 (b : Int) ∧ t = .int .u64 (y : Int)) (fun _ i => 8 - (intOf i).toNat)
      case atStart => exact ⟨0, x, by omega, hx, (bits_begin x s[k].toNat).symm, rfl, rfl⟩
      case round =>
        obtain ⟨b, y, hb, hy, HY, rfl, rfl⟩ := hrel
        by_cases hlb : b < 8
        · go_wp2
          all_goals
            go_round
            case rel => exact ⟨b + 1, _, by omega, ref_state_lt x (b + 1) hx s[k], rfl, by go_num, val_int (by first | exact ref_odd x y b s[k] hy HY.out ‹_› | exact ref_even x y b s[k] hy HY.out ‹_›)⟩
            case measure => simp [intOf]; omega
        · go_wp2
          go_round
          case rel => exact ⟨k + 1, y, by omega, hy, by
            have e8 : b = 8 := by omega
            subst e8
            rw [take_snoc s k hlt, crc_snoc, ← HX.out, ← bits_end]; exact HY.out, by go_num, rfl⟩
          case measure => simp [intOf]; omega
    · go_wp2
      go_ret
      have ek : k = s.size := by omega
      subst ek
      exact ⟨ret_int (by rw [ref_head _ hx, HX.out, List.take_of_length_le (by simp), Int.emod_eq_of_lt (by omega) (by have := more_lt hn s.data.toList; unfold more at this; omega)]; rfl), rfl⟩
end Go.Proofs.Ytnheaafepejaoaa
