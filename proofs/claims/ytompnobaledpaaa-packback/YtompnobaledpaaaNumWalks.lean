/-
  The contracts of pack.Num and pushref.Num: each answers the bytes that YtompnobaledpaaaMath says, for every number below 2^64; what was there stays.
-/
import Derived.Test.YtompnobaledpaaaWalks
import Derived.Laws.IdiomStrings
import Derived.Laws.BytesArg
import Derived.Laws.Concat
import Derived.OwnWalk
import Derived.Below
import Derived.Deep.AppendLies
import Derived.BigQuiet
import Derived.Deep.RegionHeld3
namespace Go.Proofs.Ytompnobaledpaaa
open Go.RowKit
open Pack

theorem info5 : (Try.prog.info? 5).map (fun i => (i.zero, i.size, i.bytes)) = some (some (.int .u8 0), 1, 1) := by kernel_rfl
/-- A text's bytes as they lie in memory. -/
def lies (l : List UInt8) : List Value := l.map (fun c => Value.int .u8 (c.toNat : Int))
theorem own_ge {w : World} {base e size n : Nat} {v : Value} {xs : List Value} (h : w.ownsRow base e size v n xs) : ∀ k, v.ownBlock = some k → base ≤ k := by
  intro k hk
  rcases h.2 with ⟨rfl, _⟩ | ⟨g, cap, cur, rfl, hg, _⟩
  · simp [Value.ownBlock] at hk
  · simp [Value.ownBlock] at hk; omega
/-- What a text's bytes, in a slice of one's own, are as a string. -/
theorem conv_own {w : World} {base : Nat} {v : Value} {n : Nat} {l : List UInt8} (h : w.ownsRow base 5 1 v n (lies l)) : (convert 44 9 v).run Try.prog w = .ok (.string ⟨l.toArray⟩) w := by
  obtain ⟨hl, h | ⟨g, cap, cur, rfl, _, hb, _, _, _, ht⟩⟩ := h
  · obtain ⟨rfl, rfl⟩ := h
    have : l = [] := by
      have : l.length = 0 := by simpa [lies] using hl
      exact List.length_eq_zero_iff.1 this
    subst this
    exact run_convert_bytes_nil w 44 5 Try.underlying44 Try.underlying5 0 0 9 Try.underlying9
  · have hn : n = l.length := by simpa [lies] using hl.symm
    subst hn
    refine run_convert_bytes_back w 44 9 5 ⟨g, 0, none⟩ cap l Try.underlying44 Try.underlying5 Try.underlying9 fun j hj => ?_
    have hadd : (⟨g, 0, none⟩ : Addr).add j = ⟨g, j, none⟩ := by unfold Addr.add; split <;> simp_all
    rw [hadd, cell_of_row w g j cur 5 (0, 0) hb]
    have h2 : (cur.toList.take (l.length * 1))[j]? = (lies l)[j]? := by rw [ht]
    rw [List.getElem?_take_of_lt (by omega)] at h2
    have h3 : (lies l)[j]? = some (Value.int .u8 (l[j].toNat : Int)) := by simp [lies, List.getElem?_eq_getElem hj]
    rw [← h3, ← h2]
    simp

theorem lies_byte (pre : List UInt8) (m : Nat) (hm : m < 128) : lies (pre ++ [UInt8.ofNat (m + 128)]) = lies pre ++ [.int .u8 ((m : Int) + 128)] := by
  unfold lies; rw [List.map_append]; congr 1
  have : (UInt8.ofNat (m + 128)).toNat = m + 128 := by rw [UInt8.toNat_ofNat']; omega
  simp only [List.map_cons, List.map_nil, this]; simp
theorem lies_byte2 (pre : List UInt8) (m : Nat) (hm : m < 128) : lies (pre ++ [UInt8.ofNat m]) = lies pre ++ [.int .u8 (m : Int)] := by
  unfold lies; rw [List.map_append]; congr 1
  have : (UInt8.ofNat m).toNat = m := by rw [UInt8.toNat_ofNat']; omega
  simp only [List.map_cons, List.map_nil, this]

set_option maxHeartbeats 800000 in
set_option maxRecDepth 20000 in
theorem num_any (n : Nat) (hn : n < 18446744073709551616) (w : World) :
    Calls Try.prog 11 #[.int .u64 (n : Int)] w fun e w' => e = .returned (.string ⟨(num n).toArray⟩) ∧ Below w.heap.size w w' := by
  obtain ⟨i0, hi, hz0, hz1, hz2⟩ := info_parts info5
  have hlen := (num_len n hn).1
  go_enter Try.func11, Try.ntmps11
  go_wp2
  go_loopw [0, 3] (fun t v wr => ∃ (m : Nat) (pre : List UInt8), m < 18446744073709551616 ∧ pre.length ≤ 9 ∧ Hid (pre ++ num m = num n) ∧ t = .int .u64 (m : Int) ∧ wr.ownsRow w.heap.size 5 1 v pre.length (lies pre) ∧ Below w.heap.size w wr) (fun t _ _ => (intOf t).toNat)
  case atStart => exact ⟨n, [], hn, by simp, rfl, rfl, World.ownsRow_nil _ _ _ _, Below.refl _ _⟩
  case round =>
    obtain ⟨m, pre, hm, hpre, HP, rfl, hown, hbel⟩ := hrel
    have hsz := hbel.size
    by_cases h128 : 128 ≤ m
    · have HP2 : Hid ((pre ++ [UInt8.ofNat (m % 128 + 128)]) ++ num (m / 128) = num n) := by
        show (pre ++ [UInt8.ofNat (m % 128 + 128)]) ++ num (m / 128) = num n
        rw [← HP.out, num_big h128]; simp
      have hp2 : pre.length + 1 ≤ 9 := by
        have h1 := congrArg List.length HP2.out
        have h2 := (num_len (m / 128) (by omega)).2
        simp at h1
        omega
      go_wp2_with (at_builtin; refine wpList_append_own _ rfl _ _ 44 rfl w.heap.size 5 i0 (.int .u8 0) 1 1 Try.underlying44 hi hz0 hz1 hz2 rfl (by decide) _ _ _ rfl (hown.alloc _) ⟨wr.heap.size, 0, none⟩ 1 1 [.int .u8 ((m : Int) % 128 + 128)] rfl rfl (World.news_of_block (t := 5) (fr := (0, 0)) (heap_alloc_new wr _)) (by simp [Value.oneCell']) (by unfold maxLen; omega) (by omega) (by simp; omega) ?_)
      intro v' w1 hown' hgrow _
      have R : w1.ownsRow w.heap.size 5 1 v' (pre ++ [UInt8.ofNat (m % 128 + 128)]).length (lies (pre ++ [UInt8.ofNat (m % 128 + 128)])) ∧ Below w.heap.size w w1 :=
        ⟨by rw [lies_byte pre _ (by omega)]; simpa using hown', Below.grown (hbel.alloc hsz _) hgrow (by simp; omega) (own_ge hown)⟩
      clear hown' hgrow hown hbel
      go_wp2
      go_roundw
      case rel => exact ⟨m / 128, pre ++ [UInt8.ofNat (m % 128 + 128)], by omega, by simpa using hp2, HP2, val_int (by simp), R.1, R.2⟩
      case measure => simp [intOf]; omega
    · have HP2 : Hid (pre ++ [UInt8.ofNat m] = num n) := by
        show pre ++ [UInt8.ofNat m] = num n
        rw [← HP.out, num_small (by omega)]
      go_wp2_with (at_builtin; refine wpList_append_own _ rfl _ _ 44 rfl w.heap.size 5 i0 (.int .u8 0) 1 1 Try.underlying44 hi hz0 hz1 hz2 rfl (by decide) _ _ _ rfl (hown.alloc _) ⟨wr.heap.size, 0, none⟩ 1 1 [.int .u8 (m : Int)] rfl rfl (World.news_of_block (t := 5) (fr := (0, 0)) (heap_alloc_new wr _)) (by simp [Value.oneCell']) (by unfold maxLen; omega) (by omega) (by simp; omega) ?_)
      intro v' w1 hown' hgrow _
      have R : w1.ownsRow w.heap.size 5 1 v' (pre.length + 1) (lies (num n)) ∧ Below w.heap.size w w1 :=
        ⟨by rw [← HP2.out, lies_byte2 pre _ (by omega)]; exact hown', Below.grown (hbel.alloc hsz _) hgrow (by simp; omega) (own_ge hown)⟩
      have hconv := conv_own R.1
      clear hown' hgrow hown hbel
      go_wp2
      go_ret
      exact ⟨rfl, R.2⟩

theorem conv_byte {w : World} {g : Nat} {z : Int} (c : Nat) (hc : c < 256) (hz : z = (c : Int)) (h : w.cell? ⟨g, 0, none⟩ = some (.int .u8 z)) :
    (convert 44 9 (.slice (some ⟨g, 0, none⟩) 1 1)).run Try.prog w = .ok (.string ⟨#[UInt8.ofNat c]⟩) w := by
  subst hz
  refine run_convert_bytes_back _ 44 9 5 ⟨g, 0, none⟩ 1 [UInt8.ofNat c] Try.underlying44 Try.underlying5 Try.underlying9 fun j hj => ?_
  have hj0 : j = 0 := by simp at hj; omega
  subst hj0
  have e : (UInt8.ofNat c).toNat = c := by rw [UInt8.toNat_ofNat']; omega
  simp [Addr.add, e, h]
theorem cell_after {w w' : World} {u : Value} (h : Below ((w.alloc (Obj.cells #[u] 5)).drew).heap.size (w.alloc (Obj.cells #[u] 5)).drew w') : w'.cell? ⟨w.heap.size, 0, none⟩ = some u := by
  rw [h.cell (by simp)]; simp
theorem cat_num (n : Nat) (h : 128 ≤ n) : (ByteArray.mk #[UInt8.ofNat (n % 128) + 128] ++ ByteArray.mk (num (n / 128)).toArray) = ByteArray.mk (num n).toArray := by
  rw [num_big h]
  apply ByteArray.ext
  simp
theorem wrap_byte (n : Nat) : IntKind.u8.wrap (IntKind.u8.wrap ((n : Int).tmod 128) + 128) = ((n % 128 + 128 : Nat) : Int) := by
  simp only [IntKind.wrap, IntKind.bits, IntKind.signed]
  have : (n : Int).tmod 128 = ((n % 128 : Nat) : Int) := by simp [Int.tmod]
  rw [this]
  simp
  omega
theorem wrap_rest (n : Nat) (hn : n < 18446744073709551616) : IntKind.u64.wrap ((n : Int) / 128) = ((n / 128 : Nat) : Int) := by
  simp only [IntKind.wrap, IntKind.bits, IntKind.signed]
  simp
  omega
set_option maxHeartbeats 800000 in
set_option maxRecDepth 20000 in
theorem refsmall_any (n : Nat) (w : World) (h : n < 128) :
    Calls Try.prog 12 #[.int .u64 (n : Int)] w fun e w' => e = .returned (.string ⟨(num n).toArray⟩) ∧ Below w.heap.size w w' := by
  have hconv := conv_byte (w := w.alloc (Obj.cells #[.int .u8 (n : Int)] 5)) (g := w.heap.size) n (by omega) rfl (by simp)
  go_enter Try.func12, Try.ntmps12
  go_wp2_with fail
  go_ret
  exact ⟨by rw [num_small (by omega)]; rfl, (Below.refl _ _).alloc (Nat.le_refl _) _⟩
set_option maxHeartbeats 800000 in
set_option maxRecDepth 20000 in
theorem refnum_all (k : Nat) : ∀ (z : Int) (n : Nat) (w : World), z = (n : Int) → n ≤ k → n < 18446744073709551616 →
    Calls Try.prog 12 #[.int .u64 z] w fun e w' => e = .returned (.string ⟨(num n).toArray⟩) ∧ Below w.heap.size w w' := by
  induction k with
  | zero =>
    intro z n w hz hk hn
    subst hz
    exact refsmall_any n w (by omega)
  | succ k ih =>
    intro z n w hz hk hn
    subst hz
    by_cases h : n < 128
    · exact refsmall_any n w h
    · have hc1 := conv_byte (w := (w.alloc (Obj.cells #[.int .u8 (IntKind.u8.wrap (IntKind.u8.wrap ((n : Int).tmod 128) + 128))] 5)).drew) (g := w.heap.size) (n % 128 + 128) (by omega) (wrap_byte n) (by simp)
      have hl := (num_len (n / 128) (by omega)).1
      have hs1 : (ByteArray.mk #[UInt8.ofNat (n % 128 + 128)]).size + (ByteArray.mk (num (n / 128)).toArray).size ≤ 9223372036854775807 := by show 1 + (num (n / 128)).toArray.size ≤ _; simp; omega
      go_enter Try.func12, Try.ntmps12
      go_wp2_with fail
      go_region_with ((go_at_call 12; refine (ih _ (n / 128) _ (wrap_rest n hn) (by omega) (by omega)).mono ?_; rintro e w' ⟨rfl, hbel⟩; first | have hc2 := conv_byte (n % 128 + 128) (by omega) (wrap_byte n) (cell_after hbel) | skip; have hc3 := conv_byte (w := w'.alloc (Obj.cells #[.int .u8 (IntKind.u8.wrap (IntKind.u8.wrap ((n : Int).tmod 128) + 128))] 5)) (g := w'.heap.size) (n % 128 + 128) (by omega) (wrap_byte n) (by simp)))
      all_goals
        go_wp2_with fail
        go_ret
        refine ⟨by rw [← cat_num n (by omega)]; rfl, ?_⟩
        first
        | exact Below.trans (((Below.refl _ w).alloc (Nat.le_refl _) _).drew) (hbel.mono (by simp))
        | exact Below.alloc (Below.trans (Below.refl _ w).drew hbel) (by have := hbel.size; simpa using this) _
theorem refnum_any (n : Nat) (hn : n < 18446744073709551616) (w : World) :
    Calls Try.prog 12 #[.int .u64 (n : Int)] w fun e w' => e = .returned (.string ⟨(num n).toArray⟩) ∧ Below w.heap.size w w' := refnum_all n _ n w rfl (Nat.le_refl _) hn
end Go.Proofs.Ytompnobaledpaaa
