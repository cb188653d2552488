/-
  The contracts of strings.IndexByte, rex.isSeen, rex.isSign and rex.writtenByte: how a byte is written.
-/
import Derived.Test.YthloedfiomfnbaaTxt
import Derived.Test.YthloedfiomfnbaaBits
import Derived.Test.YthloedfiomfnbaaKeeps
import Derived.Laws.Externs
import Derived.Laws.IdiomStrings
import Derived.Laws.BytesArg
import Derived.Below
import Derived.BigQuiet
import Derived.Deep.RegionHeld3
import Derived.WalkSmall
namespace Go.Proofs.Ythloedfiomfnbaa
open Go.RowKit
open Cls Txt

/-- A text as a string. -/
abbrev S (l : List UInt8) : ByteArray := ⟨l.toArray⟩
theorem ret_str {x : ByteArray} {l : List UInt8} (h : x.data.toList = l) : Ending.returned (.string x) = .returned (.string (S l)) := by
  obtain ⟨d⟩ := x
  subst h
  rfl

set_option maxHeartbeats 400000 in
theorem ixb_lite (s : ByteArray) (b : Nat) (w : World) :
    Calls Try.prog 70 #[.string s, .int .u8 (b : Int)] w fun e w' => e = .returned (.int .i64 (firstIdx s b.toUInt8)) ∧ w' = w := by
  go_enter Try.func70, Try.ntmps70
  go_wp2_with fail
  rw [run_callFunc_extern Try.func80 (by kernel_rfl) (by kernel_rfl) (by kernel_rfl) (e := Extern.BytealgIndexByte.indexByte) (by kernel_rfl), run_indexByte_string]
  simp only [Result.andThen]
  rw [Oper.upon_value]
  go_wp2_with fail
  go_ret
  exact ⟨by simp, rfl⟩
set_option maxHeartbeats 400000 in
theorem ixb_any (s : ByteArray) (b : Nat) (w : World) :
    Calls Try.prog 57 #[.string s, .int .u8 (b : Int)] w fun e w' => e = .returned (.int .i64 (firstIdx s b.toUInt8)) ∧ w' = w := by
  go_enter Try.func57, Try.ntmps57
  go_wp2_with (go_at_call 70; refine (ixb_lite s b _).mono ?_; rintro e w' ⟨rfl, rfl⟩)
  go_ret
  exact ⟨rfl, rfl⟩
def blankS : ByteArray := ⟨#[10, 9, 32]⟩
def signS : ByteArray := ⟨#[40, 41, 91, 93, 124, 42, 43, 63, 46, 94, 45, 92]⟩
theorem blank_at : ∀ b : Fin 256, firstIdx ⟨#[10, 9, 32]⟩ b.val.toUInt8 = if b.val = 10 then 0 else if b.val = 9 then 1 else if b.val = 32 then 2 else -1 := by decide +kernel
theorem sign_at : ∀ b : Fin 256, decide (0 ≤ firstIdx ⟨#[40, 41, 91, 93, 124, 42, 43, 63, 46, 94, 45, 92]⟩ b.val.toUInt8) = signs.contains b.val := by decide +kernel

set_option maxHeartbeats 400000 in
theorem isSeen_any (b : Nat) (w : World) :
    Calls Try.prog 58 #[.int .u8 (b : Int)] w fun e w' => e = .returned (.bool (decide (33 ≤ b) && decide (b ≤ 126))) ∧ w' = w := by
  go_enter Try.func58, Try.ntmps58
  by_cases h1 : 33 ≤ b
  · have g1 : (33 : Int) ≤ (b : Int) := by omega
    by_cases h2 : b ≤ 126
    · have g2 : (b : Int) ≤ 126 := by omega
      go_wp2_with fail
      go_ret
      exact ⟨ret_bool (by simp; omega), rfl⟩
    · have g2 : ¬ (b : Int) ≤ 126 := by omega
      go_wp2_with fail
      go_ret
      exact ⟨ret_bool (by simp), rfl⟩
  · have g1 : ¬ (33 : Int) ≤ (b : Int) := by omega
    go_wp2_with fail
    go_ret
    exact ⟨ret_bool (by simp), rfl⟩
set_option maxHeartbeats 400000 in
theorem isSign_any (b : Nat) (hb : b < 256) (w : World) :
    Calls Try.prog 59 #[.int .u8 (b : Int)] w fun e w' => e = .returned (.bool (signs.contains b)) ∧ w' = w := by
  have HS : Hid (decide (0 ≤ firstIdx ⟨#[40, 41, 91, 93, 124, 42, 43, 63, 46, 94, 45, 92]⟩ b.toUInt8) = signs.contains b) := sign_at ⟨b, hb⟩
  go_enter Try.func59, Try.ntmps59
  go_wp2_with (go_at_call 57; refine (ixb_any _ b _).mono ?_; rintro e w' ⟨rfl, rfl⟩)
  go_ret
  exact ⟨ret_bool HS.out, rfl⟩

theorem conv_bytes {w : World} {g : Nat} (l : List UInt8) (h : ∀ j (hj : j < l.length), w.cell? ⟨g, j, none⟩ = some (.int .u8 (l[j].toNat : Int))) (n : Nat) (hn : n = l.length) :
    (convert 74 9 (.slice (some ⟨g, 0, none⟩) n n)).run Try.prog w = .ok (.string (S l)) w := by
  subst hn
  refine run_convert_bytes_back _ 74 9 5 ⟨g, 0, none⟩ l.length l Try.underlying74 Try.underlying5 Try.underlying9 fun j hj => ?_
  have hadd : (⟨g, 0, none⟩ : Addr).add j = ⟨g, j, none⟩ := by unfold Addr.add; split <;> simp_all
  rw [hadd]; exact h j hj
theorem u8_toNat (b : Nat) (hb : b < 256) : (b.toUInt8.toNat : Int) = (b : Int) := by
  have : b.toUInt8.toNat = b := by show (UInt8.ofNat b).toNat = b; rw [UInt8.toNat_ofNat']; omega
  rw [this]
theorem conv_one {w : World} {g : Nat} (b : Nat) (hb : b < 256) (h : w.cell? ⟨g, 0, none⟩ = some (.int .u8 (b : Int))) :
    (convert 74 9 (.slice (some ⟨g, 0, none⟩) 1 1)).run Try.prog w = .ok (.string (S [b.toUInt8])) w :=
  conv_bytes [b.toUInt8] (fun j hj => by
    have hj0 : j = 0 := by simp at hj; omega
    subst hj0
    rw [h]; simp only [List.getElem_cons_zero]; rw [u8_toNat b hb]) 1 rfl
theorem hex_run (n : Nat) (hn : n < 16) (w : World) : (Instr.index 9 (.string ⟨#[48, 49, 50, 51, 52, 53, 54, 55, 56, 57, 97, 98, 99, 100, 101, 102]⟩) (.int .u8 (n : Int))).run Try.prog w = .ok (.int .u8 ((hex n).toNat : Int)) w := by
  have : ∀ m : Fin 16, (if h : (m.val) < (⟨#[48, 49, 50, 51, 52, 53, 54, 55, 56, 57, 97, 98, 99, 100, 101, 102]⟩ : ByteArray).size then (⟨#[48, 49, 50, 51, 52, 53, 54, 55, 56, 57, 97, 98, 99, 100, 101, 102]⟩ : ByteArray)[m.val] else 0) = hex m.val := by decide +kernel
  have h2 := this ⟨n, hn⟩
  have hs : n < (⟨#[48, 49, 50, 51, 52, 53, 54, 55, 56, 57, 97, 98, 99, 100, 101, 102]⟩ : ByteArray).size := hn
  rw [dif_pos hs] at h2
  rw [run_index_string (h := Try.underlying9)]
  have h3 : (0 : Int) ≤ (n : Int) := by omega
  have h4 : (n : Int) < 16 := by omega
  simp only [Int.toNat_natCast]
  rw [dif_pos (by exact ⟨h3, by simpa using hs⟩)]
  rw [← h2]

theorem and15 : ∀ b : Fin 256, bits .and .u8 (b.val : Int) 15 = ((b.val % 16 : Nat) : Int) := by decide +kernel
set_option maxHeartbeats 4000000 in
set_option maxRecDepth 20000 in
theorem writtenByte_any (b : Nat) (hb : b < 256) (w : World) :
    Calls Try.prog 46 #[.int .u8 (b : Int)] w fun e w' => e = .returned (.string (S (charT b))) ∧ Below w.heap.size w w' := by
  have hbl := blank_at ⟨b, hb⟩
  simp only at hbl
  have hc57 := ixb_any ⟨#[10, 9, 32]⟩ b w
  rw [hbl] at hc57
  go_enter Try.func46, Try.ntmps46
  by_cases h10 : b = 10
  · subst h10
    go_wp2_with (go_at_call 57; refine hc57.mono ?_; rintro e w' ⟨rfl, rfl⟩)
    go_ret
    exact ⟨ret_str (by decide +kernel), Below.refl _ _⟩
  · by_cases h9 : b = 9
    · subst h9
      go_wp2_with (go_at_call 57; refine hc57.mono ?_; rintro e w' ⟨rfl, rfl⟩)
      go_ret
      exact ⟨ret_str (by decide +kernel), Below.refl _ _⟩
    · by_cases h32 : b = 32
      · subst h32
        go_wp2_with (go_at_call 57; refine hc57.mono ?_; rintro e w' ⟨rfl, rfl⟩)
        go_ret
        exact ⟨ret_str (by decide +kernel), Below.refl _ _⟩
      · rw [if_neg h10, if_neg h9, if_neg h32] at hc57
        have hseen := isSeen_any b w
        by_cases hs : 33 ≤ b ∧ b ≤ 126
        · rw [decide_eq_true hs.1, decide_eq_true hs.2] at hseen
          have hsign := isSign_any b hb w
          have hconv := conv_one (w := w.alloc (Obj.cells #[.int .u8 (b : Int)] 5)) (g := w.heap.size) b hb (by simp)
          cases hg : signs.contains b with
          | true =>
            rw [hg] at hsign
            have HT : Hid (charT b = [92, b.toUInt8]) := by show _ = _; unfold charT; rw [if_neg h10, if_neg h9, if_neg h32, if_neg (by omega), if_pos hg]
            clear hg hbl
            go_wp2_with (first | (go_at_call 57; refine hc57.mono ?_; rintro e w' ⟨rfl, rfl⟩) | (go_at_call 58; refine hseen.mono ?_; rintro e w' ⟨rfl, rfl⟩) | (go_at_call 59; refine hsign.mono ?_; rintro e w' ⟨rfl, rfl⟩))
            go_ret
            exact ⟨ret_str (by rw [HT.out]; rfl), (Below.refl _ _).alloc (Nat.le_refl _) _⟩
          | false =>
            rw [hg] at hsign
            have HT : Hid (charT b = [b.toUInt8]) := by show _ = _; unfold charT; rw [if_neg h10, if_neg h9, if_neg h32, if_neg (by omega), if_neg (by rw [hg]; simp)]
            clear hg hbl
            go_wp2_with (first | (go_at_call 57; refine hc57.mono ?_; rintro e w' ⟨rfl, rfl⟩) | (go_at_call 58; refine hseen.mono ?_; rintro e w' ⟨rfl, rfl⟩) | (go_at_call 59; refine hsign.mono ?_; rintro e w' ⟨rfl, rfl⟩))
            go_ret
            exact ⟨ret_str (by rw [HT.out]), (Below.refl _ _).alloc (Nat.le_refl _) _⟩
        · have e : (decide (33 ≤ b) && decide (b ≤ 126)) = false := by simp; omega
          rw [e] at hseen
          have HT : Hid (charT b = [92, 120, hex (b / 16), hex (b % 16)]) := by show _ = _; unfold charT; rw [if_neg h10, if_neg h9, if_neg h32, if_pos (by omega)]
          have hx1 : ∀ w, (Instr.index 9 (.string ⟨#[48, 49, 50, 51, 52, 53, 54, 55, 56, 57, 97, 98, 99, 100, 101, 102]⟩) (.int .u8 ((b : Int) / 16))).run Try.prog w = .ok (.int .u8 ((hex (b / 16)).toNat : Int)) w := fun w => by
            have := hex_run (b / 16) (by omega) w
            rwa [show (((b / 16 : Nat)) : Int) = (b : Int) / 16 by simp] at this
          have hx2 : ∀ w, (Instr.index 9 (.string ⟨#[48, 49, 50, 51, 52, 53, 54, 55, 56, 57, 97, 98, 99, 100, 101, 102]⟩) (.int .u8 ((b : Int) % 16))).run Try.prog w = .ok (.int .u8 ((hex (b % 16)).toNat : Int)) w := fun w => by
            have := hex_run (b % 16) (by omega) w
            rwa [show (((b % 16 : Nat)) : Int) = (b : Int) % 16 by simp] at this
          clear hbl e
          go_wp2_with (first | (go_at_call 57; refine hc57.mono ?_; rintro e w' ⟨rfl, rfl⟩) | (go_at_call 58; refine hseen.mono ?_; rintro e w' ⟨rfl, rfl⟩))
          have hand : bits .and .u8 (b : Int) 15 = (b : Int) % 16 := by have := and15 ⟨b, hb⟩; simpa using this
          have hconv := conv_bytes (w := (w'.alloc (Obj.cells #[.int .u8 ((hex (b / 16)).toNat : Int), .int .u8 ((hex (b % 16)).toNat : Int)] 5)).drew) (g := w'.heap.size) [hex (b / 16), hex (b % 16)] (fun j hj => by
            have : j = 0 ∨ j = 1 := by simp at hj; omega
            rcases this with rfl | rfl <;> simp) 2 rfl
          clear hc57 hseen
          go_region
          all_goals
            go_wp2_with fail
            go_ret
            exact ⟨ret_str (by rw [HT.out]; rfl), ((Below.refl _ _).alloc (Nat.le_refl _) _).drew⟩
end Go.Proofs.Ythloedfiomfnbaa
