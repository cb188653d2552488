/-
  The contracts of the document's own answer pushref.Char and pushref.size.
-/
import Derived.Test.YthloedfiomfnbaaClassT
namespace Go.Proofs.Ythloedfiomfnbaa
open Go.RowKit
open Cls Txt

theorem sign_run : ∀ i : Fin 12, (⟨#[40, 41, 91, 93, 124, 42, 43, 63, 46, 94, 45, 92]⟩ : ByteArray)[i.val]? = some (signs.getD i.val 0).toUInt8 := by decide +kernel
theorem sign_cut : ∀ i : Fin 12, (⟨#[40, 41, 91, 93, 124, 42, 43, 63, 46, 94, 45, 92]⟩ : ByteArray).extract i.val (i.val + 1) = S [(signs.getD i.val 0).toUInt8] := by decide +kernel
theorem hex_cut : ∀ i : Fin 16, (⟨#[48, 49, 50, 51, 52, 53, 54, 55, 56, 57, 97, 98, 99, 100, 101, 102]⟩ : ByteArray).extract i.val (i.val + 1) = S [hex i.val] := by decide +kernel
theorem sign_lt : ∀ i : Fin 12, signs.getD i.val 0 < 256 := by decide +kernel
theorem sign_no (b : Nat) (h : ∀ j, j < 12 → signs.getD j 0 ≠ b) : signs.contains b = false := by
  rw [← Bool.not_eq_true]
  intro hc
  have hm : b ∈ signs := by simpa using hc
  obtain ⟨i, hi, e⟩ := List.getElem_of_mem hm
  have := h i hi
  rw [List.getD_eq_getElem?_getD, List.getElem?_eq_getElem hi] at this
  exact this e
theorem sign_yes (b i : Nat) (hi : i < 12) (h : signs.getD i 0 = b) : signs.contains b = true := by
  have : signs.getD i 0 ∈ signs := by
    rw [List.getD_eq_getElem?_getD, List.getElem?_eq_getElem hi]; exact List.getElem_mem hi
  rw [h] at this; simpa using this

set_option maxHeartbeats 2000000 in
set_option maxRecDepth 20000 in
theorem char_any (b : Nat) (hb : b < 256) (w : World) :
    Calls Try.prog 31 #[.int .i64 (b : Int)] w fun e w' => e = .returned (.string (S (charT b))) ∧ Below w.heap.size w w' := by
  go_enter Try.func31, Try.ntmps31
  by_cases h10 : b = 10
  · subst h10
    go_wp2_with fail
    go_ret
    exact ⟨ret_str (by decide +kernel), Below.refl _ _⟩
  · by_cases h9 : b = 9
    · subst h9
      go_wp2_with fail
      go_ret
      exact ⟨ret_str (by decide +kernel), Below.refl _ _⟩
    · by_cases h32 : b = 32
      · subst h32
        go_wp2_with fail
        go_ret
        exact ⟨ret_str (by decide +kernel), Below.refl _ _⟩
      · have g10 : ((b : Int) == 10) = false := by simp; omega
        have g9 : ((b : Int) == 9) = false := by simp; omega
        have g32 : ((b : Int) == 32) = false := by simp; omega
        by_cases hs : 33 ≤ b ∧ b ≤ 126
        · have g1 : decide ((b : Int) < 33) = false := by simp; omega
          have g2 : decide ((126 : Int) < (b : Int)) = false := by simp; omega
          go_wp2_with fail
          go_loopw [3] (fun z wr => ∃ i : Nat, i ≤ 12 ∧ z = .int .i64 (i : Int) ∧ Hid (∀ j, j < i → signs.getD j 0 ≠ b) ∧ wr = w) (fun z _ => 12 - (intOf z).toNat)
          case atStart => exact ⟨0, by omega, rfl, fun j hj => by omega, rfl⟩
          case round =>
            obtain ⟨i, hi, rfl, HA, rfl⟩ := hrel
            by_cases hlt : i < 12
            · have hr := sign_run ⟨i, hlt⟩
              have hx := sign_cut ⟨i, hlt⟩
              have hsl := sign_lt ⟨i, hlt⟩
              simp only at hr hx hsl
              obtain ⟨g, HG⟩ : ∃ g, Hid (signs.getD i 0 = g) := ⟨_, (rfl : signs.getD i 0 = signs.getD i 0)⟩
              rw [HG.out] at hr hx hsl
              have hix : ∀ w, (Instr.index 9 (.string ⟨#[40, 41, 91, 93, 124, 42, 43, 63, 46, 94, 45, 92]⟩) (.int .i64 (i : Int))).run Try.prog w = .ok (.int .u8 (g : Int)) w := fun w => by
                have hsz : i < (⟨#[40, 41, 91, 93, 124, 42, 43, 63, 46, 94, 45, 92]⟩ : ByteArray).size := hlt
                have h1 := byte_run ⟨#[40, 41, 91, 93, 124, 42, 43, 63, 46, 94, 45, 92]⟩ i hsz w
                rw [getElem?_pos _ i hsz] at hr
                rw [Option.some.inj hr, u8_toNat g hsl] at h1
                exact h1
              have hwr : IntKind.i64.wrap (g : Int) = (g : Int) := by unfold IntKind.wrap; simp [IntKind.bits, IntKind.signed]; omega
              have hii : (i : Int) < 12 := by omega
              clear hr
              by_cases he : g = b
              · subst he
                have HT : Hid (charT g = [92, g.toUInt8]) := by show _ = _; unfold charT; rw [if_neg h10, if_neg h9, if_neg h32, if_neg (by omega), if_pos (sign_yes g i hlt HG.out)]
                have HX : Hid ((⟨#[40, 41, 91, 93, 124, 42, 43, 63, 46, 94, 45, 92]⟩ : ByteArray).extract i (i + 1) = S [g.toUInt8]) := hx
                clear hx
                go_wp2_with fail
                go_ret
                refine ⟨ret_str ?_, Below.refl _ _⟩
                rw [HX.out, HT.out]; rfl
              · have hbe : ((g : Int) == (b : Int)) = false := by simp; omega
                clear hx
                go_wp2_with fail
                go_roundw
                case rel =>
                  refine ⟨i + 1, by omega, by go_num, fun j hj => ?_, by trivial⟩
                  by_cases e : j = i
                  · subst e; rw [HG.out]; exact he
                  · exact HA.out j (by omega)
                case measure => simp [intOf]; omega
            · have HT : Hid (charT b = [b.toUInt8]) := by show _ = _; unfold charT; rw [if_neg h10, if_neg h9, if_neg h32, if_neg (by omega), if_neg (by rw [sign_no b (fun j hj => HA.out j (by omega))]; simp)]
              have hwr : IntKind.u8.wrap (b : Int) = (b : Int) := by unfold IntKind.wrap; simp [IntKind.bits, IntKind.signed]; omega
              have hconv := conv_one (w := wr.alloc (Obj.cells #[.int .u8 (b : Int)] 5)) (g := wr.heap.size) b hb (by simp)
              go_wp2_with fail
              go_ret
              exact ⟨by rw [HT.out]; rfl, (Below.refl _ _).alloc (Nat.le_refl _) _⟩
        · have HT : Hid (charT b = [92, 120, hex (b / 16), hex (b % 16)]) := by show _ = _; unfold charT; rw [if_neg h10, if_neg h9, if_neg h32, if_pos (by omega)]
          have hx1 := hex_cut ⟨b / 16, by omega⟩
          have hx2 := hex_cut ⟨b % 16, by omega⟩
          simp only at hx1 hx2
          have q1 : ((b : Int).tdiv 16) = ((b / 16 : Nat) : Int) := by rw [Int.tdiv_eq_ediv_of_nonneg (by omega)]; simp
          have q2 : ((b : Int).tmod 16) = ((b % 16 : Nat) : Int) := by rw [Int.tmod_eq_emod_of_nonneg (by omega)]; simp
          have l1 : b / 16 < 16 := by omega
          have l2 : b % 16 < 16 := by omega
          have w1 : IntKind.i64.wrap (((b / 16 : Nat) : Int) + 1) = ((b / 16 : Nat) : Int) + 1 := by unfold IntKind.wrap; simp [IntKind.bits, IntKind.signed]; omega
          have w2 : IntKind.i64.wrap (((b % 16 : Nat) : Int) + 1) = ((b % 16 : Nat) : Int) + 1 := by unfold IntKind.wrap; simp [IntKind.bits, IntKind.signed]; omega
          by_cases g1 : b < 33
          · have g1' : decide ((b : Int) < 33) = true := by simp; omega
            go_wp2_with (go_quiet (fail))
            go_ret
            exact ⟨ret_str (by rw [HT.out]; rfl), below_drewN (Below.refl _ _) nq⟩
          · have g1' : decide ((b : Int) < 33) = false := by simp; omega
            have g2' : decide ((126 : Int) < (b : Int)) = true := by simp; omega
            go_wp2_with (go_quiet (fail))
            go_ret
            exact ⟨ret_str (by rw [HT.out]; rfl), below_drewN (Below.refl _ _) nq⟩

set_option maxHeartbeats 1000000 in
set_option maxRecDepth 20000 in
theorem size_any (c : Cl) (w : World) :
    Calls Try.prog 19 #[.agg #[.int .u64 (c.1.toNat : Int), .int .u64 (c.2.1.toNat : Int), .int .u64 (c.2.2.1.toNat : Int), .int .u64 (c.2.2.2.toNat : Int)]] w fun e w' => e = .returned (.int .i64 (count c : Int)) ∧ Below w.heap.size w w' := by
  go_enter Try.func19, Try.ntmps19
  go_wp2_with fail
  go_loopw [3, 4] (fun n i wr => ∃ k : Nat, k ≤ 256 ∧ i = .int .i64 (k : Int) ∧ n = .int .i64 (countTo c k : Int) ∧ Hid (Lays (w.alloc (.cells #[.int .u64 (c.1.toNat : Int), .int .u64 (c.2.1.toNat : Int), .int .u64 (c.2.2.1.toNat : Int), .int .u64 (c.2.2.2.toNat : Int)] 24)) wr)) (fun _ i _ => 256 - (intOf i).toNat)
  case atStart => exact ⟨0, by omega, rfl, rfl, Lays.refl _⟩
  case round =>
    obtain ⟨k, hk, rfl, rfl, HL⟩ := hrel
    obtain ⟨c0, c1, c2, c3⟩ := cells_lay HL.out
    by_cases hlt : k < 256
    · have hn := countTo_le c k
      have HC : Hid (countTo c (k + 1) = countTo c k + (if mem c k = true then 1 else 0)) := by show _ = _; rw [countTo_succ]; rfl
      obtain ⟨m, HM⟩ : ∃ m, Hid (countTo c k = m) := ⟨_, (rfl : countTo c k = countTo c k)⟩
      rw [HM.out] at HC hn ⊢
      have hrh := fun W => rhas_any c (k : Int) k rfl hlt W
      cases hm : mem c k with
      | true =>
        simp only [hm] at hrh
        rw [hm] at HC
        go_wp2_with (go_at_call 21; refine (hrh _).mono ?_; rintro e w1 ⟨rfl, hl⟩)
        go_roundw
        case rel => exact ⟨k + 1, by omega, by go_num, by rw [HC.out]; go_num, HL.out.trans hl⟩
        case measure => simp [intOf]; omega
      | false =>
        simp only [hm] at hrh
        rw [hm] at HC
        go_wp2_with (go_at_call 21; refine (hrh _).mono ?_; rintro e w1 ⟨rfl, hl⟩)
        go_roundw
        case rel => exact ⟨k + 1, by omega, by go_num, by rw [HC.out]; simp, HL.out.trans hl⟩
        case measure => simp [intOf]; omega
    · have e : k = 256 := by omega
      subst e
      go_wp2_with fail
      go_ret
      exact ⟨rfl, (((Lays.refl w).alloc _).trans HL.out).below⟩
end Go.Proofs.Ythloedfiomfnbaa
