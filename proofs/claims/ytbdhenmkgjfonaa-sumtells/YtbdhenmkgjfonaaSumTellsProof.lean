/-
  Whatever text, place and bits are handed in, the call of pushkeep.SumTells returns true: bits that are turned within 32 in a row give another sum. Conditions: none.
-/
import Derived.Test.YtbdhenmkgjfonaaRows
import Derived.WalkKit
import Derived.ProofKit
import Derived.OpenShut
import Derived.ShutString
import Derived.SizedLaws
import Derived.Test.YtbdhenmkgjfonaaWalks
import Derived.WalkLawsBesides
import Derived.WalkSpells
import Derived.Deep.RegionHeld3
import Derived.Deep.DrawnRows
import Derived.BigQuiet
import Derived.Deep.QuietTactic
import Derived.Laws.IdiomStrings
import Derived.Laws.BytesArg
import Derived.ChangeOld
import Derived.Below
namespace Go.Proofs.Ytbdhenmkgjfonaa.sumTells
open Go.ChangeShapes Go.WideShapes Go.ChangeAt Go.RowKit
open Go.ChangeMaps (open_string shut_string)
open Crc
set_option linter.unusedVariables false      -- a walk need not use every 'w<i>' (that an integer argument fits its kind)

theorem own : ownKnob Try.prog.godebug = none := by kernel_rfl

/-! ### The walk: the Go text returns true. -/
theorem tmod_neg_bounds (a b : Int) (ha : a < 0) (hb : 0 < b) : -b < a.tmod b ∧ a.tmod b ≤ 0 := by
  have e : a.tmod b = -((-a) % b) := by
    have h1 := Int.neg_tmod (-a) b
    rw [Int.neg_neg] at h1
    rw [h1, Int.tmod_eq_emod_of_nonneg (by omega)]
  have h1 : 0 ≤ (-a) % b := Int.emod_nonneg _ (by omega)
  have h2 : (-a) % b < b := Int.emod_lt_of_pos _ hb
  omega
/-- pushref.Rest: what is left of a number at a positive one, never below 0. -/
theorem rest_any (a : Int) (b : Int) (ha : -9223372036854775808 ≤ a ∧ a ≤ 9223372036854775807) (hb : 0 < b) (hb2 : b ≤ 1125899906842624) (w : World) :
    Calls Try.prog 10 #[.int .i64 a, .int .i64 b] w fun e w' => (∃ K : Nat, e = .returned (.int .i64 (K : Int)) ∧ (K : Int) < b) ∧ w' = w := by
  have hbz : (b == 0) = false := by simp; omega
  by_cases h0 : 0 ≤ a
  · have h1 : 0 ≤ a % b := Int.emod_nonneg _ (by omega)
    have h2 : a % b < b := Int.emod_lt_of_pos _ hb
    go_enter Try.func10, Try.ntmps10
    go_wp2
    go_ret
    exact ⟨⟨(a % b).toNat, ret_int (by omega), by omega⟩, rfl⟩
  · have h1 := tmod_neg_bounds a b (by omega) hb
    obtain ⟨h2, h3⟩ := h1
    go_enter Try.func10, Try.ntmps10
    go_wp2
    · go_ret
      exact ⟨⟨(a.tmod b + b).toNat, ret_int (by omega), by omega⟩, rfl⟩
    · go_ret
      exact ⟨⟨(a.tmod b).toNat, ret_int (by omega), by omega⟩, rfl⟩
theorem bytes_made (w : World) (s : ByteArray) : ∃ cap W2, (convert 9 27 (.string s)).run Try.prog w = .ok (.slice (some ⟨w.heap.size, 0, none⟩) s.size cap) W2 ∧
    (∀ j, j < s.size → W2.cell? ⟨w.heap.size, j, none⟩ = some (.int .u8 ((s.data.toList.getD j 0).toNat : Int))) ∧
    (∀ j, j < s.size → W2.frozen? ⟨w.heap.size, j, none⟩ = false) ∧ Below w.heap.size w W2 ∧ w.heap.size < W2.heap.size := by
  have hr := run_bytes_of_string (P := Try.prog) w 9 27 5 s Try.underlying9 Try.underlying27 Try.underlying5
  generalize hcap : grownCap w s.size 0 5 = cap at hr
  refine ⟨cap, _, hr, ?_, ?_, ?_, ?_⟩
  · intro j hj
    have e := World.cell?_alloc_mark w.drew (bytesRow s cap) 5 ((bytesRow s cap).size, (bytesRow s cap).size + 1) j
    have e2 : (w.drew.alloc (.cells (bytesRow s cap) 5 ((bytesRow s cap).size, (bytesRow s cap).size + 1))).cell? ⟨w.heap.size, j, none⟩ = (bytesRow s cap)[j]? := e
    rw [e2, bytesRow_at s cap j hj]
    have : s.data.toList.getD j 0 = s.data[j]'hj := by simp [List.getD, Array.getElem?_eq_getElem (show j < s.data.size from hj)]
    rw [this]
  · intro j hj
    have e := World.frozen?_alloc_mark w.drew (bytesRow s cap) 5 (bytesRow s cap).size ((bytesRow s cap).size + 1) j
    have e2 : (w.drew.alloc (.cells (bytesRow s cap) 5 ((bytesRow s cap).size, (bytesRow s cap).size + 1))).frozen? ⟨w.heap.size, j, none⟩ = (decide ((bytesRow s cap).size ≤ j) && decide (j < (bytesRow s cap).size + 1)) := e
    rw [e2]
    have : j < (bytesRow s cap).size := by simp [bytesRow]; have : j < s.data.size := hj; omega
    have : decide ((bytesRow s cap).size ≤ j) = false := by simp; omega
    rw [this]; rfl
  · exact ((Below.refl _ w).drew).alloc (Nat.le_refl _) _
  · show w.heap.size < (w.heap.push _).size
    simp
/-- The text's byte j when k bytes of x have been laid over it from m on. -/
def turned (s : ByteArray) (x m k j : Nat) : UInt8 := s.data.toList.getD j 0 ^^^ (if m ≤ j ∧ j < m + k then UInt8.ofNat (x / 256 ^ (j - m)) else 0)
theorem shl_fits (g k : Nat) (hg : g ≤ 4294967295) : IntKind.u64.wrap ((g : Int) * 2 ^ (k % 8)) = ((g * 2 ^ (k % 8) : Nat) : Int) ∧ g * 2 ^ (k % 8) < 1099511627776 := by
  have h1 : 2 ^ (k % 8) ≤ 2 ^ 7 := Nat.pow_le_pow_right (by omega) (by omega)
  have h2 : g * 2 ^ (k % 8) ≤ g * 2 ^ 7 := Nat.mul_le_mul_left _ h1
  have h3 : g * 2 ^ (k % 8) < 1099511627776 := by omega
  refine ⟨?_, h3⟩
  have e : (g : Int) * 2 ^ (k % 8) = ((g * 2 ^ (k % 8) : Nat) : Int) := by simp
  rw [e]
  simp only [IntKind.wrap, IntKind.bits, IntKind.signed]
  exact Int.emod_eq_of_lt (by omega) (by omega)
theorem turned_begin {s : ByteArray} {x m : Nat} {w : World} {h : Nat} (hc : ∀ j, j < s.size → w.cell? ⟨h, j, none⟩ = some (.int .u8 ((s.data.toList.getD j 0).toNat : Int))) :
    ∀ j, j < s.size → w.cell? ⟨h, j, none⟩ = some (.int .u8 ((turned s x m 0 j).toNat : Int)) := fun j hj => by
  rw [hc j hj]
  have : turned s x m 0 j = s.data.toList.getD j 0 := by
    unfold turned
    rw [if_neg (by omega)]
    simp
  rw [this]
theorem le_at : ∀ (n x i : Nat), i < n → (le n x)[i]? = some (UInt8.ofNat (x / 256 ^ i))
  | 0, _, _, h => by omega
  | n + 1, x, 0, _ => by simp [le]
  | n + 1, x, i + 1, h => by
    show (le n (x / 256))[i]? = _
    rw [le_at n (x / 256) i (by omega), Nat.div_div_eq_div_mul, Nat.pow_succ, Nat.mul_comm]
theorem le_length : ∀ (n x : Nat), (le n x).length = n
  | 0, _ => rfl
  | n + 1, x => by simp [le, le_length n (x / 256)]
theorem window_at (x m n j : Nat) (hj : j < m + 5 + n) : (List.replicate m (0 : UInt8) ++ le 5 x ++ List.replicate n 0)[j]? = some (if m ≤ j ∧ j < m + 5 then UInt8.ofNat (x / 256 ^ (j - m)) else 0) := by
  have l5 := le_length 5 x
  by_cases h1 : j < m
  · rw [if_neg (by omega), List.append_assoc, List.getElem?_append_left (by simpa using h1)]
    simp [h1]
  · by_cases h2 : j < m + 5
    · rw [if_pos (by omega), List.getElem?_append_left (by simp [l5]; omega), List.getElem?_append_right (by simp; omega)]
      simp only [List.length_replicate]
      exact le_at 5 x (j - m) (by omega)
    · rw [if_neg (by omega), List.getElem?_append_right (by simp [l5]; omega)]
      rw [List.getElem?_replicate, if_pos (by simp [l5]; omega)]
/-- The text when all five bytes have been laid over it. -/
def last (s : ByteArray) (x m : Nat) : List UInt8 := mix s.data.toList (List.replicate m (0 : UInt8) ++ le 5 x ++ List.replicate (s.size - m - 5) 0)
theorem last_length (s : ByteArray) (x m : Nat) (h : m + 5 ≤ s.size) : (last s x m).length = s.size := by
  unfold last
  rw [mix_length]
  · simp [le_length]; omega
  · simp [le_length]; omega
theorem last_at (s : ByteArray) (x m : Nat) (h : m + 5 ≤ s.size) (j : Nat) (hj : j < (last s x m).length) : (last s x m)[j] = turned s x m 5 j := by
  have hl := last_length s x m h
  have hs : j < s.size := by omega
  have e : (last s x m)[j]? = some (turned s x m 5 j) := by
    unfold last mix
    rw [List.getElem?_zipWith, window_at x m (s.size - m - 5) j (by omega), List.getElem?_eq_getElem (by simpa using hs)]
    simp [turned, List.getD, Array.getElem?_eq_getElem (show j < s.data.size from hs)]
  rw [List.getElem?_eq_getElem hj] at e
  exact Option.some.inj e
theorem conv_last {w : World} {h cap : Nat} {s : ByteArray} {x m : Nat} (hm : m + 5 ≤ s.size) (hc : ∀ j, j < s.size → w.cell? ⟨h, j, none⟩ = some (.int .u8 ((turned s x m 5 j).toNat : Int))) :
    (convert 27 9 (.slice (some ⟨h, 0, none⟩) s.size cap)).run Try.prog w = .ok (.string ⟨(last s x m).toArray⟩) w := by
  have hl := last_length s x m hm
  have := run_convert_bytes_back w 27 9 5 ⟨h, 0, none⟩ cap (last s x m) Try.underlying27 Try.underlying5 Try.underlying9 fun j hj => by
    have hadd : (⟨h, 0, none⟩ : Addr).add j = ⟨h, j, none⟩ := by unfold Addr.add; split <;> simp_all
    rw [hadd, hc j (by omega), last_at s x m hm j hj]
  rwa [hl] at this
theorem step_byte (s : ByteArray) (x m k : Nat) (c : UInt8) (hc : c = turned s x m k (m + k)) : bits .xor .u8 (c.toNat : Int) ((x : Int) / 2 ^ (8 * k) % 256) = ((turned s x m (k + 1) (m + k)).toNat : Int) := by
  have e1 : (x : Int) / 2 ^ (8 * k) % 256 = ((x / 256 ^ k % 256 : Nat) : Int) := by
    have e0 : (2 : Int) ^ (8 * k) = ((256 ^ k : Nat) : Int) := by
      rw [show (256 : Nat) = 2 ^ 8 by rfl, ← Nat.pow_mul]; simp
    rw [e0]; simp
  have hl := c.toNat_lt
  rw [e1, u8_xor_nat _ _ (by omega) (by omega)]
  have e2 : turned s x m (k + 1) (m + k) = c ^^^ UInt8.ofNat (x / 256 ^ k) := by
    rw [hc]; unfold turned
    rw [if_pos (by omega), if_neg (by omega), show m + k - m = k by omega]
    simp
  rw [e2, UInt8.toNat_xor]
  simp
theorem step_cells {w : World} {h : Nat} {s : ByteArray} {x m k : Nat} {c : UInt8} (hc : c = turned s x m k (m + k)) (hw : ∀ j, j < s.size → w.cell? ⟨h, j, none⟩ = some (.int .u8 ((turned s x m k j).toNat : Int))) (hk : m + k < s.size) :
    ∀ j, j < s.size → (w.setCell ⟨h, m + k, none⟩ (.int .u8 (bits .xor .u8 (c.toNat : Int) ((x : Int) / 2 ^ (8 * k) % 256)))).drew.cell? ⟨h, j, none⟩ = some (.int .u8 ((turned s x m (k + 1) j).toNat : Int)) := by
  intro j hj
  show (w.setCell ⟨h, m + k, none⟩ (.int .u8 (bits .xor .u8 (c.toNat : Int) ((x : Int) / 2 ^ (8 * k) % 256)))).cell? ⟨h, j, none⟩ = _
  rw [step_byte s x m k c hc]
  by_cases e : j = m + k
  · subst e
    exact World.cell?_setCell_same w _ _ (hw _ hk)
  · have hne : (⟨h, m + k, none⟩ : Addr) ≠ ⟨h, j, none⟩ := by
      intro hh
      injection hh with _ h2 _
      exact e h2.symm
    rw [World.cell?_setCell_other (h := hne), hw j hj]
    have : turned s x m (k + 1) j = turned s x m k j := by
      unfold turned
      by_cases h1 : m ≤ j ∧ j < m + k
      · rw [if_pos h1, if_pos (by omega)]
      · rw [if_neg h1, if_neg (by omega)]
    rw [this]
theorem told (s : ByteArray) (g K X : Nat) (hX : X = g * 2 ^ (K % 8)) (hg : ¬ g = 0) (hl : g ≤ 4294967295) (hm : K / 8 + 5 ≤ s.size) :
    (((more 0 s.data.toList : Nat) : Int) != ((more 0 (last s X (K / 8)) : Nat) : Int)) = true := by
  subst hX
  have h := turned_ne s.data.toList g (K % 8) (K / 8) (s.size - K / 8 - 5) hg (by omega) (by omega) (by
    have : s.data.toList.length = s.size := by simp
    omega)
  rw [bne_iff_ne]
  intro e
  exact h (by unfold last at e; omega)
theorem ret_bool {b : Bool} (h : b = true) : Ending.returned (.bool b) = .returned (.bool true) := by rw [h]
set_option maxHeartbeats 800000 in
theorem walk (a0 : ByteArray) (a1 : Int) (a2 : Int) (w0 : a0.size ≤ 140737488351232) (w1 : (Lit.int .i64 a1).wf = true) (w2 : (Lit.int .u32 a2).wf = true) (w : World) :
    Calls Try.prog 6 #[.string a0, .int .i64 a1, .int .u32 a2] w fun e w' => e = .returned (.bool true) ∧ Below w.heap.size w w' := by
  have hbits := bounds_u32 w2
  have hat := bounds_i64 w1
  clear w1 w2
  obtain ⟨g, rfl⟩ : ∃ g : Nat, a2 = (g : Int) := ⟨a2.toNat, by omega⟩
  by_cases h5 : a0.size < 5
  · have h5' : (a0.size : Int) < 5 := by omega
    go_enter Try.func6, Try.ntmps6
    go_wp2_with fail
    refine (sum_any _ (by decide) _).mono ?_
    rintro e w' ⟨rfl, rfl⟩
    rw [show more 0 (ByteArray.mk #[]).data.toList = 0 from known_empty]
    go_wp2_with fail
    refine (sum_any _ (by decide) _).mono ?_
    rintro e w' ⟨rfl, rfl⟩
    rw [show more 0 (ByteArray.mk #[97]).data.toList = 3904355907 from known_a]
    go_wp2_with fail
    refine (sum_any _ (by decide) _).mono ?_
    rintro e w' ⟨rfl, rfl⟩
    rw [show more 0 (ByteArray.mk #[98]).data.toList = 1908338681 from known_b]
    go_wp2
    go_ret
    exact ⟨rfl, Below.refl _ _⟩
  · have h5' : ¬ (a0.size : Int) < 5 := by omega
    by_cases hg : g = 0
    · have hg' : ((g : Int) == 0) = true := by simp [hg]
      clear hg
      go_enter Try.func6, Try.ntmps6
      go_wp2_with fail
      refine (sum_any _ (by decide) _).mono ?_
      rintro e w' ⟨rfl, rfl⟩
      rw [show more 0 (ByteArray.mk #[]).data.toList = 0 from known_empty]
      go_wp2_with fail
      refine (sum_any _ (by decide) _).mono ?_
      rintro e w' ⟨rfl, rfl⟩
      rw [show more 0 (ByteArray.mk #[97]).data.toList = 3904355907 from known_a]
      go_wp2_with fail
      refine (sum_any _ (by decide) _).mono ?_
      rintro e w' ⟨rfl, rfl⟩
      rw [show more 0 (ByteArray.mk #[98]).data.toList = 1908338681 from known_b]
      go_wp2
      go_ret
      exact ⟨rfl, Below.refl _ _⟩
    · have hg' : ((g : Int) == 0) = false := by simp [hg]
      go_enter Try.func6, Try.ntmps6
      go_wp2_with fail
      refine (sum_any _ (by decide) _).mono ?_
      rintro e w' ⟨rfl, rfl⟩
      rw [show more 0 (ByteArray.mk #[]).data.toList = 0 from known_empty]
      go_wp2_with fail
      refine (sum_any _ (by decide) _).mono ?_
      rintro e w' ⟨rfl, rfl⟩
      rw [show more 0 (ByteArray.mk #[97]).data.toList = 3904355907 from known_a]
      go_wp2_with fail
      refine (sum_any _ (by decide) _).mono ?_
      rintro e W ⟨rfl, rfl⟩
      rw [show more 0 (ByteArray.mk #[98]).data.toList = 1908338681 from known_b]
      go_wp2_with fail
      refine (rest_any _ _ hat (by omega) (by omega) _).mono ?_
      rintro e W1 ⟨⟨K, rfl, hK⟩, hW1⟩
      subst hW1
      obtain ⟨cap, W2, hrun, hcell, hfree, hbel, hsz⟩ := bytes_made W1 a0
      obtain ⟨X, HX, hx, hX⟩ : ∃ X : Nat, Hid (X = g * 2 ^ (K % 8)) ∧ IntKind.u64.wrap ((g : Int) * 2 ^ (K % 8)) = (X : Int) ∧ X < 1099511627776 := ⟨_, rfl, shl_fits g K (by omega)⟩
      have HC : Hid (∀ j, j < a0.size → W2.cell? ⟨W1.heap.size, j, none⟩ = some (.int .u8 ((a0.data.toList.getD j 0).toNat : Int))) := hcell
      have HF : Hid (∀ j, j < a0.size → W2.frozen? ⟨W1.heap.size, j, none⟩ = false) := hfree
      clear hcell hfree
      go_wp2_with fail
      clear hrun
      go_loopw [38] (fun i wr => ∃ k : Nat, k ≤ 5 ∧ i = .int .i64 (k : Int) ∧ Hid (∀ j, j < a0.size → wr.cell? ⟨W1.heap.size, j, none⟩ = some (.int .u8 ((turned a0 X (K / 8) k j).toNat : Int))) ∧ Hid (∀ j, j < a0.size → wr.frozen? ⟨W1.heap.size, j, none⟩ = false) ∧ Below W1.heap.size W1 wr ∧ W1.heap.size < wr.heap.size) (fun i _ => 5 - (intOf i).toNat)
      case atStart => exact ⟨0, Nat.zero_le _, rfl, turned_begin HC.out, HF, hbel, hsz⟩
      case round =>
        clear HC HF hbel hsz
        obtain ⟨k, hk, rfl, HC, HF, hbel, hsz⟩ := hrel
        by_cases hlt : k < 5
        · have hj : K / 8 + k < a0.size := by omega
          obtain ⟨c, HCc, hc⟩ : ∃ c : UInt8, Hid (c = turned a0 X (K / 8) k (K / 8 + k)) ∧ wr.cell? ⟨W1.heap.size, K / 8 + k, none⟩ = some (.int .u8 (c.toNat : Int)) := ⟨_, rfl, HC.out _ hj⟩
          have hf := HF.out _ hj
          have hj0 : (0 : Int) ≤ (K : Int) / 8 + (k : Int) := by omega
          have hj1 : (K : Int) / 8 + (k : Int) < (a0.size : Int) := by omega
          go_wp2
          go_region
          have R := step_cells HCc.out HC.out hj
          have RF : ∀ j, j < a0.size → ((wr.setCell ⟨W1.heap.size, K / 8 + k, none⟩ (.int .u8 (bits .xor .u8 (c.toNat : Int) ((X : Int) / 2 ^ (8 * k) % 256)))).drew).frozen? ⟨W1.heap.size, j, none⟩ = false := fun j hj => (World.frozen?_setCell _ _ _ _).trans (HF.out j hj)
          have RH : Hid (∀ j, j < a0.size → ((wr.setCell ⟨W1.heap.size, K / 8 + k, none⟩ (.int .u8 (bits .xor .u8 (c.toNat : Int) ((X : Int) / 2 ^ (8 * k) % 256)))).drew).cell? ⟨W1.heap.size, j, none⟩ = some (.int .u8 ((turned a0 X (K / 8) (k + 1) j).toNat : Int))) := R
          have RG : Hid (∀ j, j < a0.size → ((wr.setCell ⟨W1.heap.size, K / 8 + k, none⟩ (.int .u8 (bits .xor .u8 (c.toNat : Int) ((X : Int) / 2 ^ (8 * k) % 256)))).drew).frozen? ⟨W1.heap.size, j, none⟩ = false) := RF
          clear R RF
          go_wp2
          go_roundw
          case rel => exact ⟨k + 1, by omega, by go_num, RH, RG, (hbel.setCell (Nat.le_refl _) _).drew, by simpa using hsz⟩
          case measure => simp [intOf]; omega
        · have ek : k = 5 := by omega
          subst ek
          have hm : K / 8 + 5 ≤ a0.size := by omega
          have hconv := fun nq => conv_last (w := wr.drewN nq) (cap := cap) hm (by exact HC.out)
          have hs : (ByteArray.mk (last a0 X (K / 8)).toArray).size ≤ 9223372036854775807 := by
            show (last a0 X (K / 8)).toArray.size ≤ _
            rw [List.size_toArray, last_length a0 X (K / 8) hm]; omega
          go_wp2_with fail
          go_quiet ((go_at_call 7; refine Calls.quiet_of_same (sum_any _ ?_ _); first | assumption | omega))
          go_wp2
          go_ret
          exact ⟨ret_bool (told a0 g K X HX.out hg (by omega) hm), below_drewN hbel nq⟩

/-! ### The row's step -/
set_option maxRecDepth 100000 in
theorem lifted (os : Os) (started : os.Started) (H : Type) (enc : TypeId × Value → H) :
    ReturnsInHanded {} Try.checked os 6 .any (Rows.sumTellsSpec.pre6 enc Try.prog Try.f6 Rows.sumTellsRow.domain false) (Rows.sumTellsSpec.post enc Try.prog Try.f6 false true false false) := by
  refine returnsInHanded_of_change_sized (C := Try.checked) own started (by kernel_rfl) Try.func6
    (ChangeSpec.witness6 (enc := enc) (C := Try.checked) false ⟨#[], #[.string ByteArray.empty, .int .i64 0, .int .u32 0], []⟩ 8 (by kernel_rfl) (by kernel_rfl) (by kernel_rfl) (by kernel_rfl)) ?_
  intro W base args ds gs before hval0 hW hcnd hsz0 _
  have hval : ∀ (j : Nat) t v, Try.f6.params[j]? = some t → args[j]? = some v → Value.okWide Try.prog W .any base t v := hval0
  have hsz : (DataW.weightsEach Try.prog (Try.f6.params.toList ++ Rows.sumTellsSpec.plain.varTypes Try.prog) (ds ++ gs)).all (· ≤ reachBytes) = true := hsz0
  have hW' := hW
  obtain ⟨p, q, hA0, hV, rfl, hfz, hnd⟩ := hW
  have hA : DataW.TrodAll enc Try.prog W 0 (fun _ => true) true Try.f6.params.toList args.toList ds p := hA0
  rw [Try.params6] at hA hval hsz
  obtain ⟨v0, vs0, d0, ds0, p0, q0, hargs, rfl, rfl, h0, r0⟩ := trodAll_cons hA
  obtain ⟨v1, vs1, d1, ds1, p1, q1, rfl, rfl, rfl, h1, r1⟩ := trodAll_cons r0
  obtain ⟨v2, vs2, d2, ds2, p2, q2, rfl, rfl, rfl, h2, r2⟩ := trodAll_cons r1
  obtain ⟨rfl, rfl, rfl⟩ := trodAll_nil r2
  obtain rfl : args = #[v0, v1, v2] := by cases args; simp_all
  obtain ⟨rfl, rfl⟩ := trodVars_none hV
  obtain ⟨a0, rfl, rfl, rfl, w0⟩ := open_string Try.underlying9 (hval 0 9 v0 rfl rfl) h0
  obtain ⟨a1, rfl, rfl, rfl, w1⟩ := open_int Try.underlying3 (hval 1 3 v1 rfl rfl) h1
  obtain ⟨a2, rfl, rfl, rfl, w2⟩ := open_int Try.underlying22 (hval 2 22 v2 rfl rfl) h2
  clear hA0 hval0
  simp only [List.append_nil] at hW'
  have r0 : a0.size ≤ 140737488351232 := by have := sized_string hsz (j := 0) (t := 9) rfl rfl; simpa [reachBytes] using this
  refine (walk a0 a1 a2 r0 w1 w2 W).mono fun e W' ⟨he, hg⟩ => ?_
  subst he
  exact ⟨_, rfl, _, _, _, [], _, [], hW', trodAll_mk1 (shut_bool Try.underlying4 _), (trodAll_cons_mk (shut_string Try.underlying9 w0) (trodAll_cons_mk (shut_int Try.underlying3 w1) (trodAll_cons_mk (shut_int Try.underlying22 w2) trodAll_mk0))), rfl, hg.frame _, fun h => by cases h⟩

theorem over : Rows.sumTellsRow.holds Try.pinned (OpenSpec.ofChange Rows.sumTellsSpec) :=
  OpenClaim.holds_of_wide 6 Try.f6 rfl rfl rfl rfl rfl rfl rfl ⟨rfl, rfl, rfl, rfl, rfl⟩ rfl rfl rfl rfl rfl (by kernel_rfl) Try.func6 (by kernel_rfl)
    (of_decide_eq_true (by kernel_rfl)) (by unfold Func.isWrapper; first | (rw [if_pos (by decide +kernel)]; kernel_rfl) | (rw [if_neg (by decide +kernel)]; exact ⟨rfl, rfl⟩))
    (fun os started H enc _ => lifted os started H enc)

end Go.Proofs.Ytbdhenmkgjfonaa.sumTells
namespace Go.Proofs.Ytbdhenmkgjfonaa
/-- The given statement. -/
theorem sumTells_holds : Rows.SumTellsSaid := sumTells.over
#print axioms sumTells_holds
end Go.Proofs.Ytbdhenmkgjfonaa
