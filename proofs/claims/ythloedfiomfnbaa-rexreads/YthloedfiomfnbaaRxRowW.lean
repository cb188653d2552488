/-
  The contract of slices.Clone at trees. Rows of trees of one's own: their cells, and one of them put anew.
-/
import Derived.Test.YthloedfiomfnbaaChecks
import Derived.Deep.OwnRows
import Derived.Lib.SliceRun
import Derived.Test.YthloedfiomfnbaaPaTree
namespace Go.Proofs.Ythloedfiomfnbaa
open Go.RowKit
open Cls Rex

theorem info27 : (Try.prog.info? 27).map (fun i => (i.zero, i.size, i.bytes)) = some (some (.agg #[.int .i64 0, .int .u64 0, .int .u64 0, .int .u64 0, .int .u64 0, .slice none 0 0]), 6, 64) := by kernel_rfl
set_option maxHeartbeats 1600000 in
set_option maxRecDepth 20000 in
/-- A copy of a row that is not nil: it owns its block. -/
theorem clone_some (b o n cap : Nat) (xs : List Value) (w : World) (hl : xs.length = n * 6) (h1 : ∀ u ∈ xs, u.oneCell' = true) (hc : ∀ j u, xs[j]? = some u → w.cell? ⟨b, o + j, none⟩ = some u) (hn : n ≤ 200) :
    Calls Try.prog 38 #[.slice (some ⟨b, o, none⟩) n cap] w fun e w' => ∃ a2 c2, e = .returned (.slice a2 n c2) ∧ w'.ownsRow w.heap.size 27 6 (.slice a2 n c2) n xs ∧ Below w.heap.size w w' := by
  obtain ⟨i3, hi3, hz3, hs3, hb3⟩ := info_parts info27
  have H3 : Hid (Try.prog.info? 27 = some i3 ∧ i3.zero = some (.agg #[.int .i64 0, .int .u64 0, .int .u64 0, .int .u64 0, .int .u64 0, .slice none 0 0]) ∧ i3.size = 6 ∧ i3.bytes = 64) := ⟨hi3, hz3, hs3, hb3⟩
  have HC : Hid (∀ j u, xs[j]? = some u → w.cell? ⟨b, o + j, none⟩ = some u) := hc
  have HL : Hid (xs.length = n * 6 ∧ ∀ u ∈ xs, u.oneCell' = true) := ⟨hl, h1⟩
  clear hi3 hz3 hs3 hb3 hc hl h1
  have q25 : ∀ (w : World) (a : Option Addr) (n c n' c' : Nat), (binOp .eql 25 (.slice a n c) (.slice none n' c')).run Try.prog w = .ok (.bool a.isNone) w := fun w a n c n' c' => Go.Lib.run_eql_slice_nil w _ _ a n c n' c' Try.underlying25
  go_enter Try.func38, Try.ntmps38
  go_wp2_with (at_builtin; refine wpList_append_own _ rfl _ _ 25 rfl w.heap.size 27 i3 (.agg #[.int .i64 0, .int .u64 0, .int .u64 0, .int .u64 0, .int .u64 0, .slice none 0 0]) 6 64 Try.underlying25 H3.out.1 H3.out.2.1 H3.out.2.2.1 H3.out.2.2.2 rfl (by omega) _ _ _ rfl (World.ownsRow_made w #[] 0 (Nat.le_refl _) (Nat.zero_le _) (by simp)) ⟨b, o, none⟩ n cap xs rfl ?qc1 ?qc2 ?qc3 ?qc4 ?qc5 ?qc6 ?_)
  case qc1 => exact HL.out.1
  case qc2 =>
    intro j u hj
    rw [Addr.add_lit]
    exact Go.Lib.cell?_alloc_some _ (HC.out j u hj)
  case qc3 => exact HL.out.2
  case qc4 => rw [Nat.zero_add]; simp [maxLen]; omega
  case qc5 => omega
  case qc6 => simp
  intro v' w1 hown hgrow hnil
  have HO : Hid (w1.ownsRow w.heap.size 27 6 v' n xs) := by
    show World.ownsRow _ _ _ _ _ _ _
    simpa using hown
  have HB : Hid (Below w.heap.size w w1) := ((Below.refl _ w).alloc (Nat.le_refl _) _).grown hgrow (by simp) (by intro k hk; simp [Value.ownBlock] at hk; omega)
  obtain ⟨a2, c2, rfl⟩ : ∃ a2 c2, v' = .slice a2 n c2 := by
    obtain ⟨_, ⟨e1, e2⟩ | ⟨g, cp, cur, hv, _⟩⟩ := HO.out
    · exact ⟨none, 0, by rw [e1, e2]⟩
    · exact ⟨_, cp, hv⟩
  clear hown hgrow hnil
  go_wp2_with fail
  go_ret
  exact ⟨a2, c2, rfl, HO.out, HB.out⟩
set_option maxRecDepth 20000 in
theorem clone_none (n cap : Nat) (w : World) :
    Calls Try.prog 38 #[.slice none n cap] w fun e w' => e = .returned (.slice none 0 0) ∧ w' = w := by
  have q25 : ∀ (w : World) (a : Option Addr) (n c n' c' : Nat), (binOp .eql 25 (.slice a n c) (.slice none n' c')).run Try.prog w = .ok (.bool a.isNone) w := fun w a n c n' c' => Go.Lib.run_eql_slice_nil w _ _ a n c n' c' Try.underlying25
  go_enter Try.func38, Try.ntmps38
  go_wp2_with fail
  go_ret
  exact ⟨rfl, rfl⟩
end Go.Proofs.Ythloedfiomfnbaa

namespace Go.Proofs.Ythloedfiomfnbaa
open Go.RowKit
open Cls Rex

def c6 (q : R6) : List Value := [.int .i64 q.1, .int .u64 (q.2.1.1.toNat : Int), .int .u64 (q.2.1.2.1.toNat : Int), .int .u64 (q.2.1.2.2.1.toNat : Int), .int .u64 (q.2.1.2.2.2.toNat : Int), .slice q.2.2.1 q.2.2.2.1 q.2.2.2.2]
def kxs (f : Nat → R6) : Nat → List Value
  | 0 => []
  | n + 1 => kxs f n ++ c6 (f n)
theorem kxs_len (f : Nat → R6) : ∀ n, (kxs f n).length = n * 6
  | 0 => rfl
  | n + 1 => by rw [kxs, List.length_append, kxs_len f n]; simp [c6]; omega
theorem kxs_at (f : Nat → R6) : ∀ n i j, i < n → j < 6 → (kxs f n)[i * 6 + j]? = (c6 (f i))[j]?
  | 0, _, _, h, _ => absurd h (Nat.not_lt_zero _)
  | n + 1, i, j, h, hj => by
    rw [kxs]
    have hl := kxs_len f n
    by_cases e : i = n
    · subst e
      rw [List.getElem?_append_right (by omega), hl]
      congr 1; omega
    · rw [List.getElem?_append_left (by omega)]
      exact kxs_at f n i j (by omega) hj
theorem kxs_one (f : Nat → R6) : ∀ n, ∀ u ∈ kxs f n, u.oneCell' = true
  | 0, u, h => by simp [kxs] at h
  | n + 1, u, h => by
    rw [kxs] at h
    rcases List.mem_append.1 h with h | h
    · exact kxs_one f n u h
    · simp [c6] at h
      rcases h with rfl | rfl | rfl | rfl | rfl | rfl <;> rfl
theorem kxs_congr {f g : Nat → R6} : ∀ n, (∀ i, i < n → f i = g i) → kxs f n = kxs g n
  | 0, _ => rfl
  | n + 1, h => by rw [kxs, kxs, kxs_congr n fun i hi => h i (by omega), h n (by omega)]
theorem kxs_set (f : Nat → R6) (n k : Nat) (q : R6) (hk : k < n) :
    ((((((kxs f n).set (k * 6) (.int .i64 q.1)).set (k * 6 + 1) (.int .u64 (q.2.1.1.toNat : Int))).set (k * 6 + 2) (.int .u64 (q.2.1.2.1.toNat : Int))).set (k * 6 + 3) (.int .u64 (q.2.1.2.2.1.toNat : Int))).set (k * 6 + 4) (.int .u64 (q.2.1.2.2.2.toNat : Int))).set (k * 6 + 5) (.slice q.2.2.1 q.2.2.2.1 q.2.2.2.2) = kxs (fun i => if i = k then q else f i) n := by
  apply List.ext_getElem?
  intro p
  have hl := kxs_len f n
  have hl2 := kxs_len (fun i => if i = k then q else f i) n
  by_cases hp : p < n * 6
  · have e : p = p / 6 * 6 + p % 6 := by omega
    have hi : p / 6 < n := by omega
    have hj : p % 6 < 6 := by omega
    generalize p / 6 = i at e hi
    generalize p % 6 = j at e hj
    subst e
    rw [kxs_at (fun i => if i = k then q else f i) n i j hi hj]
    by_cases ei : i = k
    · subst ei
      simp only [if_true]
      have hlt : ∀ m, m < 6 → i * 6 + m < (kxs f n).length := fun m hm => by rw [hl]; omega
      have h0 := hlt 0 (by omega)
      have h1 := hlt 1 (by omega)
      have h2 := hlt 2 (by omega)
      have h3 := hlt 3 (by omega)
      have h4 := hlt 4 (by omega)
      have h5 := hlt 5 (by omega)
      rcases (show j = 0 ∨ j = 1 ∨ j = 2 ∨ j = 3 ∨ j = 4 ∨ j = 5 by omega) with rfl | rfl | rfl | rfl | rfl | rfl
      · simp [List.getElem?_set, c6]; omega
      · simp [List.getElem?_set, c6]; omega
      · simp [List.getElem?_set, c6]; omega
      · simp [List.getElem?_set, c6]; omega
      · simp [List.getElem?_set, c6]; omega
      · simp [List.getElem?_set, c6]; omega
    · rw [if_neg ei, List.getElem?_set_ne (by omega), List.getElem?_set_ne (by omega), List.getElem?_set_ne (by omega), List.getElem?_set_ne (by omega), List.getElem?_set_ne (by omega), List.getElem?_set_ne (by omega), kxs_at f n i j hi hj]
  · rw [List.getElem?_eq_none (by simp [hl]; omega), List.getElem?_eq_none (by rw [hl2]; omega)]
theorem own_set6 {w : World} {base e g cap n i : Nat} {xs : List Value} {s : Value} (h : w.ownsRow base e 6 (.slice (some ⟨g, 0, none⟩) n cap) n xs) :
    (w.setCell ⟨g, i, none⟩ s).ownsRow base e 6 (.slice (some ⟨g, 0, none⟩) n cap) n (xs.set i s) := by
  obtain ⟨h1, h2 | ⟨g', cap', cur, hv, hg, hh, hn, hc, hz, ht⟩⟩ := h
  · cases h2.1
  · cases hv
    refine ⟨by simp [h1], Or.inr ⟨g, cap, cur.setIfInBounds i s, rfl, hg, ?_, hn, hc, by simp [hz], ?_⟩⟩
    · simp [World.setCell, Array.getElem?_modify, hh]
    · rw [Array.toList_setIfInBounds, List.take_set, ht]
theorem own_frozen {w : World} {base e g cap n i : Nat} {xs : List Value} (h : w.ownsRow base e 6 (.slice (some ⟨g, 0, none⟩) n cap) n xs) : w.frozen? ⟨g, i, none⟩ = false := by
  obtain ⟨h1, h2 | ⟨g', cap', cur, hv, hg, hh, hn, hc, hz, ht⟩⟩ := h
  · cases h2.1
  · cases hv
    simp [World.frozen?, hh]
theorem len_sz : ∀ l : List T, l.length ≤ szL l
  | [] => by simp [szL]
  | t :: l => by have := len_sz l; have := T.sz_pos t; rw [szL, List.length_cons]; omega
end Go.Proofs.Ythloedfiomfnbaa
