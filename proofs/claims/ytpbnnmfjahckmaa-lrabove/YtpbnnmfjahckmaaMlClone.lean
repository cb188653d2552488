/-
  The contract of slices.Clone at numbers.
-/
import Derived.Test.YtpbnnmfjahckmaaMlLow
import Derived.Deep.OwnRows
import Derived.Lib.SliceRun
namespace Go.Proofs.Ytpbnnmfjahckmaa
open Go.RowKit
open Cg

set_option maxHeartbeats 1600000 in
set_option maxRecDepth 20000 in
theorem clone_at (p : Addr) (cap : Nat) (xs : List Value) (w : World) (h1 : ∀ u ∈ xs, u.oneCell' = true) (hc : ∀ j u, xs[j]? = some u → w.cell? (p.add j) = some u) (hn : xs.length ≤ 20000) :
    Calls Try.prog 47 #[.slice (some p) xs.length cap] w fun e w' => ∃ a2 c2, e = .returned (.slice a2 xs.length c2) ∧ w'.ownsRow w.heap.size 3 1 (.slice a2 xs.length c2) xs.length xs ∧ Below w.heap.size w w' := by
  obtain ⟨n, hl⟩ : ∃ n, xs.length = n := ⟨_, rfl⟩
  rw [hl] at hn ⊢
  obtain ⟨i3, hi3, hz3, hs3, hb3⟩ := minfo_parts info3
  have H3 : Hid (Try.prog.info? 3 = some i3 ∧ i3.zero = some (.int .i64 0) ∧ i3.size = 1 ∧ i3.bytes = 8) := ⟨hi3, hz3, hs3, hb3⟩
  have HC : Hid (∀ j u, xs[j]? = some u → w.cell? (p.add j) = some u) := hc
  have HL : Hid (xs.length = n * 1 ∧ ∀ u ∈ xs, u.oneCell' = true) := ⟨by omega, h1⟩
  clear hi3 hz3 hs3 hb3 hc hl h1
  have q25 : ∀ (w : World) (a : Option Addr) (n c n' c' : Nat), (binOp .eql 29 (.slice a n c) (.slice none n' c')).run Try.prog w = .ok (.bool a.isNone) w := fun w a n c n' c' => Go.Lib.run_eql_slice_nil w _ _ a n c n' c' Try.underlying29
  go_enter Try.func47, Try.ntmps47
  go_wp2_with (at_builtin; refine wpList_append_own _ rfl _ _ 29 rfl w.heap.size 3 i3 (.int .i64 0) 1 8 Try.underlying29 H3.out.1 H3.out.2.1 H3.out.2.2.1 H3.out.2.2.2 rfl (by omega) _ _ _ rfl (World.ownsRow_made w #[] 0 (Nat.le_refl _) (Nat.zero_le _) (by simp)) p n cap xs rfl ?qc1 ?qc2 ?qc3 ?qc4 ?qc5 ?qc6 ?_)
  case qc1 => exact HL.out.1
  case qc2 =>
    intro j u hj
    exact Go.Lib.cell?_alloc_some _ (HC.out j u hj)
  case qc3 => exact HL.out.2
  case qc4 => rw [Nat.zero_add]; simp [maxLen]; omega
  case qc5 => omega
  case qc6 => simp
  intro v' w1 hown hgrow hnil
  have HO : Hid (w1.ownsRow w.heap.size 3 1 v' n xs) := by
    show World.ownsRow _ _ _ _ _ _ _
    simpa using hown
  have HB : Hid (Below w.heap.size w w1) := ((Below.refl _ w).alloc (Nat.le_refl _) _).grown hgrow (by simp) (by intro k hk; simp [Value.ownBlock] at hk; omega)
  obtain ⟨a2, c2, rfl⟩ : ∃ a2 c2, v' = .slice a2 n c2 := by
    obtain ⟨_, ⟨e1, e2⟩ | ⟨g, cp, cur, hv, _⟩⟩ := HO.out
    · exact ⟨none, 0, by rw [e1, e2]⟩
    · exact ⟨_, cp, hv⟩
  clear hown hgrow hnil
  go_wp2_with fail
  go_ret
  exact ⟨a2, c2, rfl, HO.out, HB.out⟩
set_option maxRecDepth 20000 in
theorem clone_none (n cap : Nat) (w : World) :
    Calls Try.prog 47 #[.slice none n cap] w fun e w' => e = .returned (.slice none 0 0) ∧ w' = w := by
  have q25 : ∀ (w : World) (a : Option Addr) (n c n' c' : Nat), (binOp .eql 29 (.slice a n c) (.slice none n' c')).run Try.prog w = .ok (.bool a.isNone) w := fun w a n c n' c' => Go.Lib.run_eql_slice_nil w _ _ a n c n' c' Try.underlying29
  go_enter Try.func47, Try.ntmps47
  go_wp2_with fail
  go_ret
  exact ⟨rfl, rfl⟩
theorem clone_ints (v : Value) (ws : List Int) (w : World) (h : Ints w v ws) (hl : ws.length ≤ 20000) :
    Calls Try.prog 47 #[v] w fun e w' => ∃ a c, e = .returned (.slice a ws.length c) ∧ w'.ownsRow w.heap.size 3 1 (.slice a ws.length c) ws.length (ws.map (Value.int .i64)) ∧ Below w.heap.size w w' := by
  obtain ⟨ao, cap, rfl, hm, hcs⟩ := h
  cases ao with
  | none =>
    have e : ws = [] := by
      rcases hcs with h | ⟨b, o, h, -⟩
      · exact h
      · cases h
    subst e
    refine (clone_none _ _ _).mono ?_
    rintro _ w' ⟨rfl, rfl⟩
    exact ⟨none, 0, rfl, World.ownsRow_nil _ _ _ _, Below.refl _ _⟩
  | some p =>
    have hc : ∀ j u, (ws.map (Value.int .i64))[j]? = some u → w.cell? (p.add j) = some u := fun j u hu => by
      rcases hcs with h | ⟨b, o, h, -, h3⟩
      · subst h; simp at hu
      · have hj : j < ws.length := by have := (List.getElem?_eq_some_iff.1 hu).1; simpa using this
        injection h with h
        subst h
        rw [List.getElem?_map, List.getElem?_eq_getElem hj] at hu
        simp at hu
        rw [Addr.add_lit, h3 j hj, hu]
    have := clone_at p cap (ws.map (Value.int .i64)) w (fun u hu => by
      obtain ⟨x, -, rfl⟩ := List.mem_map.1 hu; rfl) hc (by simpa using hl)
    simp only [List.length_map] at this
    exact this
end Go.Proofs.Ytpbnnmfjahckmaa
