/-
  The contract of slices.Clone at numbers, of a slice that is not nil.
-/
import Derived.Test.YtlgcggfenljdnaaTails
import Derived.Test.YtlgcggfenljdnaaFree
import Derived.Deep.OwnRows
import Derived.Lib.SliceRun
import Derived.Deep.AppendLies
namespace Go.Proofs.Ytlgcggfenljdnaa
open Go.RowKit
open Dfa

theorem info3 : (Try.prog.info? 3).map (fun i => (i.zero, i.size, i.bytes)) = some (some (.int .i64 0), 1, 8) := by kernel_rfl
theorem cells_of_own {w : World} {base n : Nat} {v : Value} {xs : List Value} (h : w.ownsRow base 3 1 v n xs) (h0 : 0 < n) : ∃ g cap, v = .slice (some ⟨g, 0, none⟩) n cap ∧ base ≤ g ∧ g < w.heap.size ∧ ∀ i u, xs[i]? = some u → w.cell? ⟨g, i, none⟩ = some u := by
  obtain ⟨hl, ⟨h1, h2⟩ | ⟨g, cap, cur, hv, hg, hh, hn, hc, hs, ht⟩⟩ := h
  · omega
  · refine ⟨g, cap, hv, hg, ?_, fun i u hu => ?_⟩
    · rcases Nat.lt_or_ge g w.heap.size with h' | h'
      · exact h'
      · simp [Array.getElem?_eq_none h'] at hh
    · have e : w.cell? ⟨g, i, none⟩ = cur[i]? := by simp [World.cell?, hh]
      rw [e]
      have hi : i < xs.length := (List.getElem?_eq_some_iff.1 hu).1
      have h2 : (cur.toList.take (n * 1))[i]? = xs[i]? := by rw [ht]
      rw [List.getElem?_take_of_lt (by omega), hu] at h2
      simpa using h2
def tl (n : Nat) (T : Nat → Int) : List Value := (List.range n).map fun i => Value.int .i64 (T i)
theorem tl_at (n : Nat) (T : Nat → Int) (j : Nat) (hj : j < n) : (tl n T)[j]? = some (.int .i64 (T j)) := by simp [tl, hj]

set_option maxHeartbeats 1600000 in
set_option maxRecDepth 20000 in
theorem clone_any (tv : Value) (n : Nat) (T : Nat → Int) (w : World) (ht : Ts w tv n T) (h0 : 0 < n) (hn : n ≤ 200) :
    Calls Try.prog 26 #[tv] w fun e w' => ∃ g cap, e = .returned (.slice (some ⟨g, 0, none⟩) n cap) ∧ w.heap.size ≤ g ∧ g < w'.heap.size ∧ (∀ i, i < n → w'.cell? ⟨g, i, none⟩ = some (.int .i64 (T i))) ∧ Below w.heap.size w w' := by
  obtain ⟨ao, cap, rfl, hm, hwf, hcs⟩ := ht
  obtain ⟨b, o, rfl, hb, hc⟩ := hcs.resolve_left (by omega)
  clear hcs hwf
  have HC : Hid (∀ j u, (tl n T)[j]? = some u → w.cell? ⟨b, o + j, none⟩ = some u) := fun j u hu => by
    have hj : j < n := by have := (List.getElem?_eq_some_iff.1 hu).1; simpa [tl] using this
    rw [tl_at n T j hj] at hu
    rw [hc j hj, hu]
  have HL : Hid ((tl n T).length = n * 1 ∧ ∀ u ∈ tl n T, u.oneCell' = true) := by
    refine ⟨by simp [tl], fun u hu => ?_⟩
    simp only [tl, List.mem_map] at hu
    obtain ⟨j, _, rfl⟩ := hu
    rfl
  have HT : Hid (∀ j, j < n → (tl n T)[j]? = some (.int .i64 (T j))) := fun j hj => tl_at n T j hj
  obtain ⟨xs, HX⟩ : ∃ xs, Hid (tl n T = xs) := ⟨_, (rfl : tl n T = tl n T)⟩
  rw [HX.out] at HC HL HT
  clear hc HX
  obtain ⟨i3, hi3, hz3, hs3, hb3⟩ := info_parts info3
  have H3 : Hid (Try.prog.info? 3 = some i3 ∧ i3.zero = some (.int .i64 0) ∧ i3.size = 1 ∧ i3.bytes = 8) := ⟨hi3, hz3, hs3, hb3⟩
  clear hi3 hz3 hs3 hb3
  have q23 : ∀ (w : World) (a : Option Addr) (n c n' c' : Nat), (binOp .eql 23 (.slice a n c) (.slice none n' c')).run Try.prog w = .ok (.bool a.isNone) w := fun w a n c n' c' => Go.Lib.run_eql_slice_nil w _ _ a n c n' c' Try.underlying23
  go_enter Try.func26, Try.ntmps26
  go_wp2_with (at_builtin; refine wpList_append_own _ rfl _ _ 23 rfl w.heap.size 3 i3 (.int .i64 0) 1 8 Try.underlying23 H3.out.1 H3.out.2.1 H3.out.2.2.1 H3.out.2.2.2 rfl (by omega) _ _ _ rfl (World.ownsRow_made w #[] 0 (Nat.le_refl _) (Nat.zero_le _) (by simp)) ⟨b, o, none⟩ n cap xs rfl ?qc1 ?qc2 ?qc3 ?qc4 ?qc5 ?qc6 ?_)
  case qc1 => exact HL.out.1
  case qc2 =>
    intro j u hj
    rw [Addr.add_lit]
    exact Go.Lib.cell?_alloc_some _ (HC.out j u hj)
  case qc3 => exact HL.out.2
  case qc4 => rw [Nat.zero_add]; simp [maxLen]; omega
  case qc5 => omega
  case qc6 => simp
  intro v' w1 hown hgrow hnil
  obtain ⟨g, cp, rfl, hg, hgl, hcell⟩ := cells_of_own hown h0
  have HB : Hid (Below w.heap.size w w1) := ((Below.refl _ w).alloc (Nat.le_refl _) _).grown hgrow (by simp) (by intro k hk; simp [Value.ownBlock] at hk; omega)
  have HG : Hid (w.heap.size ≤ g ∧ g < w1.heap.size ∧ ∀ i, i < n → w1.cell? ⟨g, i, none⟩ = some (.int .i64 (T i))) := ⟨hg, hgl, fun i hi => hcell i _ (HT.out i hi)⟩
  clear hown hgrow hnil hcell
  go_wp2_with fail
  go_ret
  exact ⟨g, cp, rfl, HG.out.1, HG.out.2.1, HG.out.2.2, HB.out⟩
set_option maxHeartbeats 1600000 in
set_option maxRecDepth 20000 in
theorem cloneT_own (tv : Value) (n : Nat) (T : Nat → Int) (w : World) (ht : Ts w tv n T) (h0 : 0 < n) (hn : n ≤ 200) :
    Calls Try.prog 26 #[tv] w fun e w' => ∃ g cap, e = .returned (.slice (some ⟨g, 0, none⟩) n cap) ∧ w'.ownsRow w.heap.size 3 1 (.slice (some ⟨g, 0, none⟩) n cap) n (tl n T) ∧ Below w.heap.size w w' := by
  obtain ⟨ao, cap, rfl, hm, hwf, hcs⟩ := ht
  obtain ⟨b, o, rfl, hb, hc⟩ := hcs.resolve_left (by omega)
  clear hcs hwf
  have HC : Hid (∀ j u, (tl n T)[j]? = some u → w.cell? ⟨b, o + j, none⟩ = some u) := fun j u hu => by
    have hj : j < n := by have := (List.getElem?_eq_some_iff.1 hu).1; simpa [tl] using this
    rw [tl_at n T j hj] at hu
    rw [hc j hj, hu]
  have HL : Hid ((tl n T).length = n * 1 ∧ ∀ u ∈ tl n T, u.oneCell' = true) := by
    refine ⟨by simp [tl], fun u hu => ?_⟩
    simp only [tl, List.mem_map] at hu
    obtain ⟨j, _, rfl⟩ := hu
    rfl
  obtain ⟨xs, HX⟩ : ∃ xs, Hid (tl n T = xs) := ⟨_, (rfl : tl n T = tl n T)⟩
  rw [HX.out] at HC HL
  clear hc
  obtain ⟨i3, hi3, hz3, hs3, hb3⟩ := info_parts info3
  have H3 : Hid (Try.prog.info? 3 = some i3 ∧ i3.zero = some (.int .i64 0) ∧ i3.size = 1 ∧ i3.bytes = 8) := ⟨hi3, hz3, hs3, hb3⟩
  clear hi3 hz3 hs3 hb3
  have q23 : ∀ (w : World) (a : Option Addr) (n c n' c' : Nat), (binOp .eql 23 (.slice a n c) (.slice none n' c')).run Try.prog w = .ok (.bool a.isNone) w := fun w a n c n' c' => Go.Lib.run_eql_slice_nil w _ _ a n c n' c' Try.underlying23
  go_enter Try.func26, Try.ntmps26
  go_wp2_with (at_builtin; refine wpList_append_own _ rfl _ _ 23 rfl w.heap.size 3 i3 (.int .i64 0) 1 8 Try.underlying23 H3.out.1 H3.out.2.1 H3.out.2.2.1 H3.out.2.2.2 rfl (by omega) _ _ _ rfl (World.ownsRow_made w #[] 0 (Nat.le_refl _) (Nat.zero_le _) (by simp)) ⟨b, o, none⟩ n cap xs rfl ?qc1 ?qc2 ?qc3 ?qc4 ?qc5 ?qc6 ?_)
  case qc1 => exact HL.out.1
  case qc2 =>
    intro j u hj
    rw [Addr.add_lit]
    exact Go.Lib.cell?_alloc_some _ (HC.out j u hj)
  case qc3 => exact HL.out.2
  case qc4 => rw [Nat.zero_add]; simp [maxLen]; omega
  case qc5 => omega
  case qc6 => simp
  intro v' w1 hown hgrow hnil
  obtain ⟨g, cp, rfl, -⟩ := World.ownsRow.form hown (by omega)
  have HB : Hid (Below w.heap.size w w1) := ((Below.refl _ w).alloc (Nat.le_refl _) _).grown hgrow (by simp) (by intro k hk; simp [Value.ownBlock] at hk; omega)
  have HG : Hid (w1.ownsRow w.heap.size 3 1 (.slice (some ⟨g, 0, none⟩) n cp) n (tl n T)) := by
    show World.ownsRow _ _ _ _ _ _ _
    rw [HX.out]
    exact hown
  clear hown hgrow hnil
  go_wp2_with fail
  go_ret
  exact ⟨g, cp, rfl, HG.out, HB.out⟩
theorem cell_as {w w' : World} {g : Nat} (h : w'.heap[g]? = w.heap[g]?) (i : Nat) : w'.cell? ⟨g, i, none⟩ = w.cell? ⟨g, i, none⟩ := by simp [World.cell?, h]
/-- Numbers in a block of their own. -/
def Tg (gt ct n : Nat) (T : Nat → Int) (W : World) : Prop := (∀ i, i < n → W.cell? ⟨gt, i, none⟩ = some (.int .i64 (T i))) ∧ (∃ f, W.rowIs gt 3 ct f) ∧ n ≤ ct ∧ ct ≤ 9223372036854775807
theorem Tg.same {gt ct n : Nat} {T : Nat → Int} {W W' : World} (h : Tg gt ct n T W) (e : W'.heap[gt]? = W.heap[gt]?) : Tg gt ct n T W' := ⟨fun i hi => (cell_as e i).trans (h.1 i hi), h.2.1.imp fun _ hf => hf.of_block e, h.2.2⟩
theorem Tg.of_own {base g n cap : Nat} {T : Nat → Int} {W : World} (h : W.ownsRow base 3 1 (.slice (some ⟨g, 0, none⟩) n cap) n (tl n T)) (h0 : 0 < n) : Tg g cap n T W := by
  obtain ⟨g1, c1, e1, _, _, hc⟩ := cells_of_own h h0
  simp only [Value.slice.injEq, Option.some.injEq, Addr.mk.injEq] at e1
  obtain ⟨⟨rfl, _⟩, _, rfl⟩ := e1
  obtain ⟨hl, ⟨hv, -⟩ | ⟨g', cap', cur, hv, -, hb, h1, h2, h3, h4⟩⟩ := h
  · simp at hv
  · simp at hv
    obtain ⟨rfl, rfl⟩ := hv
    refine ⟨fun i hi => hc i _ (tl_at n T i hi), ⟨fun q => cur.getD q undef, ⟨cur, hb, by omega, fun i hi => by show _ = some (cur.getD i undef); rw [Array.getElem?_eq_getElem (by omega)]; simp [Array.getD, show i < cur.size by omega]⟩⟩, h1, by unfold maxLen at h2; omega⟩
theorem clone_row (tv : Value) (n : Nat) (T : Nat → Int) (w : World) (ht : Ts w tv n T) (h0 : 0 < n) (hn : n ≤ 200) :
    Calls Try.prog 26 #[tv] w fun e w' => ∃ g cap, e = .returned (.slice (some ⟨g, 0, none⟩) n cap) ∧ w.heap.size ≤ g ∧ g < w'.heap.size ∧ Tg g cap n T w' ∧ Below w.heap.size w w' :=
  (cloneT_own tv n T w ht h0 hn).mono fun _ _ ⟨g, cap, h1, h2, h3⟩ => ⟨g, cap, h1, by
    obtain ⟨g1, c1, e1, k1, k2, -⟩ := cells_of_own h2 h0
    simp only [Value.slice.injEq, Option.some.injEq, Addr.mk.injEq] at e1
    obtain ⟨⟨rfl, _⟩, _⟩ := e1
    exact ⟨k1, k2, Tg.of_own h2 h0, h3⟩⟩
end Go.Proofs.Ytlgcggfenljdnaa
