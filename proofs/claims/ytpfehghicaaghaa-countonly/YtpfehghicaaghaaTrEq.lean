/-
  The contracts of slices.Equal at numbers and at events, where both are the same or not.
-/
import Derived.Test.YtpfehghicaaghaaTrOpens
import Derived.BigQuiet
import Derived.Deep.Cut
import Derived.Lib.SmallJoins
import Derived.Deep.QuietTactic
namespace Go.Proofs.Ytpfehghicaaghaa
open Go.RowKit
open Cg

/-- A value is a slice of these numbers. -/
def Nms (w : World) (v : Value) (l : List Int) : Prop :=
  ∃ ao cap, v = .slice ao l.length cap ∧ l.length ≤ 9223372036854775807 ∧ (l = [] ∨ ∃ b o, ao = some ⟨b, o, none⟩ ∧ b < w.heap.size ∧ ∀ i (hi : i < l.length), w.cell? ⟨b, o + i, none⟩ = some (.int .i64 l[i]))
theorem Nms.below {w w' : World} {v : Value} {l : List Int} (h : Nms w v l) (hb : Below w.heap.size w w') : Nms w' v l := by
  obtain ⟨ao, cap, hv, hm, h | ⟨b, o, h1, h2, h3⟩⟩ := h
  · exact ⟨ao, cap, hv, hm, Or.inl h⟩
  · exact ⟨ao, cap, hv, hm, Or.inr ⟨b, o, h1, Nat.lt_of_lt_of_le h2 hb.size, fun i hi => (hb.cell (p := ⟨b, o + i, none⟩) h2).trans (h3 i hi)⟩⟩
theorem nms_of_own {w : World} {base : Nat} {v : Value} {l : List Int} (h : w.ownsRow base 3 1 v l.length (l.map (Value.int .i64))) (hm : l.length ≤ 9223372036854775807) : Nms w v l := by
  obtain ⟨hl, ⟨h1, h2⟩ | ⟨g, cap, cur, hv, hg, hh, hn, hc, hs, ht⟩⟩ := h
  · exact ⟨none, 0, by rw [h1, h2], hm, Or.inl (List.length_eq_zero_iff.1 h2)⟩
  · refine ⟨some ⟨g, 0, none⟩, cap, hv, hm, Or.inr ⟨g, 0, rfl, ?_, fun i hi => ?_⟩⟩
    · rcases Nat.lt_or_ge g w.heap.size with h' | h'
      · exact h'
      · simp [Array.getElem?_eq_none h'] at hh
    · have e : w.cell? ⟨g, 0 + i, none⟩ = cur[i]? := by simp [World.cell?, hh]
      rw [e]
      have h2 : (cur.toList.take (l.length * 1))[i]? = (l.map (Value.int .i64))[i]? := by rw [ht]
      rw [List.getElem?_take_of_lt (by omega)] at h2
      simp at h2
      rw [h2, List.getElem?_eq_getElem hi]; rfl
set_option maxHeartbeats 4000000 in
set_option maxRecDepth 20000 in
theorem equalI_any (a b : Value) (l m : List Int) (w : World) (ha : Nms w a l) (hb : Nms w b m) :
    Calls Try.prog 25 #[a, b] w fun e w' => e = .returned (.bool (decide (l = m))) ∧ Below w.heap.size w w' := by
  obtain ⟨aa, ac, rfl, ham, hac⟩ := ha
  obtain ⟨ba, bc, rfl, hbm, hbc⟩ := hb
  obtain ⟨r, HR⟩ : ∃ r, Hid (decide (l = m) = r) := ⟨_, (rfl : decide (l = m) = _)⟩
  rw [HR.out]
  by_cases hl : l.length = m.length
  · obtain ⟨n, HN⟩ : ∃ n, Hid (l.length = n) := ⟨_, (rfl : l.length = _)⟩
    have HM : Hid (m.length = n) := by show _ = _; rw [← hl]; exact HN.out
    rw [HN.out, HM.out]
    rw [HN.out] at ham
    clear hl hbm
    have hb1 : ((n : Int) != (n : Int)) = false := by simp
    have HAC : Hid (l = [] ∨ ∃ b o, aa = some ⟨b, o, none⟩ ∧ b < w.heap.size ∧ ∀ i (hi : i < l.length), w.cell? ⟨b, o + i, none⟩ = some (.int .i64 l[i])) := hac
    have HBC : Hid (m = [] ∨ ∃ b o, ba = some ⟨b, o, none⟩ ∧ b < w.heap.size ∧ ∀ i (hi : i < m.length), w.cell? ⟨b, o + i, none⟩ = some (.int .i64 m[i])) := hbc
    clear hac hbc
    go_enter Try.func25, Try.ntmps25
    go_wp2_with fail
    go_loopw [13] (fun y wr => ∃ i : Nat, i ≤ n ∧ y = .int .i64 (i : Int) ∧ Hid (Below w.heap.size w wr ∧ l.take i = m.take i)) (fun y _ => n - (intOf y).toNat)
    case atStart => exact ⟨0, by omega, rfl, Below.refl _ _, by simp⟩
    case round =>
      obtain ⟨i, hi, rfl, HI⟩ := hrel
      by_cases hlt : i < n
      · have hil : i < l.length := by rw [HN.out]; exact hlt
        have him : i < m.length := by rw [HM.out]; exact hlt
        obtain ⟨b1, o1, rfl, q1, q2⟩ := HAC.out.resolve_left (by intro e; subst e; simp at hil)
        obtain ⟨b2, o2, rfl, q3, q4⟩ := HBC.out.resolve_left (by intro e; subst e; simp at him)
        have hk1 : (i : Int) < (n : Int) := by omega
        have hk0 : (0 : Int) ≤ (i : Int) := by omega
        have HS1 : Hid (l[i] = m[i] → l.take (i + 1) = m.take (i + 1)) := fun e => by
          rw [List.take_succ_eq_append_getElem hil, List.take_succ_eq_append_getElem him, HI.out.2, e]
        have HS2 : Hid (l[i] ≠ m[i] → r = false) := fun e => by
          rw [← HR.out]; simp; intro e2; subst e2; exact e rfl
        have c1 : wr.cell? ⟨b1, o1 + i, none⟩ = some (.int .i64 l[i]) := (HI.out.1.cell (p := ⟨b1, o1 + i, none⟩) q1).trans (q2 i hil)
        have c2 : wr.cell? ⟨b2, o2 + i, none⟩ = some (.int .i64 m[i]) := (HI.out.1.cell (p := ⟨b2, o2 + i, none⟩) q3).trans (q4 i him)
        generalize l[i] = x at c1 HS1 HS2
        generalize m[i] = y at c2 HS1 HS2
        clear q2 q4
        by_cases h0 : x = y
        · subst h0
          have hb2 : (x != x) = false := by simp
          have HS3 : Hid (l.take (i + 1) = m.take (i + 1)) := HS1.out rfl
          clear HS1
          go_wp2_with fail
          go_quiet (fail)
          have HB2 : Hid (Below w.heap.size w (wr.drewN nq)) := HI.out.1.trans (Go.Joins.below_draws _ _ _)
          generalize wr.drewN nq = w2 at HB2 ⊢
          clear c1 c2
          go_wp2_with fail
          go_roundw
          case rel => exact ⟨i + 1, by omega, by go_num, HB2.out, HS3.out⟩
          case measure => simp [intOf]; omega
        · have hb3 : (x != y) = true := by simp; exact h0
          obtain rfl := HS2.out (h0)
          go_wp2_with fail
          go_quiet (fail)
          have HB2 : Hid (Below w.heap.size w (wr.drewN nq)) := HI.out.1.trans (Go.Joins.below_draws _ _ _)
          generalize wr.drewN nq = w2 at HB2 ⊢
          clear c1 c2
          go_wp2_with fail
          go_ret
          exact ⟨by simp, HB2.out⟩
      · have hk1 : ¬ (i : Int) < (n : Int) := by omega
        obtain rfl : r = true := by
          have := HI.out.2
          rw [List.take_of_length_le (by rw [HN.out]; omega), List.take_of_length_le (by rw [HM.out]; omega)] at this
          rw [← HR.out]; simp [this]
        have HB := HI.out.1
        clear HI
        go_wp2_with fail
        go_ret
        exact ⟨by simp, HB⟩
  · obtain rfl : r = false := by rw [← HR.out]; simp; intro e; subst e; exact hl rfl
    obtain ⟨x, HN⟩ : ∃ n, Hid (l.length = n) := ⟨_, (rfl : l.length = _)⟩
    obtain ⟨y, HM⟩ : ∃ n, Hid (m.length = n) := ⟨_, (rfl : m.length = _)⟩
    rw [HN.out, HM.out] at hl
    rw [HN.out, HM.out]
    have hb1 : ((x : Int) != (y : Int)) = true := by simp; omega
    clear hl
    go_enter Try.func25, Try.ntmps25
    go_wp2_with fail
    go_ret
    exact ⟨by simp, Below.refl _ _⟩
theorem equalI_same (a b : Value) (l : List Int) (w : World) (ha : Nms w a l) (hb : Nms w b l) :
    Calls Try.prog 25 #[a, b] w fun e w' => e = .returned (.bool true) ∧ Below w.heap.size w w' := by
  have := equalI_any a b l l w ha hb
  rwa [show decide (l = l) = true by simp] at this
end Go.Proofs.Ytpfehghicaaghaa
