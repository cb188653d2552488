/-
  The contracts of lr.isBelow and isAct.
-/
import Derived.Test.YtpbnnmfjahckmaaGrF
import Derived.Test.YtpbnnmfjahckmaaGrA
namespace Go.Proofs.Ytpbnnmfjahckmaa
open Go.RowKit
open Cg

set_option maxHeartbeats 1600000 in
set_option maxRecDepth 20000 in
theorem isBelow_any (x s : Int) (w : World) :
    Calls Try.prog 57 #[.int .i64 x, .int .i64 s] w fun e w' => e = .returned (.bool (okN s x)) ∧ Below w.heap.size w w' := by
  obtain ⟨r, HR⟩ : ∃ r, Hid (okN s x = r) := ⟨_, (rfl : okN s x = okN s x)⟩
  rw [HR.out]
  by_cases h1 : 0 ≤ x
  · by_cases h2 : x < s
    · obtain rfl : r = true := by rw [← HR.out]; unfold okN; simp; omega
      go_enter Try.func57, Try.ntmps57
      go_wp2_with fail
      go_ret
      exact ⟨by simp, Below.refl _ _⟩
    · obtain rfl : r = false := by rw [← HR.out]; unfold okN; simp; omega
      go_enter Try.func57, Try.ntmps57
      go_wp2_with fail
      go_ret
      exact ⟨by simp, Below.refl _ _⟩
  · obtain rfl : r = false := by rw [← HR.out]; unfold okN; simp; omega
    go_enter Try.func57, Try.ntmps57
    go_wp2_with fail
    go_ret
    exact ⟨by simp, Below.refl _ _⟩
set_option maxHeartbeats 3200000 in
set_option maxRecDepth 20000 in
theorem isAct_any (t n S : Int) (ao : Option Addr) (k c : Nat) (e0 : Bool) (x0 x1 : Int) (w : World) :
    Calls Try.prog 56 #[.agg #[.int .i64 t, .int .i64 n, .slice ao k c], .int .i64 S, .bool e0, .agg #[.int .i64 x0, .int .i64 x1]] w fun e w' => e = .returned (.bool (okAct S (k : Int) e0 (x0, x1))) ∧ Below w.heap.size w w' := by
  obtain ⟨r, HR⟩ : ∃ r, Hid (okAct S (k : Int) e0 (x0, x1) = r) := ⟨_, (rfl : okAct S (k : Int) e0 (x0, x1) = okAct S (k : Int) e0 (x0, x1))⟩
  rw [HR.out]
  by_cases h0 : x0 = 0
  · subst h0
    by_cases h1 : x1 = 0
    · subst h1
      obtain rfl : r = true := by rw [← HR.out]; rfl
      clear HR
      go_enter Try.func56, Try.ntmps56
      go_wp2_with fail
      go_ret
      exact ⟨by simp, below_alloc2 _ _ _⟩
    · have b1 : (x1 == 0) = false := by simpa using h1
      obtain rfl : r = false := by rw [← HR.out]; unfold okAct; simp [h1]
      clear HR h1
      go_enter Try.func56, Try.ntmps56
      go_wp2_with fail
      go_ret
      exact ⟨by simp, below_alloc2 _ _ _⟩
  · have b0 : (x0 == 0) = false := by simpa using h0
    by_cases h1 : x0 = 1
    · subst h1
      cases e0 with
      | true =>
        obtain rfl : r = false := by rw [← HR.out]; rfl
        clear HR h0
        go_enter Try.func56, Try.ntmps56
        go_wp2_with fail
        go_ret
        exact ⟨by simp, below_alloc2 _ _ _⟩
      | false =>
        have HR2 : Hid (okN S x1 = r) := by show _ = _; rw [← HR.out]; rfl
        clear HR h0
        go_enter Try.func56, Try.ntmps56
        have hc := isBelow_any x1 S ((w.alloc (Obj.cells #[.int .i64 t, .int .i64 n, .slice ao k c] 24)).alloc (Obj.cells #[.int .i64 1, .int .i64 x1] 104))
        rw [HR2.out] at hc
        go_wp2_with fail
        refine hc.mono ?_
        rintro _ w1 ⟨rfl, hb⟩
        have hB := (below_alloc2 w _ _).trans (hb.mono (by simp; omega))
        clear hb hc
        go_wp2_with fail
        go_ret
        exact ⟨by simp, hB⟩
    · have b1 : (x0 == 1) = false := by simpa using h1
      by_cases h2 : x0 = 2
      · subst h2
        have HR2 : Hid (okN (k : Int) x1 = r) := by show _ = _; rw [← HR.out]; rfl
        clear HR h0 h1
        go_enter Try.func56, Try.ntmps56
        have hc := isBelow_any x1 (k : Int) ((w.alloc (Obj.cells #[.int .i64 t, .int .i64 n, .slice ao k c] 24)).alloc (Obj.cells #[.int .i64 2, .int .i64 x1] 104))
        rw [HR2.out] at hc
        go_wp2_with fail
        refine hc.mono ?_
        rintro _ w1 ⟨rfl, hb⟩
        have hB := (below_alloc2 w _ _).trans (hb.mono (by simp; omega))
        clear hb hc
        go_wp2_with fail
        go_ret
        exact ⟨by simp, hB⟩
      · have b2 : (x0 == 2) = false := by simpa using h2
        by_cases h3 : x0 = 3
        · subst h3
          have HR2 : Hid ((e0 && x1 == 0) = r) := by show _ = _; rw [← HR.out]; rfl
          clear HR h0 h1 h2
          cases e0 with
          | false =>
            obtain rfl : r = false := by rw [← HR2.out]; rfl
            clear HR2
            go_enter Try.func56, Try.ntmps56
            go_wp2_with fail
            go_ret
            exact ⟨by simp, below_alloc2 _ _ _⟩
          | true =>
            by_cases h4 : x1 = 0
            · subst h4
              obtain rfl : r = true := by rw [← HR2.out]; rfl
              clear HR2
              go_enter Try.func56, Try.ntmps56
              go_wp2_with fail
              go_ret
              exact ⟨by simp, below_alloc2 _ _ _⟩
            · have b4 : (x1 == 0) = false := by simpa using h4
              obtain rfl : r = false := by rw [← HR2.out]; simpa using h4
              clear HR2 h4
              go_enter Try.func56, Try.ntmps56
              go_wp2_with fail
              go_ret
              exact ⟨by simp, below_alloc2 _ _ _⟩
        · have b3 : (x0 == 3) = false := by simpa using h3
          obtain rfl : r = false := by rw [← HR.out]; unfold okAct; simp [h0, h1, h2, h3]
          clear HR h0 h1 h2 h3
          go_enter Try.func56, Try.ntmps56
          go_wp2_with fail
          go_ret
          exact ⟨by simp, below_alloc2 _ _ _⟩
end Go.Proofs.Ytpbnnmfjahckmaa
