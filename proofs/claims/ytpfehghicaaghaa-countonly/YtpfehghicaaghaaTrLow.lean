/-
  The contracts of trees.isProd, isOf, whole.
-/
import Derived.Test.YtpfehghicaaghaaTrOpens
import Derived.Test.YtpfehghicaaghaaTails
import Derived.BigQuiet
import Derived.Deep.Cut
import Derived.Deep.DeepCutAuto
namespace Go.Proofs.Ytpfehghicaaghaa
open Go.RowKit
open Cg

set_option maxHeartbeats 1600000 in
set_option maxRecDepth 20000 in
theorem isProd_any (t n : Int) (ao : Option Addr) (m c : Nat) (ps : List Pd) (hm : ps.length = m) (x : Int) (w : World) :
    Calls Try.prog 114 #[.agg #[.int .i64 t, .int .i64 n, .slice ao m c], .int .i64 x] w fun e w' => e = .returned (.bool (isPr ps x)) ∧ Below w.heap.size w w' := by
  obtain ⟨r, HR⟩ : ∃ r, Hid (isPr ps x = r) := ⟨_, (rfl : isPr ps x = isPr ps x)⟩
  rw [HR.out]
  have HM : Hid (ps.length = m) := hm
  clear hm
  by_cases h1 : 0 ≤ x
  · by_cases h2 : x < (m : Int)
    · obtain rfl : r = true := by rw [← HR.out]; unfold isPr; rw [HM.out]; simp; omega
      go_enter Try.func114, Try.ntmps114
      go_wp2_with fail
      go_ret
      exact ⟨by simp, below_alloc _ _⟩
    · obtain rfl : r = false := by rw [← HR.out]; unfold isPr; rw [HM.out]; simp; omega
      go_enter Try.func114, Try.ntmps114
      go_wp2_with fail
      go_ret
      exact ⟨by simp, below_alloc _ _⟩
  · obtain rfl : r = false := by rw [← HR.out]; unfold isPr; rw [HM.out]; simp; omega
    go_enter Try.func114, Try.ntmps114
    go_wp2_with fail
    go_ret
    exact ⟨by simp, below_alloc _ _⟩

/-- What isOf holds: the grammar and the symbol in boxes. -/
def Si (w : World) (t n : Int) (pv : Value) (ps : List Pd) (s0 s1 : Int) (W : World) : Prop := Gb w w.heap.size t n pv ps W ∧ B2 W (w.heap.size + 1) s0 s1
theorem Si.next {w : World} {t n : Int} {pv : Value} {ps : List Pd} {s0 s1 : Int} (W W' : World) (h : Si w t n pv ps s0 s1 W) (hb : Below W.heap.size W W') : Si w t n pv ps s0 s1 W' := ⟨h.1.next hb, h.2.next hb⟩
theorem Si.box {w : World} {pv : Value} {ps : List Pd} (h : Pds w pv ps) (t n s0 s1 : Int) : Si w t n pv ps s0 s1 ((w.alloc (Obj.cells #[.int .i64 t, .int .i64 n, pv] 24)).alloc (Obj.cells #[.int .i64 s0, .int .i64 s1] 47)) := by
  refine ⟨(Gb.box h t n).next (below_alloc _ _), ?_⟩
  have := B2.box (w.alloc (Obj.cells #[.int .i64 t, .int .i64 n, pv] 24)) s0 s1 47
  rw [show (w.alloc (Obj.cells #[.int .i64 t, .int .i64 n, pv] 24)).heap.size = w.heap.size + 1 by simp] at this
  exact this
theorem Gb.drew {w0 : World} {g : Nat} {t n : Int} {pv : Value} {ps : List Pd} {w : World} (h : Gb w0 g t n pv ps w) : Gb w0 g t n pv ps w.drew := h.next ((Below.refl _ _).drew)
theorem B2.drew {w : World} {g : Nat} {x y : Int} (h : B2 w g x y) : B2 w.drew g x y := h.next ((Below.refl _ _).drew)

set_option maxHeartbeats 4000000 in
set_option maxRecDepth 20000 in
theorem isOf_any (t n : Int) (pv : Value) (ps : List Pd) (s0 s1 : Int) (x : Int) (w : World) (h : Pds w pv ps) :
    Calls Try.prog 98 #[.agg #[.int .i64 t, .int .i64 n, pv], .int .i64 x, .agg #[.int .i64 s0, .int .i64 s1]] w fun e w' => e = .returned (.bool (isOf ps x (s0, s1))) ∧ Below w.heap.size w w' := by
  have HS0 : Hid (Si w t n pv ps s0 s1 ((w.alloc (Obj.cells #[.int .i64 t, .int .i64 n, pv] 24)).alloc (Obj.cells #[.int .i64 s0, .int .i64 s1] 47))) := Si.box h t n s0 s1
  have HP : Hid (Pds w pv ps) := h
  obtain ⟨ao, c, rfl, hm, -⟩ := h
  obtain ⟨r, HR⟩ : ∃ r, Hid (isOf ps x (s0, s1) = r) := ⟨_, (rfl : isOf ps x (s0, s1) = isOf ps x (s0, s1))⟩
  rw [HR.out]
  by_cases h1 : s0 = 1
  · subst h1
    by_cases h2 : x = -1
    · subst h2
      obtain rfl : r = true := by rw [← HR.out]; unfold isOf; simp
      go_enter Try.func98, Try.ntmps98
      go_wp2_with fail
      go_ret
      exact ⟨by simp, HS0.out.1.below⟩
    · have hb2 : (x == -1) = false := by simp; exact h2
      obtain rfl : r = false := by rw [← HR.out]; unfold isOf; simp [h2]
      go_enter Try.func98, Try.ntmps98
      go_wp2_with fail
      go_ret
      exact ⟨by simp, HS0.out.1.below⟩
  · have hb1 : (s0 == 1) = false := by simp; exact h1
    have HR2 : Hid (isOf ps x (s0, s1) = (isPr ps x && decide (headOf ps x = s1))) := by show _ = _; unfold isOf; rw [if_neg h1]
    clear h1
    obtain ⟨N, HN⟩ : ∃ N, Hid (ps.length = N) := ⟨_, (rfl : ps.length = ps.length)⟩
    rw [HN.out] at HS0 HP hm ⊢
    obtain ⟨q, HQ⟩ : ∃ q, Hid (isPr ps x = q) := ⟨_, (rfl : isPr ps x = isPr ps x)⟩
    have HC : Hid (∀ W, Calls Try.prog 114 #[.agg #[.int .i64 t, .int .i64 n, .slice ao N c], .int .i64 x] W fun e w' => e = .returned (.bool q) ∧ Below W.heap.size W w') := fun W => by
      have := isProd_any t n ao N c ps HN.out x W
      rw [HQ.out] at this; exact this
    go_enter Try.func98, Try.ntmps98
    go_upto_region 3 with fail
    have S1' : Si w t n (.slice ao N c) ps s0 s1 _ := ⟨HS0.out.1.drew, HS0.out.2.drew⟩
    have p0 : ∀ p : Kp (Si w t n (.slice ao N c) ps s0 s1), p.W.cell? ⟨w.heap.size, 0, none⟩ = some (.int .i64 t) := fun p => p.h.1.c0
    have p1 : ∀ p : Kp (Si w t n (.slice ao N c) ps s0 s1), p.W.cell? ⟨w.heap.size, 1, none⟩ = some (.int .i64 n) := fun p => p.h.1.c1
    have p2 : ∀ p : Kp (Si w t n (.slice ao N c) ps s0 s1), p.W.cell? ⟨w.heap.size, 2, none⟩ = some (.slice ao N c) := fun p => p.h.1.c2
    have p4 : ∀ p : Kp (Si w t n (.slice ao N c) ps s0 s1), p.W.cell? ⟨w.heap.size + 1, 1, none⟩ = some (.int .i64 s1) := fun p => p.h.2.c1
    have hne : Nonempty (Kp (Si w t n (.slice ao N c) ps s0 s1)) := ⟨⟨_, S1'⟩⟩
    cases q with
    | false =>
      obtain rfl : r = false := by rw [← HR.out, HR2.out, HQ.out]; rfl
      refine wp_region_kept mixed (by kernel_rfl) S1' ?_
      clear S1'
      repeat (go_big_quiet_step (first | (go_at_call 114; with_reducible exact Kp.calls _ Si.next (HC.out _))))
      refine wpQuiet_nil ?_
      intro W1 hw1
      obtain ⟨⟨W1, HS⟩, rfl⟩ := hw1
      have HB := HS.1.below
      clear p0 p1 p2 p4 hne HS
      go_wp2_with fail
      go_ret
      exact ⟨by simp, HB⟩
    | true =>
      have hle := isPr_le HQ.out
      obtain ⟨z, rfl⟩ : ∃ z : Nat, x = (z : Int) := ⟨x.toNat, by omega⟩
      obtain ⟨b, o, bo, bc, rfl, -, hbl, hc0, -, -⟩ := Pds.prod HP.out HQ.out
      simp only [Int.toNat_natCast] at hc0
      have HR3 : Hid (r = decide (headOf ps (z : Int) = s1)) := by show _ = _; rw [← HR.out, HR2.out, HQ.out]; simp
      generalize headOf ps (z : Int) = hd at hc0 HR3
      have p5 : ∀ p : Kp (Si w t n (.slice (some ⟨b, o, none⟩) N c) ps s0 s1), p.W.cell? ⟨b, o + z * 2, none⟩ = some (.int .i64 hd) := fun p => (p.h.1.below.cell (p := ⟨b, o + z * 2, none⟩) hbl).trans hc0
      have hz : (z : Int) < (N : Int) := by rw [← HN.out]; exact hle.2
      have hz2 : z < N := by omega
      have hz0 : (0 : Int) ≤ (z : Int) := by omega
      clear hle hc0
      refine wp_region_kept mixed (by kernel_rfl) S1' ?_
      clear S1'
      repeat (go_big_quiet_step (first | (go_at_call 114; with_reducible exact Kp.calls _ Si.next (HC.out _))))
      refine wpQuiet_nil ?_
      intro W1 hw1
      obtain ⟨⟨W1, HS⟩, rfl⟩ := hw1
      have HB := HS.1.below
      clear p0 p1 p2 p4 p5 hne HS
      go_wp2_with fail
      go_ret
      refine ⟨?_, HB⟩
      rw [HR3.out]
      by_cases e : hd = s1 <;> simp [e]

theorem whole_any (w : World) : Calls Try.prog 58 #[] w fun e w' => e = .returned (.agg #[.int .i64 2, .int .i64 0]) ∧ Below w.heap.size w w' := by
  go_enter Try.func58, Try.ntmps58
  go_wp2_with fail
  exact bodyPost_ret (v := .agg #[.int .i64 2, .int .i64 0]) (by simp [results, Try.results58, go_sem]) rfl ⟨rfl, below_alloc _ _⟩
end Go.Proofs.Ytpfehghicaaghaa
