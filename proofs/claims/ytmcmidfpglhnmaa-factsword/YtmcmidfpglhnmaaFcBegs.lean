/-
  The contracts of the closure of facts.beginnings and of facts.beginnings.
-/
import Derived.Test.YtmcmidfpglhnmaaFcMade
import Derived.Test.YtmcmidfpglhnmaaFcChain
namespace Go.Proofs.Ytmcmidfpglhnmaa
open Go.RowKit
open Cg

/-- A row of sets is widened at m. -/
def PutW (b n : Nat) (F : Nat → Wd) (m : Nat) (x : Wd) (W W' : World) : Prop := Fm (fun k => k = b) W W' ∧ Rw W' b n (upd F m (F m ||| x))
set_option maxHeartbeats 3200000 in
set_option maxRecDepth 20000 in
theorem clos34_any (t : Int) (ht : t ≤ 30) (n be bf bm cf : Nat) (E M : Nat → Bool) (F : Nat → Wd) (m : Nat) (hmn : m < n) (u : Value) (l : List Sy) (ok : OkL t n l) (W : World) (hs : Syms W u l) (hre : Rb W be n E) (hrf : Rw W bf n F) (hrm : Rb W bm n M)
    (h0 : W.cell? ⟨cf, 0, none⟩ = some (.slice (some ⟨be, 0, none⟩) n n)) (h1 : W.cell? ⟨cf, 1, none⟩ = some (.slice (some ⟨bf, 0, none⟩) n n)) (h2 : W.cell? ⟨cf, 2, none⟩ = some (.slice none 0 0)) (h3 : W.cell? ⟨cf, 3, none⟩ = some (.slice none 0 0)) (h4 : W.cell? ⟨cf, 4, none⟩ = some (.slice (some ⟨bm, 0, none⟩) n n)) (hcl : cf < W.heap.size) :
    Calls Try.prog 62 #[.agg #[.int .i64 (m : Int), u], .pointer (some ⟨cf, 0, none⟩)] W fun e W' => e = .returned (.bool (amk M true l && (F m ||| bg E F l 0#64 != F m))) ∧ (if amk M true l = true then PutW bf n F m (bg E F l 0#64) W W' else Below W.heap.size W W') := by
  obtain ⟨r, HR⟩ : ∃ r, Hid (amk M true l = r) := ⟨_, (rfl : amk M true l = amk M true l)⟩
  rw [HR.out]
  have hs' := hs
  obtain ⟨uo, uc, rfl, hul, -⟩ := hs
  obtain ⟨wb, HWB⟩ : ∃ wb, Hid (W.alloc (Obj.cells #[.int .i64 (m : Int), .slice uo l.length uc] 77) = wb) := ⟨_, (rfl : _ = _)⟩
  have g0 := cell_new W #[.int .i64 (m : Int), .slice uo l.length uc] 77
  have hb0 := below_alloc W (Obj.cells #[.int .i64 (m : Int), .slice uo l.length uc] 77)
  rw [HWB.out] at g0 hb0
  have HSZ : Hid (W.heap.size < wb.heap.size) := by show _ < _; rw [← HWB.out]; simp
  have HB0 : Hid (Below W.heap.size W wb) := hb0
  have hmn2 : (m : Int) < (n : Int) := by omega
  have HRE : Hid (Rb wb be n E) := hre.next hb0
  have HRM : Hid (Rb wb bm n M) := hrm.next hb0
  have HRF : Hid (Rw wb bf n F) := hrf.next hb0
  have HSY : Hid (Syms wb (.slice uo l.length uc) l) := hs'.below hb0
  have hne : Nonempty (Kp (Sb wb)) := ⟨⟨_, Sb.drew wb⟩⟩
  have y0 : ∀ p : Kp (Sb wb), p.W.cell? ⟨W.heap.size, 0, none⟩ = some (.int .i64 (m : Int)) := fun p => (Below.cell p.h (p := ⟨W.heap.size, 0, none⟩) HSZ.out).trans (g0 0)
  have y1 : ∀ p : Kp (Sb wb), p.W.cell? ⟨W.heap.size, 1, none⟩ = some (.slice uo l.length uc) := fun p => (Below.cell p.h (p := ⟨W.heap.size, 1, none⟩) HSZ.out).trans (g0 1)
  have hcl2 : cf < wb.heap.size := Nat.lt_of_lt_of_le hcl hb0.size
  have k0 : ∀ p : Kp (Sb wb), p.W.cell? ⟨cf, 0, none⟩ = some (.slice (some ⟨be, 0, none⟩) n n) := fun p => (Below.cell p.h (p := ⟨cf, 0, none⟩) hcl2).trans ((hb0.cell (p := ⟨cf, 0, none⟩) hcl).trans h0)
  have k1 : ∀ p : Kp (Sb wb), p.W.cell? ⟨cf, 1, none⟩ = some (.slice (some ⟨bf, 0, none⟩) n n) := fun p => (Below.cell p.h (p := ⟨cf, 1, none⟩) hcl2).trans ((hb0.cell (p := ⟨cf, 1, none⟩) hcl).trans h1)
  have k2 : ∀ p : Kp (Sb wb), p.W.cell? ⟨cf, 2, none⟩ = some (.slice none 0 0) := fun p => (Below.cell p.h (p := ⟨cf, 2, none⟩) hcl2).trans ((hb0.cell (p := ⟨cf, 2, none⟩) hcl).trans h2)
  have k3 : ∀ p : Kp (Sb wb), p.W.cell? ⟨cf, 3, none⟩ = some (.slice none 0 0) := fun p => (Below.cell p.h (p := ⟨cf, 3, none⟩) hcl2).trans ((hb0.cell (p := ⟨cf, 3, none⟩) hcl).trans h3)
  have k4 : ∀ p : Kp (Sb wb), p.W.cell? ⟨cf, 4, none⟩ = some (.slice (some ⟨bm, 0, none⟩) n n) := fun p => (Below.cell p.h (p := ⟨cf, 4, none⟩) hcl2).trans ((hb0.cell (p := ⟨cf, 4, none⟩) hcl).trans h4)
  have HC1 : Hid (∀ p : Kp (Sb wb), Calls Try.prog 63 #[.slice uo l.length uc, .slice (some ⟨bm, 0, none⟩) n n, .bool true] p.W fun e w'' => e = .returned (.bool r) ∧ ∃ q : Kp (Sb wb), w'' = q.W) := fun p => by
    have := allMade_any t n bm M true _ l p.W (HSY.out.below p.h) (HRM.out.next p.h) ok
    rw [HR.out] at this
    exact Kp.calls p Sb.next this
  obtain ⟨x, HX⟩ : ∃ x, Hid (bg E F l 0#64 = x) := ⟨_, (rfl : bg E F l 0#64 = bg E F l 0#64)⟩
  rw [HX.out]
  have HC2 : Hid (∀ p : Kp (Sb wb), Calls Try.prog 65 #[.agg #[.slice (some ⟨be, 0, none⟩) n n, .slice (some ⟨bf, 0, none⟩) n n, .slice none 0 0, .slice none 0 0, .slice (some ⟨bm, 0, none⟩) n n], .slice uo l.length uc, .int .u64 0] p.W fun e w'' => e = .returned (.int .u64 (x.toNat : Int)) ∧ ∃ q : Kp (Sb wb), w'' = q.W) := fun p => by
    have := begin_any t n be bf E F (.slice none 0 0) (.slice none 0 0) (.slice (some ⟨bm, 0, none⟩) n n) _ l 0#64 p.W (HSY.out.below p.h) (HRE.out.next p.h) (HRF.out.next p.h) ok ht
    rw [HX.out] at this
    exact Kp.calls p Sb.next this
  have HW : Hid (∀ p : Kp (Sb wb), Fm (fun k => k = bf) W (p.W.setCell ⟨bf, m, none⟩ (.int .u64 ((F m ||| x).toNat : Int))) ∧ Rw (p.W.setCell ⟨bf, m, none⟩ (.int .u64 ((F m ||| x).toNat : Int))) bf n (upd F m (F m ||| x))) := fun p =>
    ⟨(Fm.of (X := fun k => k = bf) (HB0.out.trans (Below.mono p.h HB0.out.size))).trans (Fm.set (X := fun k => k = bf) (b := bf) (i := m) _ rfl) (fun _ _ e => e), (HRF.out.next p.h).set m _⟩
  have HWD : Hid (∀ p : Kp (Sb wb), Calls Try.prog 64 #[.slice (some ⟨bf, 0, none⟩) n n, .int .i64 (m : Int), .int .u64 (x.toNat : Int)] p.W fun e w' => e = .returned (.bool (F m ||| x != F m)) ∧ w' = p.W.setCell ⟨bf, m, none⟩ (.int .u64 ((F m ||| x).toNat : Int))) := fun p => widen_any n bf F m x p.W (HRF.out.next p.h) hmn
  have HBF : Hid (∀ p : Kp (Sb wb), Below W.heap.size W p.W) := fun p => HB0.out.trans (Below.mono p.h HB0.out.size)
  clear hrf hre hrm h0 h1 h2 h3 h4 hcl hcl2 hb0 g0 hs' HRE HRM HRF HSY HX HR HB0
  cases r with
  | false =>
    simp only [Bool.false_eq_true, if_false, Bool.false_and]
    go_enter Try.func62, Try.ntmps62
    go_wp2_with fail
    rw [HWB.out]
    refine wp_region_kept mixed (by kernel_rfl) (Sb.drew wb) ?_
    repeat (go_big_quiet_step (first | (go_at_call 63; with_reducible exact HC1.out _)))
    refine wpQuiet_nil ?_
    intro W2 hw2
    obtain ⟨p2, rfl⟩ := hw2
    go_wp2_with fail
    go_ret
    exact ⟨by simp, HBF.out p2⟩
  | true =>
    simp only [if_true, Bool.true_and]
    obtain ⟨rr, HRR⟩ : ∃ rr, Hid ((F m ||| x != F m) = rr) := ⟨_, (rfl : (F m ||| x != F m) = (F m ||| x != F m))⟩
    rw [HRR.out] at HWD ⊢
    go_enter Try.func62, Try.ntmps62
    go_wp2_with fail
    rw [HWB.out]
    refine wp_region_chain (S := Sb wb) [_, _, _, _, _, _, _, _, _, _, _, _, _, _] [_, _, _] mixed (by kernel_rfl) (Sb.drew wb) ?_
    simp only [List.cons_append, List.nil_append]
    repeat (go_big_quiet_step (first | (go_at_call 63; with_reducible exact HC1.out _) | (go_at_call 65; with_reducible exact HC2.out _)))
    refine wpQuiet_nil ?_
    intro p
    go_wp2_with fail
    refine (HWD.out p).mono ?_
    rintro _ w3 ⟨rfl, hw3⟩
    have HW3 : Hid (Fm (fun k => k = bf) W w3 ∧ Rw w3 bf n (upd F m (F m ||| x))) := by rw [hw3]; exact HW.out p
    clear hw3
    go_wp2_with fail
    go_ret
    exact ⟨by simp, HW3.out⟩
end Go.Proofs.Ytmcmidfpglhnmaa
