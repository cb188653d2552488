/-
  The brackets' grammar has no clash, and its rows have the right form: plainly. The contracts of the closure of facts.beginnings and of facts.beginnings. The contract of facts.beginnings. The contracts of facts.reachAll, of the closure of facts.reached and of facts.reached. The contracts of the closure of facts.followers and of facts.followers. The contract of the closure of facts.followers. The contract of facts.followers. The contract of facts.Of. The facts of the brackets' grammar, and its rows; plainly.
-/
import Derived.Test.YtpfehghicaaghaaGrM
import Derived.Test.YtpfehghicaaghaaFcBrack
import Derived.Test.YtpfehghicaaghaaFcW
import Derived.Test.YtpfehghicaaghaaTrA
namespace Go.Proofs.Ytpfehghicaaghaa
open Cg

theorem brs_follow {E : Nat → Bool} {F V : Nat → Wd} {R M : Nat → Bool} (h : Fa brs E F V R M) : (V 0).getLsbD 0 = false := by
  have hc : ClW brs E F (fun _ => 9223372036854775810#64) := by
    refine ⟨by unfold le; decide, fun p hp k hk h2 => ?_⟩
    simp only [brs, List.mem_cons, List.not_mem_nil, or_false] at hp
    rcases hp with rfl | rfl
    · simp at hk
    · simp only [List.length_cons, List.length_nil] at hk
      have : k = 0 ∨ k = 1 ∨ k = 2 ∨ k = 3 := by omega
      rcases this with rfl | rfl | rfl | rfl
      · simp at h2
      · show le (bg E F [(1, 1), (2, 0)] _) _
        unfold bg
        rw [if_pos rfl]
        unfold le; decide
      · simp at h2
      · exact le_refl _
  cases e : (V 0).getLsbD 0 with
  | false => rfl
  | true =>
    have := le_bits.1 (h.w.sn _ hc 0) 0 e
    exact absurd this (by decide)
theorem brs_may {E : Nat → Bool} {F V : Nat → Wd} (c : Nat) : mayL brs (sts brs E F V) 2 0 c = (if (V 0).getLsbD (bc 2 c) = true then [0] else []) ++ (if bc 2 c = 0 then [1] else []) := by
  have e0 : mayB brs (sts brs E F V) 2 0 c 0 = (V 0).getLsbD (bc 2 c) := by
    rw [mayB_at (by decide), sts_at (by decide)]
    show (decide ((0 : Int) = ((0 : Nat) : Int)) && (bg E F [] (V 0)).getLsbD (bc 2 c)) = _
    rw [bg]; simp
  have e1 : mayB brs (sts brs E F V) 2 0 c 1 = decide (bc 2 c = 0) := by
    rw [mayB_at (by decide), sts_at (by decide)]
    show (decide ((0 : Int) = ((0 : Nat) : Int)) && (bg E F [(1, 0), (2, 0), (1, 1), (2, 0)] (V 0)).getLsbD (bc 2 c)) = _
    rw [bg, if_pos rfl]
    show (decide ((0 : Int) = ((0 : Nat) : Int)) && (1#64 <<< 0).getLsbD (bc 2 c)) = _
    generalize bc 2 c = k
    rw [show (1#64 <<< 0) = 1#64 from rfl]
    by_cases h : k = 0
    · subst h; decide
    · simp [h, BitVec.getLsbD_one]
  unfold mayL
  rw [show brs.length = 0 + 1 + 1 from rfl, mayQ_step, mayQ_step, e0, e1]
  simp [mayQ]
theorem brs_ll {S : Nat → Wd} (h : TK brs S) : clsN brs S 2 1 = [] ∧ chkR 2 1 brs (rowsL brs S 2 1) = 0 ∧ (rowsL brs S 2 1).length = 1 := by
  obtain ⟨E, F, V, R, M, hfa, rfl⟩ := h
  have hf := brs_follow hfa
  have hm0 : mayL brs (sts brs E F V) 2 0 0 = [1] := by rw [brs_may, show bc 2 0 = 0 from rfl, hf]; rfl
  have hm1 : mayL brs (sts brs E F V) 2 0 1 = if (V 0).getLsbD 1 = true then [0] else [] := by rw [brs_may, show bc 2 1 = 1 from rfl]; simp
  have hm2 : mayL brs (sts brs E F V) 2 0 2 = if (V 0).getLsbD 63 = true then [0] else [] := by rw [brs_may, show bc 2 2 = 63 from rfl]; simp
  refine ⟨?_, ?_, by simp [rowsL]⟩
  · have c0 : clsC brs (sts brs E F V) 2 0 0 = [] := by unfold clsC; rw [hm0]; rfl
    have c1 : clsC brs (sts brs E F V) 2 0 1 = [] := by unfold clsC; rw [hm1]; split <;> rfl
    have c2 : clsC brs (sts brs E F V) 2 0 2 = [] := by unfold clsC; rw [hm2]; split <;> rfl
    show clsN brs _ 2 0 ++ clsR brs _ 2 0 (0 + 1 + 1 + 1) = []
    rw [clsN, clsR, clsR, clsR, clsR, c0, c1, c2]; rfl
  · have hr : rowsL brs (sts brs E F V) 2 1 = [[hdI (mayL brs (sts brs E F V) 2 0 0), hdI (mayL brs (sts brs E F V) 2 0 1), hdI (mayL brs (sts brs E F V) 2 0 2)]] := rfl
    rw [hr, hm0, hm1, hm2]
    by_cases h1 : (V 0).getLsbD 1 = true
    · rw [if_pos h1]
      by_cases h2 : (V 0).getLsbD 63 = true
      · rw [if_pos h2]; decide
      · rw [if_neg h2]; decide
    · rw [if_neg h1]
      by_cases h2 : (V 0).getLsbD 63 = true
      · rw [if_pos h2]; decide
      · rw [if_neg h2]; decide
end Go.Proofs.Ytpfehghicaaghaa

namespace Go.Proofs.Ytpfehghicaaghaa
open Go.RowKit
open Cg

/-- A row of sets is widened at m. -/
def PutW (b n : Nat) (F : Nat → Wd) (m : Nat) (x : Wd) (W W' : World) : Prop := Fm (fun k => k = b) W W' ∧ Rw W' b n (upd F m (F m ||| x))
set_option maxHeartbeats 3200000 in
set_option maxRecDepth 20000 in
theorem clos34_any (t : Int) (ht : t ≤ 30) (n be bf bm cf : Nat) (E M : Nat → Bool) (F : Nat → Wd) (m : Nat) (hmn : m < n) (u : Value) (l : List Sy) (ok : OkL t n l) (W : World) (hs : Syms W u l) (hre : Rb W be n E) (hrf : Rw W bf n F) (hrm : Rb W bm n M)
    (h0 : W.cell? ⟨cf, 0, none⟩ = some (.slice (some ⟨be, 0, none⟩) n n)) (h1 : W.cell? ⟨cf, 1, none⟩ = some (.slice (some ⟨bf, 0, none⟩) n n)) (h2 : W.cell? ⟨cf, 2, none⟩ = some (.slice none 0 0)) (h3 : W.cell? ⟨cf, 3, none⟩ = some (.slice none 0 0)) (h4 : W.cell? ⟨cf, 4, none⟩ = some (.slice (some ⟨bm, 0, none⟩) n n)) (hcl : cf < W.heap.size) :
    Calls Try.prog 103 #[.agg #[.int .i64 (m : Int), u], .pointer (some ⟨cf, 0, none⟩)] W fun e W' => e = .returned (.bool (amk M true l && (F m ||| bg E F l 0#64 != F m))) ∧ (if amk M true l = true then PutW bf n F m (bg E F l 0#64) W W' else Below W.heap.size W W') := by
  obtain ⟨r, HR⟩ : ∃ r, Hid (amk M true l = r) := ⟨_, (rfl : amk M true l = amk M true l)⟩
  rw [HR.out]
  have hs' := hs
  obtain ⟨uo, uc, rfl, hul, -⟩ := hs
  obtain ⟨wb, HWB⟩ : ∃ wb, Hid (W.alloc (Obj.cells #[.int .i64 (m : Int), .slice uo l.length uc] 88) = wb) := ⟨_, (rfl : _ = _)⟩
  have g0 := cell_new W #[.int .i64 (m : Int), .slice uo l.length uc] 88
  have hb0 := below_alloc W (Obj.cells #[.int .i64 (m : Int), .slice uo l.length uc] 88)
  rw [HWB.out] at g0 hb0
  have HSZ : Hid (W.heap.size < wb.heap.size) := by show _ < _; rw [← HWB.out]; simp
  have HB0 : Hid (Below W.heap.size W wb) := hb0
  have hmn2 : (m : Int) < (n : Int) := by omega
  have HRE : Hid (Rb wb be n E) := hre.next hb0
  have HRM : Hid (Rb wb bm n M) := hrm.next hb0
  have HRF : Hid (Rw wb bf n F) := hrf.next hb0
  have HSY : Hid (Syms wb (.slice uo l.length uc) l) := hs'.below hb0
  have hne : Nonempty (Kp (Sb wb)) := ⟨⟨_, Sb.drew wb⟩⟩
  have y0 : ∀ p : Kp (Sb wb), p.W.cell? ⟨W.heap.size, 0, none⟩ = some (.int .i64 (m : Int)) := fun p => (Below.cell p.h (p := ⟨W.heap.size, 0, none⟩) HSZ.out).trans (g0 0)
  have y1 : ∀ p : Kp (Sb wb), p.W.cell? ⟨W.heap.size, 1, none⟩ = some (.slice uo l.length uc) := fun p => (Below.cell p.h (p := ⟨W.heap.size, 1, none⟩) HSZ.out).trans (g0 1)
  have hcl2 : cf < wb.heap.size := Nat.lt_of_lt_of_le hcl hb0.size
  have k0 : ∀ p : Kp (Sb wb), p.W.cell? ⟨cf, 0, none⟩ = some (.slice (some ⟨be, 0, none⟩) n n) := fun p => (Below.cell p.h (p := ⟨cf, 0, none⟩) hcl2).trans ((hb0.cell (p := ⟨cf, 0, none⟩) hcl).trans h0)
  have k1 : ∀ p : Kp (Sb wb), p.W.cell? ⟨cf, 1, none⟩ = some (.slice (some ⟨bf, 0, none⟩) n n) := fun p => (Below.cell p.h (p := ⟨cf, 1, none⟩) hcl2).trans ((hb0.cell (p := ⟨cf, 1, none⟩) hcl).trans h1)
  have k2 : ∀ p : Kp (Sb wb), p.W.cell? ⟨cf, 2, none⟩ = some (.slice none 0 0) := fun p => (Below.cell p.h (p := ⟨cf, 2, none⟩) hcl2).trans ((hb0.cell (p := ⟨cf, 2, none⟩) hcl).trans h2)
  have k3 : ∀ p : Kp (Sb wb), p.W.cell? ⟨cf, 3, none⟩ = some (.slice none 0 0) := fun p => (Below.cell p.h (p := ⟨cf, 3, none⟩) hcl2).trans ((hb0.cell (p := ⟨cf, 3, none⟩) hcl).trans h3)
  have k4 : ∀ p : Kp (Sb wb), p.W.cell? ⟨cf, 4, none⟩ = some (.slice (some ⟨bm, 0, none⟩) n n) := fun p => (Below.cell p.h (p := ⟨cf, 4, none⟩) hcl2).trans ((hb0.cell (p := ⟨cf, 4, none⟩) hcl).trans h4)
  have HC1 : Hid (∀ p : Kp (Sb wb), Calls Try.prog 104 #[.slice uo l.length uc, .slice (some ⟨bm, 0, none⟩) n n, .bool true] p.W fun e w'' => e = .returned (.bool r) ∧ ∃ q : Kp (Sb wb), w'' = q.W) := fun p => by
    have := allMade_any t n bm M true _ l p.W (HSY.out.below p.h) (HRM.out.next p.h) ok
    rw [HR.out] at this
    exact Kp.calls p Sb.next this
  obtain ⟨x, HX⟩ : ∃ x, Hid (bg E F l 0#64 = x) := ⟨_, (rfl : bg E F l 0#64 = bg E F l 0#64)⟩
  rw [HX.out]
  have HC2 : Hid (∀ p : Kp (Sb wb), Calls Try.prog 106 #[.agg #[.slice (some ⟨be, 0, none⟩) n n, .slice (some ⟨bf, 0, none⟩) n n, .slice none 0 0, .slice none 0 0, .slice (some ⟨bm, 0, none⟩) n n], .slice uo l.length uc, .int .u64 0] p.W fun e w'' => e = .returned (.int .u64 (x.toNat : Int)) ∧ ∃ q : Kp (Sb wb), w'' = q.W) := fun p => by
    have := begin_any t n be bf E F (.slice none 0 0) (.slice none 0 0) (.slice (some ⟨bm, 0, none⟩) n n) _ l 0#64 p.W (HSY.out.below p.h) (HRE.out.next p.h) (HRF.out.next p.h) ok ht
    rw [HX.out] at this
    exact Kp.calls p Sb.next this
  have HW : Hid (∀ p : Kp (Sb wb), Fm (fun k => k = bf) W (p.W.setCell ⟨bf, m, none⟩ (.int .u64 ((F m ||| x).toNat : Int))) ∧ Rw (p.W.setCell ⟨bf, m, none⟩ (.int .u64 ((F m ||| x).toNat : Int))) bf n (upd F m (F m ||| x))) := fun p =>
    ⟨(Fm.of (X := fun k => k = bf) (HB0.out.trans (Below.mono p.h HB0.out.size))).trans (Fm.set (X := fun k => k = bf) (b := bf) (i := m) _ rfl) (fun _ _ e => e), (HRF.out.next p.h).set m _⟩
  have HWD : Hid (∀ p : Kp (Sb wb), Calls Try.prog 105 #[.slice (some ⟨bf, 0, none⟩) n n, .int .i64 (m : Int), .int .u64 (x.toNat : Int)] p.W fun e w' => e = .returned (.bool (F m ||| x != F m)) ∧ w' = p.W.setCell ⟨bf, m, none⟩ (.int .u64 ((F m ||| x).toNat : Int))) := fun p => widen_any n bf F m x p.W (HRF.out.next p.h) hmn
  have HBF : Hid (∀ p : Kp (Sb wb), Below W.heap.size W p.W) := fun p => HB0.out.trans (Below.mono p.h HB0.out.size)
  clear hrf hre hrm h0 h1 h2 h3 h4 hcl hcl2 hb0 g0 hs' HRE HRM HRF HSY HX HR HB0
  cases r with
  | false =>
    simp only [Bool.false_eq_true, if_false, Bool.false_and]
    go_enter Try.func103, Try.ntmps103
    go_wp2_with fail
    rw [HWB.out]
    refine wp_region_kept mixed (by kernel_rfl) (Sb.drew wb) ?_
    repeat (go_big_quiet_step (first | (go_at_call 104; with_reducible exact HC1.out _)))
    refine wpQuiet_nil ?_
    intro W2 hw2
    obtain ⟨p2, rfl⟩ := hw2
    go_wp2_with fail
    go_ret
    exact ⟨by simp, HBF.out p2⟩
  | true =>
    simp only [if_true, Bool.true_and]
    obtain ⟨rr, HRR⟩ : ∃ rr, Hid ((F m ||| x != F m) = rr) := ⟨_, (rfl : (F m ||| x != F m) = (F m ||| x != F m))⟩
    rw [HRR.out] at HWD ⊢
    go_enter Try.func103, Try.ntmps103
    go_wp2_with fail
    rw [HWB.out]
    refine wp_region_chain (S := Sb wb) [_, _, _, _, _, _, _, _, _, _, _, _, _, _] [_, _, _] mixed (by kernel_rfl) (Sb.drew wb) ?_
    simp only [List.cons_append, List.nil_append]
    repeat (go_big_quiet_step (first | (go_at_call 104; with_reducible exact HC1.out _) | (go_at_call 106; with_reducible exact HC2.out _)))
    refine wpQuiet_nil ?_
    intro p
    go_wp2_with fail
    refine (HWD.out p).mono ?_
    rintro _ w3 ⟨rfl, hw3⟩
    have HW3 : Hid (Fm (fun k => k = bf) W w3 ∧ Rw w3 bf n (upd F m (F m ||| x))) := by rw [hw3]; exact HW.out p
    clear hw3
    go_wp2_with fail
    go_ret
    exact ⟨by simp, HW3.out⟩
end Go.Proofs.Ytpfehghicaaghaa

namespace Go.Proofs.Ytpfehghicaaghaa
open Go.RowKit
open Cg

theorem row_ne {w : World} {a b n m : Nat} {t s : TypeId} {f g : Nat → Value} (h : w.rowIs a t n f) (k : w.rowIs b s m g) (hts : t ≠ s) : a ≠ b := by
  intro e
  subst e
  obtain ⟨c, h1, _⟩ := h
  obtain ⟨d, k1, _⟩ := k
  rw [h1] at k1
  injection k1 with k2
  injection k2 with _ k3
  exact hts k3
def fv (a b c d e : Value) (i : Nat) : Value := match i with | 0 => a | 1 => b | 2 => c | 3 => d | _ => e
theorem row_five {w : World} {g : Nat} {f : Nat → Value} (h : w.rowIs g 82 5 f) (a b c d e : Value) : (((((w.setCell ⟨g, 0, none⟩ a).setCell ⟨g, 1, none⟩ b).setCell ⟨g, 2, none⟩ c).setCell ⟨g, 3, none⟩ d).setCell ⟨g, 4, none⟩ e).rowIs g 82 5 (fv a b c d e) := by
  refine (((((h.set 0 a).set 1 b).set 2 c).set 3 d).set 4 e).congr fun i hi => ?_
  have : i = 0 ∨ i = 1 ∨ i = 2 ∨ i = 3 ∨ i = 4 := by omega
  rcases this with rfl | rfl | rfl | rfl | rfl <;> rfl
theorem five_other (w : World) (g : Nat) (a b c d e : Value) (k : Nat) (hk : k ≠ g) : (((((w.setCell ⟨g, 0, none⟩ a).setCell ⟨g, 1, none⟩ b).setCell ⟨g, 2, none⟩ c).setCell ⟨g, 3, none⟩ d).setCell ⟨g, 4, none⟩ e).heap[k]? = w.heap[k]? := by
  rw [Go.Deep.blk_setCell_other _ _ _ _ hk, Go.Deep.blk_setCell_other _ _ _ _ hk, Go.Deep.blk_setCell_other _ _ _ _ hk, Go.Deep.blk_setCell_other _ _ _ _ hk, Go.Deep.blk_setCell_other _ _ _ _ hk]
theorem five_size (w : World) (g : Nat) (a b c d e : Value) : (((((w.setCell ⟨g, 0, none⟩ a).setCell ⟨g, 1, none⟩ b).setCell ⟨g, 2, none⟩ c).setCell ⟨g, 3, none⟩ d).setCell ⟨g, 4, none⟩ e).heap.size = w.heap.size := by simp [World.setCell]
theorem row_new5 (w : World) : (w.alloc (.cells #[.slice none 0 0, .slice none 0 0, .slice none 0 0, .slice none 0 0, .slice none 0 0] 82)).rowIs w.heap.size 82 5 (fun _ => .slice none 0 0) :=
  World.rowIs_alloc w _ 82 _ fun i hi => by
    have : i = 0 ∨ i = 1 ∨ i = 2 ∨ i = 3 ∨ i = 4 := by simp at hi; omega
    rcases this with rfl | rfl | rfl | rfl | rfl <;> rfl
/-- What is held while beginnings goes on. -/
structure Ib (ps : List Pd) (n : Nat) (M E : Nat → Bool) (be bf bm cf : Nat) (F : Nat → Wd) (W : World) : Prop where
  c : W.rowIs cf 82 5 (fv (.slice (some ⟨be, 0, none⟩) n n) (.slice (some ⟨bf, 0, none⟩) n n) (.slice none 0 0) (.slice none 0 0) (.slice (some ⟨bm, 0, none⟩) n n))
  e : Rb W be n E
  f : Rw W bf n F
  m : Rb W bm n M
  sn : SnF ps M E F
theorem Ib.next {ps : List Pd} {n : Nat} {M E : Nat → Bool} {be bf bm cf : Nat} {F : Nat → Wd} {W W' : World} (h : Ib ps n M E be bf bm cf F W) (hb : Below W.heap.size W W') : Ib ps n M E be bf bm cf F W' :=
  ⟨h.c.of_block (hb.block _ h.c.lt), h.e.next hb, h.f.next hb, h.m.next hb, h.sn⟩
theorem Ib.put {ps : List Pd} {n : Nat} {M E : Nat → Bool} {be bf bm cf : Nat} {F F' : Nat → Wd} {W W' : World} (h : Ib ps n M E be bf bm cf F W) (hf : Fm (fun k => k = bf) W W') (hr : Rw W' bf n F') (hn : SnF ps M E F') : Ib ps n M E be bf bm cf F' W' :=
  ⟨h.c.of_block (hf.block _ h.c.lt (row_ne h.c h.f (by decide))), h.e.of (hf.block _ h.e.lt (row_ne h.e h.f (by decide))), hr, h.m.of (hf.block _ h.m.lt (row_ne h.m h.f (by decide))), hn⟩
/-- What beginnings leaves. -/
def Bgs (w : World) (n : Nat) (ps : List Pd) (be bf bm : Nat) (w' : World) : Prop :=
  w.heap.size ≤ be ∧ w.heap.size ≤ bf ∧ w.heap.size ≤ bm ∧ Below w.heap.size w w' ∧ ∃ E F M, Rb w' be n E ∧ Rw w' bf n F ∧ Rb w' bm n M ∧ Mk ps false E ∧ Mk ps true M ∧ Fi ps M E F
structure RBe (w0 : World) (g : Nat) (t : Int) (n : Nat) (ao : Option Addr) (np c : Nat) (ps : List Pd) (bm : Nat) (be : Nat) (bf : Nat) (cf : Nat) (d : Nat → Bool) (x3 x4 x5 x6 x7 x8 x9 x10 x11 : Value) (W : World) : Prop where
  f0 : d 0 = true → x4 = (.agg #[.int .i64 t, .int .i64 (n : Int), .slice ao np c])
  f1 : d 1 = true → x5 = (.slice (some ⟨bm, 0, none⟩) n n)
  f2 : d 2 = true → x6 = (.agg #[.int .i64 t, .int .i64 (n : Int), .slice ao np c])
  f3 : d 3 = true → x7 = (.slice (some ⟨be, 0, none⟩) n n)
  f4 : d 4 = true → x8 = (.pointer (some ⟨g, 1, none⟩))
  f5 : d 5 = true → x9 = (.int .i64 (n : Int))
  f6 : d 6 = true → x10 = (.slice (some ⟨bf, 0, none⟩) n n)
  f7 : d 7 = true → x11 = (.agg #[(.slice (some ⟨be, 0, none⟩) n n), (.slice (some ⟨bf, 0, none⟩) n n), (.slice none 0 0), (.slice none 0 0), (.slice (some ⟨bm, 0, none⟩) n n)])
  f8 : d 8 = true → x3 = (.pointer (some ⟨cf, 0, none⟩))
  f9 : d 9 = true → True
  kp : Below w0.heap.size w0 W
  o7a : d 7 = true → d 1 = true
  o7b : d 7 = true → d 3 = true
  o7c : d 7 = true → d 6 = true
  o9 : d 9 = true → d 8 = true
  o97 : d 9 = true → d 7 = true
  m : d 1 = true → w0.heap.size ≤ bm ∧ ∃ s, Rb W bm n s ∧ Mk ps true s
  e : d 3 = true → w0.heap.size ≤ be ∧ ∃ s, Rb W be n s ∧ Mk ps false s
  rf : d 6 = true → w0.heap.size ≤ bf ∧ Rw W bf n (fun _ => 0#64)
  c : d 8 = true → d 9 = false → w0.heap.size ≤ cf ∧ W.rowIs cf 82 5 (fun _ => .slice none 0 0)
  c9 : d 9 = true → w0.heap.size ≤ cf ∧ W.rowIs cf 82 5 (fv (.slice (some ⟨be, 0, none⟩) n n) (.slice (some ⟨bf, 0, none⟩) n n) (.slice none 0 0) (.slice none 0 0) (.slice (some ⟨bm, 0, none⟩) n n))
set_option maxHeartbeats 6400000 in
set_option maxRecDepth 20000 in
theorem beginnings_any (t : Int) (n : Nat) (pv : Value) (ps : List Pd) (w : World) (hp : Pds w pv ps) (hg : Rg t n ps) :
    Calls Try.prog 86 #[.agg #[.int .i64 t, .int .i64 (n : Int), pv]] w fun e w' => ∃ be bf bm, e = .returned (.agg #[(.slice (some ⟨be, 0, none⟩) n n), (.slice (some ⟨bf, 0, none⟩) n n), (.slice none 0 0), (.slice none 0 0), (.slice (some ⟨bm, 0, none⟩) n n)]) ∧ Bgs w n ps be bf bm w' := by
  have HP : Hid (Pds w pv ps) := hp
  have HG : Hid (Rg t n ps) := hg
  obtain ⟨ao, c, rfl, hm, -⟩ := hp
  obtain ⟨w0, HW0⟩ : ∃ w0, Hid (((w.alloc (Obj.cells #[.int .i64 t, .int .i64 (n : Int), .slice ao ps.length c] 24)).alloc (Obj.cells #[(.slice none 0 0), (.slice none 0 0), (.slice none 0 0), (.slice none 0 0), (.slice none 0 0)] 82)) = w0) := ⟨_, (rfl : _ = _)⟩
  have hb0 := below_alloc2 w (Obj.cells #[.int .i64 t, .int .i64 (n : Int), .slice ao ps.length c] 24) (Obj.cells #[(.slice none 0 0), (.slice none 0 0), (.slice none 0 0), (.slice none 0 0), (.slice none 0 0)] 82)
  have g0 := cell_new w #[.int .i64 t, .int .i64 (n : Int), .slice ao ps.length c] 24
  have g1 := fun i => ((below_alloc (w.alloc (Obj.cells #[.int .i64 t, .int .i64 (n : Int), .slice ao ps.length c] 24)) (Obj.cells #[(.slice none 0 0), (.slice none 0 0), (.slice none 0 0), (.slice none 0 0), (.slice none 0 0)] 82)).cell (p := ⟨w.heap.size, i, none⟩) (by simp)).trans (g0 i)
  have hrr := row_new5 (w.alloc (Obj.cells #[.int .i64 t, .int .i64 (n : Int), .slice ao ps.length c] 24))
  have es : (w.alloc (Obj.cells #[.int .i64 t, .int .i64 (n : Int), .slice ao ps.length c] 24)).heap.size = w.heap.size + 1 := by simp
  rw [es, HW0.out] at hrr
  rw [HW0.out] at hb0 g1
  have HB0 : Hid (Below w.heap.size w w0) := hb0
  have HRR : Hid (w0.rowIs (w.heap.size + 1) 82 5 (fun _ => .slice none 0 0)) := hrr
  have HC : Hid (w0.cell? ⟨w.heap.size, 0, none⟩ = some (.int .i64 t) ∧ w0.cell? ⟨w.heap.size, 1, none⟩ = some (.int .i64 (n : Int)) ∧ w0.cell? ⟨w.heap.size, 2, none⟩ = some (.slice ao ps.length c)) := ⟨g1 0, g1 1, g1 2⟩
  have HSW : Hid (w0.heap.size = w.heap.size + 2) := by show _ = _; rw [← HW0.out]; simp
  have HGL : Hid (w.heap.size < w0.heap.size) := by show _ < _; rw [HSW.out]; omega
  have HPD : Hid (Pds w0 (.slice ao ps.length c) ps) := HP.out.below hb0
  clear hb0 g0 g1 hrr es hg
  go_enter Try.func86, Try.ntmps86
  go_wp2_with fail
  rw [HW0.out]
  refine wp_region_free mixed (fun a0 d a W => ∃ (bm : Nat) (be : Nat) (bf : Nat) (cf : Nat) (x3 x4 x5 x6 x7 x8 x9 x10 x11 : Value), a = (((((((((a0.put (some 3) x3).put (some 4) x4).put (some 5) x5).put (some 6) x6).put (some 7) x7).put (some 8) x8).put (some 9) x9).put (some 10) x10).put (some 11) x11) ∧ Hid (RBe w0 w.heap.size t n ao ps.length c ps bm be bf cf d x3 x4 x5 x6 x7 x8 x9 x10 x11 W)) (by kernel_rfl) ⟨0, 0, 0, 0, undef, undef, undef, undef, undef, undef, undef, undef, undef, by simp only [Act.put, List.setIfInBounds_toArray, List.set_cons_zero, List.set_cons_succ], ?_⟩ ?_ ?_
  · exact ⟨fun h => no_way h, fun h => no_way h, fun h => no_way h, fun h => no_way h, fun h => no_way h, fun h => no_way h, fun h => no_way h, fun h => no_way h, fun h => no_way h, fun _ => trivial, Below.drew (Below.refl _ _), fun h => no_way h, fun h => no_way h, fun h => no_way h, fun h => no_way h, fun h => no_way h, fun h => no_way h, fun h => no_way h, fun h => no_way h, fun h _ => no_way h, fun h => no_way h⟩
  · simp only [StepAll, and_true]
    refine ⟨?_, ?_, ?_, ?_, ?_, ?_, ?_, ?_, ?_, ?_⟩
    · intro d a W hI hd hdep
      obtain ⟨bm, be, bf, cf, x3, x4, x5, x6, x7, x8, x9, x10, x11, rfl, hF⟩ := hI
      have c0 := (hF.out.kp.cell (p := ⟨w.heap.size, 0, none⟩) HGL.out).trans HC.out.1
      have c1 := (hF.out.kp.cell (p := ⟨w.heap.size, 1, none⟩) HGL.out).trans HC.out.2.1
      have c2 := (hF.out.kp.cell (p := ⟨w.heap.size, 2, none⟩) HGL.out).trans HC.out.2.2
      clear hdep hd
      intro K hK
      simp only [Act.put, List.setIfInBounds_toArray, List.set_cons_zero, List.set_cons_succ]
      go_simp
      refine hK.out _ _ ⟨bm, be, bf, cf, x3, (.agg #[.int .i64 t, .int .i64 (n : Int), .slice ao ps.length c]), x5, x6, x7, x8, x9, x10, x11, by simp only [Act.put, List.setIfInBounds_toArray, List.set_cons_zero, List.set_cons_succ], ?_⟩
      exact ⟨fun _ => rfl, fun h => hF.out.f1 (by simpa using h), fun h => hF.out.f2 (by simpa using h), fun h => hF.out.f3 (by simpa using h), fun h => hF.out.f4 (by simpa using h), fun h => hF.out.f5 (by simpa using h), fun h => hF.out.f6 (by simpa using h), fun h => hF.out.f7 (by simpa using h), fun h => hF.out.f8 (by simpa using h), fun h => hF.out.f9 (by simpa using h), hF.out.kp, fun h => by have := hF.out.o7a (by simpa using h); simp [this], fun h => by have := hF.out.o7b (by simpa using h); simp [this], fun h => by have := hF.out.o7c (by simpa using h); simp [this], fun h => by have := hF.out.o9 (by simpa using h); simp [this], fun h => by have := hF.out.o97 (by simpa using h); simp [this], fun h => hF.out.m (by simpa using h), fun h => hF.out.e (by simpa using h), fun h => hF.out.rf (by simpa using h), fun h h2 => hF.out.c (by simpa using h) (by simpa using h2), fun h => hF.out.c9 (by simpa using h)⟩
    · intro d a W hI hd hdep
      obtain ⟨bm, be, bf, cf, x3, x4, x5, x6, x7, x8, x9, x10, x11, rfl, hF⟩ := hI
      have hd0 : d 0 = true := dep_of hdep 0 (by kernel_rfl)
      obtain rfl := hF.out.f0 hd0
      have HKP : Hid (Below w0.heap.size w0 W) := hF.out.kp
      have hcl := made_any t n true (.slice ao ps.length c) ps W (HPD.out.below hF.out.kp) HG.out
      have HN7 : Hid (d 7 = false) := no_later hF.out.o7a hd
      clear hdep hd hd0
      intro K hK
      simp only [Act.put, List.setIfInBounds_toArray, List.set_cons_zero, List.set_cons_succ]
      go_simp
      refine hcl.mono ?_
      rintro _ W1 ⟨bm1, rfl, hge, hb1, s1, hr1, hk1⟩
      have HNEW : Hid (w0.heap.size ≤ bm1 ∧ ∃ s, Rb W1 bm1 n s ∧ Mk ps true s) := ⟨Nat.le_trans HKP.out.size hge, s1, hr1, hk1⟩
      have HB1 : Hid (Below W.heap.size W W1) := hb1
      clear hge hr1 hk1 hb1 hcl
      go_simp
      refine hK.out _ _ ⟨bm1, be, bf, cf, x3, (.agg #[.int .i64 t, .int .i64 (n : Int), .slice ao ps.length c]), (.slice (some ⟨bm1, 0, none⟩) n n), x6, x7, x8, x9, x10, x11, by simp only [Act.put, List.setIfInBounds_toArray, List.set_cons_zero, List.set_cons_succ], ?_⟩
      exact ⟨fun h => hF.out.f0 (by simpa using h), fun _ => rfl, fun h => hF.out.f2 (by simpa using h), fun h => hF.out.f3 (by simpa using h), fun h => hF.out.f4 (by simpa using h), fun h => hF.out.f5 (by simpa using h), fun h => hF.out.f6 (by simpa using h), fun h => by have := HN7.out; simp [this] at h, fun h => hF.out.f8 (by simpa using h), fun h => hF.out.f9 (by simpa using h), HKP.out.trans (HB1.out.mono HKP.out.size), fun _ => by simp, fun h => by have := hF.out.o7b (by simpa using h); simp [this], fun h => by have := hF.out.o7c (by simpa using h); simp [this], fun h => by have := hF.out.o9 (by simpa using h); simp [this], fun h => by have := hF.out.o97 (by simpa using h); simp [this], fun _ => HNEW.out, fun h => have q := hF.out.e (by simpa using h); ⟨q.1, q.2.elim fun s hs => ⟨s, hs.1.next HB1.out, hs.2⟩⟩, fun h => have q := hF.out.rf (by simpa using h); ⟨q.1, q.2.next HB1.out⟩, fun h h2 => have q := hF.out.c (by simpa using h) (by simpa using h2); ⟨q.1, q.2.of_block (HB1.out.block _ q.2.lt)⟩, fun h => by have := HN7.out; have := hF.out.o97 (by simpa using h); simp [HN7.out] at this⟩
    · intro d a W hI hd hdep
      obtain ⟨bm, be, bf, cf, x3, x4, x5, x6, x7, x8, x9, x10, x11, rfl, hF⟩ := hI
      have c0 := (hF.out.kp.cell (p := ⟨w.heap.size, 0, none⟩) HGL.out).trans HC.out.1
      have c1 := (hF.out.kp.cell (p := ⟨w.heap.size, 1, none⟩) HGL.out).trans HC.out.2.1
      have c2 := (hF.out.kp.cell (p := ⟨w.heap.size, 2, none⟩) HGL.out).trans HC.out.2.2
      clear hdep hd
      intro K hK
      simp only [Act.put, List.setIfInBounds_toArray, List.set_cons_zero, List.set_cons_succ]
      go_simp
      refine hK.out _ _ ⟨bm, be, bf, cf, x3, x4, x5, (.agg #[.int .i64 t, .int .i64 (n : Int), .slice ao ps.length c]), x7, x8, x9, x10, x11, by simp only [Act.put, List.setIfInBounds_toArray, List.set_cons_zero, List.set_cons_succ], ?_⟩
      exact ⟨fun h => hF.out.f0 (by simpa using h), fun h => hF.out.f1 (by simpa using h), fun _ => rfl, fun h => hF.out.f3 (by simpa using h), fun h => hF.out.f4 (by simpa using h), fun h => hF.out.f5 (by simpa using h), fun h => hF.out.f6 (by simpa using h), fun h => hF.out.f7 (by simpa using h), fun h => hF.out.f8 (by simpa using h), fun h => hF.out.f9 (by simpa using h), hF.out.kp, fun h => by have := hF.out.o7a (by simpa using h); simp [this], fun h => by have := hF.out.o7b (by simpa using h); simp [this], fun h => by have := hF.out.o7c (by simpa using h); simp [this], fun h => by have := hF.out.o9 (by simpa using h); simp [this], fun h => by have := hF.out.o97 (by simpa using h); simp [this], fun h => hF.out.m (by simpa using h), fun h => hF.out.e (by simpa using h), fun h => hF.out.rf (by simpa using h), fun h h2 => hF.out.c (by simpa using h) (by simpa using h2), fun h => hF.out.c9 (by simpa using h)⟩
    · intro d a W hI hd hdep
      obtain ⟨bm, be, bf, cf, x3, x4, x5, x6, x7, x8, x9, x10, x11, rfl, hF⟩ := hI
      have hd2 : d 2 = true := dep_of hdep 2 (by kernel_rfl)
      obtain rfl := hF.out.f2 hd2
      have HKP : Hid (Below w0.heap.size w0 W) := hF.out.kp
      have hcl := made_any t n false (.slice ao ps.length c) ps W (HPD.out.below hF.out.kp) HG.out
      have HN7 : Hid (d 7 = false) := no_later hF.out.o7b hd
      clear hdep hd hd2
      intro K hK
      simp only [Act.put, List.setIfInBounds_toArray, List.set_cons_zero, List.set_cons_succ]
      go_simp
      refine hcl.mono ?_
      rintro _ W1 ⟨be1, rfl, hge, hb1, s1, hr1, hk1⟩
      have HNEW : Hid (w0.heap.size ≤ be1 ∧ ∃ s, Rb W1 be1 n s ∧ Mk ps false s) := ⟨Nat.le_trans HKP.out.size hge, s1, hr1, hk1⟩
      have HB1 : Hid (Below W.heap.size W W1) := hb1
      clear hge hr1 hk1 hb1 hcl
      go_simp
      refine hK.out _ _ ⟨bm, be1, bf, cf, x3, x4, x5, (.agg #[.int .i64 t, .int .i64 (n : Int), .slice ao ps.length c]), (.slice (some ⟨be1, 0, none⟩) n n), x8, x9, x10, x11, by simp only [Act.put, List.setIfInBounds_toArray, List.set_cons_zero, List.set_cons_succ], ?_⟩
      exact ⟨fun h => hF.out.f0 (by simpa using h), fun h => hF.out.f1 (by simpa using h), fun h => hF.out.f2 (by simpa using h), fun _ => rfl, fun h => hF.out.f4 (by simpa using h), fun h => hF.out.f5 (by simpa using h), fun h => hF.out.f6 (by simpa using h), fun h => by have := HN7.out; simp [this] at h, fun h => hF.out.f8 (by simpa using h), fun h => hF.out.f9 (by simpa using h), HKP.out.trans (HB1.out.mono HKP.out.size), fun h => by have := hF.out.o7a (by simpa using h); simp [this], fun _ => by simp, fun h => by have := hF.out.o7c (by simpa using h); simp [this], fun h => by have := hF.out.o9 (by simpa using h); simp [this], fun h => by have := hF.out.o97 (by simpa using h); simp [this], fun h => have q := hF.out.m (by simpa using h); ⟨q.1, q.2.elim fun s hs => ⟨s, hs.1.next HB1.out, hs.2⟩⟩, fun _ => HNEW.out, fun h => have q := hF.out.rf (by simpa using h); ⟨q.1, q.2.next HB1.out⟩, fun h h2 => have q := hF.out.c (by simpa using h) (by simpa using h2); ⟨q.1, q.2.of_block (HB1.out.block _ q.2.lt)⟩, fun h => by have := hF.out.o97 (by simpa using h); simp [HN7.out] at this⟩
    · intro d a W hI hd hdep
      obtain ⟨bm, be, bf, cf, x3, x4, x5, x6, x7, x8, x9, x10, x11, rfl, hF⟩ := hI
      clear hdep hd
      intro K hK
      simp only [Act.put, List.setIfInBounds_toArray, List.set_cons_zero, List.set_cons_succ]
      go_simp
      refine hK.out _ _ ⟨bm, be, bf, cf, x3, x4, x5, x6, x7, (.pointer (some ⟨w.heap.size, 1, none⟩)), x9, x10, x11, by simp only [Act.put, List.setIfInBounds_toArray, List.set_cons_zero, List.set_cons_succ], ?_⟩
      exact ⟨fun h => hF.out.f0 (by simpa using h), fun h => hF.out.f1 (by simpa using h), fun h => hF.out.f2 (by simpa using h), fun h => hF.out.f3 (by simpa using h), fun _ => rfl, fun h => hF.out.f5 (by simpa using h), fun h => hF.out.f6 (by simpa using h), fun h => hF.out.f7 (by simpa using h), fun h => hF.out.f8 (by simpa using h), fun h => hF.out.f9 (by simpa using h), hF.out.kp, fun h => by have := hF.out.o7a (by simpa using h); simp [this], fun h => by have := hF.out.o7b (by simpa using h); simp [this], fun h => by have := hF.out.o7c (by simpa using h); simp [this], fun h => by have := hF.out.o9 (by simpa using h); simp [this], fun h => by have := hF.out.o97 (by simpa using h); simp [this], fun h => hF.out.m (by simpa using h), fun h => hF.out.e (by simpa using h), fun h => hF.out.rf (by simpa using h), fun h h2 => hF.out.c (by simpa using h) (by simpa using h2), fun h => hF.out.c9 (by simpa using h)⟩
    · intro d a W hI hd hdep
      obtain ⟨bm, be, bf, cf, x3, x4, x5, x6, x7, x8, x9, x10, x11, rfl, hF⟩ := hI
      have hd4 : d 4 = true := dep_of hdep 4 (by kernel_rfl)
      obtain rfl := hF.out.f4 hd4
      have c1 := (hF.out.kp.cell (p := ⟨w.heap.size, 1, none⟩) HGL.out).trans HC.out.2.1
      clear hdep hd hd4
      intro K hK
      simp only [Act.put, List.setIfInBounds_toArray, List.set_cons_zero, List.set_cons_succ]
      go_simp
      refine hK.out _ _ ⟨bm, be, bf, cf, x3, x4, x5, x6, x7, (.pointer (some ⟨w.heap.size, 1, none⟩)), (.int .i64 (n : Int)), x10, x11, by simp only [Act.put, List.setIfInBounds_toArray, List.set_cons_zero, List.set_cons_succ], ?_⟩
      exact ⟨fun h => hF.out.f0 (by simpa using h), fun h => hF.out.f1 (by simpa using h), fun h => hF.out.f2 (by simpa using h), fun h => hF.out.f3 (by simpa using h), fun h => hF.out.f4 (by simpa using h), fun _ => rfl, fun h => hF.out.f6 (by simpa using h), fun h => hF.out.f7 (by simpa using h), fun h => hF.out.f8 (by simpa using h), fun h => hF.out.f9 (by simpa using h), hF.out.kp, fun h => by have := hF.out.o7a (by simpa using h); simp [this], fun h => by have := hF.out.o7b (by simpa using h); simp [this], fun h => by have := hF.out.o7c (by simpa using h); simp [this], fun h => by have := hF.out.o9 (by simpa using h); simp [this], fun h => by have := hF.out.o97 (by simpa using h); simp [this], fun h => hF.out.m (by simpa using h), fun h => hF.out.e (by simpa using h), fun h => hF.out.rf (by simpa using h), fun h h2 => hF.out.c (by simpa using h) (by simpa using h2), fun h => hF.out.c9 (by simpa using h)⟩
    · intro d a W hI hd hdep
      obtain ⟨bm, be, bf, cf, x3, x4, x5, x6, x7, x8, x9, x10, x11, rfl, hF⟩ := hI
      have hd5 : d 5 = true := dep_of hdep 5 (by kernel_rfl)
      obtain rfl := hF.out.f5 hd5
      have hmk := run_make_row' (P := Try.prog) 80 131 (.int .u64 0) 8 Try.underlying80 info131 rfl .i64 .i64 n (by have := HG.out.n2; omega) (by have := HG.out.n2; omega)
      have HKP : Hid (Below w0.heap.size w0 W) := hF.out.kp
      have HN7 : Hid (d 7 = false) := no_later hF.out.o7c hd
      clear hdep hd hd5
      intro K hK
      simp only [Act.put, List.setIfInBounds_toArray, List.set_cons_zero, List.set_cons_succ]
      go_simp
      refine hK.out _ _ ⟨bm, be, W.heap.size, cf, x3, x4, x5, x6, x7, x8, (.int .i64 (n : Int)), (.slice (some ⟨W.heap.size, 0, none⟩) n n), x11, by simp only [Act.put, List.setIfInBounds_toArray, List.set_cons_zero, List.set_cons_succ], ?_⟩
      have hb1 := below_alloc W (Obj.cells (madeCells #[Value.int .u64 0] n) 131)
      exact ⟨fun h => hF.out.f0 (by simpa using h), fun h => hF.out.f1 (by simpa using h), fun h => hF.out.f2 (by simpa using h), fun h => hF.out.f3 (by simpa using h), fun h => hF.out.f4 (by simpa using h), fun h => hF.out.f5 (by simpa using h), fun _ => rfl, fun h => by have := HN7.out; simp [this] at h, fun h => hF.out.f8 (by simpa using h), fun h => hF.out.f9 (by simpa using h), HKP.out.trans (hb1.mono HKP.out.size), fun h => by have := hF.out.o7a (by simpa using h); simp [this], fun h => by have := hF.out.o7b (by simpa using h); simp [this], fun _ => by simp, fun h => by have := hF.out.o9 (by simpa using h); simp [this], fun h => by have := hF.out.o97 (by simpa using h); simp [this], fun h => have q := hF.out.m (by simpa using h); ⟨q.1, q.2.elim fun s hs => ⟨s, hs.1.next hb1, hs.2⟩⟩, fun h => have q := hF.out.e (by simpa using h); ⟨q.1, q.2.elim fun s hs => ⟨s, hs.1.next hb1, hs.2⟩⟩, fun _ => ⟨HKP.out.size, World.rowIs_made W _ n 131⟩, fun h h2 => have q := hF.out.c (by simpa using h) (by simpa using h2); ⟨q.1, q.2.of_block (hb1.block _ q.2.lt)⟩, fun h => by have := hF.out.o97 (by simpa using h); simp [HN7.out] at this⟩
    · intro d a W hI hd hdep
      obtain ⟨bm, be, bf, cf, x3, x4, x5, x6, x7, x8, x9, x10, x11, rfl, hF⟩ := hI
      have hd1 : d 1 = true := dep_of hdep 1 (by kernel_rfl)
      have hd3 : d 3 = true := dep_of hdep 3 (by kernel_rfl)
      have hd6 : d 6 = true := dep_of hdep 6 (by kernel_rfl)
      obtain rfl := hF.out.f1 hd1
      obtain rfl := hF.out.f3 hd3
      obtain rfl := hF.out.f6 hd6
      have e1 := hd1
      have e3 := hd3
      have e6 := hd6
      clear hdep hd hd1 hd3 hd6
      intro K hK
      simp only [Act.put, List.setIfInBounds_toArray, List.set_cons_zero, List.set_cons_succ]
      go_simp
      refine hK.out _ _ ⟨bm, be, bf, cf, x3, x4, (.slice (some ⟨bm, 0, none⟩) n n), x6, (.slice (some ⟨be, 0, none⟩) n n), x8, x9, (.slice (some ⟨bf, 0, none⟩) n n), (.agg #[(.slice (some ⟨be, 0, none⟩) n n), (.slice (some ⟨bf, 0, none⟩) n n), (.slice none 0 0), (.slice none 0 0), (.slice (some ⟨bm, 0, none⟩) n n)]), by simp only [Act.put, List.setIfInBounds_toArray, List.set_cons_zero, List.set_cons_succ], ?_⟩
      exact ⟨fun h => hF.out.f0 (by simpa using h), fun h => hF.out.f1 (by simpa using h), fun h => hF.out.f2 (by simpa using h), fun h => hF.out.f3 (by simpa using h), fun h => hF.out.f4 (by simpa using h), fun h => hF.out.f5 (by simpa using h), fun h => hF.out.f6 (by simpa using h), fun _ => rfl, fun h => hF.out.f8 (by simpa using h), fun h => hF.out.f9 (by simpa using h), hF.out.kp, fun _ => by simp [e1], fun _ => by simp [e3], fun _ => by simp [e6], fun h => by have := hF.out.o9 (by simpa using h); simp [this], fun _ => by simp, fun h => hF.out.m (by simpa using h), fun h => hF.out.e (by simpa using h), fun h => hF.out.rf (by simpa using h), fun h h2 => hF.out.c (by simpa using h) (by simpa using h2), fun h => hF.out.c9 (by simpa using h)⟩
    · intro d a W hI hd hdep
      obtain ⟨bm, be, bf, cf, x3, x4, x5, x6, x7, x8, x9, x10, x11, rfl, hF⟩ := hI
      have HKP : Hid (Below w0.heap.size w0 W) := hF.out.kp
      have HN9 : Hid (d 9 = false) := no_later hF.out.o9 hd
      clear hdep hd
      intro K hK
      simp only [Act.put, List.setIfInBounds_toArray, List.set_cons_zero, List.set_cons_succ]
      go_simp
      refine hK.out _ _ ⟨bm, be, bf, W.heap.size, (.pointer (some ⟨W.heap.size, 0, none⟩)), x4, x5, x6, x7, x8, x9, x10, x11, by simp only [Act.put, List.setIfInBounds_toArray, List.set_cons_zero, List.set_cons_succ], ?_⟩
      have hb1 := below_alloc W (Obj.cells #[(.slice none 0 0), (.slice none 0 0), (.slice none 0 0), (.slice none 0 0), (.slice none 0 0)] 82)
      exact ⟨fun h => hF.out.f0 (by simpa using h), fun h => hF.out.f1 (by simpa using h), fun h => hF.out.f2 (by simpa using h), fun h => hF.out.f3 (by simpa using h), fun h => hF.out.f4 (by simpa using h), fun h => hF.out.f5 (by simpa using h), fun h => hF.out.f6 (by simpa using h), fun h => hF.out.f7 (by simpa using h), fun _ => rfl, fun h => hF.out.f9 (by simpa using h), HKP.out.trans (hb1.mono HKP.out.size), fun h => by have := hF.out.o7a (by simpa using h); simp [this], fun h => by have := hF.out.o7b (by simpa using h); simp [this], fun h => by have := hF.out.o7c (by simpa using h); simp [this], fun _ => by simp, fun h => by have := hF.out.o97 (by simpa using h); simp [this], fun h => have q := hF.out.m (by simpa using h); ⟨q.1, q.2.elim fun s hs => ⟨s, hs.1.next hb1, hs.2⟩⟩, fun h => have q := hF.out.e (by simpa using h); ⟨q.1, q.2.elim fun s hs => ⟨s, hs.1.next hb1, hs.2⟩⟩, fun h => have q := hF.out.rf (by simpa using h); ⟨q.1, q.2.next hb1⟩, fun _ _ => ⟨HKP.out.size, row_new5 W⟩, fun h => by simp [HN9.out] at h⟩
    · intro d a W hI hd hdep
      obtain ⟨bm, be, bf, cf, x3, x4, x5, x6, x7, x8, x9, x10, x11, rfl, hF⟩ := hI
      have hd7 : d 7 = true := dep_of hdep 7 (by kernel_rfl)
      have hd8 : d 8 = true := dep_of hdep 8 (by kernel_rfl)
      obtain rfl := hF.out.f7 hd7
      obtain rfl := hF.out.f8 hd8
      have e8 := hd8
      have e7 := hd7
      have HKP : Hid (Below w0.heap.size w0 W) := hF.out.kp
      have HCF : Hid (w0.heap.size ≤ cf ∧ W.rowIs cf 82 5 (fun _ => .slice none 0 0)) := hF.out.c hd8 hd
      have HROW : Hid (W.rowIs cf 82 5 (fun _ => .slice none 0 0)) := HCF.out.2
      have a0 := HCF.out.2.cell (i := 0) (by omega)
      have z0 := HCF.out.2.frozen 0
      have a1 := HCF.out.2.cell (i := 1) (by omega)
      have z1 := HCF.out.2.frozen 1
      have a2 := HCF.out.2.cell (i := 2) (by omega)
      have z2 := HCF.out.2.frozen 2
      have a3 := HCF.out.2.cell (i := 3) (by omega)
      have z3 := HCF.out.2.frozen 3
      have a4 := HCF.out.2.cell (i := 4) (by omega)
      have z4 := HCF.out.2.frozen 4
      clear hdep hd hd7 hd8
      intro K hK
      simp only [Act.put, List.setIfInBounds_toArray, List.set_cons_zero, List.set_cons_succ]
      go_simp
      refine hK.out _ _ ⟨bm, be, bf, cf, (.pointer (some ⟨cf, 0, none⟩)), x4, x5, x6, x7, x8, x9, x10, (.agg #[(.slice (some ⟨be, 0, none⟩) n n), (.slice (some ⟨bf, 0, none⟩) n n), (.slice none 0 0), (.slice none 0 0), (.slice (some ⟨bm, 0, none⟩) n n)]), by simp only [Act.put, List.setIfInBounds_toArray, List.set_cons_zero, List.set_cons_succ], ?_⟩
      have HSET := row_five HCF.out.2 (.slice (some ⟨be, 0, none⟩) n n) (.slice (some ⟨bf, 0, none⟩) n n) (.slice none 0 0) (.slice none 0 0) (.slice (some ⟨bm, 0, none⟩) n n)
      have HOTH := five_other W cf (.slice (some ⟨be, 0, none⟩) n n) (.slice (some ⟨bf, 0, none⟩) n n) (.slice none 0 0) (.slice none 0 0) (.slice (some ⟨bm, 0, none⟩) n n)
      have HSZ := five_size W cf (.slice (some ⟨be, 0, none⟩) n n) (.slice (some ⟨bf, 0, none⟩) n n) (.slice none 0 0) (.slice none 0 0) (.slice (some ⟨bm, 0, none⟩) n n)
      exact ⟨fun h => hF.out.f0 (by simpa using h), fun h => hF.out.f1 (by simpa using h), fun h => hF.out.f2 (by simpa using h), fun h => hF.out.f3 (by simpa using h), fun h => hF.out.f4 (by simpa using h), fun h => hF.out.f5 (by simpa using h), fun h => hF.out.f6 (by simpa using h), fun h => hF.out.f7 (by simpa using h), fun h => hF.out.f8 (by simpa using h), fun _ => trivial, (((((HKP.out.setCell HCF.out.1 _).setCell HCF.out.1 _).setCell HCF.out.1 _).setCell HCF.out.1 _).setCell HCF.out.1 _), fun h => by have := hF.out.o7a (by simpa using h); simp [this], fun h => by have := hF.out.o7b (by simpa using h); simp [this], fun h => by have := hF.out.o7c (by simpa using h); simp [this], fun _ => by simp [e8], fun _ => by simp [e7], fun h => have q := hF.out.m (by simpa using h); ⟨q.1, q.2.elim fun s hs => ⟨s, hs.1.of (HOTH _ (row_ne hs.1 HROW.out (by decide))), hs.2⟩⟩, fun h => have q := hF.out.e (by simpa using h); ⟨q.1, q.2.elim fun s hs => ⟨s, hs.1.of (HOTH _ (row_ne hs.1 HROW.out (by decide))), hs.2⟩⟩, fun h => have q := hF.out.rf (by simpa using h); ⟨q.1, q.2.of (HOTH _ (row_ne q.2 HROW.out (by decide)))⟩, fun _ h => by simp at h, fun _ => ⟨HCF.out.1, HSET⟩⟩
  · intro d a W hI hall
    obtain ⟨bm, be, bf, cf, x3, x4, x5, x6, x7, x8, x9, x10, x11, rfl, hF⟩ := hI
    simp only [List.length_cons, List.length_nil] at hall
    obtain rfl := hF.out.f0 (hall 0 (by omega))
    obtain rfl := hF.out.f1 (hall 1 (by omega))
    obtain rfl := hF.out.f2 (hall 2 (by omega))
    obtain rfl := hF.out.f3 (hall 3 (by omega))
    obtain rfl := hF.out.f4 (hall 4 (by omega))
    obtain rfl := hF.out.f5 (hall 5 (by omega))
    obtain rfl := hF.out.f6 (hall 6 (by omega))
    obtain rfl := hF.out.f7 (hall 7 (by omega))
    obtain rfl := hF.out.f8 (hall 8 (by omega))
    have HX : Hid (w0.heap.size ≤ bm ∧ w0.heap.size ≤ be ∧ w0.heap.size ≤ bf ∧ w0.heap.size ≤ cf) := ⟨(hF.out.m (hall 1 (by omega))).1, (hF.out.e (hall 3 (by omega))).1, (hF.out.rf (hall 6 (by omega))).1, (hF.out.c9 (hall 9 (by omega))).1⟩
    obtain ⟨M, hM1, hM2⟩ := (hF.out.m (hall 1 (by omega))).2
    obtain ⟨E, hE1, hE2⟩ := (hF.out.e (hall 3 (by omega))).2
    have hF1 := (hF.out.rf (hall 6 (by omega))).2
    have hC1 := (hF.out.c9 (hall 9 (by omega))).2
    have HKP : Hid (Below w0.heap.size w0 W) := hF.out.kp
    have HI : Hid (Ib ps n M E be bf bm cf (fun _ => 0#64) W ∧ Mk ps true M ∧ Mk ps false E) := ⟨⟨hC1, hE1, hF1, hM1, snF_zero _ _ _⟩, hM2, hE2⟩
    clear hF hall hM1 hM2 hE1 hE2 hF1 hC1
    simp only [Act.put, List.setIfInBounds_toArray, List.set_cons_zero, List.set_cons_succ]
    have c0 := (HKP.out.cell (p := ⟨w.heap.size, 0, none⟩) HGL.out).trans HC.out.1
    have c1 := (HKP.out.cell (p := ⟨w.heap.size, 1, none⟩) HGL.out).trans HC.out.2.1
    have c2 := (HKP.out.cell (p := ⟨w.heap.size, 2, none⟩) HGL.out).trans HC.out.2.2
    have he := enters_of Try.func103 (by kernel_rfl) rfl
    go_wp2_with fail
    refine (settle_any 103 #[.pointer (some ⟨cf, 0, none⟩)] he (Ib ps n M E be bf bm cf) (fun k => k = bf) (muW n) (fun p F => amk M true p.2 = true → le (bg E F p.2 0#64) (F p.1.toNat)) t n _ ps w _ HP.out ?_ ?_ (fun _ _ _ h hb => h.next hb) ?_ (fun _ => 0#64) HI.out.1).mono ?_
    · exact HB0.out.trans (HKP.out.mono HB0.out.size)
    · intro k hk; subst hk; exact ⟨Nat.le_trans HB0.out.size HX.out.2.2.1, HI.out.1.f.lt⟩
    · intro F V q hq u hI hbV hsy0
      have hsy := hsy0.below hbV
      obtain ⟨m, e1, e2, hm⟩ := HG.out.hd q hq
      rw [arr1, e1]
      refine (clos34_any t HG.out.t2 n be bf bm cf E M F m hm u ps[q].2 (HG.out.ok q hq) V hsy hI.e hI.f hI.m (hI.c.cell (i := 0) (by omega)) (hI.c.cell (i := 1) (by omega)) (hI.c.cell (i := 2) (by omega)) (hI.c.cell (i := 3) (by omega)) (hI.c.cell (i := 4) (by omega)) hI.c.lt).mono ?_
      rintro _ W' ⟨rfl, hP⟩
      refine ⟨_, rfl, ?_⟩
      cases h1 : amk M true ps[q].2 with
      | false =>
        rw [h1] at hP
        simp only [Bool.false_eq_true, if_false] at hP
        exact ⟨F, hI.next hP, Fm.of hP, fun e => (by cases e), fun _ => ⟨rfl, fun h => (by cases h)⟩⟩
      | true =>
        rw [h1] at hP
        simp only [if_true] at hP
        obtain ⟨hP1, hP2⟩ := hP
        have hsn := snF_put (List.getElem_mem hq) hI.sn h1
        rw [e2] at hsn
        by_cases h2 : F m ||| bg E F ps[q].2 0#64 = F m
        · rw [h2, upd_same] at hP2
          have hb : (true && (F m ||| bg E F ps[q].2 0#64 != F m)) = false := by rw [h2]; simp
          refine ⟨F, hI.put hP1 hP2 hI.sn, hP1, fun e => ?_, fun _ => ⟨rfl, fun _ => ?_⟩⟩
          · rw [hb] at e; cases e
          · simpa using le_of_same h2
        · have hb : (true && (F m ||| bg E F ps[q].2 0#64 != F m)) = true := by simpa using h2
          refine ⟨upd F m (F m ||| bg E F ps[q].2 0#64), hI.put hP1 hP2 hsn, hP1, fun _ => muW_put hm h2, fun e => ?_⟩
          rw [hb] at e; cases e
    · rintro _ w1 ⟨rfl, hFm, F, hI, hC⟩
      have HB1 : Hid (Below w.heap.size w w1 ∧ Below w0.heap.size w0 w1) := by
        have h1 : Below w0.heap.size w0 w1 := HKP.out.trans (hFm.below HKP.out.size fun k hk => by have := HX.out.2.2.1; omega)
        exact ⟨HB0.out.trans (h1.mono HB0.out.size), h1⟩
      have v0 := hI.c.cell (i := 0) (by omega)
      have v1 := hI.c.cell (i := 1) (by omega)
      have v2 := hI.c.cell (i := 2) (by omega)
      have v3 := hI.c.cell (i := 3) (by omega)
      have v4 := hI.c.cell (i := 4) (by omega)
      simp only [fv] at v0 v1 v2 v3 v4
      have hrr := HRR.out.of_block (HB1.out.2.block _ HRR.out.lt)
      have a0 := hrr.cell (i := 0) (by omega)
      have z0 := hrr.frozen 0
      have a1 := hrr.cell (i := 1) (by omega)
      have z1 := hrr.frozen 1
      have a2 := hrr.cell (i := 2) (by omega)
      have z2 := hrr.frozen 2
      have a3 := hrr.cell (i := 3) (by omega)
      have z3 := hrr.frozen 3
      have a4 := hrr.cell (i := 4) (by omega)
      have z4 := hrr.frozen 4
      have HRW : Hid (w1.rowIs (w.heap.size + 1) 82 5 (fun _ => .slice none 0 0)) := hrr
      have HII : Hid (Ib ps n M E be bf bm cf F w1 ∧ Fi ps M E F) := ⟨hI, fun p hp => hC p hp, hI.sn⟩
      clear hI hC hFm hrr c0 c1 c2
      go_wp2_with fail
      obtain ⟨w2, HW2⟩ : ∃ w2, Hid ((((((w1.setCell ⟨w.heap.size + 1, 0, none⟩ (.slice (some ⟨be, 0, none⟩) n n)).setCell ⟨w.heap.size + 1, 1, none⟩ (.slice (some ⟨bf, 0, none⟩) n n)).setCell ⟨w.heap.size + 1, 2, none⟩ (.slice none 0 0)).setCell ⟨w.heap.size + 1, 3, none⟩ (.slice none 0 0)).setCell ⟨w.heap.size + 1, 4, none⟩ (.slice (some ⟨bm, 0, none⟩) n n)) = w2) := ⟨_, (rfl : _ = _)⟩
      rw [HW2.out]
      have HSET := row_five HRW.out (.slice (some ⟨be, 0, none⟩) n n) (.slice (some ⟨bf, 0, none⟩) n n) (.slice none 0 0) (.slice none 0 0) (.slice (some ⟨bm, 0, none⟩) n n)
      have HOTH := five_other w1 (w.heap.size + 1) (.slice (some ⟨be, 0, none⟩) n n) (.slice (some ⟨bf, 0, none⟩) n n) (.slice none 0 0) (.slice none 0 0) (.slice (some ⟨bm, 0, none⟩) n n)
      have HBL : Below w.heap.size w w2 := by
        rw [← HW2.out]
        exact ((((HB1.out.1.setCell (by simp) _).setCell (by simp) _).setCell (by simp) _).setCell (by simp) _).setCell (by simp) _
      rw [HW2.out] at HSET HOTH
      have HFIN : Hid (Bgs w n ps be bf bm w2) := by
        have hx := HX.out
        have hs := HSW.out
        exact ⟨by omega, by omega, by omega, HBL, E, F, M, HII.out.1.e.of (HOTH _ (row_ne HII.out.1.e HRW.out (by decide))), HII.out.1.f.of (HOTH _ (row_ne HII.out.1.f HRW.out (by decide))), HII.out.1.m.of (HOTH _ (row_ne HII.out.1.m HRW.out (by decide))), HI.out.2.2, HI.out.2.1, HII.out.2⟩
      have v0 := HSET.cell (i := 0) (by omega)
      have v1 := HSET.cell (i := 1) (by omega)
      have v2 := HSET.cell (i := 2) (by omega)
      have v3 := HSET.cell (i := 3) (by omega)
      have v4 := HSET.cell (i := 4) (by omega)
      simp only [fv] at v0 v1 v2 v3 v4
      clear HSET HOTH HBL
      exact bodyPost_ret (v := .agg #[(.slice (some ⟨be, 0, none⟩) n n), (.slice (some ⟨bf, 0, none⟩) n n), (.slice none 0 0), (.slice none 0 0), (.slice (some ⟨bm, 0, none⟩) n n)]) (by simp [results, Try.results86, go_sem, v0, v1, v2, v3, v4]) rfl ⟨_, _, _, rfl, HFIN.out⟩
end Go.Proofs.Ytpfehghicaaghaa

namespace Go.Proofs.Ytpfehghicaaghaa
open Go.RowKit
open Cg

/-- When q symbols of a production's body are noted. -/
structure RS (ps : List Pd) (n : Nat) (l : List Sy) (R : Nat → Bool) (q : Nat) (r : Bool) (R' : Nat → Bool) : Prop where
  up : ∀ i, R i = true → R' i = true
  yes : r = true → muB n R' < muB n R
  no : r = false → R' = R ∧ ∀ j (hj : j < l.length), j < q → l[j].1 = 2 → R l[j].2.toNat = true
  sn : ∀ p ∈ ps, p.2 = l → R p.1.toNat = true → SnR ps R → SnR ps R'
theorem RS.start (ps : List Pd) (n : Nat) (l : List Sy) (R : Nat → Bool) : RS ps n l R 0 false R :=
  ⟨fun _ h => h, fun e => (by cases e), fun _ => ⟨rfl, fun j _ h => absurd h (Nat.not_lt_zero _)⟩, fun _ _ _ _ h => h⟩
theorem RS.keep {ps : List Pd} {n : Nat} {l : List Sy} {R R' : Nat → Bool} {q : Nat} {r : Bool} (h : RS ps n l R q r R') (hq : q < l.length) (hk : l[q].1 = 2 → R' l[q].2.toNat = true) : RS ps n l R (q + 1) r R' :=
  ⟨h.up, h.yes, fun e => ⟨(h.no e).1, fun j hj h1 h2 => by
    by_cases ej : j = q
    · subst ej; have := hk h2; rw [(h.no e).1] at this; exact this
    · exact (h.no e).2 j hj (by omega) h2⟩, h.sn⟩
theorem RS.put {ps : List Pd} {n : Nat} {l : List Sy} {R R' : Nat → Bool} {q : Nat} {r : Bool} (h : RS ps n l R q r R') (hq : q < l.length) (h2 : l[q].1 = 2) (hm : l[q].2.toNat < n) (h0 : R' l[q].2.toNat = false) : RS ps n l R (q + 1) true (upd R' l[q].2.toNat true) := by
  have hup : ∀ i, R' i = true → upd R' l[q].2.toNat true i = true := fun i hi => by
    unfold upd
    split
    · rfl
    · exact hi
  refine ⟨fun i hi => hup i (h.up i hi), fun _ => ?_, fun e => (by cases e), fun p hp hl hR hs => ?_⟩
  · have h1 := muB_put hm h0
    have h3 := muB_le (n := n) h.up
    omega
  · have h1 := h.sn p hp hl hR hs
    exact snR_put (s := l[q]) hp (by rw [hl]; exact List.getElem_mem hq) h1 (h.up _ hR) h2
def ROut (ps : List Pd) (b n : Nat) (l : List Sy) (R : Nat → Bool) (w : World) (r : Bool) (w' : World) : Prop := ∃ R', Fm (fun k => k = b) w w' ∧ Rb w' b n R' ∧ RS ps n l R l.length r R'
set_option maxHeartbeats 3200000 in
set_option maxRecDepth 20000 in
theorem reachAll_any (ps : List Pd) (t : Int) (n b : Nat) (R : Nat → Bool) (v : Value) (l : List Sy) (W0 w : World) (hv : Syms W0 v l) (hw0 : Below W0.heap.size W0 w) (hb0 : W0.heap.size ≤ b) (hr : Rb w b n R) (ok : OkL t n l) :
    Calls Try.prog 108 #[v, .slice (some ⟨b, 0, none⟩) n n] w fun e w' => ∃ r, e = .returned (.bool r) ∧ ROut ps b n l R w r w' := by
  obtain ⟨bo, bc, rfl, hm, hcs⟩ := hv
  have HRB : Hid (Rb w b n R) := hr
  have HOK : Hid (OkL t n l) := ok
  have HW0 : Hid (Below W0.heap.size W0 w ∧ W0.heap.size ≤ b) := ⟨hw0, hb0⟩
  clear hr ok hw0 hb0
  go_enter Try.func108, Try.ntmps108
  go_wp2_with fail
  go_loopw [5, 10] (fun a i wr => ∃ (q : Nat) (r : Bool), q ≤ l.length ∧ i = .int .i64 (q : Int) ∧ a = .bool r ∧ Hid (∃ R', Fm (fun k => k = b) w wr ∧ Rb wr b n R' ∧ RS ps n l R q r R')) (fun _ i _ => l.length - (intOf i).toNat)
  case atStart => exact ⟨0, false, by omega, rfl, rfl, R, Fm.refl _ _, HRB.out, RS.start _ _ _ _⟩
  case round =>
    obtain ⟨q, r, hq, rfl, rfl, HA⟩ := hrel
    by_cases hlt : q < l.length
    · obtain ⟨b2, o, rfl, hb, hc⟩ := hcs.resolve_left (by intro e; subst e; simp at hlt)
      obtain ⟨c0, c1⟩ := hc q hlt
      obtain ⟨R', hF, hRw, hRS⟩ := HA.out
      have hbw : Below W0.heap.size W0 wr := HW0.out.1.trans (hF.below HW0.out.1.size fun k hk => by have := HW0.out.2; omega)
      obtain ⟨kd, m, e1, e2, e3, hk⟩ := HOK.out.at hlt
      rw [e1] at c0
      rw [e2] at c1
      replace c0 : wr.cell? ⟨b2, o + q * 2, none⟩ = _ := (hbw.cell (p := ⟨b2, o + q * 2, none⟩) hb).trans c0
      replace c1 : wr.cell? ⟨b2, o + q * 2 + 1, none⟩ = _ := (hbw.cell (p := ⟨b2, o + q * 2 + 1, none⟩) hb).trans c1
      have hbA := below_alloc wr (Obj.cells #[.int .i64 kd, .int .i64 (m : Int)] 47)
      have HF1 : Hid (Fm (fun k => k = b) w (wr.alloc (Obj.cells #[.int .i64 kd, .int .i64 (m : Int)] 47))) := hF.trans (Fm.of (X := fun k => k = b) hbA) fun _ _ e => e
      have hR1 := hRw.next hbA
      have HR1 : Hid (Rb (wr.alloc (Obj.cells #[.int .i64 kd, .int .i64 (m : Int)] 47)) b n R') := hR1
      have HK : Hid ((kd = 2 → R' m = true) → RS ps n l R (q + 1) r R') := fun h => hRS.keep hlt fun h2 => by rw [e3]; exact h (e1.symm.trans h2)
      have HP : Hid (kd = 2 → m < n → R' m = false → RS ps n l R (q + 1) true (upd R' m true)) := fun h1 h2 h3 => by
        have := hRS.put hlt (e1.trans h1) (by rw [e3]; exact h2) (by rw [e3]; exact h3)
        rw [e3] at this; exact this
      have hk1 : (q : Int) < (l.length : Int) := by omega
      clear hF hRw hRS hbw hc hcs e1 e2 e3 HA hbA
      rcases hk with ⟨rfl, hk⟩ | ⟨rfl, hk⟩
      · go_wp2_with fail
        go_roundw
        case rel => exact ⟨q + 1, r, by omega, by go_num, rfl, R', HF1.out, HR1.out, HK.out fun e => by omega⟩
        case measure => simp [intOf]; omega
      · have d0 := hR1.cell hk
        have d1 := World.rowIs.frozen hR1 m
        have hk2 : (m : Int) < (n : Int) := by omega
        obtain ⟨im, HIM⟩ : ∃ im, Hid (R' m = im) := ⟨_, (rfl : R' m = R' m)⟩
        rw [HIM.out] at d0
        clear hR1
        cases im with
        | true =>
          go_wp2_with fail
          go_roundw
          case rel => exact ⟨q + 1, r, by omega, by go_num, rfl, R', HF1.out, HR1.out, HK.out fun _ => HIM.out⟩
          case measure => simp [intOf]; omega
        | false =>
          go_wp2_with fail
          go_roundw
          case rel => exact ⟨q + 1, true, by omega, by go_num, rfl, upd R' m true, HF1.out.trans (Fm.set (X := fun k => k = b) (b := b) (i := m) _ rfl) (fun _ _ e => e), HR1.out.set m true, HP.out rfl hk HIM.out⟩
          case measure => simp [intOf]; omega
    · obtain rfl : q = l.length := by omega
      go_wp2_with fail
      go_ret
      exact ⟨r, by simp, HA.out⟩
set_option maxHeartbeats 3200000 in
set_option maxRecDepth 20000 in
theorem clos37_any (ps : List Pd) (t : Int) (n b cb : Nat) (R : Nat → Bool) (m : Nat) (hmn : m < n) (u : Value) (l : List Sy) (ok : OkL t n l) (W0 W : World) (hs : Syms W0 u l) (hw0 : Below W0.heap.size W0 W) (hb0 : W0.heap.size ≤ b) (hr : Rb W b n R)
    (hc : W.cell? ⟨cb, 0, none⟩ = some (.slice (some ⟨b, 0, none⟩) n n)) (hcl : cb < W.heap.size) :
    Calls Try.prog 107 #[.agg #[.int .i64 (m : Int), u], .pointer (some ⟨cb, 0, none⟩)] W fun e W' => ∃ r, e = .returned (.bool r) ∧ ((R m = false ∧ r = false ∧ Below W.heap.size W W') ∨ (R m = true ∧ ROut ps b n l R W r W')) := by
  have hs' := hs
  obtain ⟨uo, uc, rfl, hul, -⟩ := hs
  have g0 := cell_new W #[.int .i64 (m : Int), .slice uo l.length uc] 88
  have hbA := below_alloc W (Obj.cells #[.int .i64 (m : Int), .slice uo l.length uc] 88)
  have y0 := g0 0
  have y1 := g0 1
  have y2 := (hbA.cell (p := ⟨cb, 0, none⟩) hcl).trans hc
  have y4 := (hr.next hbA).cell hmn
  have hmn2 : (m : Int) < (n : Int) := by omega
  have hcall := reachAll_any ps t n b R (.slice uo l.length uc) l W0 _ hs' (hw0.trans (hbA.mono hw0.size)) hb0 (hr.next hbA) ok
  have HBA : Hid (Below W.heap.size W (W.alloc (Obj.cells #[.int .i64 (m : Int), .slice uo l.length uc] 88))) := hbA
  clear g0 hbA hr hs' hc hcl hw0
  simp only [List.getElem?_toArray, List.getElem?_cons_zero, List.getElem?_cons_succ] at y0 y1
  by_cases hsm : R m = true
  · rw [hsm] at y4
    have HSM : Hid (R m = true) := hsm
    clear hsm
    go_enter Try.func107, Try.ntmps107
    go_wp2_with fail
    refine hcall.mono ?_
    rintro _ w1 ⟨r, rfl, hro⟩
    have HRO : Hid (ROut ps b n l R W r w1) := by
      obtain ⟨R', h1, h2, h3⟩ := hro
      exact ⟨R', (Fm.of (X := fun k => k = b) HBA.out).trans h1 (fun _ _ e => e), h2, h3⟩
    clear hro hcall
    go_wp2_with fail
    go_ret
    exact ⟨r, by simp, Or.inr ⟨HSM.out, HRO.out⟩⟩
  · have hsm2 : R m = false := by simpa using hsm
    rw [hsm2] at y4
    have HSM : Hid (R m = false) := hsm2
    clear hsm hsm2 hcall
    go_enter Try.func107, Try.ntmps107
    go_wp2_with fail
    go_ret
    exact ⟨false, by simp, Or.inl ⟨HSM.out, rfl, HBA.out⟩⟩
/-- What is held while reached goes on. -/
structure Ir (ps : List Pd) (n b cb : Nat) (R : Nat → Bool) (W : World) : Prop where
  c : W.rowIs cb 79 1 (fun _ => .slice (some ⟨b, 0, none⟩) n n)
  row : Rb W b n R
  sn : SnR ps R
  z : R 0 = true
theorem Ir.next {ps : List Pd} {n b cb : Nat} {R : Nat → Bool} {W W' : World} (h : Ir ps n b cb R W) (hb : Below W.heap.size W W') : Ir ps n b cb R W' :=
  ⟨h.c.of_block (hb.block _ h.c.lt), h.row.next hb, h.sn, h.z⟩
theorem Ir.put {ps : List Pd} {n b cb : Nat} {R R' : Nat → Bool} {W W' : World} (h : Ir ps n b cb R W) (hf : Fm (fun k => k = b) W W') (hr : Rb W' b n R') (hn : SnR ps R') (hz : R' 0 = true) : Ir ps n b cb R' W' :=
  ⟨h.c.of_block (hf.block _ h.c.lt (row_ne h.c h.row (by decide))), hr, hn, hz⟩
theorem row_made0 (w : World) (z v : Value) (n : Nat) (t : TypeId) : (w.alloc (.cells ((madeCells #[z] n).setIfInBounds 0 v) t)).rowIs w.heap.size t n (fun i => if i = 0 then v else z) := by
  obtain ⟨c, h1, h2, h3⟩ := World.rowIs_made w z n t
  have e : c = madeCells #[z] n := by
    have := heap_alloc_new w (Obj.cells (madeCells #[z] n) t)
    rw [this] at h1
    injection h1 with h4
    injection h4 with h5
    exact h5.symm
  subst e
  refine ⟨_, heap_alloc_new w _, by simp [h2], fun i hi => ?_⟩
  by_cases e : i = 0
  · subst e; show _ = some (if 0 = 0 then v else z); rw [if_pos rfl, Array.getElem?_setIfInBounds_self_of_lt (by omega)]
  · show _ = some (if i = 0 then v else z); rw [if_neg e, Array.getElem?_setIfInBounds_ne (by omega)]; exact h3 i hi
theorem row_one (w : World) (v : Value) (t : TypeId) : (w.alloc (.cells #[v] t)).rowIs w.heap.size t 1 (fun _ => v) :=
  World.rowIs_alloc w _ t _ fun i hi => by
    have : i = 0 := by simp at hi; omega
    subst this; rfl
set_option maxHeartbeats 3200000 in
set_option maxRecDepth 20000 in
theorem reached_any (t : Int) (n : Nat) (pv : Value) (ps : List Pd) (w : World) (hp : Pds w pv ps) (hg : Rg t n ps) :
    Calls Try.prog 87 #[.agg #[.int .i64 t, .int .i64 (n : Int), pv]] w fun e w' => ∃ b, e = .returned (.slice (some ⟨b, 0, none⟩) n n) ∧ w.heap.size ≤ b ∧ Below w.heap.size w w' ∧ ∃ R, Rb w' b n R ∧ Re ps R := by
  have HP : Hid (Pds w pv ps) := hp
  have HG : Hid (Rg t n ps) := hg
  obtain ⟨ao, c, rfl, hm, -⟩ := hp
  have hn1 := hg.n1
  have hn2 := hg.n2
  have hn3 : (0 : Int) < (n : Int) := by omega
  clear hg
  have he := enters_of Try.func107 (by kernel_rfl) rfl
  have hmk := run_make_row' (P := Try.prog) 79 4 (.bool false) 1 Try.underlying79 info4 rfl .i64 .i64 n (by omega) (by omega)
  have e1 : (w.alloc (Obj.cells #[.int .i64 t, .int .i64 (n : Int), .slice ao ps.length c] 24)).heap.size = w.heap.size + 1 := by simp
  have e2 : ((w.alloc (Obj.cells #[.int .i64 t, .int .i64 (n : Int), .slice ao ps.length c] 24)).alloc (.cells (madeCells #[.bool false] n) 4)).heap.size = w.heap.size + 1 + 1 := by simp
  have hrow := World.rowIs_made (w.alloc (Obj.cells #[.int .i64 t, .int .i64 (n : Int), .slice ao ps.length c] 24)) (.bool false) n 4
  have hbox := row_one ((w.alloc (Obj.cells #[.int .i64 t, .int .i64 (n : Int), .slice ao ps.length c] 24)).alloc (.cells (madeCells #[.bool false] n) 4)) (.slice (some ⟨w.heap.size + 1, 0, none⟩) n n) 79
  rw [e1] at hrow
  rw [e2] at hbox
  replace hrow := hrow.alloc (.cells #[.slice (some ⟨w.heap.size + 1, 0, none⟩) n n] 79)
  have y0 := hrow.cell (i := 0) (by omega)
  have y1 := hrow.frozen 0
  clear hrow hbox e1 e2
  go_enter Try.func87, Try.ntmps87
  go_wp2_with fail
  obtain ⟨wc, HWC⟩ : ∃ wc, Hid (((w.alloc (Obj.cells #[.int .i64 t, .int .i64 (n : Int), .slice ao ps.length c] 24)).alloc (.cells ((madeCells #[.bool false] n).setIfInBounds 0 (.bool true)) 4)).alloc (.cells #[.slice (some ⟨w.heap.size + 1, 0, none⟩) n n] 79) = wc) := ⟨_, (rfl : _ = _)⟩
  have HI0 : Hid (Ir ps n (w.heap.size + 1) (w.heap.size + 1 + 1) (upd (fun _ => false) 0 true) wc) := by
    have e1 : (w.alloc (Obj.cells #[.int .i64 t, .int .i64 (n : Int), .slice ao ps.length c] 24)).heap.size = w.heap.size + 1 := by simp
    have e2 : ((w.alloc (Obj.cells #[.int .i64 t, .int .i64 (n : Int), .slice ao ps.length c] 24)).alloc (.cells ((madeCells #[.bool false] n).setIfInBounds 0 (.bool true)) 4)).heap.size = w.heap.size + 1 + 1 := by simp
    have h1 := (row_made0 (w.alloc (Obj.cells #[.int .i64 t, .int .i64 (n : Int), .slice ao ps.length c] 24)) (.bool false) (.bool true) n 4).alloc (.cells #[.slice (some ⟨w.heap.size + 1, 0, none⟩) n n] 79)
    have h2 := row_one ((w.alloc (Obj.cells #[.int .i64 t, .int .i64 (n : Int), .slice ao ps.length c] 24)).alloc (.cells ((madeCells #[.bool false] n).setIfInBounds 0 (.bool true)) 4)) (.slice (some ⟨w.heap.size + 1, 0, none⟩) n n) 79
    rw [e1, HWC.out] at h1
    rw [e2, HWC.out] at h2
    exact ⟨h2, h1.congr (fun i _ => by unfold upd; split <;> rfl), snR_start ps, rfl⟩
  have HBW : Hid (Below w.heap.size w wc) := by
    show Below _ _ _
    rw [← HWC.out]
    exact (below_alloc2 w _ _).alloc (by simp; omega) _
  rw [HWC.out]
  refine (settle_any 107 #[.pointer (some ⟨w.heap.size + 1 + 1, 0, none⟩)] he (Ir ps n (w.heap.size + 1) (w.heap.size + 1 + 1)) (fun k => k = w.heap.size + 1) (muB n) (fun p R => R p.1.toNat = true → ∀ s ∈ p.2, s.1 = 2 → R s.2.toNat = true) t n _ ps w wc HP.out HBW.out ?_ (fun _ _ _ h hb => h.next hb) ?_ _ HI0.out).mono ?_
  · intro k hk; subst hk; exact ⟨by omega, HI0.out.row.lt⟩
  · intro R V q hq u hI hbV hsy
    obtain ⟨m, e1, e2, hm⟩ := HG.out.hd q hq
    rw [arr1, e1]
    refine (clos37_any ps t n _ _ R m hm u ps[q].2 (HG.out.ok q hq) w V hsy hbV (by omega) hI.row (hI.c.cell (i := 0) (by omega)) hI.c.lt).mono ?_
    rintro _ W' ⟨r, rfl, ⟨h1, rfl, h2⟩ | ⟨h1, R', h2, h3, h4⟩⟩
    · exact ⟨false, rfl, R, hI.next h2, Fm.of h2, fun e => (by cases e), fun _ => ⟨rfl, fun h => by simp [h1] at h⟩⟩
    · refine ⟨r, rfl, R', hI.put h2 h3 (h4.sn ps[q] (List.getElem_mem hq) rfl (by rw [e2]; exact h1) hI.sn) (h4.up 0 hI.z), h2, h4.yes, fun e => ⟨(h4.no e).1, fun _ s hs h5 => ?_⟩⟩
      obtain ⟨j, hj, rfl⟩ := List.getElem_of_mem hs
      exact (h4.no e).2 j hj hj h5
  · rintro _ w1 ⟨rfl, hF, R, hI, hC⟩
    have z1 := hI.c.cell (i := 0) (by omega)
    have HFIN : Hid (Below w.heap.size w w1 ∧ ∃ R, Rb w1 (w.heap.size + 1) n R ∧ Re ps R) :=
      ⟨HBW.out.trans (hF.below HBW.out.size fun k hk => by omega), R, hI.row, ⟨hI.z, fun p hp => hC p hp⟩, hI.sn⟩
    clear hI hC hF hmk
    go_wp2_with fail
    go_ret
    exact ⟨_, by simp, by omega, HFIN.out⟩
end Go.Proofs.Ytpfehghicaaghaa

namespace Go.Proofs.Ytpfehghicaaghaa
open Go.RowKit
open Cg

/-- When q symbols of a production's body are looked at. -/
structure FS (ps : List Pd) (n : Nat) (E : Nat → Bool) (F : Nat → Wd) (l : List Sy) (h : Nat) (V : Nat → Wd) (q : Nat) (r : Bool) (V' : Nat → Wd) : Prop where
  up : ∀ i, le (V i) (V' i)
  yes : r = true → muW n V' < muW n V
  no : r = false → V' = V ∧ ∀ j (hj : j < l.length), j < q → l[j].1 = 2 → le (bg E F (l.drop (j + 1)) (V h)) (V l[j].2.toNat)
  sn : ∀ p ∈ ps, p.2 = l → p.1.toNat = h → SnW ps E F V → SnW ps E F V'
variable {ps : List Pd} {n : Nat} {E : Nat → Bool} {F : Nat → Wd} {l : List Sy} {h : Nat} {V V' : Nat → Wd} {q : Nat} {r : Bool}
theorem FS.start : FS ps n E F l h V 0 false V :=
  ⟨fun _ => le_refl _, fun e => (by cases e), fun _ => ⟨rfl, fun j _ h => absurd h (Nat.not_lt_zero _)⟩, fun _ _ _ _ h => h⟩
theorem FS.keep (k : FS ps n E F l h V q r V') (hq : q < l.length) (h2 : l[q].1 ≠ 2) : FS ps n E F l h V (q + 1) r V' :=
  ⟨k.up, k.yes, fun e => ⟨(k.no e).1, fun j hj h1 h3 => (k.no e).2 j hj (by
    have : j ≠ q := fun e => by subst e; exact h2 h3
    omega) h3⟩, k.sn⟩
theorem FS.same (k : FS ps n E F l h V q r V') (hq : q < l.length) (hs : V' l[q].2.toNat ||| bg E F (l.drop (q + 1)) (V' h) = V' l[q].2.toNat) : FS ps n E F l h V (q + 1) r V' :=
  ⟨k.up, k.yes, fun e => ⟨(k.no e).1, fun j hj h1 h3 => by
    by_cases ej : j = q
    · subst ej; have := le_of_same hs; rw [(k.no e).1] at this; exact this
    · exact (k.no e).2 j hj (by omega) h3⟩, k.sn⟩
theorem FS.put (k : FS ps n E F l h V q r V') (hq : q < l.length) (h2 : l[q].1 = 2) (hm : l[q].2.toNat < n) (hs : V' l[q].2.toNat ||| bg E F (l.drop (q + 1)) (V' h) ≠ V' l[q].2.toNat) : FS ps n E F l h V (q + 1) true (upd V' l[q].2.toNat (V' l[q].2.toNat ||| bg E F (l.drop (q + 1)) (V' h))) := by
  refine ⟨fun i => le_trans (k.up i) (le_upd _ _ i), fun _ => ?_, fun e => (by cases e), ?_⟩
  · have h1 := muW_put hm hs
    have h3 := muW_le (n := n) k.up
    omega
  · rintro p hp rfl rfl hV
    exact snW_put hp hq h2 (k.sn p hp rfl rfl hV)
theorem syms_drop {W : World} {b o : Nat} {cap : Nat} {l : List Sy} (hs : Syms W (.slice (some ⟨b, o, none⟩) l.length cap) l) (k : Nat) : Syms W (.slice (if cap = k then some ⟨b, o, none⟩ else some ⟨b, o + k * 2, none⟩) (l.length - k) (cap - k)) (l.drop k) := by
  obtain ⟨ao', cap', e, hm, hc⟩ := hs
  cases e
  refine ⟨_, _, by rw [List.length_drop], by simp; omega, ?_⟩
  by_cases hk : k < l.length
  · obtain ⟨b', o', eb, hb, hcc⟩ := hc.resolve_left (by intro e; subst e; simp at hk)
    cases eb
    right
    rw [if_neg (by omega)]
    refine ⟨b, o + k * 2, rfl, hb, fun i hi => ?_⟩
    have := hcc (k + i) (by simp at hi; omega)
    rw [List.getElem_drop]
    rw [show o + k * 2 + i * 2 = o + (k + i) * 2 by omega]
    exact this
  · left; exact List.drop_of_length_le (by omega)
def WOut (ps : List Pd) (E : Nat → Bool) (F : Nat → Wd) (b n : Nat) (l : List Sy) (h : Nat) (V : Nat → Wd) (w : World) (r : Bool) (w' : World) : Prop := ∃ V', Fm (fun k => k = b) w w' ∧ Rw w' b n V' ∧ FS ps n E F l h V l.length r V'
end Go.Proofs.Ytpfehghicaaghaa

namespace Go.Proofs.Ytpfehghicaaghaa
open Go.RowKit
open Cg

/-- What is held while followers goes on. -/
structure Iw (E : Nat → Bool) (F : Nat → Wd) (n be bf bw cs cf : Nat) (v2 v3 v4 : Value) (V : Nat → Wd) (W : World) : Prop where
  c : W.rowIs cs 80 1 (fun _ => (.slice (some ⟨bw, 0, none⟩) n n))
  f : W.rowIs cf 82 5 (fv (.slice (some ⟨be, 0, none⟩) n n) (.slice (some ⟨bf, 0, none⟩) n n) v2 v3 v4)
  e : Rb W be n E
  fi : Rw W bf n F
  row : Rw W bw n V
  nb : bf ≠ bw
theorem Iw.next {E : Nat → Bool} {F : Nat → Wd} {n be bf bw cs cf : Nat} {v2 v3 v4 : Value} {V : Nat → Wd} {W W' : World} (h : Iw E F n be bf bw cs cf v2 v3 v4 V W) (hb : Below W.heap.size W W') : Iw E F n be bf bw cs cf v2 v3 v4 V W' :=
  ⟨h.c.of_block (hb.block _ h.c.lt), h.f.of_block (hb.block _ h.f.lt), h.e.next hb, h.fi.next hb, h.row.next hb, h.nb⟩
theorem Iw.put {E : Nat → Bool} {F : Nat → Wd} {n be bf bw cs cf : Nat} {v2 v3 v4 : Value} {V V' : Nat → Wd} {W W' : World} (h : Iw E F n be bf bw cs cf v2 v3 v4 V W) (hf : Fm (fun k => k = bw) W W') (hr : Rw W' bw n V') : Iw E F n be bf bw cs cf v2 v3 v4 V' W' :=
  ⟨h.c.of_block (hf.block _ h.c.lt (row_ne h.c h.row (by decide))), h.f.of_block (hf.block _ h.f.lt (row_ne h.f h.row (by decide))), h.e.of (hf.block _ h.e.lt (row_ne h.e h.row (by decide))), h.fi.of (hf.block _ h.fi.lt h.nb), hr, h.nb⟩
/-- A production's box, as a row. -/
theorem row_two (w : World) (a b : Value) (t : TypeId) : (w.alloc (.cells #[a, b] t)).rowIs w.heap.size t 2 (fun i => if i = 0 then a else b) :=
  World.rowIs_alloc w _ t _ fun i hi => by
    have : i = 0 ∨ i = 1 := by simp at hi; omega
    rcases this with rfl | rfl <;> rfl
set_option maxHeartbeats 6400000 in
set_option maxRecDepth 20000 in
theorem clos39_any (ps : List Pd) (t : Int) (ht : t ≤ 30) (n be bf bw cs cf : Nat) (E : Nat → Bool) (F V : Nat → Wd) (v2 v3 v4 : Value) (h : Nat) (hhn : h < n) (u : Value) (l : List Sy) (hl8 : l.length ≤ 8) (ok : OkL t n l) (W0 W : World) (hs : Syms W0 u l) (hw0 : Below W0.heap.size W0 W) (hb0 : W0.heap.size ≤ bw)
    (hI : Iw E F n be bf bw cs cf v2 v3 v4 V W) :
    Calls Try.prog 109 #[.agg #[.int .i64 (h : Int), u], .pointer (some ⟨cs, 0, none⟩), .pointer (some ⟨cf, 0, none⟩)] W fun e W' => ∃ r, e = .returned (.bool r) ∧ WOut ps E F bw n l h V W r W' := by
  have HSY : Hid (Syms W0 u l) := hs
  obtain ⟨uo, uc, rfl, hul, hcs⟩ := hs
  obtain ⟨wb, HWB⟩ : ∃ wb, Hid (W.alloc (Obj.cells #[.int .i64 (h : Int), .slice uo l.length uc] 88) = wb) := ⟨_, (rfl : _ = _)⟩
  have g0 := row_two W (.int .i64 (h : Int)) (.slice uo l.length uc) 88
  have hbA := below_alloc W (Obj.cells #[.int .i64 (h : Int), .slice uo l.length uc] 88)
  rw [HWB.out] at g0 hbA
  have HPB : Hid (wb.rowIs W.heap.size 88 2 (fun i => if i = 0 then .int .i64 (h : Int) else .slice uo l.length uc)) := g0
  have HI0 : Hid (Iw E F n be bf bw cs cf v2 v3 v4 V wb) := hI.next hbA
  have HW0 : Hid (Below W0.heap.size W0 wb ∧ W0.heap.size ≤ bw) := ⟨hw0.trans (hbA.mono hw0.size), hb0⟩
  have HFA : Hid (∀ w', Fm (fun k => k = bw) wb w' → Fm (fun k => k = bw) W w') := fun w' k => (Fm.of (X := fun k => k = bw) hbA).trans k fun _ _ e => e
  have HOK : Hid (OkL t n l) := ok
  have y1 := g0.cell (i := 1) (by omega)
  have hh2 : (h : Int) < (n : Int) := by omega
  clear g0 hbA hI ok hw0 hb0
  simp only [if_neg (by omega : ¬ (1 : Nat) = 0)] at y1
  have HWE := HWB.out
  subst HWE
  go_enter Try.func109, Try.ntmps109
  go_wp2_with fail
  obtain ⟨g, HG⟩ : ∃ g, Hid (W.heap.size = g) := ⟨_, (rfl : W.heap.size = W.heap.size)⟩
  rw [HG.out] at HPB ⊢
  generalize (W.alloc (Obj.cells #[.int .i64 (h : Int), .slice uo l.length uc] 88)) = wb at HPB HI0 HW0 HFA ⊢
  clear y1 HG HWB
  go_loopw [5, 11] (fun a i wr => ∃ (q : Nat) (r : Bool), q ≤ l.length ∧ i = .int .i64 (q : Int) ∧ a = .bool r ∧ Hid (∃ V', Fm (fun k => k = bw) wb wr ∧ Rw wr bw n V' ∧ FS ps n E F l h V q r V')) (fun _ i _ => l.length - (intOf i).toNat)
  case atStart => exact ⟨0, false, by omega, rfl, rfl, V, Fm.refl _ _, HI0.out.row, FS.start⟩
  case round =>
    obtain ⟨q, r, hq, rfl, rfl, HA⟩ := hrel
    by_cases hlt : q < l.length
    · obtain ⟨b2, o, rfl, hb, hc⟩ := hcs.resolve_left (by intro e; subst e; simp at hlt)
      obtain ⟨c0, c1⟩ := hc q hlt
      obtain ⟨V', hF, hRw, hFS⟩ := HA.out
      have hbw : Below W0.heap.size W0 wr := HW0.out.1.trans (hF.below HW0.out.1.size fun k hk => by have := HW0.out.2; omega)
      obtain ⟨kd, m, e1, e2, e3, hk⟩ := HOK.out.at hlt
      rw [e1] at c0
      rw [e2] at c1
      replace c0 : wr.cell? ⟨b2, o + q * 2, none⟩ = _ := (hbw.cell (p := ⟨b2, o + q * 2, none⟩) hb).trans c0
      replace c1 : wr.cell? ⟨b2, o + q * 2 + 1, none⟩ = _ := (hbw.cell (p := ⟨b2, o + q * 2 + 1, none⟩) hb).trans c1
      obtain ⟨wa, HWA⟩ : ∃ wa, Hid (wr.alloc (Obj.cells #[.int .i64 kd, .int .i64 (m : Int)] 47) = wa) := ⟨_, (rfl : _ = _)⟩
      have hbA := below_alloc wr (Obj.cells #[.int .i64 kd, .int .i64 (m : Int)] 47)
      have hsb := row_two wr (.int .i64 kd) (.int .i64 (m : Int)) 47
      rw [HWA.out] at hbA hsb
      have HF1 : Hid (Fm (fun k => k = bw) wb wa) := hF.trans (Fm.of (X := fun k => k = bw) hbA) fun _ _ e => e
      have HIA : Hid (Iw E F n be bf bw cs cf v2 v3 v4 V' wa) := (HI0.out.put hF hRw).next hbA
      have HPA : Hid (wa.rowIs g 88 2 (fun i => if i = 0 then .int .i64 (h : Int) else .slice (some ⟨b2, o, none⟩) l.length uc)) := HPB.out.of_block (HF1.out.block _ HPB.out.lt (row_ne HPB.out HI0.out.row (by decide)))
      have HSB : Hid (wa.rowIs wr.heap.size 47 2 (fun i => if i = 0 then .int .i64 kd else .int .i64 (m : Int))) := hsb
      have HSA : Hid (Syms wa (.slice (some ⟨b2, o, none⟩) l.length uc) l) := (HSY.out.below hbw).below hbA
      have HKP : Hid (kd ≠ 2 → FS ps n E F l h V (q + 1) r V') := fun hne => hFS.keep hlt (by rw [e1]; exact hne)
      have HSM : Hid (V' m ||| bg E F (l.drop (q + 1)) (V' h) = V' m → FS ps n E F l h V (q + 1) r V') := fun hs => hFS.same hlt (by rw [e3]; exact hs)
      have HPT : Hid (kd = 2 → m < n → V' m ||| bg E F (l.drop (q + 1)) (V' h) ≠ V' m → FS ps n E F l h V (q + 1) true (upd V' m (V' m ||| bg E F (l.drop (q + 1)) (V' h)))) := fun h1 h2 h3 => by
        have := hFS.put hlt (e1.trans h1) (by rw [e3]; exact h2) (by rw [e3]; exact h3)
        rw [e3] at this; exact this
      have hk1 : (q : Int) < (l.length : Int) := by omega
      have hne : Nonempty (Kp (Sb wa)) := ⟨⟨_, Sb.drew wa⟩⟩
      have HFB : Hid (∀ p : Kp (Sb wa), Fm (fun k => k = bw) wb p.W) := fun p => HF1.out.trans (Fm.of (X := fun k => k = bw) p.h) fun _ _ e => e
      have HRB : Hid (∀ p : Kp (Sb wa), Rw p.W bw n V') := fun p => HIA.out.row.next p.h
      have m0 : ∀ p : Kp (Sb wa), p.W.cell? ⟨wr.heap.size, 0, none⟩ = some (.int .i64 kd) := fun p => (HSB.out.of_block (Below.block p.h _ HSB.out.lt)).cell (i := 0) (by omega)
      have m1 : ∀ p : Kp (Sb wa), p.W.cell? ⟨wr.heap.size, 1, none⟩ = some (.int .i64 (m : Int)) := fun p => (HSB.out.of_block (Below.block p.h _ HSB.out.lt)).cell (i := 1) (by omega)
      clear hF hRw hFS hbw hc hcs e1 e2 e3 HA hbA hsb
      rcases hk with ⟨rfl, hk⟩ | ⟨rfl, hk⟩
      · go_wp2_with fail
        rw [HWA.out]
        refine wp_region_kept mixed (by kernel_rfl) (Sb.drew wa) ?_
        repeat (go_big_quiet_step (fail))
        refine wpQuiet_nil ?_
        intro W2 hw2
        obtain ⟨p2, rfl⟩ := hw2
        have HX1 := HFB.out p2
        have HX2 := HRB.out p2
        obtain ⟨W2, HS2⟩ := p2
        have HX : Hid (Fm (fun k => k = bw) wb W2 ∧ Rw W2 bw n V') := ⟨HX1, HX2⟩
        clear HX1 HX2 HFB HRB m0 m1 hne
        go_wp2_with fail
        go_roundw
        case rel => exact ⟨q + 1, r, by omega, by go_num, rfl, V', HX.out.1, HX.out.2, HKP.out (by omega)⟩
        case measure => simp [intOf]; omega
      · have hk2 : (m : Int) < (n : Int) := by omega
        have m2 : ∀ p : Kp (Sb wa), p.W.cell? ⟨cs, 0, none⟩ = some (.slice (some ⟨bw, 0, none⟩) n n) := fun p => (HIA.out.c.of_block (Below.block p.h _ HIA.out.c.lt)).cell (i := 0) (by omega)
        have m3 : ∀ p : Kp (Sb wa), p.W.cell? ⟨g, 0, none⟩ = some (.int .i64 (h : Int)) := fun p => (HPA.out.of_block (Below.block p.h _ HPA.out.lt)).cell (i := 0) (by omega)
        have m4 : ∀ p : Kp (Sb wa), p.W.cell? ⟨g, 1, none⟩ = some (.slice (some ⟨b2, o, none⟩) l.length uc) := fun p => (HPA.out.of_block (Below.block p.h _ HPA.out.lt)).cell (i := 1) (by omega)
        have f0 : ∀ p : Kp (Sb wa), p.W.cell? ⟨cf, 0, none⟩ = some (.slice (some ⟨be, 0, none⟩) n n) := fun p => (HIA.out.f.of_block (Below.block p.h _ HIA.out.f.lt)).cell (i := 0) (by omega)
        have f1 : ∀ p : Kp (Sb wa), p.W.cell? ⟨cf, 1, none⟩ = some (.slice (some ⟨bf, 0, none⟩) n n) := fun p => (HIA.out.f.of_block (Below.block p.h _ HIA.out.f.lt)).cell (i := 1) (by omega)
        have f2 : ∀ p : Kp (Sb wa), p.W.cell? ⟨cf, 2, none⟩ = some v2 := fun p => (HIA.out.f.of_block (Below.block p.h _ HIA.out.f.lt)).cell (i := 2) (by omega)
        have f3 : ∀ p : Kp (Sb wa), p.W.cell? ⟨cf, 3, none⟩ = some v3 := fun p => (HIA.out.f.of_block (Below.block p.h _ HIA.out.f.lt)).cell (i := 3) (by omega)
        have f4 : ∀ p : Kp (Sb wa), p.W.cell? ⟨cf, 4, none⟩ = some v4 := fun p => (HIA.out.f.of_block (Below.block p.h _ HIA.out.f.lt)).cell (i := 4) (by omega)
        have m5 : ∀ p : Kp (Sb wa), p.W.cell? ⟨bw, h, none⟩ = some (.int .u64 ((V' h).toNat : Int)) := fun p => (HRB.out p).cell hhn
        obtain ⟨dv, HDV⟩ : ∃ dv, Hid (Value.slice (if uc = q + 1 then some ⟨b2, o, none⟩ else some ⟨b2, o + (q + 1) * 2, none⟩) (l.length - (q + 1)) (uc - (q + 1)) = dv) := ⟨_, (rfl : _ = _)⟩
        have HDS : Hid (Syms wa dv (l.drop (q + 1))) := by show Syms _ _ _; rw [← HDV.out]; exact syms_drop HSA.out (q + 1)
        obtain ⟨x, HX⟩ : ∃ x, Hid (bg E F (l.drop (q + 1)) (V' h) = x) := ⟨_, (rfl : bg E F (l.drop (q + 1)) (V' h) = bg E F (l.drop (q + 1)) (V' h))⟩
        rw [HX.out] at HSM HPT
        have HC2 : Hid (∀ p : Kp (Sb wa), Calls Try.prog 106 #[.agg #[(.slice (some ⟨be, 0, none⟩) n n), (.slice (some ⟨bf, 0, none⟩) n n), v2, v3, v4], dv, .int .u64 ((V' h).toNat : Int)] p.W fun e w'' => e = .returned (.int .u64 (x.toNat : Int)) ∧ ∃ q : Kp (Sb wa), w'' = q.W) := fun p => by
          have := begin_any t n be bf E F v2 v3 v4 dv (l.drop (q + 1)) (V' h) p.W (HDS.out.below p.h) (HIA.out.e.next p.h) (HIA.out.fi.next p.h) (HOK.out.drop _) ht
          rw [HX.out] at this
          exact Kp.calls p Sb.next this
        have HWD : Hid (∀ p : Kp (Sb wa), Calls Try.prog 105 #[(.slice (some ⟨bw, 0, none⟩) n n), .int .i64 (m : Int), .int .u64 (x.toNat : Int)] p.W fun e w' => e = .returned (.bool (V' m ||| x != V' m)) ∧ w' = p.W.setCell ⟨bw, m, none⟩ (.int .u64 ((V' m ||| x).toNat : Int))) := fun p => widen_any n bw V' m x p.W (HRB.out p) hk
        have HWW : Hid (∀ p : Kp (Sb wa), Fm (fun k => k = bw) wb (p.W.setCell ⟨bw, m, none⟩ (.int .u64 ((V' m ||| x).toNat : Int))) ∧ Rw (p.W.setCell ⟨bw, m, none⟩ (.int .u64 ((V' m ||| x).toNat : Int))) bw n (upd V' m (V' m ||| x))) := fun p =>
          ⟨(HFB.out p).trans (Fm.set (X := fun k => k = bw) (b := bw) (i := m) _ rfl) (fun _ _ e => e), (HRB.out p).set m _⟩
        go_wp2_with fail
        rw [HWA.out]
        refine wp_region_chain (S := Sb wa) [_, _, _, _, _, _, _, _, _, _, _, _, _, _, _, _, _, _, _] [_, _] mixed (by kernel_rfl) (Sb.drew wa) ?_
        simp only [List.cons_append, List.nil_append]
        repeat (go_big_quiet_step (fail))
        rw [HDV.out]
        go_big_quiet_step (first | (go_at_call 106; with_reducible exact HC2.out _))
        refine wpQuiet_nil ?_
        intro p
        go_wp2_with fail
        refine (HWD.out p).mono ?_
        rintro _ w3 ⟨rfl, hw3⟩
        have hww := HWW.out p
        rw [← hw3] at hww
        by_cases hxx : V' m ||| x = V' m
        · have hbf : (V' m ||| x != V' m) = false := by rw [hxx]; simp
          rw [hxx, upd_same] at hww
          have HX3 : Hid (Fm (fun k => k = bw) wb w3 ∧ Rw w3 bw n V' ∧ FS ps n E F l h V (q + 1) r V') := ⟨hww.1, hww.2, HSM.out hxx⟩
          rw [hbf]
          clear hbf hxx hww hw3 HC2 HWD HWW HFB HRB m0 m1 m2 m3 m4 m5 f0 f1 f2 f3 f4 HSM HPT HKP hne
          go_wp2_with fail
          go_roundw
          case rel => exact ⟨q + 1, r, by omega, by go_num, rfl, V', HX3.out.1, HX3.out.2.1, HX3.out.2.2⟩
          case measure => simp [intOf]; omega
        · have hbf : (V' m ||| x != V' m) = true := by simpa using hxx
          have HX3 : Hid (Fm (fun k => k = bw) wb w3 ∧ Rw w3 bw n (upd V' m (V' m ||| x)) ∧ FS ps n E F l h V (q + 1) true (upd V' m (V' m ||| x))) := ⟨hww.1, hww.2, HPT.out (by trivial) hk hxx⟩
          rw [hbf]
          clear hbf hxx hww hw3 HC2 HWD HWW HFB HRB m0 m1 m2 m3 m4 m5 f0 f1 f2 f3 f4 HSM HPT HKP hne
          go_wp2_with fail
          go_roundw
          case rel => exact ⟨q + 1, true, by omega, by go_num, rfl, _, HX3.out.1, HX3.out.2.1, HX3.out.2.2⟩
          case measure => simp [intOf]; omega
    · obtain rfl : q = l.length := by omega
      have HAX : Hid (WOut ps E F bw n l h V W r wr) := by
        obtain ⟨V', k1, k2, k3⟩ := HA.out
        exact ⟨V', HFA.out _ k1, k2, k3⟩
      go_wp2_with fail
      go_ret
      exact ⟨r, by simp, HAX.out⟩
end Go.Proofs.Ytpfehghicaaghaa

namespace Go.Proofs.Ytpfehghicaaghaa
open Go.RowKit
open Cg

theorem row_vals5 (w : World) (a b c d e : Value) : (w.alloc (.cells #[a, b, c, d, e] 82)).rowIs w.heap.size 82 5 (fv a b c d e) :=
  World.rowIs_alloc w _ 82 _ fun i hi => by
    have : i = 0 ∨ i = 1 ∨ i = 2 ∨ i = 3 ∨ i = 4 := by simp at hi; omega
    rcases this with rfl | rfl | rfl | rfl | rfl <;> rfl
structure Iw2 (ps : List Pd) (E : Nat → Bool) (F : Nat → Wd) (n be bf bw cs cf : Nat) (v2 v3 v4 : Value) (V : Nat → Wd) (W : World) : Prop where
  i : Iw E F n be bf bw cs cf v2 v3 v4 V W
  sn : SnW ps E F V
  z : le endW (V 0)
set_option maxHeartbeats 6400000 in
set_option maxRecDepth 20000 in
theorem followers_any (t : Int) (n be bf : Nat) (E : Nat → Bool) (F : Nat → Wd) (v2 v3 v4 : Value) (pv : Value) (ps : List Pd) (w : World) (hp : Pds w pv ps) (hg : Rg t n ps) (hre : Rb w be n E) (hrf : Rw w bf n F) (f2 : ∃ a m k, v2 = .slice a m k) (f3 : ∃ a m k, v3 = .slice a m k) (f4 : ∃ a m k, v4 = .slice a m k) :
    Calls Try.prog 88 #[.agg #[.int .i64 t, .int .i64 (n : Int), pv], .agg #[(.slice (some ⟨be, 0, none⟩) n n), (.slice (some ⟨bf, 0, none⟩) n n), v2, v3, v4]] w fun e w' => ∃ b, e = .returned (.slice (some ⟨b, 0, none⟩) n n) ∧ w.heap.size ≤ b ∧ Below w.heap.size w w' ∧ ∃ V, Rw w' b n V ∧ Fo ps E F V := by
  have HP : Hid (Pds w pv ps) := hp
  have HG : Hid (Rg t n ps) := hg
  obtain ⟨ao, c, rfl, hm, -⟩ := hp
  obtain ⟨a2, m2, k2, rfl⟩ := f2
  obtain ⟨a3, m3, k3, rfl⟩ := f3
  obtain ⟨a4, m4, k4, rfl⟩ := f4
  have HRE : Hid (Rb w be n E) := hre
  have HRF : Hid (Rw w bf n F) := hrf
  have hn1 := hg.n1
  have hn2 := hg.n2
  have hn3 : (0 : Int) < (n : Int) := by omega
  clear hg hre hrf
  have he := enters_of Try.func109 (by kernel_rfl) rfl
  have hmk := run_make_row' (P := Try.prog) 80 131 (.int .u64 0) 8 Try.underlying80 info131 rfl .i64 .i64 n (by omega) (by omega)
  have e2 : ((w.alloc (Obj.cells #[.int .i64 t, .int .i64 (n : Int), .slice ao ps.length c] 24)).alloc (Obj.cells #[(.slice (some ⟨be, 0, none⟩) n n), (.slice (some ⟨bf, 0, none⟩) n n), .slice a2 m2 k2, .slice a3 m3 k3, .slice a4 m4 k4] 82)).heap.size = w.heap.size + 1 + 1 := by simp
  have hrow := (World.rowIs_made ((w.alloc (Obj.cells #[.int .i64 t, .int .i64 (n : Int), .slice ao ps.length c] 24)).alloc (Obj.cells #[(.slice (some ⟨be, 0, none⟩) n n), (.slice (some ⟨bf, 0, none⟩) n n), .slice a2 m2 k2, .slice a3 m3 k3, .slice a4 m4 k4] 82)) (.int .u64 0) n 131).alloc (.cells #[.slice (some ⟨w.heap.size + 1 + 1, 0, none⟩) n n] 80)
  rw [e2] at hrow
  have y0 := hrow.cell (i := 0) (by omega)
  have y1 := hrow.frozen 0
  clear hrow e2
  go_enter Try.func88, Try.ntmps88
  go_wp2_with fail
  obtain ⟨wc, HWC⟩ : ∃ wc, Hid ((((w.alloc (Obj.cells #[.int .i64 t, .int .i64 (n : Int), .slice ao ps.length c] 24)).alloc (Obj.cells #[(.slice (some ⟨be, 0, none⟩) n n), (.slice (some ⟨bf, 0, none⟩) n n), .slice a2 m2 k2, .slice a3 m3 k3, .slice a4 m4 k4] 82)).alloc (.cells ((madeCells #[.int .u64 0] n).setIfInBounds 0 (.int .u64 9223372036854775808)) 131)).alloc (.cells #[.slice (some ⟨w.heap.size + 1 + 1, 0, none⟩) n n] 80) = wc) := ⟨_, (rfl : _ = _)⟩
  have HBW : Hid (Below w.heap.size w wc) := by
    show Below _ _ _
    rw [← HWC.out]
    exact ((below_alloc2 w _ _).alloc (by simp; omega) _).alloc (by simp; omega) _
  have HI0 : Hid (Iw2 ps E F n be bf (w.heap.size + 1 + 1) (w.heap.size + 1 + 1 + 1) (w.heap.size + 1) (.slice a2 m2 k2) (.slice a3 m3 k3) (.slice a4 m4 k4) (upd (fun _ => 0#64) 0 endW) wc) := by
    have e1 : (w.alloc (Obj.cells #[.int .i64 t, .int .i64 (n : Int), .slice ao ps.length c] 24)).heap.size = w.heap.size + 1 := by simp
    have e2 : ((w.alloc (Obj.cells #[.int .i64 t, .int .i64 (n : Int), .slice ao ps.length c] 24)).alloc (Obj.cells #[(.slice (some ⟨be, 0, none⟩) n n), (.slice (some ⟨bf, 0, none⟩) n n), .slice a2 m2 k2, .slice a3 m3 k3, .slice a4 m4 k4] 82)).heap.size = w.heap.size + 1 + 1 := by simp
    have e3 : (((w.alloc (Obj.cells #[.int .i64 t, .int .i64 (n : Int), .slice ao ps.length c] 24)).alloc (Obj.cells #[(.slice (some ⟨be, 0, none⟩) n n), (.slice (some ⟨bf, 0, none⟩) n n), .slice a2 m2 k2, .slice a3 m3 k3, .slice a4 m4 k4] 82)).alloc (.cells ((madeCells #[.int .u64 0] n).setIfInBounds 0 (.int .u64 9223372036854775808)) 131)).heap.size = w.heap.size + 1 + 1 + 1 := by simp
    have h1 := (row_made0 ((w.alloc (Obj.cells #[.int .i64 t, .int .i64 (n : Int), .slice ao ps.length c] 24)).alloc (Obj.cells #[(.slice (some ⟨be, 0, none⟩) n n), (.slice (some ⟨bf, 0, none⟩) n n), .slice a2 m2 k2, .slice a3 m3 k3, .slice a4 m4 k4] 82)) (.int .u64 0) (.int .u64 9223372036854775808) n 131).alloc (.cells #[.slice (some ⟨w.heap.size + 1 + 1, 0, none⟩) n n] 80)
    have h2 := row_one (((w.alloc (Obj.cells #[.int .i64 t, .int .i64 (n : Int), .slice ao ps.length c] 24)).alloc (Obj.cells #[(.slice (some ⟨be, 0, none⟩) n n), (.slice (some ⟨bf, 0, none⟩) n n), .slice a2 m2 k2, .slice a3 m3 k3, .slice a4 m4 k4] 82)).alloc (.cells ((madeCells #[.int .u64 0] n).setIfInBounds 0 (.int .u64 9223372036854775808)) 131)) (.slice (some ⟨w.heap.size + 1 + 1, 0, none⟩) n n) 80
    have h3 := ((row_vals5 (w.alloc (Obj.cells #[.int .i64 t, .int .i64 (n : Int), .slice ao ps.length c] 24)) (.slice (some ⟨be, 0, none⟩) n n) (.slice (some ⟨bf, 0, none⟩) n n) (.slice a2 m2 k2) (.slice a3 m3 k3) (.slice a4 m4 k4)).alloc (.cells ((madeCells #[.int .u64 0] n).setIfInBounds 0 (.int .u64 9223372036854775808)) 131)).alloc (.cells #[.slice (some ⟨w.heap.size + 1 + 1, 0, none⟩) n n] 80)
    rw [e2, HWC.out] at h1
    rw [e3, HWC.out] at h2
    rw [e1, HWC.out] at h3
    refine ⟨⟨h2, h3, HRE.out.next HBW.out, HRF.out.next HBW.out, h1.congr (fun i _ => ?_), ?_⟩, snW_start ps E F, le_refl _⟩
    · unfold upd; split <;> rfl
    · have := HRF.out.lt; omega
  rw [HWC.out]
  refine (settle_any 109 #[.pointer (some ⟨w.heap.size + 1 + 1 + 1, 0, none⟩), .pointer (some ⟨w.heap.size + 1, 0, none⟩)] he (Iw2 ps E F n be bf (w.heap.size + 1 + 1) (w.heap.size + 1 + 1 + 1) (w.heap.size + 1) (.slice a2 m2 k2) (.slice a3 m3 k3) (.slice a4 m4 k4)) (fun k => k = w.heap.size + 1 + 1) (muW n) (fun p V => ∀ j (hj : j < p.2.length), p.2[j].1 = 2 → le (bg E F (p.2.drop (j + 1)) (V p.1.toNat)) (V p.2[j].2.toNat)) t n _ ps w wc HP.out HBW.out ?_ (fun _ _ _ h hb => ⟨h.i.next hb, h.sn, h.z⟩) ?_ _ HI0.out).mono ?_
  · intro k hk; subst hk; exact ⟨by omega, HI0.out.i.row.lt⟩
  · intro V Z q hq u hI hbV hsy
    obtain ⟨m, e1, e2, hm⟩ := HG.out.hd q hq
    rw [arr2, e1]
    refine (clos39_any ps t HG.out.t2 n be bf _ _ _ E F V _ _ _ m hm u ps[q].2 (HG.out.lb q hq) (HG.out.ok q hq) w Z hsy hbV (by omega) hI.i).mono ?_
    rintro _ W' ⟨r, rfl, V', h2, h3, h4⟩
    refine ⟨r, rfl, V', ⟨hI.i.put h2 h3, h4.sn ps[q] (List.getElem_mem hq) rfl e2 hI.sn, le_trans hI.z (h4.up 0)⟩, h2, h4.yes, fun e => ⟨(h4.no e).1, fun j hj h5 => ?_⟩⟩
    have := (h4.no e).2 j hj hj h5
    exact this
  · rintro _ w1 ⟨rfl, hF, V, hI, hC⟩
    have z1 := hI.i.c.cell (i := 0) (by omega)
    have HFIN : Hid (Below w.heap.size w w1 ∧ ∃ V, Rw w1 (w.heap.size + 1 + 1) n V ∧ Fo ps E F V) :=
      ⟨HBW.out.trans (hF.below HBW.out.size fun k hk => by omega), V, hI.i.row, ⟨hI.z, fun p hp => hC p hp⟩, hI.sn⟩
    clear hI hC hF hmk
    go_wp2_with fail
    go_ret
    exact ⟨_, by simp, by omega, HFIN.out⟩
end Go.Proofs.Ytpfehghicaaghaa

namespace Go.Proofs.Ytpfehghicaaghaa
open Go.RowKit
open Cg

theorem fv_three (a b c d e x : Value) (j : Nat) (hj : j < 5) : (if j = 3 then x else fv a b c d e j) = fv a b c x e j := by
  have : j = 0 ∨ j = 1 ∨ j = 2 ∨ j = 3 ∨ j = 4 := by omega
  rcases this with rfl | rfl | rfl | rfl | rfl <;> rfl
theorem fv_two (a b c d e x : Value) (j : Nat) (hj : j < 5) : (if j = 2 then x else fv a b c d e j) = fv a b x d e j := by
  have : j = 0 ∨ j = 1 ∨ j = 2 ∨ j = 3 ∨ j = 4 := by omega
  rcases this with rfl | rfl | rfl | rfl | rfl <;> rfl
/-- Facts in memory. -/
structure Fx (n : Nat) (be bf bw br bm : Nat) (E : Nat → Bool) (F V : Nat → Wd) (R M : Nat → Bool) (w : World) : Prop where
  e : Rb w be n E
  f : Rw w bf n F
  v : Rw w bw n V
  r : Rb w br n R
  m : Rb w bm n M
theorem Fx.next {n be bf bw br bm : Nat} {E : Nat → Bool} {F V : Nat → Wd} {R M : Nat → Bool} {w w' : World} (h : Fx n be bf bw br bm E F V R M w) (hb : Below w.heap.size w w') : Fx n be bf bw br bm E F V R M w' :=
  ⟨h.e.next hb, h.f.next hb, h.v.next hb, h.r.next hb, h.m.next hb⟩
/-- What Of leaves. -/
def Fw (w : World) (n : Nat) (ps : List Pd) (be bf bw br bm : Nat) (w' : World) : Prop :=
  Below w.heap.size w w' ∧ ∃ E F V R M, Fx n be bf bw br bm E F V R M w' ∧ Fa ps E F V R M
set_option maxHeartbeats 6400000 in
set_option maxRecDepth 20000 in
theorem Of_bad (t n : Int) (pv : Value) (ps : List Pd) (w : World) (hp : Pds w pv ps) (hk : chk t n ps ≠ 0) :
    Calls Try.prog 62 #[.agg #[.int .i64 t, .int .i64 n, pv]] w fun e w' => e = .returned (.tuple #[.agg #[(.slice none 0 0), (.slice none 0 0), (.slice none 0 0), (.slice none 0 0), (.slice none 0 0)], .int .i64 (chk t n ps)]) ∧ Below w.heap.size w w' := by
  have HP : Hid (Pds w pv ps) := hp
  obtain ⟨ao, c, rfl, hm, -⟩ := hp
  obtain ⟨r, HR⟩ : ∃ r, Hid (chk t n ps = r) := ⟨_, (rfl : chk t n ps = chk t n ps)⟩
  rw [HR.out] at hk ⊢
  have hk2 : (r != 0) = true := by simpa using hk
  have es : (w.alloc (Obj.cells #[.int .i64 t, .int .i64 n, .slice ao ps.length c] 24)).heap.size = w.heap.size + 1 := by simp
  have hrr := row_new5 (w.alloc (Obj.cells #[.int .i64 t, .int .i64 n, .slice ao ps.length c] 24))
  rw [es] at hrr
  have hcall := Check_any t n _ ps ((w.alloc (Obj.cells #[.int .i64 t, .int .i64 n, .slice ao ps.length c] 24)).alloc (Obj.cells #[(.slice none 0 0), (.slice none 0 0), (.slice none 0 0), (.slice none 0 0), (.slice none 0 0)] 82)) (HP.out.below (below_alloc2 w _ _))
  rw [HR.out] at hcall
  have HB0 : Hid (Below w.heap.size w ((w.alloc (Obj.cells #[.int .i64 t, .int .i64 n, .slice ao ps.length c] 24)).alloc (Obj.cells #[(.slice none 0 0), (.slice none 0 0), (.slice none 0 0), (.slice none 0 0), (.slice none 0 0)] 82))) := below_alloc2 w _ _
  have HRR : Hid (World.rowIs ((w.alloc (Obj.cells #[.int .i64 t, .int .i64 n, .slice ao ps.length c] 24)).alloc (Obj.cells #[(.slice none 0 0), (.slice none 0 0), (.slice none 0 0), (.slice none 0 0), (.slice none 0 0)] 82)) (w.heap.size + 1) 82 5 (fun _ => .slice none 0 0)) := hrr
  have HSW : Hid (((w.alloc (Obj.cells #[.int .i64 t, .int .i64 n, .slice ao ps.length c] 24)).alloc (Obj.cells #[(.slice none 0 0), (.slice none 0 0), (.slice none 0 0), (.slice none 0 0), (.slice none 0 0)] 82)).heap.size = w.heap.size + 2) := by show _ = _; simp
  clear es hrr hk
  go_enter Try.func62, Try.ntmps62
  go_wp2_with fail
  refine hcall.mono ?_
  rintro _ w1 ⟨rfl, hb1⟩
  have hrr := HRR.out.of_block (hb1.block _ HRR.out.lt)
  have HR1 : Hid (w1.rowIs (w.heap.size + 1) 82 5 (fun _ => .slice none 0 0)) := hrr
  have HB1 : Hid (Below w.heap.size w w1) := HB0.out.trans (hb1.mono HB0.out.size)
  have a0 := hrr.cell (i := 0) (by omega)
  have z0 := hrr.frozen 0
  have a1 := hrr.cell (i := 1) (by omega)
  have z1 := hrr.frozen 1
  have a2 := hrr.cell (i := 2) (by omega)
  have z2 := hrr.frozen 2
  have a3 := hrr.cell (i := 3) (by omega)
  have z3 := hrr.frozen 3
  have a4 := hrr.cell (i := 4) (by omega)
  have z4 := hrr.frozen 4
  clear hrr hb1 hcall
  go_wp2_with fail
  have HSET := row_five HR1.out (.slice none 0 0) (.slice none 0 0) (.slice none 0 0) (.slice none 0 0) (.slice none 0 0)
  have HBL : Hid (Below w.heap.size w (((((w1.setCell ⟨w.heap.size + 1, 0, none⟩ (.slice none 0 0)).setCell ⟨w.heap.size + 1, 1, none⟩ (.slice none 0 0)).setCell ⟨w.heap.size + 1, 2, none⟩ (.slice none 0 0)).setCell ⟨w.heap.size + 1, 3, none⟩ (.slice none 0 0)).setCell ⟨w.heap.size + 1, 4, none⟩ (.slice none 0 0))) := ((((HB1.out.setCell (by simp) _).setCell (by simp) _).setCell (by simp) _).setCell (by simp) _).setCell (by simp) _
  have v0 := HSET.cell (i := 0) (by omega)
  have v1 := HSET.cell (i := 1) (by omega)
  have v2 := HSET.cell (i := 2) (by omega)
  have v3 := HSET.cell (i := 3) (by omega)
  have v4 := HSET.cell (i := 4) (by omega)
  simp only [fv] at v0 v1 v2 v3 v4
  clear HSET
  exact bodyPost_ret (v := .tuple #[.agg #[(.slice none 0 0), (.slice none 0 0), (.slice none 0 0), (.slice none 0 0), (.slice none 0 0)], .int .i64 r]) (by simp [results, Try.results62, go_sem, v0, v1, v2, v3, v4]) rfl ⟨rfl, HBL.out⟩
set_option maxHeartbeats 6400000 in
set_option maxRecDepth 20000 in
theorem Of_ok (t : Int) (n : Nat) (pv : Value) (ps : List Pd) (w : World) (hp : Pds w pv ps) (hk : chk t n ps = 0) :
    Calls Try.prog 62 #[.agg #[.int .i64 t, .int .i64 (n : Int), pv]] w fun e w' => ∃ be bf bw br bm, e = .returned (.tuple #[.agg #[(.slice (some ⟨be, 0, none⟩) n n), (.slice (some ⟨bf, 0, none⟩) n n), (.slice (some ⟨bw, 0, none⟩) n n), (.slice (some ⟨br, 0, none⟩) n n), (.slice (some ⟨bm, 0, none⟩) n n)], .int .i64 0]) ∧ Fw w n ps be bf bw br bm w' := by
  have HP : Hid (Pds w pv ps) := hp
  have HG : Hid (Rg t n ps) := rg_of hk
  obtain ⟨ao, c, rfl, hm, -⟩ := hp
  have es : (w.alloc (Obj.cells #[.int .i64 t, .int .i64 (n : Int), .slice ao ps.length c] 24)).heap.size = w.heap.size + 1 := by simp
  have hrr := row_new5 (w.alloc (Obj.cells #[.int .i64 t, .int .i64 (n : Int), .slice ao ps.length c] 24))
  rw [es] at hrr
  have hcall := Check_any t n _ ps ((w.alloc (Obj.cells #[.int .i64 t, .int .i64 (n : Int), .slice ao ps.length c] 24)).alloc (Obj.cells #[(.slice none 0 0), (.slice none 0 0), (.slice none 0 0), (.slice none 0 0), (.slice none 0 0)] 82)) (HP.out.below (below_alloc2 w _ _))
  rw [hk] at hcall
  have HB0 : Hid (Below w.heap.size w ((w.alloc (Obj.cells #[.int .i64 t, .int .i64 (n : Int), .slice ao ps.length c] 24)).alloc (Obj.cells #[(.slice none 0 0), (.slice none 0 0), (.slice none 0 0), (.slice none 0 0), (.slice none 0 0)] 82))) := below_alloc2 w _ _
  have HRR : Hid (World.rowIs ((w.alloc (Obj.cells #[.int .i64 t, .int .i64 (n : Int), .slice ao ps.length c] 24)).alloc (Obj.cells #[(.slice none 0 0), (.slice none 0 0), (.slice none 0 0), (.slice none 0 0), (.slice none 0 0)] 82)) (w.heap.size + 1) 82 5 (fun _ => .slice none 0 0)) := hrr
  have HGB : Hid (Gb w w.heap.size t n (.slice ao ps.length c) ps ((w.alloc (Obj.cells #[.int .i64 t, .int .i64 (n : Int), .slice ao ps.length c] 24)).alloc (Obj.cells #[(.slice none 0 0), (.slice none 0 0), (.slice none 0 0), (.slice none 0 0), (.slice none 0 0)] 82))) := (Gb.box HP.out t n).next (below_alloc _ _)
  clear es hrr hk
  go_enter Try.func62, Try.ntmps62
  go_wp2_with fail
  refine hcall.mono ?_
  rintro _ w1 ⟨rfl, hb1⟩
  have HR1 : Hid (w1.rowIs (w.heap.size + 1) 82 5 (fun _ => .slice none 0 0)) := HRR.out.of_block (hb1.block _ HRR.out.lt)
  have HG1 : Hid (Gb w w.heap.size t n (.slice ao ps.length c) ps w1) := HGB.out.next hb1
  have k0 := HG1.out.c0
  have k1 := HG1.out.c1
  have k2 := HG1.out.c2
  clear hb1 hcall HRR HGB HB0
  go_wp2_with fail
  refine (beginnings_any t n _ ps w1 HG1.out.pds HG.out).mono ?_
  rintro _ w2 ⟨be, bf, bm, rfl, hbg⟩
  obtain ⟨he1, hf1, hm1, hb2, E, F, M, hE, hF, hM, hkE, hkM, hkF⟩ := hbg
  obtain ⟨w3, HW3⟩ : ∃ w3, Hid (w2.alloc (Obj.cells #[(.slice (some ⟨be, 0, none⟩) n n), (.slice (some ⟨bf, 0, none⟩) n n), (.slice none 0 0), (.slice none 0 0), (.slice (some ⟨bm, 0, none⟩) n n)] 82) = w3) := ⟨_, (rfl : _ = _)⟩
  have hb3 := below_alloc w2 (Obj.cells #[(.slice (some ⟨be, 0, none⟩) n n), (.slice (some ⟨bf, 0, none⟩) n n), (.slice none 0 0), (.slice none 0 0), (.slice (some ⟨bm, 0, none⟩) n n)] 82)
  have hbx := row_vals5 w2 (.slice (some ⟨be, 0, none⟩) n n) (.slice (some ⟨bf, 0, none⟩) n n) (.slice none 0 0) (.slice none 0 0) (.slice (some ⟨bm, 0, none⟩) n n)
  rw [HW3.out] at hb3 hbx
  have hb13 : Below w1.heap.size w1 w3 := hb2.trans (hb3.mono hb2.size)
  have HR3 : Hid (w3.rowIs (w.heap.size + 1) 82 5 (fun _ => .slice none 0 0)) := HR1.out.of_block (hb13.block _ HR1.out.lt)
  have HG3 : Hid (Gb w w.heap.size t n (.slice ao ps.length c) ps w3) := HG1.out.next hb13
  have HE3 : Hid (Rb w3 be n E) := hE.next hb3
  have HF3 : Hid (Rw w3 bf n F) := hF.next hb3
  have HM3 : Hid (Rb w3 bm n M) := hM.next hb3
  have HBX : Hid (w3.rowIs w2.heap.size 82 5 (fv (.slice (some ⟨be, 0, none⟩) n n) (.slice (some ⟨bf, 0, none⟩) n n) (.slice none 0 0) (.slice none 0 0) (.slice (some ⟨bm, 0, none⟩) n n))) := hbx
  have HKK : Hid (Mk ps false E ∧ Mk ps true M ∧ Fi ps M E F) := ⟨hkE, hkM, hkF⟩
  have HGE : Hid (w.heap.size + 2 ≤ w2.heap.size) := by
    have h1 := HR1.out.lt
    have h2 := hb2.size
    show _ ≤ _
    omega
  clear he1 hf1 hm1 hb2 hE hF hM hkE hkM hkF hb3 hbx hb13 k0 k1 k2 HR1 HG1
  obtain ⟨cf, HCF⟩ : ∃ cf, Hid (w2.heap.size = cf) := ⟨_, (rfl : w2.heap.size = w2.heap.size)⟩
  rw [HCF.out] at HBX HGE
  have k0 := HG3.out.c0
  have k1 := HG3.out.c1
  have k2 := HG3.out.c2
  rw [← HW3.out] at k0 k1 k2
  go_wp2_with fail
  rw [HW3.out, HCF.out]
  clear k0 k1 k2 HW3
  refine (reached_any t n _ ps w3 HG3.out.pds HG.out).mono ?_
  rintro _ w4 ⟨br, rfl, hge4, hb4, R, hR4, hkR⟩
  have hbx4 := HBX.out.of_block (hb4.block _ HBX.out.lt)
  have q3 := hbx4.cell (i := 3) (by omega)
  have z3 := hbx4.frozen 3
  obtain ⟨w5, HW5⟩ : ∃ w5, Hid (w4.setCell ⟨cf, 3, none⟩ (.slice (some ⟨br, 0, none⟩) n n) = w5) := ⟨_, (rfl : _ = _)⟩
  have hoth : ∀ k, k ≠ cf → w5.heap[k]? = w4.heap[k]? := fun k hk => by rw [← HW5.out]; exact Go.Deep.blk_setCell_other _ _ _ _ hk
  have hbx5 := (hbx4.set 3 (.slice (some ⟨br, 0, none⟩) n n)).congr (fv_three (.slice (some ⟨be, 0, none⟩) n n) (.slice (some ⟨bf, 0, none⟩) n n) (.slice none 0 0) (.slice none 0 0) (.slice (some ⟨bm, 0, none⟩) n n) (.slice (some ⟨br, 0, none⟩) n n))
  rw [HW5.out] at hbx5
  have HB35 : Hid (Below w.heap.size w w5) := by
    show Below _ _ _
    rw [← HW5.out]
    exact (HG3.out.below.trans (hb4.mono HG3.out.below.size)).setCell (by have := HGE.out; show _ ≤ cf; omega) _
  have HCG : Hid (w.heap.size ≠ cf ∧ w.heap.size + 1 ≠ cf) := by have := HGE.out; exact ⟨by omega, by omega⟩
  have hrr4 := HR3.out.of_block (hb4.block _ HR3.out.lt)
  have hg4 := HG3.out.next hb4
  have HR5 : Hid (w5.rowIs (w.heap.size + 1) 82 5 (fun _ => .slice none 0 0)) := hrr4.of_block (hoth _ HCG.out.2)
  have hgb5 : w5.heap[w.heap.size]? = w4.heap[w.heap.size]? := hoth _ HCG.out.1
  have HK5 : Hid (w5.cell? ⟨w.heap.size, 0, none⟩ = some (.int .i64 t) ∧ w5.cell? ⟨w.heap.size, 1, none⟩ = some (.int .i64 (n : Int)) ∧ w5.cell? ⟨w.heap.size, 2, none⟩ = some (.slice ao ps.length c)) :=
    ⟨(World.cell?_of_block (w := w4) hgb5).trans hg4.c0, (World.cell?_of_block (w := w4) hgb5).trans hg4.c1, (World.cell?_of_block (w := w4) hgb5).trans hg4.c2⟩
  have HP5 : Hid (Pds w5 (.slice ao ps.length c) ps) := HP.out.below HB35.out
  have HE5 : Hid (Rb w5 be n E) := (HE3.out.next hb4).of (hoth _ (row_ne (HE3.out.next hb4) hbx4 (by decide)))
  have HF5 : Hid (Rw w5 bf n F) := (HF3.out.next hb4).of (hoth _ (row_ne (HF3.out.next hb4) hbx4 (by decide)))
  have HM5 : Hid (Rb w5 bm n M) := (HM3.out.next hb4).of (hoth _ (row_ne (HM3.out.next hb4) hbx4 (by decide)))
  have HRR5 : Hid (Rb w5 br n R) := hR4.of (hoth _ (row_ne hR4 hbx4 (by decide)))
  have HB5 : Hid (w5.rowIs cf 82 5 (fv (.slice (some ⟨be, 0, none⟩) n n) (.slice (some ⟨bf, 0, none⟩) n n) (.slice none 0 0) (.slice (some ⟨br, 0, none⟩) n n) (.slice (some ⟨bm, 0, none⟩) n n))) := hbx5
  have HKR : Hid (Re ps R) := hkR
  have u0 := HK5.out.1
  have u1 := HK5.out.2.1
  have u2 := HK5.out.2.2
  have p0 := hbx5.cell (i := 0) (by omega)
  have p1 := hbx5.cell (i := 1) (by omega)
  have p2 := hbx5.cell (i := 2) (by omega)
  have p3 := hbx5.cell (i := 3) (by omega)
  have p4 := hbx5.cell (i := 4) (by omega)
  simp only [fv] at p0 p1 p2 p3 p4
  rw [← HW5.out] at u0 u1 u2 p0 p1 p2 p3 p4
  clear hge4 hR4 hkR hbx4 hoth hbx5 hrr4 hg4 hgb5 hb4 HG3 HE3 HF3 HM3 HBX HR3
  go_wp2_with fail
  rw [HW5.out]
  clear u0 u1 u2 p0 p1 p2 p3 p4 q3 z3 HW5
  refine (followers_any t n be bf E F _ _ _ _ ps w5 HP5.out HG.out HE5.out HF5.out ⟨_, _, _, rfl⟩ ⟨_, _, _, rfl⟩ ⟨_, _, _, rfl⟩).mono ?_
  rintro _ w6 ⟨bw, rfl, hge6, hb6, V, hV6, hkV⟩
  have hbx6 := HB5.out.of_block (hb6.block _ HB5.out.lt)
  have q2 := hbx6.cell (i := 2) (by omega)
  have z2 := hbx6.frozen 2
  obtain ⟨w7, HW7⟩ : ∃ w7, Hid (w6.setCell ⟨cf, 2, none⟩ (.slice (some ⟨bw, 0, none⟩) n n) = w7) := ⟨_, (rfl : _ = _)⟩
  have hoth : ∀ k, k ≠ cf → w7.heap[k]? = w6.heap[k]? := fun k hk => by rw [← HW7.out]; exact Go.Deep.blk_setCell_other _ _ _ _ hk
  have hbx7 := (hbx6.set 2 (.slice (some ⟨bw, 0, none⟩) n n)).congr (fv_two (.slice (some ⟨be, 0, none⟩) n n) (.slice (some ⟨bf, 0, none⟩) n n) (.slice none 0 0) (.slice (some ⟨br, 0, none⟩) n n) (.slice (some ⟨bm, 0, none⟩) n n) (.slice (some ⟨bw, 0, none⟩) n n))
  rw [HW7.out] at hbx7
  have HB7 : Hid (Below w.heap.size w w7) := by
    show Below _ _ _
    rw [← HW7.out]
    exact (HB35.out.trans (hb6.mono HB35.out.size)).setCell (by have := HGE.out; show _ ≤ cf; omega) _
  have hrr7 := (HR5.out.of_block (hb6.block _ HR5.out.lt)).of_block (hoth _ HCG.out.2)
  have HR7 : Hid (w7.rowIs (w.heap.size + 1) 82 5 (fun _ => .slice none 0 0)) := hrr7
  have HFX : Hid (Fx n be bf bw br bm E F V R M w7 ∧ Fa ps E F V R M) := ⟨⟨(HE5.out.next hb6).of (hoth _ (row_ne (HE5.out.next hb6) hbx6 (by decide))), (HF5.out.next hb6).of (hoth _ (row_ne (HF5.out.next hb6) hbx6 (by decide))), hV6.of (hoth _ (row_ne hV6 hbx6 (by decide))), (HRR5.out.next hb6).of (hoth _ (row_ne (HRR5.out.next hb6) hbx6 (by decide))), (HM5.out.next hb6).of (hoth _ (row_ne (HM5.out.next hb6) hbx6 (by decide)))⟩, HKK.out.1, HKK.out.2.1, HKK.out.2.2, HKR.out, hkV⟩
  have p0 := hbx7.cell (i := 0) (by omega)
  have a0 := hrr7.cell (i := 0) (by omega)
  have y0 := hrr7.frozen 0
  have p1 := hbx7.cell (i := 1) (by omega)
  have a1 := hrr7.cell (i := 1) (by omega)
  have y1 := hrr7.frozen 1
  have p2 := hbx7.cell (i := 2) (by omega)
  have a2 := hrr7.cell (i := 2) (by omega)
  have y2 := hrr7.frozen 2
  have p3 := hbx7.cell (i := 3) (by omega)
  have a3 := hrr7.cell (i := 3) (by omega)
  have y3 := hrr7.frozen 3
  have p4 := hbx7.cell (i := 4) (by omega)
  have a4 := hrr7.cell (i := 4) (by omega)
  have y4 := hrr7.frozen 4
  simp only [fv] at p0 p1 p2 p3 p4
  rw [← HW7.out] at p0 p1 p2 p3 p4 a0 a1 a2 a3 a4 y0 y1 y2 y3 y4
  clear hge6 hV6 hkV hbx6 hoth hbx7 hb6 hrr7 HE5 HF5 HM5 HRR5 HB5 HR5 HK5 HP5
  go_wp2_with fail
  rw [HW7.out]
  clear p0 p1 p2 p3 p4 q2 z2 a0 a1 a2 a3 a4 y0 y1 y2 y3 y4
  obtain ⟨w8, HW8⟩ : ∃ w8, Hid ((((((w7.setCell ⟨w.heap.size + 1, 0, none⟩ (.slice (some ⟨be, 0, none⟩) n n)).setCell ⟨w.heap.size + 1, 1, none⟩ (.slice (some ⟨bf, 0, none⟩) n n)).setCell ⟨w.heap.size + 1, 2, none⟩ (.slice (some ⟨bw, 0, none⟩) n n)).setCell ⟨w.heap.size + 1, 3, none⟩ (.slice (some ⟨br, 0, none⟩) n n)).setCell ⟨w.heap.size + 1, 4, none⟩ (.slice (some ⟨bm, 0, none⟩) n n)) = w8) := ⟨_, (rfl : _ = _)⟩
  rw [HW8.out]
  have HSET := row_five HR7.out (.slice (some ⟨be, 0, none⟩) n n) (.slice (some ⟨bf, 0, none⟩) n n) (.slice (some ⟨bw, 0, none⟩) n n) (.slice (some ⟨br, 0, none⟩) n n) (.slice (some ⟨bm, 0, none⟩) n n)
  have HOTH := five_other w7 (w.heap.size + 1) (.slice (some ⟨be, 0, none⟩) n n) (.slice (some ⟨bf, 0, none⟩) n n) (.slice (some ⟨bw, 0, none⟩) n n) (.slice (some ⟨br, 0, none⟩) n n) (.slice (some ⟨bm, 0, none⟩) n n)
  have HBL : Below w.heap.size w w8 := by
    rw [← HW8.out]
    exact ((((HB7.out.setCell (by simp) _).setCell (by simp) _).setCell (by simp) _).setCell (by simp) _).setCell (by simp) _
  rw [HW8.out] at HSET HOTH
  have hx := HFX.out.1
  have HFIN : Hid (Fw w n ps be bf bw br bm w8) := ⟨HBL, E, F, V, R, M, ⟨hx.e.of (HOTH _ (row_ne hx.e HR7.out (by decide))), hx.f.of (HOTH _ (row_ne hx.f HR7.out (by decide))), hx.v.of (HOTH _ (row_ne hx.v HR7.out (by decide))), hx.r.of (HOTH _ (row_ne hx.r HR7.out (by decide))), hx.m.of (HOTH _ (row_ne hx.m HR7.out (by decide)))⟩, HFX.out.2⟩
  have v0 := HSET.cell (i := 0) (by omega)
  have v1 := HSET.cell (i := 1) (by omega)
  have v2 := HSET.cell (i := 2) (by omega)
  have v3 := HSET.cell (i := 3) (by omega)
  have v4 := HSET.cell (i := 4) (by omega)
  simp only [fv] at v0 v1 v2 v3 v4
  clear HSET HOTH HBL hx
  exact bodyPost_ret (v := .tuple #[.agg #[(.slice (some ⟨be, 0, none⟩) n n), (.slice (some ⟨bf, 0, none⟩) n n), (.slice (some ⟨bw, 0, none⟩) n n), (.slice (some ⟨br, 0, none⟩) n n), (.slice (some ⟨bm, 0, none⟩) n n)], .int .i64 0]) (by simp [results, Try.results62, go_sem, v0, v1, v2, v3, v4]) rfl ⟨_, _, _, _, _, rfl, HFIN.out⟩
end Go.Proofs.Ytpfehghicaaghaa

namespace Go.Proofs.Ytpfehghicaaghaa
open Cg

theorem brs_follow2 {E : Nat → Bool} {F V : Nat → Wd} {R M : Nat → Bool} (h : Fa brs E F V R M) : (V 0).getLsbD 1 = true ∧ (V 0).getLsbD 63 = true := by
  constructor
  · have h1 := h.w.cl.st (0, [(1, 0), (2, 0), (1, 1), (2, 0)]) (by simp [brs]) 1 (by decide) rfl
    have h2 : bg E F (([(1, 0), (2, 0), (1, 1), (2, 0)] : List Sy).drop (1 + 1)) (V ((0 : Int).toNat)) = 1#64 <<< 1 := by
      show bg E F [(1, 1), (2, 0)] _ = _
      rw [bg, if_pos rfl]; rfl
    have h3 : le (1#64 <<< 1) (V 0) := by rw [← h2]; exact h1
    exact le_bits.1 h3 1 (by decide)
  · exact le_bits.1 h.w.cl.z 63 (by decide)
theorem brs_rows {S : Nat → Wd} (h : TK brs S) : rowsL brs S 2 1 = [[1, 0, 0]] := by
  obtain ⟨E, F, V, R, M, hfa, rfl⟩ := h
  have hf := brs_follow hfa
  obtain ⟨h1, h2⟩ := brs_follow2 hfa
  have hm0 : mayL brs (sts brs E F V) 2 0 0 = [1] := by rw [brs_may, show bc 2 0 = 0 from rfl, hf]; rfl
  have hm1 : mayL brs (sts brs E F V) 2 0 1 = [0] := by rw [brs_may, show bc 2 1 = 1 from rfl, h1]; simp
  have hm2 : mayL brs (sts brs E F V) 2 0 2 = [0] := by rw [brs_may, show bc 2 2 = 63 from rfl, h2]; simp
  have hr : rowsL brs (sts brs E F V) 2 1 = [[hdI (mayL brs (sts brs E F V) 2 0 0), hdI (mayL brs (sts brs E F V) 2 0 1), hdI (mayL brs (sts brs E F V) 2 0 2)]] := rfl
  rw [hr, hm0, hm1, hm2]; rfl
theorem brs_val {E : Nat → Bool} {F V : Nat → Wd} {R M : Nat → Bool} (h : Fa brs E F V R M) : E 0 = true ∧ M 0 = true ∧ (F 0).toNat = 1 ∧ (V 0).toNat = 9223372036854775810 := by
  have he : E 0 = true := h.e.cl (0, []) (by simp [brs]) rfl
  have hm : M 0 = true := h.m.cl (0, []) (by simp [brs]) rfl
  have hF : F 0 = 1#64 := by
    refine le_anti (h.f.sn (fun _ => 1#64) (fun p hp _ => ?_) 0) ?_
    · simp only [brs, List.mem_cons, List.not_mem_nil, or_false] at hp
      rcases hp with rfl | rfl
      · show le (bg E _ [] 0#64) _
        rw [bg]; exact zero_le _
      · show le (bg E _ [(1, 0), (2, 0), (1, 1), (2, 0)] 0#64) _
        rw [bg, if_pos rfl]; unfold le; decide
    · have h1 := h.f.cl (0, [(1, 0), (2, 0), (1, 1), (2, 0)]) (by simp [brs]) (by simp [amk, mks, hm])
      have h2 : bg E F [(1, 0), (2, 0), (1, 1), (2, 0)] 0#64 = 1#64 := by rw [bg, if_pos rfl]; rfl
      rw [h2] at h1; exact h1
  have hV : V 0 = 9223372036854775810#64 := by
    refine le_anti (h.w.sn (fun _ => 9223372036854775810#64) ⟨by unfold le; decide, fun p hp k hk h2 => ?_⟩ 0) ?_
    · simp only [brs, List.mem_cons, List.not_mem_nil, or_false] at hp
      rcases hp with rfl | rfl
      · simp at hk
      · simp only [List.length_cons, List.length_nil] at hk
        have : k = 0 ∨ k = 1 ∨ k = 2 ∨ k = 3 := by omega
        rcases this with rfl | rfl | rfl | rfl
        · simp at h2
        · show le (bg E F [(1, 1), (2, 0)] _) _
          unfold bg
          rw [if_pos rfl]
          unfold le; decide
        · simp at h2
        · exact le_refl _
    · obtain ⟨h1, h2⟩ := brs_follow2 h
      refine le_bits.2 fun t ht => ?_
      have key : ∀ t : Nat, (9223372036854775810#64 : Wd).getLsbD t = true → t = 1 ∨ t = 63 := by
        intro t ht
        have hlt : t < 64 := BitVec.lt_of_getLsbD ht
        have : ∀ t : Fin 64, (9223372036854775810#64 : Wd).getLsbD t.val = true → t.val = 1 ∨ t.val = 63 := by decide
        exact this ⟨t, hlt⟩ ht
      rcases key t ht with rfl | rfl
      · exact h1
      · exact h2
  refine ⟨he, hm, by rw [hF]; rfl, by rw [hV]; rfl⟩
end Go.Proofs.Ytpfehghicaaghaa
