/-
  The contract of trees.(*walk).mayStand.
-/
import Derived.Test.YtpfehghicaaghaaTrLow
namespace Go.Proofs.Ytpfehghicaaghaa
open Go.RowKit
open Cg

theorem own_len {w : World} {base e size n : Nat} {v : Value} {xs : List Value} (h : w.ownsRow base e size v n xs) : ∃ ao c, v = .slice ao n c := by
  rcases h.2 with ⟨hv, h0⟩ | ⟨g, cap, cur, hv, _⟩
  · exact ⟨_, _, by rw [hv, h0]⟩
  · exact ⟨_, _, hv⟩
/-- The walk through a tree, in its box. -/
structure Wk (w0 : World) (q : Nat) (t n : Int) (pv : Value) (nn : Nat) (wv : Value) (ws : List Int) (W : World) : Prop where
  blk : W.heap[q]? = some (.cells #[.int .i64 t, .int .i64 n, pv, .int .i64 (nn : Int), wv] 107)
  own : W.ownsRow w0.heap.size 3 1 wv ws.length (ws.map (Value.int .i64))
  ge : w0.heap.size ≤ q
  bel : Below w0.heap.size w0 W
theorem heap_lt3 {w : World} {k : Nat} {o : Obj} (h : w.heap[k]? = some o) : k < w.heap.size := by
  rcases Nat.lt_or_ge k w.heap.size with h' | h'
  · exact h'
  · rw [Array.getElem?_eq_none h'] at h; cases h
theorem Wk.next {w0 : World} {q : Nat} {t n : Int} {pv : Value} {nn : Nat} {wv : Value} {ws : List Int} {W W' : World} (h : Wk w0 q t n pv nn wv ws W) (hb : Below W.heap.size W W') : Wk w0 q t n pv nn wv ws W' :=
  ⟨(hb.block q (heap_lt3 h.blk)).trans h.blk, own_below h.own hb, h.ge, h.bel.trans (hb.mono h.bel.size)⟩
theorem Wk.cell {w0 : World} {q : Nat} {t n : Int} {pv : Value} {nn : Nat} {wv : Value} {ws : List Int} {W : World} (h : Wk w0 q t n pv nn wv ws W) (i : Nat) : W.cell? ⟨q, i, none⟩ = (#[.int .i64 t, .int .i64 n, pv, .int .i64 (nn : Int), wv] : Array Value)[i]? := by
  simp [World.cell?, h.blk]

/-- What mayStand holds. -/
structure Sm2 (W : World) (p k : Int) (ao : Option Addr) (nk cap : Nat) (s0 s1 : Int) (X : World) : Prop where
  bel : Below W.heap.size W X
  bx : Bx X W.heap.size p k ao nk cap
  b2 : B2 X (W.heap.size + 1) s0 s1
theorem Sm2.next {W : World} {p k : Int} {ao : Option Addr} {nk cap : Nat} {s0 s1 : Int} (X X' : World) (h : Sm2 W p k ao nk cap s0 s1 X) (hb : Below X.heap.size X X') : Sm2 W p k ao nk cap s0 s1 X' :=
  ⟨h.bel.trans (hb.mono h.bel.size), h.bx.next hb, h.b2.next hb⟩
theorem Sm2.box (W : World) (p k : Int) (ao : Option Addr) (nk cap : Nat) (s0 s1 : Int) : Sm2 W p k ao nk cap s0 s1 ((W.alloc (Obj.cells #[.int .i64 p, .int .i64 k, .slice ao nk cap] 32)).alloc (Obj.cells #[.int .i64 s0, .int .i64 s1] 47)) := by
  refine ⟨below_alloc2 _ _ _, (Bx.box W p k ao nk cap).next (below_alloc _ _), ?_⟩
  have := B2.box (W.alloc (Obj.cells #[.int .i64 p, .int .i64 k, .slice ao nk cap] 32)) s0 s1 47
  rw [show (W.alloc (Obj.cells #[.int .i64 p, .int .i64 k, .slice ao nk cap] 32)).heap.size = W.heap.size + 1 by simp] at this
  exact this

set_option maxHeartbeats 4000000 in
set_option maxRecDepth 20000 in
theorem mayStand_any (w0 : World) (q : Nat) (t n : Int) (pv : Value) (ps : List Pd) (nn : Nat) (wv : Value) (ws : List Int) (p k : Int) (ao : Option Addr) (nk cap : Nat) (s0 s1 : Int) (W : World) (h : Pds w0 pv ps) (hw : Wk w0 q t n pv nn wv ws W) :
    Calls Try.prog 81 #[.pointer (some ⟨q, 0, none⟩), .agg #[.int .i64 p, .int .i64 k, .slice ao nk cap], .agg #[.int .i64 s0, .int .i64 s1]] W fun e w' => e = .returned (.bool (may ps p k nk (s0, s1) ws.length)) ∧ Below W.heap.size W w' := by
  have HS0 : Hid (Sm2 W p k ao nk cap s0 s1 ((W.alloc (Obj.cells #[.int .i64 p, .int .i64 k, .slice ao nk cap] 32)).alloc (Obj.cells #[.int .i64 s0, .int .i64 s1] 47))) := Sm2.box W p k ao nk cap s0 s1
  have HP : Hid (Pds W pv ps) := h.below hw.bel
  have HW : Hid (Wk w0 q t n pv nn wv ws W) := hw
  obtain ⟨wa, wc, rfl⟩ := own_len hw.own
  obtain ⟨nw, HNW⟩ : ∃ nw, Hid (ws.length = nw) := ⟨_, (rfl : ws.length = ws.length)⟩
  have hq := heap_lt3 hw.blk
  have c0 := hw.cell 0
  have c1 := hw.cell 1
  have c2 := hw.cell 2
  have c4 := hw.cell 4
  simp at c0 c1 c2 c4
  rw [HNW.out] at c4 ⊢
  obtain ⟨go, gc, rfl, hm, -⟩ := h
  obtain ⟨r, HR⟩ : ∃ r, Hid (may ps p k nk (s0, s1) nw = r) := ⟨_, (rfl : may ps p k nk (s0, s1) nw = may ps p k nk (s0, s1) nw)⟩
  rw [HR.out]
  obtain ⟨N, HN⟩ : ∃ N, Hid (ps.length = N) := ⟨_, (rfl : ps.length = ps.length)⟩
  rw [HN.out] at HP hm c2 HW
  obtain ⟨o1, HO⟩ : ∃ o1, Hid (isOf ps p (s0, s1) = o1) := ⟨_, (rfl : isOf ps p (s0, s1) = isOf ps p (s0, s1))⟩
  have HC : Hid (∀ X : Kp (Sm2 W p k ao nk cap s0 s1), Calls Try.prog 98 #[.agg #[.int .i64 t, .int .i64 n, .slice go N gc], .int .i64 p, .agg #[.int .i64 s0, .int .i64 s1]] X.W fun e w' => e = .returned (.bool o1) ∧ Below X.W.heap.size X.W w') := fun X => by
    have := isOf_any t n (.slice go N gc) ps s0 s1 p X.W (HP.out.below X.h.bel)
    rw [HO.out] at this; exact this
  clear hw
  go_enter Try.func81, Try.ntmps81
  go_upto_region 1 with fail
  have S1' : Sm2 W p k ao nk cap s0 s1 _ := Sm2.next _ _ HS0.out ((Below.refl _ _).drew)
  have p0 : ∀ X : Kp (Sm2 W p k ao nk cap s0 s1), X.W.cell? ⟨W.heap.size, 0, none⟩ = some (.int .i64 p) := fun X => X.h.bx.c0
  have p1 : ∀ X : Kp (Sm2 W p k ao nk cap s0 s1), X.W.cell? ⟨W.heap.size + 1, 0, none⟩ = some (.int .i64 s0) := fun X => X.h.b2.c0
  have p2 : ∀ X : Kp (Sm2 W p k ao nk cap s0 s1), X.W.cell? ⟨W.heap.size + 1, 1, none⟩ = some (.int .i64 s1) := fun X => X.h.b2.c1
  have p3 : ∀ X : Kp (Sm2 W p k ao nk cap s0 s1), X.W.cell? ⟨q, 0, none⟩ = some (.int .i64 t) := fun X => (X.h.bel.cell (p := ⟨q, 0, none⟩) hq).trans c0
  have p4 : ∀ X : Kp (Sm2 W p k ao nk cap s0 s1), X.W.cell? ⟨q, 1, none⟩ = some (.int .i64 n) := fun X => (X.h.bel.cell (p := ⟨q, 1, none⟩) hq).trans c1
  have p5 : ∀ X : Kp (Sm2 W p k ao nk cap s0 s1), X.W.cell? ⟨q, 2, none⟩ = some (.slice go N gc) := fun X => (X.h.bel.cell (p := ⟨q, 2, none⟩) hq).trans c2
  have hne : Nonempty (Kp (Sm2 W p k ao nk cap s0 s1)) := ⟨⟨_, S1'⟩⟩
  refine wp_region_kept mixed (by kernel_rfl) S1' ?_
  clear S1'
  repeat (go_big_quiet_step (first | (go_at_call 98; with_reducible exact Kp.calls _ Sm2.next (HC.out _))))
  refine wpQuiet_nil ?_
  intro W1 hw1
  obtain ⟨⟨W1, HS⟩, rfl⟩ := hw1
  have HS1 : Hid (Sm2 W p k ao nk cap s0 s1 W1) := HS
  clear p0 p1 p2 p3 p4 p5 hne HS HC HS0
  cases o1 with
  | false =>
    obtain rfl : r = false := by rw [← HR.out]; unfold may; rw [HO.out]; rfl
    go_wp2_with fail
    go_ret
    exact ⟨by simp, HS1.out.bel⟩
  | true =>
    have y0 := HS1.out.bx.c0
    have y1 := HS1.out.bx.c1
    have y2 := HS1.out.bx.c2
    have y3 := HS1.out.b2.c0
    have y4 : W1.cell? ⟨q, 2, none⟩ = some (.slice go N gc) := (HS1.out.bel.cell (p := ⟨q, 2, none⟩) hq).trans c2
    have y5 : W1.cell? ⟨q, 4, none⟩ = some (.slice wa nw wc) := (HS1.out.bel.cell (p := ⟨q, 4, none⟩) hq).trans c4
    clear c0 c1 c2 c4
    by_cases h1 : s0 = 1
    · subst h1
      obtain ⟨e1, he1⟩ : ∃ e1, (k == (nw : Int)) = e1 := ⟨_, rfl⟩
      obtain ⟨e2, he2⟩ : ∃ e2, ((nk : Int) == 0) = e2 := ⟨_, rfl⟩
      have HF : Hid (r = (e1 && e2)) := by
        show _ = _
        rw [← HR.out, ← he1, ← he2]; unfold may; rw [HO.out]; simp
        by_cases ha : k = (nw : Int) <;> by_cases hb : nk = 0 <;> simp [ha, hb]
      cases e1 <;> cases e2
      all_goals
        go_wp2_with (go_quiet (fail))
        go_ret
        exact ⟨by rw [HF.out]; simp, HS1.out.bel.trans ⟨rfl, rfl, rfl, Nat.le_refl _, fun _ _ => rfl⟩⟩
    · have hb1 : (s0 == 1) = false := by simp; exact h1
      have HO2 : Hid (isPr ps p = true) := by
        have := HO.out; unfold isOf at this; rw [if_neg h1] at this; simp at this; exact this.1
      have HMY : Hid (r = (decide (k = 0) && decide (nk = (bodyOf ps p).length))) := by
        show _ = _
        rw [← HR.out]; unfold may; rw [HO.out, if_neg h1]; rfl
      clear h1
      have hle := isPr_le HO2.out
      obtain ⟨z, rfl⟩ : ∃ z : Nat, p = (z : Int) := ⟨p.toNat, by omega⟩
      obtain ⟨b, o, bo, bc, rfl, -, hbl, -, hc1, -⟩ := Pds.prod HP.out HO2.out
      simp only [Int.toNat_natCast] at hc1
      obtain ⟨bl, HBL⟩ : ∃ bl, Hid ((bodyOf ps (z : Int)).length = bl) := ⟨_, (rfl : (bodyOf ps (z : Int)).length = (bodyOf ps (z : Int)).length)⟩
      rw [HBL.out] at hc1 HMY
      replace hc1 : W1.cell? ⟨b, o + z * 2 + 1, none⟩ = _ := (HS1.out.bel.cell (p := ⟨b, o + z * 2 + 1, none⟩) hbl).trans hc1
      have hz : (z : Int) < (N : Int) := by rw [← HN.out]; exact hle.2
      have hz2 : z < N := by omega
      have hz0 : (0 : Int) ≤ (z : Int) := by omega
      clear hle
      obtain ⟨e1, he1⟩ : ∃ e1, (k == (0 : Int)) = e1 := ⟨_, rfl⟩
      obtain ⟨e2, he2⟩ : ∃ e2, ((nk : Int) == (bl : Int)) = e2 := ⟨_, rfl⟩
      have HF : Hid (r = (e1 && e2)) := by
        show _ = _
        rw [HMY.out, ← he1, ← he2]
        by_cases ha : k = 0 <;> by_cases hb : nk = bl <;> simp [ha, hb] <;> omega
      cases e1 <;> cases e2
      all_goals
        go_wp2_with (go_quiet (fail))
        go_ret
        exact ⟨by rw [HF.out]; simp, HS1.out.bel.trans ⟨rfl, rfl, rfl, Nat.le_refl _, fun _ _ => rfl⟩⟩
end Go.Proofs.Ytpfehghicaaghaa
