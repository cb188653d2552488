/-
  The contract of rex.Matches.
-/
import Derived.Test.YtdnagboonjcehaaLeads
namespace Go.Proofs.Ytdnagboonjcehaa
open Go.RowKit
open Cls Rex

/-- The plan's number of the end, put anew; and that of the first step. -/
theorem Pl.putE {B pp : Nat} {f e : Value} {ps : List St} {W : World} (h : Pl B pp f e ps W) (e' : Value) : Pl B pp f e' ps (W.setCell ⟨pp, 2, none⟩ e') := by
  obtain ⟨sv, qs, h1, h2, h3, h4⟩ := h
  refine ⟨sv, qs, ?_, row_set h2 h1 (by decide) e', h3, fun i k1 k2 => ⟨(h4 i k1 k2).1, (h4 i k1 k2).2.keep ((Keep3.refl W).set h1 (Or.inl rfl) e')⟩⟩
  have := heap_setCell_same W pp 2 _ 42 e' h1
  simpa using this
theorem Pl.putF {B pp : Nat} {f e : Value} {ps : List St} {W : World} (h : Pl B pp f e ps W) (f' : Value) : Pl B pp f' e ps (W.setCell ⟨pp, 1, none⟩ f') := by
  obtain ⟨sv, qs, h1, h2, h3, h4⟩ := h
  refine ⟨sv, qs, ?_, row_set h2 h1 (by decide) f', h3, fun i k1 k2 => ⟨(h4 i k1 k2).1, (h4 i k1 k2).2.keep ((Keep3.refl W).set h1 (Or.inl rfl) f')⟩⟩
  have := heap_setCell_same W pp 1 _ 42 f' h1
  simpa using this
theorem Pl.free {B pp : Nat} {f e : Value} {ps : List St} {W : World} (h : Pl B pp f e ps W) (j : Nat) : W.frozen? ⟨pp, j, none⟩ = false := by
  obtain ⟨sv, qs, h1, _⟩ := h
  exact frozen_of_row W pp j _ 42 h1
theorem fine0 : Fine [(empty, [])] := fun i c l h => by
  cases i with
  | zero => simp at h; obtain ⟨_, rfl⟩ := h; simp
  | succ i => simp at h
set_option maxHeartbeats 4000000 in
set_option maxRecDepth 20000 in
/-- Of a right tree and a text that is not too long. -/
theorem Matches_right (t : T) (x : E) (v : Value) (B : Nat) (s : ByteArray) (w : World) (hx : Rx w B v t) (hBw : B ≤ w.heap.size) (he : err t = 0) (hi : Is t x) (hn : x.nodes ≤ 100) (hs : s.size ≤ 200) :
    Calls Try.prog 8 #[v, .string s] w fun e' w' => ∃ b, e' = .returned (.tuple #[.bool b, .int .i64 0]) ∧ (b = true ↔ M x s.data.toList) ∧ Below w.heap.size w w' := by
  obtain ⟨k, c, ao, cap, kids, vals, rfl, _⟩ := hx.shape
  obtain ⟨n, HN⟩ : ∃ n, Hid (kids.length = n) := ⟨_, (rfl : kids.length = kids.length)⟩
  rw [HN.out] at hx ⊢
  have hb1 := box_keep w (.cells #[.int .i64 k, .int .u64 (c.1.toNat : Int), .int .u64 (c.2.1.toNat : Int), .int .u64 (c.2.2.1.toNat : Int), .int .u64 (c.2.2.2.toNat : Int), .slice ao n cap] 27)
  have hZ := block_new w (.cells #[.int .i64 k, .int .u64 (c.1.toNat : Int), .int .u64 (c.2.1.toNat : Int), .int .u64 (c.2.2.1.toNat : Int), .int .u64 (c.2.2.2.toNat : Int), .slice ao n cap] 27)
  obtain ⟨w1, HW1⟩ : ∃ w1, Hid (w.alloc (.cells #[.int .i64 k, .int .u64 (c.1.toNat : Int), .int .u64 (c.2.1.toNat : Int), .int .u64 (c.2.2.1.toNat : Int), .int .u64 (c.2.2.2.toNat : Int), .slice ao n cap] 27) = w1) := ⟨_, (rfl : w.alloc (.cells #[.int .i64 k, .int .u64 (c.1.toNat : Int), .int .u64 (c.2.1.toNat : Int), .int .u64 (c.2.2.1.toNat : Int), .int .u64 (c.2.2.2.toNat : Int), .slice ao n cap] 27) = w.alloc (.cells #[.int .i64 k, .int .u64 (c.1.toNat : Int), .int .u64 (c.2.1.toNat : Int), .int .u64 (c.2.2.1.toNat : Int), .int .u64 (c.2.2.2.toNat : Int), .slice ao n cap] 27))⟩
  rw [HW1.out] at hb1 hZ
  have hx1 := (hx.next (hb1.mono hBw)).wide (Nat.le_trans hBw hb1.size)
  have HX1 : Hid (Rx w1 w1.heap.size (.agg #[.int .i64 k, .int .u64 (c.1.toNat : Int), .int .u64 (c.2.1.toNat : Int), .int .u64 (c.2.2.1.toNat : Int), .int .u64 (c.2.2.2.toNat : Int), .slice ao n cap]) t) := hx1
  have HCK : Hid (Calls Try.prog 15 #[.agg #[.int .i64 k, .int .u64 (c.1.toNat : Int), .int .u64 (c.2.1.toNat : Int), .int .u64 (c.2.2.1.toNat : Int), .int .u64 (c.2.2.2.toNat : Int), .slice ao n cap]] w1 fun e w' => e = .returned (.int .i64 0) ∧ Below w1.heap.size w1 w') := by
    have h := Check_any t _ _ w1 hx1 (Nat.le_refl _)
    rw [he] at h
    exact h
  have z0 := cell_of_row w1 w.heap.size 0 _ 27 (0, 0) hZ
  have z1 := cell_of_row w1 w.heap.size 1 _ 27 (0, 0) hZ
  have z2 := cell_of_row w1 w.heap.size 2 _ 27 (0, 0) hZ
  have z3 := cell_of_row w1 w.heap.size 3 _ 27 (0, 0) hZ
  have z4 := cell_of_row w1 w.heap.size 4 _ 27 (0, 0) hZ
  have z5 := cell_of_row w1 w.heap.size 5 _ 27 (0, 0) hZ
  simp at z0 z1 z2 z3 z4 z5
  clear hx hx1
  go_enter Try.func8, Try.ntmps8
  go_wp2_with fail
  rw [HW1.out]
  refine HCK.out.mono ?_
  rintro e1 w2 ⟨rfl, hb2⟩
  obtain ⟨pp, HPP⟩ : ∃ pp, Hid (w2.heap.size = pp) := ⟨_, (rfl : w2.heap.size = w2.heap.size)⟩
  have hb3 := box_keep w2 (.cells #[.slice none 0 0, .int .i64 0, .int .i64 0] 42)
  have hZ2 := block_new w2 (.cells #[.slice none 0 0, .int .i64 0, .int .i64 0] 42)
  obtain ⟨wp, HWP⟩ : ∃ wp, Hid (w2.alloc (.cells #[.slice none 0 0, .int .i64 0, .int .i64 0] 42) = wp) := ⟨_, (rfl : w2.alloc (.cells #[.slice none 0 0, .int .i64 0, .int .i64 0] 42) = w2.alloc (.cells #[.slice none 0 0, .int .i64 0, .int .i64 0] 42))⟩
  have hsz : wp.heap.size = w2.heap.size + 1 := by rw [← HWP.out]; simp
  rw [HWP.out] at hb3 hZ2
  rw [HPP.out] at hZ2 hsz hb3
  have hP0 : Pl pp pp (.int .i64 0) (.int .i64 0) [] wp := ⟨.slice none 0 0, [], hZ2, World.ownsRow_nil _ _ _ _, rfl, fun i h => absurd h (Nat.not_lt_zero _)⟩
  have HL0 : Hid (Calls Try.prog 18 #[.pointer (some ⟨pp, 0, none⟩), .agg #[.int .u64 0, .int .u64 0, .int .u64 0, .int .u64 0, .slice none 0 0]] wp fun e' w' => e' = .returned (.int .i64 0) ∧ Pl pp pp (.int .i64 0) (.int .i64 0) [(empty, [])] w' ∧ Below pp wp w' ∧ Keep3 wp w') := lay_empty pp pp _ _ [] wp hP0 (Nat.le_refl _) (by omega) (by simp)
  have hlt : w.heap.size < w1.heap.size := blk_lt hZ
  have hlt2 : w1.heap.size ≤ pp := by rw [← HPP.out]; exact hb2.size
  have HB12 : Hid (Below w1.heap.size w1 wp) := hb2.trans (hb3.mono hlt2)
  have hn200 : ¬ (200 < s.size) := by omega
  clear hP0 hb3 hZ2 hb2
  go_wp2_with fail
  rw [HPP.out, HWP.out]
  refine HL0.out.mono ?_
  rintro e1 W3 ⟨rfl, hP3, hB3, hK3⟩
  have HB3 : Hid (Below w1.heap.size w1 W3 ∧ pp < W3.heap.size) := ⟨HB12.out.trans (hB3.mono hlt2), by have := hB3.size; omega⟩
  have y0 := (HB3.out.1.cell (p := ⟨w.heap.size, 0, none⟩) hlt).trans z0
  have y1 := (HB3.out.1.cell (p := ⟨w.heap.size, 1, none⟩) hlt).trans z1
  have y2 := (HB3.out.1.cell (p := ⟨w.heap.size, 2, none⟩) hlt).trans z2
  have y3 := (HB3.out.1.cell (p := ⟨w.heap.size, 3, none⟩) hlt).trans z3
  have y4 := (HB3.out.1.cell (p := ⟨w.heap.size, 4, none⟩) hlt).trans z4
  have y5 := (HB3.out.1.cell (p := ⟨w.heap.size, 5, none⟩) hlt).trans z5
  have f2 := hP3.free 2
  have x2 := hP3.nums.2
  have HP4 : Hid (Pl pp pp (.int .i64 0) (.int .i64 0) [(empty, [])] (W3.setCell ⟨pp, 2, none⟩ (.int .i64 0))) := hP3.putE _
  have hB4 : Below pp W3 (W3.setCell ⟨pp, 2, none⟩ (.int .i64 0)) := (Below.refl pp W3).setCell (p := ⟨pp, 2, none⟩) (Nat.le_refl _) _
  have HB4 : Hid (Below w1.heap.size w1 (W3.setCell ⟨pp, 2, none⟩ (.int .i64 0))) := HB3.out.1.trans (hB4.mono hlt2)
  have hs4 : pp ≤ (W3.setCell ⟨pp, 2, none⟩ (.int .i64 0)).heap.size := by have := hB4.size; have := HB3.out.2; omega
  have HLX : Hid (Calls Try.prog 19 #[.pointer (some ⟨pp, 0, none⟩), .agg #[.int .i64 k, .int .u64 (c.1.toNat : Int), .int .u64 (c.2.1.toNat : Int), .int .u64 (c.2.2.1.toNat : Int), .int .u64 (c.2.2.2.toNat : Int), .slice ao n cap], .int .i64 0] (W3.setCell ⟨pp, 2, none⟩ (.int .i64 0)) fun e' w' => e' = .returned (.int .i64 ((plan x).2 : Int)) ∧ Pl pp pp (.int .i64 0) (.int .i64 0) (plan x).1 w' ∧ Below pp (W3.setCell ⟨pp, 2, none⟩ (.int .i64 0)) w' ∧ Keep3 (W3.setCell ⟨pp, 2, none⟩ (.int .i64 0)) w') := layRex_any hi _ [(empty, [])] 0 pp pp _ _ _ ((HX1.out.next HB4.out).wide hlt2) HP4.out (Nat.le_refl _) hs4 (by simp only [List.length_cons, List.length_nil]; omega)
  have hne : w.heap.size ≠ pp := by omega
  clear z0 z1 z2 z3 z4 z5 hP3 hB3 hK3 HL0
  obtain ⟨r, HRV⟩ : ∃ r, Hid ((plan x).2 = r) := ⟨_, (rfl : (plan x).2 = (plan x).2)⟩
  rw [HRV.out] at HLX
  clear hB4 hs4
  go_wp2_with fail
  refine HLX.out.mono ?_
  rintro e1 W5 ⟨rfl, hP5, hB5, hK5⟩
  have x1 := hP5.nums.1
  have f1 := hP5.free 1
  have hB6 : Below pp W5 (W5.setCell ⟨pp, 1, none⟩ (.int .i64 (r : Int))) := (Below.refl pp W5).setCell (p := ⟨pp, 1, none⟩) (Nat.le_refl _) _
  have HB6 : Hid (Below w1.heap.size w1 (W5.setCell ⟨pp, 1, none⟩ (.int .i64 (r : Int)))) := HB4.out.trans ((hB5.trans hB6).mono hlt2)
  have HLD : Hid (Calls Try.prog 20 #[.pointer (some ⟨pp, 0, none⟩), .string s] (W5.setCell ⟨pp, 1, none⟩ (.int .i64 (r : Int))) fun e' w' => ∃ b, e' = .returned (.bool b) ∧ (b = true ↔ Acc (plan x).1 0 s.data.toList r 0) ∧ Below (W5.setCell ⟨pp, 1, none⟩ (.int .i64 (r : Int))).heap.size (W5.setCell ⟨pp, 1, none⟩ (.int .i64 (r : Int))) w') :=
    leads_any pp pp r 0 (plan x).1 s _ (hP5.putF _) (lay_fine x _ 0 fine0 (by simp)) (by have := (lay_len x [(empty, [])] 0).2; unfold plan; simp only [List.length_cons, List.length_nil] at this; omega) hs (by rw [← HRV.out]; exact lay_entry x [(empty, [])] 0 (by simp))
  clear hP5 hB5 hK5 hB6 y0 y1 y2 y3 y4 y5 f2 x2 HLX
  go_wp2_with fail
  refine HLD.out.mono ?_
  rintro e1 W7 ⟨b, rfl, hb, hB7⟩
  have HBB : Hid (b = true ↔ M x s.data.toList) := by
    show _ ↔ _
    rw [hb, ← HRV.out]; exact plan_means x hi.ok _
  have HB7 : Hid (Below w.heap.size w W7) := hb1.trans ((HB6.out.trans (hB7.mono HB6.out.size)).mono (Nat.le_of_lt hlt))
  clear hb hB7
  go_wp2_with fail
  go_ret2
  exact ⟨b, rfl, HBB.out, HB7.out⟩
set_option maxHeartbeats 4000000 in
set_option maxRecDepth 20000 in
/-- Of a tree that is not right. -/
theorem Matches_wrong (t : T) (v : Value) (B : Nat) (s : ByteArray) (w : World) (hx : Rx w B v t) (hBw : B ≤ w.heap.size) (ec : Nat) (he : err t = ec) (h0 : ec ≠ 0) :
    Calls Try.prog 8 #[v, .string s] w fun e' w' => e' = .returned (.tuple #[.bool false, .int .i64 (ec : Int)]) ∧ Below w.heap.size w w' := by
  obtain ⟨k, c, ao, cap, kids, vals, rfl, _⟩ := hx.shape
  obtain ⟨n, HN⟩ : ∃ n, Hid (kids.length = n) := ⟨_, (rfl : kids.length = kids.length)⟩
  rw [HN.out] at hx ⊢
  have hb1 := box_keep w (.cells #[.int .i64 k, .int .u64 (c.1.toNat : Int), .int .u64 (c.2.1.toNat : Int), .int .u64 (c.2.2.1.toNat : Int), .int .u64 (c.2.2.2.toNat : Int), .slice ao n cap] 27)
  obtain ⟨w1, HW1⟩ : ∃ w1, Hid (w.alloc (.cells #[.int .i64 k, .int .u64 (c.1.toNat : Int), .int .u64 (c.2.1.toNat : Int), .int .u64 (c.2.2.1.toNat : Int), .int .u64 (c.2.2.2.toNat : Int), .slice ao n cap] 27) = w1) := ⟨_, (rfl : w.alloc (.cells #[.int .i64 k, .int .u64 (c.1.toNat : Int), .int .u64 (c.2.1.toNat : Int), .int .u64 (c.2.2.1.toNat : Int), .int .u64 (c.2.2.2.toNat : Int), .slice ao n cap] 27) = w.alloc (.cells #[.int .i64 k, .int .u64 (c.1.toNat : Int), .int .u64 (c.2.1.toNat : Int), .int .u64 (c.2.2.1.toNat : Int), .int .u64 (c.2.2.2.toNat : Int), .slice ao n cap] 27))⟩
  rw [HW1.out] at hb1
  have hx1 := (hx.next (hb1.mono hBw)).wide (Nat.le_trans hBw hb1.size)
  have HCK : Hid (Calls Try.prog 15 #[.agg #[.int .i64 k, .int .u64 (c.1.toNat : Int), .int .u64 (c.2.1.toNat : Int), .int .u64 (c.2.2.1.toNat : Int), .int .u64 (c.2.2.2.toNat : Int), .slice ao n cap]] w1 fun e w' => e = .returned (.int .i64 (ec : Int)) ∧ Below w1.heap.size w1 w') := by
    have h := Check_any t _ _ w1 hx1 (Nat.le_refl _)
    rw [he] at h
    exact h
  clear hx hx1
  have hq : ((ec : Int) == 0) = false := by simp; omega
  clear he h0
  go_enter Try.func8, Try.ntmps8
  go_wp2_with fail
  rw [HW1.out]
  refine HCK.out.mono ?_
  rintro e1 w2 ⟨rfl, hb2⟩
  have HB2 : Hid (Below w.heap.size w w2) := hb1.trans (hb2.mono hb1.size)
  clear hb2
  go_wp2_with fail
  go_ret2
  exact ⟨rfl, HB2.out⟩
set_option maxHeartbeats 4000000 in
set_option maxRecDepth 20000 in
/-- Of a text that is too long. -/
theorem Matches_long (t : T) (v : Value) (B : Nat) (s : ByteArray) (w : World) (hx : Rx w B v t) (hBw : B ≤ w.heap.size) (he : err t = 0) (hs : 200 < s.size) :
    Calls Try.prog 8 #[v, .string s] w fun e' w' => e' = .returned (.tuple #[.bool false, .int .i64 2]) ∧ Below w.heap.size w w' := by
  obtain ⟨k, c, ao, cap, kids, vals, rfl, _⟩ := hx.shape
  obtain ⟨n, HN⟩ : ∃ n, Hid (kids.length = n) := ⟨_, (rfl : kids.length = kids.length)⟩
  rw [HN.out] at hx ⊢
  have hb1 := box_keep w (.cells #[.int .i64 k, .int .u64 (c.1.toNat : Int), .int .u64 (c.2.1.toNat : Int), .int .u64 (c.2.2.1.toNat : Int), .int .u64 (c.2.2.2.toNat : Int), .slice ao n cap] 27)
  obtain ⟨w1, HW1⟩ : ∃ w1, Hid (w.alloc (.cells #[.int .i64 k, .int .u64 (c.1.toNat : Int), .int .u64 (c.2.1.toNat : Int), .int .u64 (c.2.2.1.toNat : Int), .int .u64 (c.2.2.2.toNat : Int), .slice ao n cap] 27) = w1) := ⟨_, (rfl : w.alloc (.cells #[.int .i64 k, .int .u64 (c.1.toNat : Int), .int .u64 (c.2.1.toNat : Int), .int .u64 (c.2.2.1.toNat : Int), .int .u64 (c.2.2.2.toNat : Int), .slice ao n cap] 27) = w.alloc (.cells #[.int .i64 k, .int .u64 (c.1.toNat : Int), .int .u64 (c.2.1.toNat : Int), .int .u64 (c.2.2.1.toNat : Int), .int .u64 (c.2.2.2.toNat : Int), .slice ao n cap] 27))⟩
  rw [HW1.out] at hb1
  have hx1 := (hx.next (hb1.mono hBw)).wide (Nat.le_trans hBw hb1.size)
  have HCK : Hid (Calls Try.prog 15 #[.agg #[.int .i64 k, .int .u64 (c.1.toNat : Int), .int .u64 (c.2.1.toNat : Int), .int .u64 (c.2.2.1.toNat : Int), .int .u64 (c.2.2.2.toNat : Int), .slice ao n cap]] w1 fun e w' => e = .returned (.int .i64 0) ∧ Below w1.heap.size w1 w') := by
    have h := Check_any t _ _ w1 hx1 (Nat.le_refl _)
    rw [he] at h
    exact h
  clear hx hx1
  go_enter Try.func8, Try.ntmps8
  go_wp2_with fail
  rw [HW1.out]
  refine HCK.out.mono ?_
  rintro e1 w2 ⟨rfl, hb2⟩
  have HB2 : Hid (Below w.heap.size w w2) := hb1.trans (hb2.mono hb1.size)
  clear hb2
  go_wp2_with fail
  go_ret2
  exact ⟨rfl, HB2.out⟩
end Go.Proofs.Ytdnagboonjcehaa
