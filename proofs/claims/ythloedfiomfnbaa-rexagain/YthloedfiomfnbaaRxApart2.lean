/-
  The contract of rex.apart, whole.
-/
import Derived.Test.YthloedfiomfnbaaRxApart
import Derived.LoopN
namespace Go.Proofs.Ythloedfiomfnbaa
open Go.RowKit
open Cls Rex

set_option maxHeartbeats 1600000 in
set_option maxRecDepth 20000 in
theorem clone_zero (a : Addr) (cap : Nat) (w : World) :
    Calls Try.prog 38 #[.slice (some a) 0 cap] w fun e w' => ∃ a2 c2, e = .returned (.slice a2 0 c2) ∧ Below w.heap.size w w' := by
  obtain ⟨i3, hi3, hz3, hs3, hb3⟩ := info_parts info27
  have H3 : Hid (Try.prog.info? 27 = some i3 ∧ i3.zero = some (.agg #[.int .i64 0, .int .u64 0, .int .u64 0, .int .u64 0, .int .u64 0, .slice none 0 0]) ∧ i3.size = 6 ∧ i3.bytes = 64) := ⟨hi3, hz3, hs3, hb3⟩
  clear hi3 hz3 hs3 hb3
  have q25 : ∀ (w : World) (a : Option Addr) (n c n' c' : Nat), (binOp .eql 25 (.slice a n c) (.slice none n' c')).run Try.prog w = .ok (.bool a.isNone) w := fun w a n c n' c' => Go.Lib.run_eql_slice_nil w _ _ a n c n' c' Try.underlying25
  go_enter Try.func38, Try.ntmps38
  go_wp2_with (at_builtin; refine wpList_append_own _ rfl _ _ 25 rfl w.heap.size 27 i3 (.agg #[.int .i64 0, .int .u64 0, .int .u64 0, .int .u64 0, .int .u64 0, .slice none 0 0]) 6 64 Try.underlying25 H3.out.1 H3.out.2.1 H3.out.2.2.1 H3.out.2.2.2 rfl (by omega) _ _ _ rfl (World.ownsRow_made w #[] 0 (Nat.le_refl _) (Nat.zero_le _) (by simp)) a 0 cap [] rfl ?qc1 ?qc2 ?qc3 ?qc4 ?qc5 ?qc6 ?_)
  case qc1 => rfl
  case qc2 =>
    intro j u hj
    simp at hj
  case qc3 => intro u hu; simp at hu
  case qc4 => simp [maxLen]
  case qc5 => omega
  case qc6 => simp
  intro v' w1 hown hgrow hnil
  have HO : Hid (w1.ownsRow w.heap.size 27 6 v' 0 []) := by
    show World.ownsRow _ _ _ _ _ _ _
    simpa using hown
  have HB : Hid (Below w.heap.size w w1) := ((Below.refl _ w).alloc (Nat.le_refl _) _).grown hgrow (by simp) (by intro k hk; simp [Value.ownBlock] at hk; omega)
  obtain ⟨a2, c2, rfl⟩ : ∃ a2 c2, v' = .slice a2 0 c2 := by
    obtain ⟨_, ⟨e1, e2⟩ | ⟨g, cp, cur, hv, _⟩⟩ := HO.out
    · exact ⟨none, 0, by rw [e1, e2]⟩
    · exact ⟨_, cp, hv⟩
  clear hown hgrow hnil
  go_wp2_with fail
  go_ret
  exact ⟨a2, c2, rfl, HB.out⟩

theorem clone_empty (ao : Option Addr) (cap : Nat) (w : World) : Calls Try.prog 38 #[.slice ao 0 cap] w fun e w' => ∃ a2 c2, e = .returned (.slice a2 0 c2) ∧ Below w.heap.size w w' := by
  cases ao with
  | none => exact (clone_none 0 cap w).mono fun _ _ ⟨h1, h2⟩ => ⟨none, 0, h1, by rw [h2]; exact Below.refl _ _⟩
  | some a => exact clone_zero a cap w
set_option maxHeartbeats 6400000 in
set_option maxRecDepth 20000 in
theorem apart_leaf (k : Int) (c : Cl) (hk : -9223372036854775808 ≤ k ∧ k ≤ 9223372036854775807) (ao : Option Addr) (cap : Nat) (w : World) :
    Calls Try.prog 27 #[.agg #[.int .i64 k, .int .u64 (c.1.toNat : Int), .int .u64 (c.2.1.toNat : Int), .int .u64 (c.2.2.1.toNat : Int), .int .u64 (c.2.2.2.toNat : Int), .slice ao 0 cap]] w fun e w' => ∃ q : R6, e = .returned (v6 q) ∧ Ry w' (fun b => w.heap.size ≤ b ∧ b < w'.heap.size) (v6 q) (.mk k c []) ∧ Below w.heap.size w w' := by
  have HK : Hid (-9223372036854775808 ≤ k ∧ k ≤ 9223372036854775807) := hk
  obtain ⟨e0, e1, e2, e3⟩ := two_blks w (Obj.cells #[.int .i64 k, .int .u64 (c.1.toNat : Int), .int .u64 (c.2.1.toNat : Int), .int .u64 (c.2.2.1.toNat : Int), .int .u64 (c.2.2.2.toNat : Int), .slice ao 0 cap] 27) (Obj.cells #[.int .i64 0, .int .u64 0, .int .u64 0, .int .u64 0, .int .u64 0, .slice none 0 0] 27)
  have HE : Hid (((w.alloc (Obj.cells #[.int .i64 k, .int .u64 (c.1.toNat : Int), .int .u64 (c.2.1.toNat : Int), .int .u64 (c.2.2.1.toNat : Int), .int .u64 (c.2.2.2.toNat : Int), .slice ao 0 cap] 27)).alloc (Obj.cells #[.int .i64 0, .int .u64 0, .int .u64 0, .int .u64 0, .int .u64 0, .slice none 0 0] 27)).heap[w.heap.size]? = some (Obj.cells #[.int .i64 k, .int .u64 (c.1.toNat : Int), .int .u64 (c.2.1.toNat : Int), .int .u64 (c.2.2.1.toNat : Int), .int .u64 (c.2.2.2.toNat : Int), .slice ao 0 cap] 27) ∧ ((w.alloc (Obj.cells #[.int .i64 k, .int .u64 (c.1.toNat : Int), .int .u64 (c.2.1.toNat : Int), .int .u64 (c.2.2.1.toNat : Int), .int .u64 (c.2.2.2.toNat : Int), .slice ao 0 cap] 27)).alloc (Obj.cells #[.int .i64 0, .int .u64 0, .int .u64 0, .int .u64 0, .int .u64 0, .slice none 0 0] 27)).heap[w.heap.size + 1]? = some (Obj.cells #[.int .i64 0, .int .u64 0, .int .u64 0, .int .u64 0, .int .u64 0, .slice none 0 0] 27) ∧ Below w.heap.size w ((w.alloc (Obj.cells #[.int .i64 k, .int .u64 (c.1.toNat : Int), .int .u64 (c.2.1.toNat : Int), .int .u64 (c.2.2.1.toNat : Int), .int .u64 (c.2.2.2.toNat : Int), .slice ao 0 cap] 27)).alloc (Obj.cells #[.int .i64 0, .int .u64 0, .int .u64 0, .int .u64 0, .int .u64 0, .slice none 0 0] 27)) ∧ ((w.alloc (Obj.cells #[.int .i64 k, .int .u64 (c.1.toNat : Int), .int .u64 (c.2.1.toNat : Int), .int .u64 (c.2.2.1.toNat : Int), .int .u64 (c.2.2.2.toNat : Int), .slice ao 0 cap] 27)).alloc (Obj.cells #[.int .i64 0, .int .u64 0, .int .u64 0, .int .u64 0, .int .u64 0, .slice none 0 0] 27)).heap.size = w.heap.size + 2) := ⟨e0, e1, e2, e3⟩
  have x5 := cell_of e0 5
  simp only [List.getElem?_toArray, List.getElem?_cons_zero, List.getElem?_cons_succ] at x5
  clear e0 e1 e2 e3 hk
  go_enter Try.func27, Try.ntmps27
  go_wp2_with fail
  refine (clone_empty ao cap _).mono ?_
  rintro _ w3 ⟨a2, c2, rfl, hb3⟩
  have hbx : w3.heap[w.heap.size]? = some (Obj.cells #[.int .i64 k, .int .u64 (c.1.toNat : Int), .int .u64 (c.2.1.toNat : Int), .int .u64 (c.2.2.1.toNat : Int), .int .u64 (c.2.2.2.toNat : Int), .slice ao 0 cap] 27) := blk_on HE.out.1 hb3
  have hbz : w3.heap[w.heap.size + 1]? = some (Obj.cells #[.int .i64 0, .int .u64 0, .int .u64 0, .int .u64 0, .int .u64 0, .slice none 0 0] 27) := blk_on HE.out.2.1 hb3
  have y5 := cell_of hbx 5
  have f5 := free_of hbx 5
  have hst := blk_store (i := 5) hbx (.slice a2 0 c2)
  simp only [List.setIfInBounds_toArray, List.set_cons_zero, List.set_cons_succ, List.getElem?_toArray, List.getElem?_cons_zero, List.getElem?_cons_succ] at y5 hst
  obtain ⟨w4, HW4⟩ : ∃ w4, Hid ((w3.setCell ⟨w.heap.size, 5, none⟩ (.slice a2 0 c2)) = w4) := ⟨_, (rfl : _ = _)⟩
  have HZ : Hid (w4.heap[w.heap.size + 1]? = some (Obj.cells #[.int .i64 0, .int .u64 0, .int .u64 0, .int .u64 0, .int .u64 0, .slice none 0 0] 27)) := by
    show _ = _
    rw [← HW4.out, Below.heap_setCell _ _ _ _ (by simp)]; exact hbz
  have HB4 : Hid (Below w.heap.size w w4) := by
    show Below _ _ _
    rw [← HW4.out]
    exact (HE.out.2.2.1.trans (hb3.mono HE.out.2.2.1.size)).setCell (p := ⟨w.heap.size, 5, none⟩) (Nat.le_refl _) _
  rw [HW4.out] at hst
  have c0' := cell_of hst 0
  have z0 := cell_of HZ.out 0
  have g0 := free_of HZ.out 0
  have c1' := cell_of hst 1
  have z1 := cell_of HZ.out 1
  have g1 := free_of HZ.out 1
  have c2' := cell_of hst 2
  have z2 := cell_of HZ.out 2
  have g2 := free_of HZ.out 2
  have c3' := cell_of hst 3
  have z3 := cell_of HZ.out 3
  have g3 := free_of HZ.out 3
  have c4' := cell_of hst 4
  have z4 := cell_of HZ.out 4
  have g4 := free_of HZ.out 4
  have c5' := cell_of hst 5
  have z5 := cell_of HZ.out 5
  have g5 := free_of HZ.out 5
  simp only [List.getElem?_toArray, List.getElem?_cons_zero, List.getElem?_cons_succ] at c0' z0 c1' z1 c2' z2 c3' z3 c4' z4 c5' z5
  have u5 := c5'
  rw [← HW4.out] at u5
  clear hb3 hbx hbz hst x5
  go_upto_region 2 with (fail)
  rw [HW4.out]
  go_wp2_with fail
  clear u5 y5 f5
  refine wp_loop_rounds 1 ?_
  rw [rounds_succ]
  go_wp2_with fail
  obtain ⟨wf, HWF⟩ : ∃ wf, Hid (((((((w4.setCell ⟨w.heap.size + 1, 0, none⟩ (.int .i64 k)).setCell ⟨w.heap.size + 1, 1, none⟩ (.int .u64 (c.1.toNat : Int))).setCell ⟨w.heap.size + 1, 2, none⟩ (.int .u64 (c.2.1.toNat : Int))).setCell ⟨w.heap.size + 1, 3, none⟩ (.int .u64 (c.2.2.1.toNat : Int))).setCell ⟨w.heap.size + 1, 4, none⟩ (.int .u64 (c.2.2.2.toNat : Int))).setCell ⟨w.heap.size + 1, 5, none⟩ (.slice a2 0 c2)) = wf) := ⟨_, (rfl : _ = _)⟩
  have HR6 : Hid (wf.heap[w.heap.size + 1]? = some (Obj.cells #[.int .i64 k, .int .u64 (c.1.toNat : Int), .int .u64 (c.2.1.toNat : Int), .int .u64 (c.2.2.1.toNat : Int), .int .u64 (c.2.2.2.toNat : Int), .slice a2 0 c2] 27)) := by
    show _ = _
    rw [← HWF.out]
    have r6 := blk_store (i := 5) (blk_store (i := 4) (blk_store (i := 3) (blk_store (i := 2) (blk_store (i := 1) (blk_store (i := 0) HZ.out (.int .i64 k)) (.int .u64 (c.1.toNat : Int))) (.int .u64 (c.2.1.toNat : Int))) (.int .u64 (c.2.2.1.toNat : Int))) (.int .u64 (c.2.2.2.toNat : Int))) (.slice a2 0 c2)
    simpa only [List.setIfInBounds_toArray, List.set_cons_zero, List.set_cons_succ] using r6
  have HBL : Hid (Below w.heap.size w wf) := by
    show Below _ _ _
    rw [← HWF.out]
    have h1 : w.heap.size ≤ w.heap.size + 1 := by omega
    exact ((((((HB4.out).setCell (p := ⟨w.heap.size + 1, 0, none⟩) h1 _).setCell (p := ⟨w.heap.size + 1, 1, none⟩) h1 _).setCell (p := ⟨w.heap.size + 1, 2, none⟩) h1 _).setCell (p := ⟨w.heap.size + 1, 3, none⟩) h1 _).setCell (p := ⟨w.heap.size + 1, 4, none⟩) h1 _).setCell (p := ⟨w.heap.size + 1, 5, none⟩) h1 _
  rw [HWF.out]
  have v0 := cell_of HR6.out 0
  have v1 := cell_of HR6.out 1
  have v2 := cell_of HR6.out 2
  have v3 := cell_of HR6.out 3
  have v4 := cell_of HR6.out 4
  have v5 := cell_of HR6.out 5
  simp only [List.getElem?_toArray, List.getElem?_cons_zero, List.getElem?_cons_succ] at v0 v1 v2 v3 v4 v5
  exact bodyPost_ret (v := .agg #[.int .i64 k, .int .u64 (c.1.toNat : Int), .int .u64 (c.2.1.toNat : Int), .int .u64 (c.2.2.1.toNat : Int), .int .u64 (c.2.2.2.toNat : Int), .slice a2 0 c2]) (by simp [results, Try.results27, go_sem, v0, v1, v2, v3, v4, v5]) rfl ⟨(k, c, a2, 0, c2), rfl, Ry.mk k c a2 c2 [] (fun _ => undef) HK.out (by simp) (Or.inl rfl) (fun i hi => absurd hi (by simp)), HBL.out⟩
/-- apart, of every tree that is not too large. -/
theorem apart_any (t : T) (h200 : t.sz ≤ 200) (v : Value) (w : World) (hx : Rx w w.heap.size v t) : Calls Try.prog 27 #[v] w fun e w' => ∃ q : R6, e = .returned (v6 q) ∧ Ry w' (fun b => w.heap.size ≤ b ∧ b < w'.heap.size) (v6 q) t ∧ Below w.heap.size w w' := by
  suffices H : ∀ (m : Nat) (t : T), t.sz ≤ m → t.sz ≤ 200 → ∀ (v : Value) (w : World), Rx w w.heap.size v t → Calls Try.prog 27 #[v] w fun e w' => ∃ q : R6, e = .returned (v6 q) ∧ Ry w' (fun b => w.heap.size ≤ b ∧ b < w'.heap.size) (v6 q) t ∧ Below w.heap.size w w' from H t.sz t (Nat.le_refl _) h200 v w hx
  intro m
  induction m with
  | zero => intro t hm; have := t.sz_pos; omega
  | succ m ih =>
    intro t hm h2 v w hx
    by_cases hne : t.kids = []
    · obtain ⟨k, c, ao, cap, kids, vals, rfl, rfl, hk, hkm, hc, hr⟩ := hx.shape
      simp only [T.kids] at hne
      subst hne
      exact apart_leaf k c hk ao cap w
    · exact apart_all (m + 1) t hm h2 hne (fun s hs v w hx => ih s (by omega) (by omega) v w hx) v w hx
end Go.Proofs.Ythloedfiomfnbaa
