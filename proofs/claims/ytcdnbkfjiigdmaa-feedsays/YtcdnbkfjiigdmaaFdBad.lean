/-
  The contracts of feed.Feed and feed.End where something is wrong ahead of all.
-/
import Derived.Test.YtcdnbkfjiigdmaaFdEnd
namespace Go.Proofs.Ytcdnbkfjiigdmaa
open Go.RowKit
open Dfa

set_option maxHeartbeats 4000000 in
set_option maxRecDepth 20000 in
theorem feed_bad (O : Nat → Nat) (nv tv : Value) (n m : Nat) (L : Nat → Nat) (X : Nat → Nat → Int) (T : Nat → Int) (ia : Int) (b0 s : ByteArray) (o er : Int) (w : World) (hO : ∀ j, O j < 256) (hx : Nx w nv n L X) (ht : Ts w tv m T) (hb : b0.size ≤ 281474976710656) (he : (chkH (chkP n m O L X T) ia b0.size o ≠ 0 ∧ chkH (chkP n m O L X T) ia b0.size o = er) ∨ (chkH (chkP n m O L X T) ia b0.size o = 0 ∧ 2000 < s.size ∧ er = 2)) :
    Calls Try.prog 5 #[.agg (pl O nv tv).toArray, .agg #[.int .i64 ia, .string b0, .int .i64 o], .string s] w fun e w' => e = .returned (.tuple #[.agg #[.int .i64 ia, .string b0, .int .i64 o], .slice none 0 0, .int .i64 er]) ∧ Below w.heap.size w w' := by
  have HLN : Hid ((pl O nv tv).length = 258) := pl_length _ _ _
  obtain ⟨l, HLL⟩ : ∃ l, Hid (pl O nv tv = l) := ⟨_, (rfl : _ = _)⟩
  rw [HLL.out] at HLN ⊢
  have HSI : Hid ((Try.prog.info? 26).map (·.size) = some l.length) := by show _ = _; rw [HLN.out]; exact size26
  obtain ⟨w3, HW3⟩ : ∃ q, Hid (((w.alloc (Obj.cells l.toArray 26)).alloc (Obj.cells #[.int .i64 ia, .string b0, .int .i64 o] 29)).alloc (Obj.cells #[.int .i64 0, .string ⟨#[]⟩, .int .i64 0] 29) = q) := ⟨_, (rfl : _ = _)⟩
  have hB3 : Below w.heap.size w w3 := by rw [← HW3.out]; exact (((Below.refl _ _).alloc (Nat.le_refl _) _).alloc (by simp) _).alloc (by simp <;> omega) _
  have hg0 : w3.rangeAt w.heap.size 0 l := by
    rw [← HW3.out]
    intro j u hu
    exact Go.Lib.cell?_alloc_some _ (Go.Lib.cell?_alloc_some _ (range_block w l 26 j u hu))
  have hg1 : w3.heap[w.heap.size + 1]? = some (.cells #[.int .i64 ia, .string b0, .int .i64 o] 29 (0, 0)) := by
    have := heap_alloc_new (w.alloc (Obj.cells l.toArray 26)) (Obj.cells #[.int .i64 ia, .string b0, .int .i64 o] 29)
    rw [World.size_alloc] at this
    rw [← HW3.out]; exact (Below.heap_alloc _ _ _ (by simp)).trans this
  have hg2 : w3.heap[w.heap.size + 2]? = some (.cells #[.int .i64 0, .string ⟨#[]⟩, .int .i64 0] 29 (0, 0)) := by
    have := heap_alloc_new ((w.alloc (Obj.cells l.toArray 26)).alloc (Obj.cells #[.int .i64 ia, .string b0, .int .i64 o] 29)) (Obj.cells #[.int .i64 0, .string ⟨#[]⟩, .int .i64 0] 29)
    rw [World.size_alloc, World.size_alloc] at this
    rw [← HW3.out]; exact this
  have hs3 : w3.heap.size = w.heap.size + 3 := by rw [← HW3.out]; simp
  have HQ := checkH_any O nv tv n m L X T ia b0 o w3 hO (hx.below hB3 (Nat.le_refl _)) (ht.below hB3 (Nat.le_refl _))
  rw [HLL.out] at HQ
  obtain ⟨c, HC⟩ : ∃ q, Hid (chkH (chkP n m O L X T) ia b0.size o = q) := ⟨_, (rfl : _ = _)⟩
  rw [HC.out] at HQ he
  have HG3 : Hid (w3.rangeAt w.heap.size 0 l ∧ w3.heap[w.heap.size + 1]? = some (.cells #[.int .i64 ia, .string b0, .int .i64 o] 29 (0, 0)) ∧ w3.heap[w.heap.size + 2]? = some (.cells #[.int .i64 0, .string ⟨#[]⟩, .int .i64 0] 29 (0, 0)) ∧ w3.heap.size = w.heap.size + 3 ∧ Below w.heap.size w w3) := ⟨hg0, hg1, hg2, hs3, hB3⟩
  have x0 := block_cell hg1 0
  have x1 := block_cell hg1 1
  have x2 := block_cell hg1 2
  simp only [List.getElem?_toArray, List.getElem?_cons_zero, List.getElem?_cons_succ] at x0 x1 x2
  clear hO hx ht hg0 hg1 hg2 hs3 hB3 HC
  go_enter Try.func5, Try.ntmps5
  go_upto_region 1 with fail
  rw [HW3.out]
  clear HW3
  go_wp2_with (refine wpList_load_mid rfl 26 _ rfl w.heap.size 0 rfl l _ HG3.out.1 Try.underlying26 rfl HSI.out ?_)
  refine HQ.mono ?_
  rintro _ w4 ⟨rfl, hbb⟩
  clear x0 x1 x2 HQ
  have hg1 := (hbb.block (w.heap.size + 1) (by have := HG3.out.2.2.2.1; omega)).trans HG3.out.2.1
  have hg2 := (hbb.block (w.heap.size + 2) (by have := HG3.out.2.2.2.1; omega)).trans HG3.out.2.2.1
  have hs4 : w.heap.size + 2 < w4.heap.size := by have := hbb.size; have := HG3.out.2.2.2.1; omega
  have hB4 : Below w.heap.size w w4 := HG3.out.2.2.2.2.trans (hbb.mono HG3.out.2.2.2.2.size)
  have HG4 : Hid (w4.heap[w.heap.size + 2]? = some (.cells #[.int .i64 0, .string ⟨#[]⟩, .int .i64 0] 29 (0, 0)) ∧ w.heap.size + 2 < w4.heap.size ∧ Below w.heap.size w w4) := ⟨hg2, hs4, hB4⟩
  have x0 := block_cell hg1 0
  have x1 := block_cell hg1 1
  have x2 := block_cell hg1 2
  simp only [List.getElem?_toArray, List.getElem?_cons_zero, List.getElem?_cons_succ] at x0 x1 x2
  have hcp := copied_any ia b0 o w4 hb
  clear hbb hg1 hg2 hs4 hB4 HG3
  rcases he with ⟨h0, rfl⟩ | ⟨rfl, h2, rfl⟩
  · have hc0 : (c == 0) = false := by simp [h0]
    have hc1 : (c != 0) = true := by simp [h0]
    go_wp2_with fail
    refine hcp.mono ?_
    rintro _ w5 ⟨rfl, hbb⟩
    have hg2 := (hbb.block (w.heap.size + 2) HG4.out.2.1).trans HG4.out.1
    have HB5 : Hid (Below w.heap.size w w5) := HG4.out.2.2.trans (hbb.mono HG4.out.2.2.size)
    have HT : Hid (w5.heap[w.heap.size + 2]? = some (.cells #[.int .i64 0, .string ⟨#[]⟩, .int .i64 0] 29 (0, 0))) := hg2
    have v0 := block_cell hg2 0
    have v1 := block_cell hg2 1
    have v2 := block_cell hg2 2
    have g0 := block_free hg2 0
    have g1 := block_free hg2 1
    have g2 := block_free hg2 2
    simp only [List.getElem?_toArray, List.getElem?_cons_zero, List.getElem?_cons_succ] at v0 v1 v2
    clear x0 x1 x2 hcp hbb hg2 HG4
    go_wp2_with fail
    have hth := three (w := w5) HT.out (.int .i64 ia) (.string b0) (.int .i64 o)
    have y0 := block_cell hth 0
    have y1 := block_cell hth 1
    have y2 := block_cell hth 2
    simp only [List.getElem?_toArray, List.getElem?_cons_zero, List.getElem?_cons_succ] at y0 y1 y2
    exact bodyPost_ret (v := .tuple #[.agg #[.int .i64 ia, .string b0, .int .i64 o], .slice none 0 0, .int .i64 c]) (by simp [results, Try.results5, go_sem, y0, y1, y2]) rfl ⟨rfl, ((HB5.out.setCell (by simp <;> omega) _).setCell (by simp <;> omega) _).setCell (by simp <;> omega) _⟩
  · have h2' : (2000 : Int) < (s.size : Int) := by omega
    go_wp2_with fail
    refine hcp.mono ?_
    rintro _ w5 ⟨rfl, hbb⟩
    have hg2 := (hbb.block (w.heap.size + 2) HG4.out.2.1).trans HG4.out.1
    have HB5 : Hid (Below w.heap.size w w5) := HG4.out.2.2.trans (hbb.mono HG4.out.2.2.size)
    have HT : Hid (w5.heap[w.heap.size + 2]? = some (.cells #[.int .i64 0, .string ⟨#[]⟩, .int .i64 0] 29 (0, 0))) := hg2
    have v0 := block_cell hg2 0
    have v1 := block_cell hg2 1
    have v2 := block_cell hg2 2
    have g0 := block_free hg2 0
    have g1 := block_free hg2 1
    have g2 := block_free hg2 2
    simp only [List.getElem?_toArray, List.getElem?_cons_zero, List.getElem?_cons_succ] at v0 v1 v2
    clear x0 x1 x2 hcp hbb hg2 HG4
    go_wp2_with fail
    have hth := three (w := w5) HT.out (.int .i64 ia) (.string b0) (.int .i64 o)
    have y0 := block_cell hth 0
    have y1 := block_cell hth 1
    have y2 := block_cell hth 2
    simp only [List.getElem?_toArray, List.getElem?_cons_zero, List.getElem?_cons_succ] at y0 y1 y2
    exact bodyPost_ret (v := .tuple #[.agg #[.int .i64 ia, .string b0, .int .i64 o], .slice none 0 0, .int .i64 2]) (by simp [results, Try.results5, go_sem, y0, y1, y2]) rfl ⟨rfl, ((HB5.out.setCell (by simp <;> omega) _).setCell (by simp <;> omega) _).setCell (by simp <;> omega) _⟩

set_option maxHeartbeats 4000000 in
set_option maxRecDepth 20000 in
theorem end_bad (O : Nat → Nat) (nv tv : Value) (n m : Nat) (L : Nat → Nat) (X : Nat → Nat → Int) (T : Nat → Int) (ia : Int) (b0  : ByteArray) (o er : Int) (w : World) (hO : ∀ j, O j < 256) (hx : Nx w nv n L X) (ht : Ts w tv m T) (hb : b0.size ≤ 281474976710656) (he : chkH (chkP n m O L X T) ia b0.size o ≠ 0 ∧ chkH (chkP n m O L X T) ia b0.size o = er) :
    Calls Try.prog 6 #[.agg (pl O nv tv).toArray, .agg #[.int .i64 ia, .string b0, .int .i64 o]] w fun e w' => e = .returned (.tuple #[.agg #[.int .i64 ia, .string b0, .int .i64 o], .slice none 0 0, .int .i64 er]) ∧ Below w.heap.size w w' := by
  have HLN : Hid ((pl O nv tv).length = 258) := pl_length _ _ _
  obtain ⟨l, HLL⟩ : ∃ l, Hid (pl O nv tv = l) := ⟨_, (rfl : _ = _)⟩
  rw [HLL.out] at HLN ⊢
  have HSI : Hid ((Try.prog.info? 26).map (·.size) = some l.length) := by show _ = _; rw [HLN.out]; exact size26
  obtain ⟨w3, HW3⟩ : ∃ q, Hid (((w.alloc (Obj.cells l.toArray 26)).alloc (Obj.cells #[.int .i64 ia, .string b0, .int .i64 o] 29)).alloc (Obj.cells #[.int .i64 0, .string ⟨#[]⟩, .int .i64 0] 29) = q) := ⟨_, (rfl : _ = _)⟩
  have hB3 : Below w.heap.size w w3 := by rw [← HW3.out]; exact (((Below.refl _ _).alloc (Nat.le_refl _) _).alloc (by simp) _).alloc (by simp <;> omega) _
  have hg0 : w3.rangeAt w.heap.size 0 l := by
    rw [← HW3.out]
    intro j u hu
    exact Go.Lib.cell?_alloc_some _ (Go.Lib.cell?_alloc_some _ (range_block w l 26 j u hu))
  have hg1 : w3.heap[w.heap.size + 1]? = some (.cells #[.int .i64 ia, .string b0, .int .i64 o] 29 (0, 0)) := by
    have := heap_alloc_new (w.alloc (Obj.cells l.toArray 26)) (Obj.cells #[.int .i64 ia, .string b0, .int .i64 o] 29)
    rw [World.size_alloc] at this
    rw [← HW3.out]; exact (Below.heap_alloc _ _ _ (by simp)).trans this
  have hg2 : w3.heap[w.heap.size + 2]? = some (.cells #[.int .i64 0, .string ⟨#[]⟩, .int .i64 0] 29 (0, 0)) := by
    have := heap_alloc_new ((w.alloc (Obj.cells l.toArray 26)).alloc (Obj.cells #[.int .i64 ia, .string b0, .int .i64 o] 29)) (Obj.cells #[.int .i64 0, .string ⟨#[]⟩, .int .i64 0] 29)
    rw [World.size_alloc, World.size_alloc] at this
    rw [← HW3.out]; exact this
  have hs3 : w3.heap.size = w.heap.size + 3 := by rw [← HW3.out]; simp
  have HQ := checkH_any O nv tv n m L X T ia b0 o w3 hO (hx.below hB3 (Nat.le_refl _)) (ht.below hB3 (Nat.le_refl _))
  rw [HLL.out] at HQ
  obtain ⟨c, HC⟩ : ∃ q, Hid (chkH (chkP n m O L X T) ia b0.size o = q) := ⟨_, (rfl : _ = _)⟩
  rw [HC.out] at HQ he
  have HG3 : Hid (w3.rangeAt w.heap.size 0 l ∧ w3.heap[w.heap.size + 1]? = some (.cells #[.int .i64 ia, .string b0, .int .i64 o] 29 (0, 0)) ∧ w3.heap[w.heap.size + 2]? = some (.cells #[.int .i64 0, .string ⟨#[]⟩, .int .i64 0] 29 (0, 0)) ∧ w3.heap.size = w.heap.size + 3 ∧ Below w.heap.size w w3) := ⟨hg0, hg1, hg2, hs3, hB3⟩
  have x0 := block_cell hg1 0
  have x1 := block_cell hg1 1
  have x2 := block_cell hg1 2
  simp only [List.getElem?_toArray, List.getElem?_cons_zero, List.getElem?_cons_succ] at x0 x1 x2
  clear hO hx ht hg0 hg1 hg2 hs3 hB3 HC
  go_enter Try.func6, Try.ntmps6
  go_upto_region 1 with fail
  rw [HW3.out]
  clear HW3
  go_wp2_with (refine wpList_load_mid rfl 26 _ rfl w.heap.size 0 rfl l _ HG3.out.1 Try.underlying26 rfl HSI.out ?_)
  refine HQ.mono ?_
  rintro _ w4 ⟨rfl, hbb⟩
  clear x0 x1 x2 HQ
  have hg1 := (hbb.block (w.heap.size + 1) (by have := HG3.out.2.2.2.1; omega)).trans HG3.out.2.1
  have hg2 := (hbb.block (w.heap.size + 2) (by have := HG3.out.2.2.2.1; omega)).trans HG3.out.2.2.1
  have hs4 : w.heap.size + 2 < w4.heap.size := by have := hbb.size; have := HG3.out.2.2.2.1; omega
  have hB4 : Below w.heap.size w w4 := HG3.out.2.2.2.2.trans (hbb.mono HG3.out.2.2.2.2.size)
  have HG4 : Hid (w4.heap[w.heap.size + 2]? = some (.cells #[.int .i64 0, .string ⟨#[]⟩, .int .i64 0] 29 (0, 0)) ∧ w.heap.size + 2 < w4.heap.size ∧ Below w.heap.size w w4) := ⟨hg2, hs4, hB4⟩
  have x0 := block_cell hg1 0
  have x1 := block_cell hg1 1
  have x2 := block_cell hg1 2
  simp only [List.getElem?_toArray, List.getElem?_cons_zero, List.getElem?_cons_succ] at x0 x1 x2
  have hcp := copied_any ia b0 o w4 hb
  clear hbb hg1 hg2 hs4 hB4 HG3
  obtain ⟨h0, rfl⟩ := he
  have hc0 : (c == 0) = false := by simp [h0]
  have hc1 : (c != 0) = true := by simp [h0]
  go_wp2_with fail
  refine hcp.mono ?_
  rintro _ w5 ⟨rfl, hbb⟩
  have hg2 := (hbb.block (w.heap.size + 2) HG4.out.2.1).trans HG4.out.1
  have HB5 : Hid (Below w.heap.size w w5) := HG4.out.2.2.trans (hbb.mono HG4.out.2.2.size)
  have HT : Hid (w5.heap[w.heap.size + 2]? = some (.cells #[.int .i64 0, .string ⟨#[]⟩, .int .i64 0] 29 (0, 0))) := hg2
  have v0 := block_cell hg2 0
  have v1 := block_cell hg2 1
  have v2 := block_cell hg2 2
  have g0 := block_free hg2 0
  have g1 := block_free hg2 1
  have g2 := block_free hg2 2
  simp only [List.getElem?_toArray, List.getElem?_cons_zero, List.getElem?_cons_succ] at v0 v1 v2
  clear x0 x1 x2 hcp hbb hg2 HG4
  go_wp2_with fail
  have hth := three (w := w5) HT.out (.int .i64 ia) (.string b0) (.int .i64 o)
  have y0 := block_cell hth 0
  have y1 := block_cell hth 1
  have y2 := block_cell hth 2
  simp only [List.getElem?_toArray, List.getElem?_cons_zero, List.getElem?_cons_succ] at y0 y1 y2
  exact bodyPost_ret (v := .tuple #[.agg #[.int .i64 ia, .string b0, .int .i64 o], .slice none 0 0, .int .i64 c]) (by simp [results, Try.results6, go_sem, y0, y1, y2]) rfl ⟨rfl, ((HB5.out.setCell (by simp <;> omega) _).setCell (by simp <;> omega) _).setCell (by simp <;> omega) _⟩
end Go.Proofs.Ytcdnbkfjiigdmaa
