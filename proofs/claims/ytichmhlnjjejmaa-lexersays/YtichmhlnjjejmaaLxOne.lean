/-
  The contract of lexer.One.
-/
import Derived.Test.YtichmhlnjjejmaaLxLex
import Derived.Deep.Cut
namespace Go.Proofs.Ytichmhlnjjejmaa
open Go.RowKit
open Dfa

set_option maxHeartbeats 1600000 in
set_option maxRecDepth 20000 in
theorem one_bad (O : Nat → Nat) (nv tv : Value) (n m : Nat) (L : Nat → Nat) (X : Nat → Nat → Int) (T : Nat → Int) (s : ByteArray) (f : Int) (w : World) (hO : ∀ j, O j < 256) (hx : Nx w nv n L X) (ht : Ts w tv m T) (hs : s.size ≤ 9223372036854775807) (hc : ¬ chkS n m O L X T s.size = 0) :
    Calls Try.prog 6 #[.agg (pl O nv tv).toArray, .string s, .int .i64 f] w fun e w' => e = .returned (.tuple #[.agg #[.int .i64 0, .int .i64 0, .int .i64 0], .bool false, .int .i64 (chkS n m O L X T s.size)]) ∧ Below w.heap.size w w' := by
  obtain ⟨l, HLL⟩ : ∃ l, Hid (pl O nv tv = l) := ⟨_, (rfl : pl O nv tv = pl O nv tv)⟩
  have HP : Hid (Px w w.heap.size O nv tv n m L X T l ((w.alloc (Obj.cells l.toArray 26)).alloc (Obj.cells #[.int .i64 0, .int .i64 0, .int .i64 0] 33))) := (Px.box HLL.out hx ht).step ((Below.refl _ _).alloc (Nat.le_refl _) _)
  have HI : Hid (((w.alloc (Obj.cells l.toArray 26)).alloc (Obj.cells #[.int .i64 0, .int .i64 0, .int .i64 0] 33)).rangeAt w.heap.size 0 l) := by show World.rangeAt _ _ _ _; rw [← HLL.out]; exact HLL.out ▸ HP.out.all
  have HBK : Hid (((w.alloc (Obj.cells l.toArray 26)).alloc (Obj.cells #[.int .i64 0, .int .i64 0, .int .i64 0] 33)).heap[w.heap.size + 1]? = some (.cells #[.int .i64 0, .int .i64 0, .int .i64 0] 33 (0, 0))) := by
    have := heap_alloc_new (w.alloc (Obj.cells l.toArray 26)) (Obj.cells #[.int .i64 0, .int .i64 0, .int .i64 0] 33)
    rwa [World.size_alloc] at this
  have HQ : Hid (Calls Try.prog 11 #[.agg l.toArray, .string s] ((w.alloc (Obj.cells l.toArray 26)).alloc (Obj.cells #[.int .i64 0, .int .i64 0, .int .i64 0] 33)) fun e w' => e = .returned (.int .i64 (chkS n m O L X T s.size)) ∧ Below ((w.alloc (Obj.cells l.toArray 26)).alloc (Obj.cells #[.int .i64 0, .int .i64 0, .int .i64 0] 33)).heap.size ((w.alloc (Obj.cells l.toArray 26)).alloc (Obj.cells #[.int .i64 0, .int .i64 0, .int .i64 0] 33)) w') := by
    have := checkS_any O nv tv n m L X T s ((w.alloc (Obj.cells l.toArray 26)).alloc (Obj.cells #[.int .i64 0, .int .i64 0, .int .i64 0] 33)) hO HP.out.next HP.out.tags hs
    rw [HLL.out] at this
    exact this
  have HS : Hid ((Try.prog.info? 26).map (·.size) = some l.length) := by show _ = _; rw [← HLL.out, pl_length]; exact size26
  have hsz : w.heap.size + 1 < ((w.alloc (Obj.cells l.toArray 26)).alloc (Obj.cells #[.int .i64 0, .int .i64 0, .int .i64 0] 33)).heap.size := by simp
  have HX0 : Hid (Nx w nv n L X) := hx
  have HT0 : Hid (Ts w tv m T) := ht
  rw [HLL.out]
  obtain ⟨c, HC⟩ : ∃ c, Hid (chkS n m O L X T s.size = c) := ⟨_, (rfl : chkS n m O L X T s.size = chkS n m O L X T s.size)⟩
  rw [HC.out] at HQ hc ⊢
  clear hx ht hO
  go_enter Try.func6, Try.ntmps6
  go_wp2_with (refine wpList_load_mid rfl 26 _ rfl w.heap.size 0 rfl l _ HI.out Try.underlying26 rfl HS.out ?_)
  refine HQ.out.mono ?_
  rintro _ w1 ⟨rfl, hb1⟩
  have HP1 : Hid (Px w w.heap.size O nv tv n m L X T l w1) := HP.out.step hb1
  have HB : Hid (w1.heap[w.heap.size + 1]? = some (.cells #[.int .i64 0, .int .i64 0, .int .i64 0] 33 (0, 0))) := (hb1.block _ hsz).trans HBK.out
  have hs1 : w.heap.size + 1 < w1.heap.size := Nat.lt_of_lt_of_le hsz hb1.size
  clear hb1 HQ HI HBK HP hsz
  have h3 : (c == 0) = false := by simp [hc]
  have x0 := block_cell HB.out 0
  have x1 := block_cell HB.out 1
  have x2 := block_cell HB.out 2
  have f0 := block_free HB.out 0
  have f1 := block_free HB.out 1
  have f2 := block_free HB.out 2
  simp only [List.getElem?_toArray, List.getElem?_cons_zero, List.getElem?_cons_succ] at x0 x1 x2
  go_wp2_with fail
  have y0 := block_cell (three (w := w1) HB.out (.int .i64 0) (.int .i64 0) (.int .i64 0)) 0
  have y1 := block_cell (three (w := w1) HB.out (.int .i64 0) (.int .i64 0) (.int .i64 0)) 1
  have y2 := block_cell (three (w := w1) HB.out (.int .i64 0) (.int .i64 0) (.int .i64 0)) 2
  simp only [List.getElem?_toArray, List.getElem?_cons_zero, List.getElem?_cons_succ] at y0 y1 y2
  exact bodyPost_ret (v := .tuple #[.agg #[.int .i64 0, .int .i64 0, .int .i64 0], .bool false, .int .i64 c]) (by simp [results, Try.results6, go_sem, y0, y1, y2]) rfl ⟨rfl, (HP1.out.set HX0.out HT0.out (same_three w1 (w.heap.size + 1) _ _ _) (by omega) (by omega)).below⟩

set_option maxHeartbeats 1600000 in
set_option maxRecDepth 20000 in
theorem one_arg (O : Nat → Nat) (nv tv : Value) (n m : Nat) (L : Nat → Nat) (X : Nat → Nat → Int) (T : Nat → Int) (s : ByteArray) (f : Int) (w : World) (hO : ∀ j, O j < 256) (hx : Nx w nv n L X) (ht : Ts w tv m T) (hs : s.size ≤ 9223372036854775807) (hc : chkS n m O L X T s.size = 0) (hf : f < 0 ∨ (s.size : Int) < f) :
    Calls Try.prog 6 #[.agg (pl O nv tv).toArray, .string s, .int .i64 f] w fun e w' => e = .returned (.tuple #[.agg #[.int .i64 0, .int .i64 0, .int .i64 0], .bool false, .int .i64 1]) ∧ Below w.heap.size w w' := by
  obtain ⟨l, HLL⟩ : ∃ l, Hid (pl O nv tv = l) := ⟨_, (rfl : pl O nv tv = pl O nv tv)⟩
  have HP : Hid (Px w w.heap.size O nv tv n m L X T l ((w.alloc (Obj.cells l.toArray 26)).alloc (Obj.cells #[.int .i64 0, .int .i64 0, .int .i64 0] 33))) := (Px.box HLL.out hx ht).step ((Below.refl _ _).alloc (Nat.le_refl _) _)
  have HI : Hid (((w.alloc (Obj.cells l.toArray 26)).alloc (Obj.cells #[.int .i64 0, .int .i64 0, .int .i64 0] 33)).rangeAt w.heap.size 0 l) := by show World.rangeAt _ _ _ _; rw [← HLL.out]; exact HLL.out ▸ HP.out.all
  have HBK : Hid (((w.alloc (Obj.cells l.toArray 26)).alloc (Obj.cells #[.int .i64 0, .int .i64 0, .int .i64 0] 33)).heap[w.heap.size + 1]? = some (.cells #[.int .i64 0, .int .i64 0, .int .i64 0] 33 (0, 0))) := by
    have := heap_alloc_new (w.alloc (Obj.cells l.toArray 26)) (Obj.cells #[.int .i64 0, .int .i64 0, .int .i64 0] 33)
    rwa [World.size_alloc] at this
  have HQ : Hid (Calls Try.prog 11 #[.agg l.toArray, .string s] ((w.alloc (Obj.cells l.toArray 26)).alloc (Obj.cells #[.int .i64 0, .int .i64 0, .int .i64 0] 33)) fun e w' => e = .returned (.int .i64 (chkS n m O L X T s.size)) ∧ Below ((w.alloc (Obj.cells l.toArray 26)).alloc (Obj.cells #[.int .i64 0, .int .i64 0, .int .i64 0] 33)).heap.size ((w.alloc (Obj.cells l.toArray 26)).alloc (Obj.cells #[.int .i64 0, .int .i64 0, .int .i64 0] 33)) w') := by
    have := checkS_any O nv tv n m L X T s ((w.alloc (Obj.cells l.toArray 26)).alloc (Obj.cells #[.int .i64 0, .int .i64 0, .int .i64 0] 33)) hO HP.out.next HP.out.tags hs
    rw [HLL.out] at this
    exact this
  have HS : Hid ((Try.prog.info? 26).map (·.size) = some l.length) := by show _ = _; rw [← HLL.out, pl_length]; exact size26
  have hsz : w.heap.size + 1 < ((w.alloc (Obj.cells l.toArray 26)).alloc (Obj.cells #[.int .i64 0, .int .i64 0, .int .i64 0] 33)).heap.size := by simp
  have HX0 : Hid (Nx w nv n L X) := hx
  have HT0 : Hid (Ts w tv m T) := ht
  rw [HLL.out]
  obtain ⟨c, HC⟩ : ∃ c, Hid (chkS n m O L X T s.size = c) := ⟨_, (rfl : chkS n m O L X T s.size = chkS n m O L X T s.size)⟩
  rw [HC.out] at HQ hc
  clear hx ht hO
  go_enter Try.func6, Try.ntmps6
  go_wp2_with (refine wpList_load_mid rfl 26 _ rfl w.heap.size 0 rfl l _ HI.out Try.underlying26 rfl HS.out ?_)
  refine HQ.out.mono ?_
  rintro _ w1 ⟨rfl, hb1⟩
  have HP1 : Hid (Px w w.heap.size O nv tv n m L X T l w1) := HP.out.step hb1
  have HB : Hid (w1.heap[w.heap.size + 1]? = some (.cells #[.int .i64 0, .int .i64 0, .int .i64 0] 33 (0, 0))) := (hb1.block _ hsz).trans HBK.out
  have hs1 : w.heap.size + 1 < w1.heap.size := Nat.lt_of_lt_of_le hsz hb1.size
  clear hb1 HQ HI HBK HP hsz
  subst hc
  have x0 := block_cell HB.out 0
  have x1 := block_cell HB.out 1
  have x2 := block_cell HB.out 2
  have f0 := block_free HB.out 0
  have f1 := block_free HB.out 1
  have f2 := block_free HB.out 2
  simp only [List.getElem?_toArray, List.getElem?_cons_zero, List.getElem?_cons_succ] at x0 x1 x2
  by_cases h1 : f < 0
  · go_wp2_with fail
    have y0 := block_cell (three (w := w1) HB.out (.int .i64 0) (.int .i64 0) (.int .i64 0)) 0
    have y1 := block_cell (three (w := w1) HB.out (.int .i64 0) (.int .i64 0) (.int .i64 0)) 1
    have y2 := block_cell (three (w := w1) HB.out (.int .i64 0) (.int .i64 0) (.int .i64 0)) 2
    simp only [List.getElem?_toArray, List.getElem?_cons_zero, List.getElem?_cons_succ] at y0 y1 y2
    exact bodyPost_ret (v := .tuple #[.agg #[.int .i64 0, .int .i64 0, .int .i64 0], .bool false, .int .i64 1]) (by simp [results, Try.results6, go_sem, y0, y1, y2]) rfl ⟨rfl, (HP1.out.set HX0.out HT0.out (same_three w1 (w.heap.size + 1) _ _ _) (by omega) (by omega)).below⟩
  · have h2 : (s.size : Int) < f := hf.resolve_left h1
    go_wp2_with fail
    have y0 := block_cell (three (w := w1) HB.out (.int .i64 0) (.int .i64 0) (.int .i64 0)) 0
    have y1 := block_cell (three (w := w1) HB.out (.int .i64 0) (.int .i64 0) (.int .i64 0)) 1
    have y2 := block_cell (three (w := w1) HB.out (.int .i64 0) (.int .i64 0) (.int .i64 0)) 2
    simp only [List.getElem?_toArray, List.getElem?_cons_zero, List.getElem?_cons_succ] at y0 y1 y2
    exact bodyPost_ret (v := .tuple #[.agg #[.int .i64 0, .int .i64 0, .int .i64 0], .bool false, .int .i64 1]) (by simp [results, Try.results6, go_sem, y0, y1, y2]) rfl ⟨rfl, (HP1.out.set HX0.out HT0.out (same_three w1 (w.heap.size + 1) _ _ _) (by omega) (by omega)).below⟩

set_option maxHeartbeats 1600000 in
set_option maxRecDepth 20000 in
theorem one_ok (O : Nat → Nat) (nv tv : Value) (m : Nat) (L : Nat → Nat) (X : Nat → Nat → Int) (T : Nat → Int) (s : ByteArray) (f : Nat) (w : World) (hO : ∀ j, O j < 256) (hx : Nx w nv m L X) (ht : Ts w tv m T) (hs0 : s.size ≤ 2000) (hok : chkP m m O L X T = 0) (hf : f ≤ s.size) :
    Calls Try.prog 6 #[.agg (pl O nv tv).toArray, .string s, .int .i64 (f : Int)] w fun e w' => (∃ (a b c : Int) (bb : Bool), e = .returned (.tuple #[.agg #[.int .i64 a, .int .i64 b, .int .i64 c], .bool bb, .int .i64 0]) ∧ Tv f (lng (RR m O X) T (s.data.toList.drop f)).1 (lng (RR m O X) T (s.data.toList.drop f)).2 bb a b c) ∧ Below w.heap.size w w' := by
  have hs : s.size ≤ 9223372036854775807 := by omega
  have hc : chkS m m O L X T s.size = 0 := by unfold chkS; rw [if_pos hok, if_neg (by omega)]
  obtain ⟨l, HLL⟩ : ∃ l, Hid (pl O nv tv = l) := ⟨_, (rfl : pl O nv tv = pl O nv tv)⟩
  have HP : Hid (Px w w.heap.size O nv tv m m L X T l ((w.alloc (Obj.cells l.toArray 26)).alloc (Obj.cells #[.int .i64 0, .int .i64 0, .int .i64 0] 33))) := (Px.box HLL.out hx ht).step ((Below.refl _ _).alloc (Nat.le_refl _) _)
  have HI : Hid (((w.alloc (Obj.cells l.toArray 26)).alloc (Obj.cells #[.int .i64 0, .int .i64 0, .int .i64 0] 33)).rangeAt w.heap.size 0 l) := by show World.rangeAt _ _ _ _; rw [← HLL.out]; exact HLL.out ▸ HP.out.all
  have HBK : Hid (((w.alloc (Obj.cells l.toArray 26)).alloc (Obj.cells #[.int .i64 0, .int .i64 0, .int .i64 0] 33)).heap[w.heap.size + 1]? = some (.cells #[.int .i64 0, .int .i64 0, .int .i64 0] 33 (0, 0))) := by
    have := heap_alloc_new (w.alloc (Obj.cells l.toArray 26)) (Obj.cells #[.int .i64 0, .int .i64 0, .int .i64 0] 33)
    rwa [World.size_alloc] at this
  have HQ : Hid (Calls Try.prog 11 #[.agg l.toArray, .string s] ((w.alloc (Obj.cells l.toArray 26)).alloc (Obj.cells #[.int .i64 0, .int .i64 0, .int .i64 0] 33)) fun e w' => e = .returned (.int .i64 (chkS m m O L X T s.size)) ∧ Below ((w.alloc (Obj.cells l.toArray 26)).alloc (Obj.cells #[.int .i64 0, .int .i64 0, .int .i64 0] 33)).heap.size ((w.alloc (Obj.cells l.toArray 26)).alloc (Obj.cells #[.int .i64 0, .int .i64 0, .int .i64 0] 33)) w') := by
    have := checkS_any O nv tv m m L X T s ((w.alloc (Obj.cells l.toArray 26)).alloc (Obj.cells #[.int .i64 0, .int .i64 0, .int .i64 0] 33)) hO HP.out.next HP.out.tags hs
    rw [HLL.out] at this
    exact this
  have HS : Hid ((Try.prog.info? 26).map (·.size) = some l.length) := by show _ = _; rw [← HLL.out, pl_length]; exact size26
  have hsz : w.heap.size + 1 < ((w.alloc (Obj.cells l.toArray 26)).alloc (Obj.cells #[.int .i64 0, .int .i64 0, .int .i64 0] 33)).heap.size := by simp
  have HX0 : Hid (Nx w nv m L X) := hx
  have HT0 : Hid (Ts w tv m T) := ht
  have HLG : Hid (∀ (wr : World), Px w w.heap.size O nv tv m m L X T l wr → Calls Try.prog 12 #[.agg l.toArray, .string s, .int .i64 (f : Int)] wr fun e w' => Tok f (lng (RR m O X) T (s.data.toList.drop f)) e ∧ Below wr.heap.size wr w') := fun wr h => by
    have := long_any O nv tv m L X T s f wr hO h.next h.tags hok hs0 hf
    rw [HLL.out] at this
    exact this
  obtain ⟨ans, HA⟩ : ∃ a, Hid (lng (RR m O X) T (s.data.toList.drop f) = a) := ⟨_, (rfl : lng _ _ _ = lng _ _ _)⟩
  rw [HA.out] at HLG ⊢
  have HR : Hid (∀ wr, Px w w.heap.size O nv tv m m L X T l wr → wr.rangeAt w.heap.size 0 l) := fun wr h => by rw [← HLL.out]; exact h.all
  rw [HLL.out]
  obtain ⟨c, HC⟩ : ∃ c, Hid (chkS m m O L X T s.size = c) := ⟨_, (rfl : chkS m m O L X T s.size = chkS m m O L X T s.size)⟩
  rw [HC.out] at HQ hc
  clear hx ht hO
  go_enter Try.func6, Try.ntmps6
  go_wp2_with (refine wpList_load_mid rfl 26 _ rfl w.heap.size 0 rfl l _ HI.out Try.underlying26 rfl HS.out ?_)
  refine HQ.out.mono ?_
  rintro _ w1 ⟨rfl, hb1⟩
  have HP1 : Hid (Px w w.heap.size O nv tv m m L X T l w1) := HP.out.step hb1
  have HB : Hid (w1.heap[w.heap.size + 1]? = some (.cells #[.int .i64 0, .int .i64 0, .int .i64 0] 33 (0, 0))) := (hb1.block _ hsz).trans HBK.out
  have hs1 : w.heap.size + 1 < w1.heap.size := Nat.lt_of_lt_of_le hsz hb1.size
  clear hb1 HQ HI HBK HP hsz
  subst hc
  have h1 : ¬ (f : Int) < 0 := by omega
  have h2 : ¬ (s.size : Int) < (f : Int) := by omega
  have HI1 : Hid (w1.rangeAt w.heap.size 0 l) := HR.out w1 HP1.out
  go_wp2_with (refine wpList_load_mid rfl 26 _ rfl w.heap.size 0 rfl l _ HI1.out Try.underlying26 rfl HS.out ?_)
  refine (HLG.out w1 HP1.out).mono ?_
  rintro _ w2 ⟨⟨ta, tb, tcc, bb, rfl, hv⟩, hb2⟩
  have HP2 : Hid (Px w w.heap.size O nv tv m m L X T l (w2.alloc (Obj.cells #[.int .i64 ta, .int .i64 tb, .int .i64 tcc] 33))) := (HP1.out.step hb2).step ((Below.refl _ _).alloc (Nat.le_refl _) _)
  have HB2 : Hid (w2.heap[w.heap.size + 1]? = some (.cells #[.int .i64 0, .int .i64 0, .int .i64 0] 33 (0, 0))) := (hb2.block _ hs1).trans HB.out
  have hs2 : w.heap.size + 1 < w2.heap.size := Nat.lt_of_lt_of_le hs1 hb2.size
  have HV : Hid (Tv f ans.1 ans.2 bb ta tb tcc) := hv
  clear hb2 HB hv
  have HB := HB2
  go_upto_region 7 with fail
  have HBN : Hid ((w2.alloc (Obj.cells #[.int .i64 ta, .int .i64 tb, .int .i64 tcc] 33)).heap[w.heap.size + 1]? = some (.cells #[.int .i64 0, .int .i64 0, .int .i64 0] 33 (0, 0))) := (((Below.refl w2.heap.size w2).alloc (Nat.le_refl _) _).block _ hs2).trans HB.out
  have HBM : Hid ((w2.alloc (Obj.cells #[.int .i64 ta, .int .i64 tb, .int .i64 tcc] 33)).heap[w2.heap.size]? = some (.cells #[.int .i64 ta, .int .i64 tb, .int .i64 tcc] 33 (0, 0))) := heap_alloc_new w2 _
  generalize w2.alloc (Obj.cells #[.int .i64 ta, .int .i64 tb, .int .i64 tcc] 33) = W3 at HBN HBM HP2 ⊢
  clear HB HB2
  have HB := HBN
  have q0 := block_cell HBM.out 0
  have q1 := block_cell HBM.out 1
  have q2 := block_cell HBM.out 2
  simp only [List.getElem?_toArray, List.getElem?_cons_zero, List.getElem?_cons_succ] at q0 q1 q2
  have x0 := block_cell HB.out 0
  have x1 := block_cell HB.out 1
  have x2 := block_cell HB.out 2
  have f0 := block_free HB.out 0
  have f1 := block_free HB.out 1
  have f2 := block_free HB.out 2
  simp only [List.getElem?_toArray, List.getElem?_cons_zero, List.getElem?_cons_succ] at x0 x1 x2
  go_wp2_with fail
  have y0 := block_cell (three (w := W3) HB.out (.int .i64 ta) (.int .i64 tb) (.int .i64 tcc)) 0
  have y1 := block_cell (three (w := W3) HB.out (.int .i64 ta) (.int .i64 tb) (.int .i64 tcc)) 1
  have y2 := block_cell (three (w := W3) HB.out (.int .i64 ta) (.int .i64 tb) (.int .i64 tcc)) 2
  simp only [List.getElem?_toArray, List.getElem?_cons_zero, List.getElem?_cons_succ] at y0 y1 y2
  exact bodyPost_ret (v := .tuple #[.agg #[.int .i64 ta, .int .i64 tb, .int .i64 tcc], .bool bb, .int .i64 0]) (by simp [results, Try.results6, go_sem, y0, y1, y2]) rfl ⟨⟨ta, tb, tcc, bb, rfl, HV.out⟩, (HP2.out.set HX0.out HT0.out (same_three _ (w.heap.size + 1) _ _ _) (by omega) (by omega)).below⟩
end Go.Proofs.Ytichmhlnjjejmaa
