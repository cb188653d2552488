/-
  The contracts of feed.check, pushref.RightHeld, strings.Clone and feed.copied.
-/
import Derived.Test.YtcdnbkfjiigdmaaFdSettle
import Derived.Test.YtcdnbkfjiigdmaaPkRight
import Derived.Test.YtcdnbkfjiigdmaaShelf
namespace Go.Proofs.Ytcdnbkfjiigdmaa
open Go.RowKit
open Dfa

/-- What is wrong ahead of all. -/
def chkH (c ia : Int) (k : Nat) (o : Int) : Int := if c ≠ 0 then c else if ia < 0 ∨ 1099511627776 < ia ∨ 64 < k then 1 else if o ≠ 0 then 15 else 0

set_option maxHeartbeats 1600000 in
set_option maxRecDepth 20000 in
theorem checkH_any (O : Nat → Nat) (nv tv : Value) (n m : Nat) (L : Nat → Nat) (X : Nat → Nat → Int) (T : Nat → Int) (ia : Int) (s : ByteArray) (o : Int) (w : World) (hO : ∀ j, O j < 256) (hx : Nx w nv n L X) (ht : Ts w tv m T) :
    Calls Try.prog 11 #[.agg (pl O nv tv).toArray, .agg #[.int .i64 ia, .string s, .int .i64 o]] w fun e w' => e = .returned (.int .i64 (chkH (chkP n m O L X T) ia s.size o)) ∧ Below w.heap.size w w' := by
  obtain ⟨l, HLL⟩ : ∃ l, Hid (pl O nv tv = l) := ⟨_, (rfl : pl O nv tv = pl O nv tv)⟩
  have HP : Hid (Px w w.heap.size O nv tv n m L X T l (w.alloc (Obj.cells l.toArray 26))) := Px.box HLL.out hx ht
  have B1 := (Below.refl (w.alloc (Obj.cells l.toArray 26)).heap.size (w.alloc (Obj.cells l.toArray 26))).alloc (Nat.le_refl _) (Obj.cells #[.int .i64 ia, .string s, .int .i64 o] 29)
  have HP1 := HP.out.step B1
  have hQ := checkP_any O nv tv n m L X T _ hO HP1.next HP1.tags
  have HI := HP1.all
  have HB0 := HP1.below
  have z0 : ((w.alloc (Obj.cells l.toArray 26)).alloc (Obj.cells #[.int .i64 ia, .string s, .int .i64 o] 29)).heap[w.heap.size + 1]? = some (.cells #[.int .i64 ia, .string s, .int .i64 o] 29 (0, 0)) := by
    have := heap_alloc_new (w.alloc (Obj.cells l.toArray 26)) (Obj.cells #[.int .i64 ia, .string s, .int .i64 o] 29)
    rwa [World.size_alloc] at this
  have hsz : w.heap.size + 1 < ((w.alloc (Obj.cells l.toArray 26)).alloc (Obj.cells #[.int .i64 ia, .string s, .int .i64 o] 29)).heap.size := by simp
  obtain ⟨w2, HW2⟩ : ∃ q, Hid ((w.alloc (Obj.cells l.toArray 26)).alloc (Obj.cells #[.int .i64 ia, .string s, .int .i64 o] 29) = q) := ⟨_, (rfl : _ = _)⟩
  rw [HW2.out] at hQ HI HB0 z0 hsz
  rw [HLL.out] at hQ HI ⊢
  have HRG : Hid (w2.rangeAt w.heap.size 0 l) := HI
  have HS : Hid ((Try.prog.info? 26).map (·.size) = some l.length) := by show _ = _; rw [← HLL.out, pl_length]; exact size26
  have HBW : Hid (Below w.heap.size w w2 ∧ w2.heap[w.heap.size + 1]? = some (.cells #[.int .i64 ia, .string s, .int .i64 o] 29 (0, 0)) ∧ w.heap.size + 1 < w2.heap.size) := ⟨HB0, z0, hsz⟩
  obtain ⟨c, HC⟩ : ∃ c, Hid (chkP n m O L X T = c) := ⟨_, (rfl : chkP n m O L X T = chkP n m O L X T)⟩
  rw [HC.out] at hQ ⊢
  clear hO hx ht HP B1 HP1 HI HB0 z0 hsz HC HLL
  obtain ⟨an, HAN⟩ : ∃ q, Hid (chkH c ia s.size o = q) := ⟨_, (rfl : _ = _)⟩
  rw [HAN.out]
  go_enter Try.func11, Try.ntmps11
  go_upto_region 1 with fail
  rw [HW2.out]
  go_wp2_with (refine wpList_load_mid rfl 26 _ rfl w.heap.size 0 rfl l _ HRG.out Try.underlying26 rfl HS.out ?_)
  refine hQ.mono ?_
  rintro _ w3 ⟨rfl, hb⟩
  have HBE : Hid (Below w.heap.size w w3) := HBW.out.1.trans (hb.mono HBW.out.1.size)
  have z3 := (hb.block _ HBW.out.2.2).trans HBW.out.2.1
  have x0 := block_cell z3 0
  have x1 := block_cell z3 1
  have x2 := block_cell z3 2
  simp only [List.getElem?_toArray, List.getElem?_cons_zero, List.getElem?_cons_succ] at x0 x1 x2
  clear hQ hb z3 HBW HRG
  by_cases h0 : c = 0
  · subst h0
    by_cases h1 : ia < 0
    · have HE : Hid (an = 1) := by show _ = _; rw [← HAN.out]; unfold chkH; rw [if_neg (by omega), if_pos (Or.inl h1)]
      go_wp2_with fail
      go_ret
      exact ⟨by rw [HE.out]; rfl, HBE.out⟩
    · by_cases h2 : 1099511627776 < ia
      · have HE : Hid (an = 1) := by show _ = _; rw [← HAN.out]; unfold chkH; rw [if_neg (by omega), if_pos (Or.inr (Or.inl h2))]
        go_wp2_with fail
        go_ret
        exact ⟨by rw [HE.out]; rfl, HBE.out⟩
      · by_cases h3 : 64 < s.size
        · have h3' : (64 : Int) < (s.size : Int) := by omega
          have HE : Hid (an = 1) := by show _ = _; rw [← HAN.out]; unfold chkH; rw [if_neg (by omega), if_pos (Or.inr (Or.inr h3))]
          go_wp2_with fail
          go_ret
          exact ⟨by rw [HE.out]; rfl, HBE.out⟩
        · have h3' : ¬ (64 : Int) < (s.size : Int) := by omega
          by_cases h4 : o = 0
          · subst h4
            have HE : Hid (an = 0) := by show _ = _; rw [← HAN.out]; unfold chkH; rw [if_neg (by omega), if_neg (by omega), if_neg (by omega)]
            go_wp2_with fail
            go_ret
            exact ⟨by rw [HE.out]; rfl, HBE.out⟩
          · have h4' : (o == 0) = false := by simp [h4]
            have h4'' : (o != 0) = true := by simp [h4]
            have HE : Hid (an = 15) := by show _ = _; rw [← HAN.out]; unfold chkH; rw [if_neg (by omega), if_neg (by omega), if_pos h4]
            go_wp2_with fail
            go_ret
            exact ⟨by rw [HE.out]; rfl, HBE.out⟩
  · have h0' : (c == 0) = false := by simp [h0]
    have h0'' : (c != 0) = true := by simp [h0]
    have HE : Hid (an = c) := by show _ = _; rw [← HAN.out]; unfold chkH; rw [if_pos h0]
    go_wp2_with fail
    go_ret
    exact ⟨by rw [HE.out]; rfl, HBE.out⟩

set_option maxHeartbeats 1600000 in
set_option maxRecDepth 20000 in
theorem rightH_any (O : Nat → Nat) (nv tv : Value) (n m : Nat) (L : Nat → Nat) (X : Nat → Nat → Int) (T : Nat → Int) (ia : Int) (s : ByteArray) (o : Int) (w : World) (hO : ∀ j, O j < 256) (hx : Nx w nv n L X) (ht : Ts w tv m T) :
    Calls Try.prog 4 #[.agg (pl O nv tv).toArray, .agg #[.int .i64 ia, .string s, .int .i64 o]] w fun e w' => e = .returned (.int .i64 (chkH (chkP n m O L X T) ia s.size o)) ∧ Below w.heap.size w w' := by
  obtain ⟨l, HLL⟩ : ∃ l, Hid (pl O nv tv = l) := ⟨_, (rfl : pl O nv tv = pl O nv tv)⟩
  have HP : Hid (Px w w.heap.size O nv tv n m L X T l (w.alloc (Obj.cells l.toArray 26))) := Px.box HLL.out hx ht
  have B1 := (Below.refl (w.alloc (Obj.cells l.toArray 26)).heap.size (w.alloc (Obj.cells l.toArray 26))).alloc (Nat.le_refl _) (Obj.cells #[.int .i64 ia, .string s, .int .i64 o] 29)
  have HP1 := HP.out.step B1
  have hQ := rightP_any O nv tv n m L X T _ hO HP1.next HP1.tags
  have HI := HP1.all
  have HB0 := HP1.below
  have z0 : ((w.alloc (Obj.cells l.toArray 26)).alloc (Obj.cells #[.int .i64 ia, .string s, .int .i64 o] 29)).heap[w.heap.size + 1]? = some (.cells #[.int .i64 ia, .string s, .int .i64 o] 29 (0, 0)) := by
    have := heap_alloc_new (w.alloc (Obj.cells l.toArray 26)) (Obj.cells #[.int .i64 ia, .string s, .int .i64 o] 29)
    rwa [World.size_alloc] at this
  have hsz : w.heap.size + 1 < ((w.alloc (Obj.cells l.toArray 26)).alloc (Obj.cells #[.int .i64 ia, .string s, .int .i64 o] 29)).heap.size := by simp
  obtain ⟨w2, HW2⟩ : ∃ q, Hid ((w.alloc (Obj.cells l.toArray 26)).alloc (Obj.cells #[.int .i64 ia, .string s, .int .i64 o] 29) = q) := ⟨_, (rfl : _ = _)⟩
  rw [HW2.out] at hQ HI HB0 z0 hsz
  rw [HLL.out] at hQ HI ⊢
  have HRG : Hid (w2.rangeAt w.heap.size 0 l) := HI
  have HS : Hid ((Try.prog.info? 26).map (·.size) = some l.length) := by show _ = _; rw [← HLL.out, pl_length]; exact size26
  have HBW : Hid (Below w.heap.size w w2 ∧ w2.heap[w.heap.size + 1]? = some (.cells #[.int .i64 ia, .string s, .int .i64 o] 29 (0, 0)) ∧ w.heap.size + 1 < w2.heap.size) := ⟨HB0, z0, hsz⟩
  obtain ⟨c, HC⟩ : ∃ c, Hid (chkP n m O L X T = c) := ⟨_, (rfl : chkP n m O L X T = chkP n m O L X T)⟩
  rw [HC.out] at hQ ⊢
  clear hO hx ht HP B1 HP1 HI HB0 z0 hsz HC HLL
  obtain ⟨an, HAN⟩ : ∃ q, Hid (chkH c ia s.size o = q) := ⟨_, (rfl : _ = _)⟩
  rw [HAN.out]
  go_enter Try.func4, Try.ntmps4
  go_upto_region 1 with fail
  rw [HW2.out]
  go_wp2_with (refine wpList_load_mid rfl 26 _ rfl w.heap.size 0 rfl l _ HRG.out Try.underlying26 rfl HS.out ?_)
  refine hQ.mono ?_
  rintro _ w3 ⟨rfl, hb⟩
  have HBE : Hid (Below w.heap.size w w3) := HBW.out.1.trans (hb.mono HBW.out.1.size)
  have z3 := (hb.block _ HBW.out.2.2).trans HBW.out.2.1
  have x0 := block_cell z3 0
  have x1 := block_cell z3 1
  have x2 := block_cell z3 2
  simp only [List.getElem?_toArray, List.getElem?_cons_zero, List.getElem?_cons_succ] at x0 x1 x2
  clear hQ hb z3 HBW HRG
  by_cases h0 : c = 0
  · subst h0
    by_cases h1 : ia < 0
    · have HE : Hid (an = 1) := by show _ = _; rw [← HAN.out]; unfold chkH; rw [if_neg (by omega), if_pos (Or.inl h1)]
      go_wp2_with fail
      go_ret
      exact ⟨by rw [HE.out]; rfl, HBE.out⟩
    · by_cases h2 : 1099511627776 < ia
      · have HE : Hid (an = 1) := by show _ = _; rw [← HAN.out]; unfold chkH; rw [if_neg (by omega), if_pos (Or.inr (Or.inl h2))]
        go_wp2_with fail
        go_ret
        exact ⟨by rw [HE.out]; rfl, HBE.out⟩
      · by_cases h3 : 64 < s.size
        · have h3' : (64 : Int) < (s.size : Int) := by omega
          have HE : Hid (an = 1) := by show _ = _; rw [← HAN.out]; unfold chkH; rw [if_neg (by omega), if_pos (Or.inr (Or.inr h3))]
          go_wp2_with fail
          go_ret
          exact ⟨by rw [HE.out]; rfl, HBE.out⟩
        · have h3' : ¬ (64 : Int) < (s.size : Int) := by omega
          by_cases h4 : o = 0
          · subst h4
            have HE : Hid (an = 0) := by show _ = _; rw [← HAN.out]; unfold chkH; rw [if_neg (by omega), if_neg (by omega), if_neg (by omega)]
            go_wp2_with fail
            go_ret
            exact ⟨by rw [HE.out]; rfl, HBE.out⟩
          · have h4' : (o == 0) = false := by simp [h4]
            have h4'' : (o != 0) = true := by simp [h4]
            have HE : Hid (an = 15) := by show _ = _; rw [← HAN.out]; unfold chkH; rw [if_neg (by omega), if_neg (by omega), if_pos h4]
            go_wp2_with fail
            go_ret
            exact ⟨by rw [HE.out]; rfl, HBE.out⟩
  · have h0' : (c == 0) = false := by simp [h0]
    have h0'' : (c != 0) = true := by simp [h0]
    have HE : Hid (an = c) := by show _ = _; rw [← HAN.out]; unfold chkH; rw [if_pos h0]
    go_wp2_with fail
    go_ret
    exact ⟨by rw [HE.out]; rfl, HBE.out⟩

set_option maxHeartbeats 1600000 in
set_option maxRecDepth 20000 in
theorem cloneS_any (s : ByteArray) (w : World) (hs : s.size ≤ 281474976710656) : Calls Try.prog 21 #[.string s] w fun e w' => e = .returned (.string s) ∧ Below w.heap.size w w' := by
  have hc := AnyPu.stringslite_Clone Try.cloneStr s w hs
  change Calls Try.prog 28 _ _ _ at hc
  go_enter Try.func21, Try.ntmps21
  go_wp2_with fail
  refine hc.mono ?_
  rintro _ w1 ⟨rfl, hb⟩
  have HB : Hid (Below w.heap.size w w1) := hb
  clear hb hc
  go_wp2_with fail
  go_ret
  exact ⟨rfl, HB.out⟩

set_option maxHeartbeats 1600000 in
set_option maxRecDepth 20000 in
theorem copied_any (ia : Int) (s : ByteArray) (o : Int) (w : World) (hs : s.size ≤ 281474976710656) : Calls Try.prog 12 #[.agg #[.int .i64 ia, .string s, .int .i64 o]] w fun e w' => e = .returned (.agg #[.int .i64 ia, .string s, .int .i64 o]) ∧ Below w.heap.size w w' := by
  obtain ⟨w2, HW2⟩ : ∃ q, Hid ((w.alloc (Obj.cells #[.int .i64 ia, .string s, .int .i64 o] 29)).alloc (Obj.cells #[.int .i64 0, .string ⟨#[]⟩, .int .i64 0] 29) = q) := ⟨_, (rfl : _ = _)⟩
  have z0 : w2.heap[w.heap.size]? = some (.cells #[.int .i64 ia, .string s, .int .i64 o] 29 (0, 0)) := by
    rw [← HW2.out]
    exact (Below.heap_alloc _ _ _ (by simp)).trans (heap_alloc_new w _)
  have z1 : w2.heap[w.heap.size + 1]? = some (.cells #[.int .i64 0, .string ⟨#[]⟩, .int .i64 0] 29 (0, 0)) := by
    have := heap_alloc_new (w.alloc (Obj.cells #[.int .i64 ia, .string s, .int .i64 o] 29)) (Obj.cells #[.int .i64 0, .string ⟨#[]⟩, .int .i64 0] 29)
    rw [World.size_alloc] at this
    rw [← HW2.out]; exact this
  have hsz : w.heap.size + 1 < w2.heap.size := by rw [← HW2.out]; simp
  have HB2 : Hid (Below w.heap.size w w2) := by rw [← HW2.out]; exact ((Below.refl _ _).alloc (Nat.le_refl _) _).alloc (by simp) _
  have hc := cloneS_any s w2 hs
  have HZ : Hid (w2.heap[w.heap.size]? = some (.cells #[.int .i64 ia, .string s, .int .i64 o] 29 (0, 0)) ∧ w2.heap[w.heap.size + 1]? = some (.cells #[.int .i64 0, .string ⟨#[]⟩, .int .i64 0] 29 (0, 0)) ∧ w.heap.size + 1 < w2.heap.size) := ⟨z0, z1, hsz⟩
  have x1 := block_cell z0 1
  simp only [List.getElem?_toArray, List.getElem?_cons_zero, List.getElem?_cons_succ] at x1
  clear z0 z1 hsz
  go_enter Try.func12, Try.ntmps12
  go_upto_region 1 with fail
  rw [HW2.out]
  go_wp2_with fail
  refine hc.mono ?_
  rintro _ w3 ⟨rfl, hb⟩
  have HB3 : Hid (Below w.heap.size w w3) := HB2.out.trans (hb.mono HB2.out.size)
  have z0 := (hb.block _ (Nat.lt_of_succ_lt HZ.out.2.2)).trans HZ.out.1
  have z1 := (hb.block _ HZ.out.2.2).trans HZ.out.2.1
  clear x1 hb hc HZ HB2 HW2
  have x0 := block_cell z0 0
  have x1 := block_cell z0 1
  have x2 := block_cell z0 2
  have f1 := block_free z0 1
  have v0 := block_cell z1 0
  have v1 := block_cell z1 1
  have v2 := block_cell z1 2
  have g0 := block_free z1 0
  have g1 := block_free z1 1
  have g2 := block_free z1 2
  simp only [List.getElem?_toArray, List.getElem?_cons_zero, List.getElem?_cons_succ] at x0 x1 x2 v0 v1 v2
  have HT : Hid (w3.heap[w.heap.size + 1]? = some (.cells #[.int .i64 0, .string ⟨#[]⟩, .int .i64 0] 29 (0, 0))) := z1
  clear z0 z1
  go_wp2_with fail
  have hth := three (w := w3.setCell ⟨w.heap.size, 1, none⟩ (.string s)) ((Below.heap_setCell _ _ _ _ (by simp)).trans HT.out) (.int .i64 ia) (.string s) (.int .i64 o)
  have y0 := block_cell hth 0
  have y1 := block_cell hth 1
  have y2 := block_cell hth 2
  simp only [List.getElem?_toArray, List.getElem?_cons_zero, List.getElem?_cons_succ] at y0 y1 y2
  exact bodyPost_ret (v := .agg #[.int .i64 ia, .string s, .int .i64 o]) (by simp [results, Try.results12, go_sem, y0, y1, y2]) rfl ⟨rfl, (((HB3.out.setCell (by simp) _).setCell (by simp) _).setCell (by simp) _).setCell (by simp) _⟩
end Go.Proofs.Ytcdnbkfjiigdmaa
