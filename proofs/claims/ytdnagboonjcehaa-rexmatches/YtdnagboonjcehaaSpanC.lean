/-
  What pushref.spans is to do, and it at the empty expression and at none.
-/
import Derived.Test.YtdnagboonjcehaaRefBehind
import Derived.Test.YtdnagboonjcehaaCuts
namespace Go.Proofs.Ytdnagboonjcehaa
open Go.RowKit
open Cls Rex

/-- What spans is to do. -/
def SC (t : T) (x : E) : Prop := ∀ (v : Value) (B : Nat) (s : ByteArray) (w : World), s.size ≤ 60 → Rx w B v t → B ≤ w.heap.size → Calls Try.prog 22 #[v, .string s] w fun e w' => ∃ g : Nat, e = .returned (.slice (some ⟨g, 0, none⟩) (s.size + 1) (s.size + 1)) ∧ w.heap.size ≤ g ∧ (∃ F : Nat → Nat → Bool, Tb w' g (s.size + 1) F ∧ ∀ u v, u < (s.size + 1) → v < (s.size + 1) → (F u v = true ↔ Sp x s.data.toList u v)) ∧ Below w.heap.size w w'
theorem len_of (s : ByteArray) : s.data.toList.length = s.size := by rw [Array.length_toList]; rfl
/-- Ahead of a kind's own part: the box, and out. -/
structure Sg (w : World) (O : Obj) (g m : Nat) (F : Nat → Nat → Bool) (W : World) : Prop where
  below : Below w.heap.size w W
  box : W.heap[w.heap.size]? = some O
  o : Tb W g m F
  lo : w.heap.size + 1 ≤ g
theorem Sg.put {w : World} {O : Obj} {g m : Nat} {F : Nat → Nat → Bool} {W W' : World} (h : Sg w O g m F W) (hs : Below W.heap.size W W') (i j : Nat) (b : Bool) : Sg w O g m (upd F i j b) (W'.setCell ⟨g + 1 + i, j, none⟩ (.bool b)) := by
  have h1 := h.lo
  exact ⟨(h.below.trans (hs.mono h.below.size)).setCell (p := ⟨g + 1 + i, j, none⟩) (by show w.heap.size ≤ g + 1 + i; omega) _, (Below.heap_setCell _ _ _ _ (by show w.heap.size ≠ g + 1 + i; omega)).trans (blk_next hs h.box), (h.o.next hs).set i j b, h1⟩
set_option maxHeartbeats 4000000 in
set_option maxRecDepth 20000 in
theorem spans_none  : SC (.mk 1 empty []) .none := by
  intro v B s w hs hx hBw
  obtain ⟨k_, c_, ao, cap, kids_, vals, rfl, ht, -⟩ := hx.shape
  injection ht with e1 e2 e3
  subst e1 e2 e3
  clear hx
  simp only [List.length_nil]
  obtain ⟨w0, HW0⟩ : ∃ w0, Hid (w.alloc (.cells #[.int .i64 1, .int .u64 (empty.1.toNat : Int), .int .u64 (empty.2.1.toNat : Int), .int .u64 (empty.2.2.1.toNat : Int), .int .u64 (empty.2.2.2.toNat : Int), .slice ao 0 cap] 27) = w0) := ⟨_, (rfl : w.alloc (.cells #[.int .i64 1, .int .u64 (empty.1.toNat : Int), .int .u64 (empty.2.1.toNat : Int), .int .u64 (empty.2.2.1.toNat : Int), .int .u64 (empty.2.2.2.toNat : Int), .slice ao 0 cap] 27) = w.alloc (.cells #[.int .i64 1, .int .u64 (empty.1.toNat : Int), .int .u64 (empty.2.1.toNat : Int), .int .u64 (empty.2.2.1.toNat : Int), .int .u64 (empty.2.2.2.toNat : Int), .slice ao 0 cap] 27))⟩
  have hb0 : Below w.heap.size w w0 := by rw [← HW0.out]; exact box_keep w _
  have hz0 : w0.heap[w.heap.size]? = some (.cells #[.int .i64 1, .int .u64 (empty.1.toNat : Int), .int .u64 (empty.2.1.toNat : Int), .int .u64 (empty.2.2.1.toNat : Int), .int .u64 (empty.2.2.2.toNat : Int), .slice ao 0 cap] 27) := by rw [← HW0.out]; exact block_new w _
  obtain ⟨g, HG⟩ : ∃ g, Hid (w0.heap.size = g) := ⟨_, (rfl : w0.heap.size = w0.heap.size)⟩
  have hbl := blank_any s.size (by omega) w0
  rw [HG.out] at hbl
  have hgl : w.heap.size + 1 ≤ g := by rw [← HG.out, ← HW0.out]; simp
  go_enter Try.func22, Try.ntmps22
  go_wp2_with fail
  rw [HW0.out]
  refine hbl.mono ?_
  rintro _ W1 ⟨rfl, hT, hBl, hsz⟩
  have hB1 : Below w0.heap.size w0 W1 := by rw [HG.out]; exact hBl
  have H0 : Hid (Sg w (.cells #[.int .i64 1, .int .u64 (empty.1.toNat : Int), .int .u64 (empty.2.1.toNat : Int), .int .u64 (empty.2.2.1.toNat : Int), .int .u64 (empty.2.2.2.toNat : Int), .slice ao 0 cap] 27) g (s.size + 1) (fun _ _ => false) W1) := ⟨hb0.trans (hB1.mono hb0.size), blk_next hB1 hz0, hT, hgl⟩
  clear hT hBl hsz hbl hB1 hb0 hz0
  have y0 := cell_of_row W1 w.heap.size 0 _ 27 (0, 0) H0.out.box
  simp only [List.getElem?_toArray, List.getElem?_cons_zero] at y0
  go_wp2_with fail
  go_ret
  exact ⟨g, rfl, by omega, ⟨_, H0.out.o, fun u v _ _ => by simp [sp_none]⟩, H0.out.below⟩
set_option maxHeartbeats 4000000 in
set_option maxRecDepth 20000 in
theorem spans_emp  : SC (.mk 2 empty []) .emp := by
  intro v B s w hs hx hBw
  obtain ⟨k_, c_, ao, cap, kids_, vals, rfl, ht, -⟩ := hx.shape
  injection ht with e1 e2 e3
  subst e1 e2 e3
  clear hx
  simp only [List.length_nil]
  obtain ⟨w0, HW0⟩ : ∃ w0, Hid (w.alloc (.cells #[.int .i64 2, .int .u64 (empty.1.toNat : Int), .int .u64 (empty.2.1.toNat : Int), .int .u64 (empty.2.2.1.toNat : Int), .int .u64 (empty.2.2.2.toNat : Int), .slice ao 0 cap] 27) = w0) := ⟨_, (rfl : w.alloc (.cells #[.int .i64 2, .int .u64 (empty.1.toNat : Int), .int .u64 (empty.2.1.toNat : Int), .int .u64 (empty.2.2.1.toNat : Int), .int .u64 (empty.2.2.2.toNat : Int), .slice ao 0 cap] 27) = w.alloc (.cells #[.int .i64 2, .int .u64 (empty.1.toNat : Int), .int .u64 (empty.2.1.toNat : Int), .int .u64 (empty.2.2.1.toNat : Int), .int .u64 (empty.2.2.2.toNat : Int), .slice ao 0 cap] 27))⟩
  have hb0 : Below w.heap.size w w0 := by rw [← HW0.out]; exact box_keep w _
  have hz0 : w0.heap[w.heap.size]? = some (.cells #[.int .i64 2, .int .u64 (empty.1.toNat : Int), .int .u64 (empty.2.1.toNat : Int), .int .u64 (empty.2.2.1.toNat : Int), .int .u64 (empty.2.2.2.toNat : Int), .slice ao 0 cap] 27) := by rw [← HW0.out]; exact block_new w _
  obtain ⟨g, HG⟩ : ∃ g, Hid (w0.heap.size = g) := ⟨_, (rfl : w0.heap.size = w0.heap.size)⟩
  have hbl := blank_any s.size (by omega) w0
  rw [HG.out] at hbl
  have hgl : w.heap.size + 1 ≤ g := by rw [← HG.out, ← HW0.out]; simp
  go_enter Try.func22, Try.ntmps22
  go_wp2_with fail
  rw [HW0.out]
  refine hbl.mono ?_
  rintro _ W1 ⟨rfl, hT, hBl, hsz⟩
  have hB1 : Below w0.heap.size w0 W1 := by rw [HG.out]; exact hBl
  have H0 : Hid (Sg w (.cells #[.int .i64 2, .int .u64 (empty.1.toNat : Int), .int .u64 (empty.2.1.toNat : Int), .int .u64 (empty.2.2.1.toNat : Int), .int .u64 (empty.2.2.2.toNat : Int), .slice ao 0 cap] 27) g (s.size + 1) (fun _ _ => false) W1) := ⟨hb0.trans (hB1.mono hb0.size), blk_next hB1 hz0, hT, hgl⟩
  clear hT hBl hsz hbl hB1 hb0 hz0
  have y0 := cell_of_row W1 w.heap.size 0 _ 27 (0, 0) H0.out.box
  simp only [List.getElem?_toArray, List.getElem?_cons_zero] at y0
  go_wp2_with fail
  clear y0
  go_loopw [6] (fun z wr => ∃ (i : Nat) (F : Nat → Nat → Bool), i ≤ (s.size + 1) ∧ z = .int .i64 (i : Int) ∧ Hid (Sg w (.cells #[.int .i64 2, .int .u64 (empty.1.toNat : Int), .int .u64 (empty.2.1.toNat : Int), .int .u64 (empty.2.2.1.toNat : Int), .int .u64 (empty.2.2.2.toNat : Int), .slice ao 0 cap] 27) g (s.size + 1) F wr ∧ ∀ u v, u < (s.size + 1) → v < (s.size + 1) → (F u v = true ↔ u = v ∧ u < i))) (fun z _ => (s.size + 1) - (intOf z).toNat)
  case atStart => exact ⟨0, _, by omega, rfl, ⟨H0.out, fun u v _ _ => by simp⟩⟩
  case round =>
    obtain ⟨i, F, hi, rfl, HI⟩ := hrel
    by_cases hlt : i ≤ s.size
    · have hlt' : (i : Int) ≤ (s.size : Int) := by omega
      have c1 := HI.out.1.o.top.cell (i := i) (by omega)
      have c2 := (HI.out.1.o.rows i (by omega)).cell (i := i) (by omega)
      have f2 := (HI.out.1.o.rows i (by omega)).frozen i
      go_wp2_with fail
      go_roundw
      case rel =>
        refine ⟨i + 1, _, by omega, by go_num, ⟨HI.out.1.put (Below.refl _ _) i i true, fun u v hu hv => ?_⟩⟩
        unfold upd
        by_cases e : u = i ∧ v = i
        · rw [if_pos e]; simp; omega
        · rw [if_neg e, HI.out.2 u v hu hv]; omega
      case measure => simp [intOf]; omega
    · have hlt' : ¬ (i : Int) ≤ (s.size : Int) := by omega
      go_wp2_with fail
      go_ret
      refine ⟨g, rfl, by omega, ⟨F, HI.out.1.o, fun u v hu hv => ?_⟩, HI.out.1.below⟩
      rw [HI.out.2 u v hu hv, sp_emp _ _ _ (by rw [len_of]; omega)]; omega
end Go.Proofs.Ytdnagboonjcehaa
