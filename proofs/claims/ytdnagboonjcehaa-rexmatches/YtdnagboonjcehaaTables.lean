/-
  Tables of Bools in memory, as pushref makes them, and the contract of pushref.blank.
-/
import Derived.Test.YtdnagboonjcehaaRefAt
import Derived.Deep.OwnRows
namespace Go.Proofs.Ytdnagboonjcehaa
open Go.RowKit
open Cls Rex

theorem info4 : (Try.prog.info? 4).map (fun i => (i.zero, i.size, i.bytes)) = some (some (.bool false), 1, 1) := by kernel_rfl
theorem info51 : (Try.prog.info? 51).map (fun i => (i.zero, i.size, i.bytes)) = some (some (.slice none 0 0), 1, 24) := by kernel_rfl
/-- A table: its rows one behind the other, a block each. -/
structure Tb (W : World) (g m : Nat) (F : Nat → Nat → Bool) : Prop where
  top : W.rowIs g 51 m (fun j => .slice (some ⟨g + 1 + j, 0, none⟩) m m)
  rows : ∀ j, j < m → W.rowIs (g + 1 + j) 4 m (fun c => .bool (F j c))
theorem Tb.of {W W' : World} {g m : Nat} {F : Nat → Nat → Bool} (h : Tb W g m F) (hb : ∀ b, g ≤ b → b ≤ g + m → W'.heap[b]? = W.heap[b]?) : Tb W' g m F :=
  ⟨h.top.of_block (hb g (by omega) (by omega)), fun j hj => (h.rows j hj).of_block (hb _ (by omega) (by omega))⟩
theorem Tb.next {W W' : World} {g m : Nat} {F : Nat → Nat → Bool} (h : Tb W g m F) (hb : Below W.heap.size W W') : Tb W' g m F :=
  ⟨h.top.of_block (hb.block _ h.top.lt), fun j hj => (h.rows j hj).of_block (hb.block _ (h.rows j hj).lt)⟩
theorem Tb.drew {W : World} {g m : Nat} {F : Nat → Nat → Bool} (h : Tb W g m F) : Tb W.drew g m F := ⟨h.top, h.rows⟩
theorem Tb.congr {W : World} {g m : Nat} {F G : Nat → Nat → Bool} (h : Tb W g m F) (e : ∀ i j, i < m → j < m → F i j = G i j) : Tb W g m G :=
  ⟨h.top, fun j hj => (h.rows j hj).congr fun i hi => by rw [e j i hj hi]⟩
/-- One cell stored anew. -/
def upd (F : Nat → Nat → Bool) (i j : Nat) (b : Bool) : Nat → Nat → Bool := fun x y => if x = i ∧ y = j then b else F x y
theorem Tb.set {W : World} {g m : Nat} {F : Nat → Nat → Bool} (h : Tb W g m F) (i j : Nat) (b : Bool) : Tb (W.setCell ⟨g + 1 + i, j, none⟩ (.bool b)) g m (upd F i j b) := by
  refine ⟨h.top.setOther (by show g ≠ g + 1 + i; omega) _, fun x hx => ?_⟩
  by_cases e : x = i
  · subst e
    refine ((h.rows x hx).set j (.bool b)).congr fun y _ => ?_
    by_cases ey : y = j
    · simp [upd, ey]
    · simp [upd, ey]
  · exact ((h.rows x hx).setOther (by show g + 1 + x ≠ g + 1 + i; omega) _).congr fun y _ => by simp [upd, e]
theorem Tb.other {W : World} {g m : Nat} {F : Nat → Nat → Bool} (h : Tb W g m F) (a : Addr) (ha : a.block < g ∨ g + m < a.block) (v : Value) : Tb (W.setCell a v) g m F :=
  h.of fun b h1 h2 => Below.heap_setCell _ _ _ _ (by omega)
/-- While blank goes on. -/
structure BI (w : World) (m i : Nat) (W : World) : Prop where
  below : Below w.heap.size w W
  size : W.heap.size = w.heap.size + 1 + i
  top : W.rowIs w.heap.size 51 m (fun j => if j < i then .slice (some ⟨w.heap.size + 1 + j, 0, none⟩) m m else .slice none 0 0)
  rows : ∀ j, j < i → W.rowIs (w.heap.size + 1 + j) 4 m (fun _ => .bool false)
theorem BI.next {w : World} {m i : Nat} {W : World} (h : BI w m i W) (hi : i < m) : BI w m (i + 1) ((W.setCell ⟨w.heap.size, i, none⟩ (.slice (some ⟨W.heap.size, 0, none⟩) m m)).alloc (.cells (madeCells #[.bool false] m) 4)) := by
  have hs : (W.setCell ⟨w.heap.size, i, none⟩ (.slice (some ⟨W.heap.size, 0, none⟩) m m)).heap.size = W.heap.size := by simp [World.setCell]
  have hnew := World.rowIs_made (W.setCell ⟨w.heap.size, i, none⟩ (.slice (some ⟨W.heap.size, 0, none⟩) m m)) (.bool false) m 4
  rw [hs, h.size] at hnew
  refine ⟨(h.below.setCell (p := ⟨w.heap.size, i, none⟩) (Nat.le_refl _) _).alloc (by rw [hs, h.size]; omega) _, by simp [World.setCell, h.size]; omega, ((h.top.set i _).alloc _).congr (fun j _ => ?_), fun j hj => ?_⟩
  · by_cases e : j = i
    · subst e; simp [h.size]
    · rw [if_neg e]
      by_cases hlt : j < i
      · rw [if_pos hlt, if_pos (by omega)]
      · rw [if_neg hlt, if_neg (by omega)]
  · by_cases e : j = i
    · subst e
      rw [h.size]; exact hnew
    · exact ((h.rows j (by omega)).setOther (by show w.heap.size + 1 + j ≠ w.heap.size; omega) _).alloc _
set_option maxHeartbeats 4000000 in
set_option maxRecDepth 20000 in
theorem blank_any (n : Nat) (hn : n ≤ 200) (w : World) :
    Calls Try.prog 28 #[.int .i64 (n : Int)] w fun e w' => e = .returned (.slice (some ⟨w.heap.size, 0, none⟩) (n + 1) (n + 1)) ∧ Tb w' w.heap.size (n + 1) (fun _ _ => false) ∧ Below w.heap.size w w' ∧ w'.heap.size = w.heap.size + 1 + (n + 1) := by
  have hmk53 := run_make_row' (P := Try.prog) 53 51 (.slice none 0 0) 24 Try.underlying53 info51 rfl .i64 .i64 (n + 1) (by omega) (by omega)
  have e1 : ((n + 1 : Nat) : Int) = (n : Int) + 1 := by omega
  rw [e1] at hmk53
  have H0 : Hid (BI w (n + 1) 0 (w.alloc (.cells (madeCells #[.slice none 0 0] (n + 1)) 51))) := ⟨box_keep w _, by simp, (World.rowIs_made w _ (n + 1) 51).congr (fun j _ => by simp), fun j hj => absurd hj (Nat.not_lt_zero _)⟩
  clear e1
  go_enter Try.func28, Try.ntmps28
  go_wp2_with fail
  clear hmk53
  go_loopw [4] (fun z wr => ∃ i : Nat, i ≤ n + 1 ∧ z = .int .i64 (i : Int) ∧ Hid (BI w (n + 1) i wr)) (fun z _ => n + 1 - (intOf z).toNat)
  case atStart => exact ⟨0, by omega, rfl, H0⟩
  case round =>
    obtain ⟨i, hi, rfl, HI⟩ := hrel
    by_cases hlt : i ≤ n
    · have hlt' : (i : Int) ≤ (n : Int) := by omega
      have hmk51 := run_make_row' (P := Try.prog) 51 4 (.bool false) 1 Try.underlying51 info4 rfl .i64 .i64 (n + 1) (by omega) (by omega)
      have e1 : ((n + 1 : Nat) : Int) = (n : Int) + 1 := by omega
      rw [e1] at hmk51
      clear e1
      have hc := HI.out.top.cell (i := i) (by omega)
      have hf := HI.out.top.frozen i
      simp at hc
      have hgl := HI.out.top.lt
      go_wp2_with fail
      go_roundw
      case rel => exact ⟨i + 1, by omega, by go_num, HI.out.next (by omega)⟩
      case measure => simp [intOf]; omega
    · have hlt' : ¬ (i : Int) ≤ (n : Int) := by omega
      obtain rfl : i = n + 1 := by omega
      go_wp2_with fail
      go_ret
      exact ⟨rfl, ⟨HI.out.top.congr fun j hj => by simp [hj], HI.out.rows⟩, HI.out.below, HI.out.size⟩
end Go.Proofs.Ytdnagboonjcehaa
