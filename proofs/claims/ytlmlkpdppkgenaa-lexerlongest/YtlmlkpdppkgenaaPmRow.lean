/-
  The contract of places.inRow.
-/
import Derived.Test.YtlmlkpdppkgenaaPmConcat
import Derived.Laws.Rows
namespace Go.Proofs.Ytlmlkpdppkgenaa
open Go.RowKit
open Cls Po

theorem alloc_old (w : World) (o : Obj) {k : Nat} (h : k < w.heap.size) : (w.alloc o).heap[k]? = w.heap[k]? := by show (w.heap.push o)[k]? = _; rw [Array.getElem?_push_lt h]; simp [h]
theorem new_at (w : World) (o : Obj) {k : Nat} (h : k = w.heap.size) : (w.alloc o).heap[k]? = some o := by subst h; exact heap_new w o
theorem results59 : Try.f85.results = #[.cell 4 137] := by kernel_rfl
set_option maxHeartbeats 4000000 in
set_option maxRecDepth 20000 in
theorem inRow_ff (a1 a2 b1 b2 : Option Addr) (n1 n2 m1 m2 c1 c2 d1 d2 : Nat) (w : World) :
    Calls Try.prog 85 #[.agg #[.slice a1 n1 c1, .slice a2 n2 c2, .bool false], .agg #[.slice b1 m1 d1, .slice b2 m2 d2, .bool false]] w fun e w' => e = .returned (.agg #[.slice a1 n1 c1, .slice b2 m2 d2, .bool false]) ∧ Below w.heap.size w w' := by
  go_enter Try.func85, Try.ntmps85
  go_wp2_with fail
  refine bodyPost_ret (v := .agg #[.slice a1 n1 c1, .slice b2 m2 d2, .bool false]) (results_cell_row results59 _ _ (w.heap.size + 1 + 1) 137 #[.slice a1 n1 c1, .slice b2 m2 d2, .bool false] (0, 0) _ rfl ((alloc_old _ _ (by simp)).trans (new_at _ _ (by simp))) Try.underlying137 rfl (by kernel_rfl)) rfl ⟨rfl, ?_⟩
  exact ((((Below.refl _ w).alloc (Nat.le_refl _) _).alloc (by simp) _).alloc (by simp; omega) _).alloc (by simp; omega) _
theorem cell_new_at (W : World) (l : List Value) (t : TypeId) {g : Nat} (j : Nat) (h : g = W.heap.size) : (W.alloc (.cells l.toArray t)).cell? ⟨g, j, none⟩ = l[j]? := by subst h; exact cell_new W l t j
theorem boxes4 {w w5 : World} {A B C D : Array Value} {E : Obj} (hb : Below (((((w.alloc (.cells A 137)).alloc (.cells B 137)).alloc (.cells C 137)).alloc (.cells D 137)).alloc E).heap.size (((((w.alloc (.cells A 137)).alloc (.cells B 137)).alloc (.cells C 137)).alloc (.cells D 137)).alloc E) w5) :
    w5.heap[w.heap.size]? = some (.cells A 137) ∧ w5.heap[w.heap.size + 1]? = some (.cells B 137) ∧ w5.heap[w.heap.size + 1 + 1]? = some (.cells C 137) ∧ w5.heap[w.heap.size + 1 + 1 + 1]? = some (.cells D 137) :=
  ⟨(hb.block _ (by simp <;> omega)).trans ((alloc_old _ _ (by simp <;> omega)).trans ((alloc_old _ _ (by simp <;> omega)).trans ((alloc_old _ _ (by simp <;> omega)).trans ((alloc_old _ _ (by simp)).trans (new_at _ _ rfl))))),
   (hb.block _ (by simp <;> omega)).trans ((alloc_old _ _ (by simp <;> omega)).trans ((alloc_old _ _ (by simp <;> omega)).trans ((alloc_old _ _ (by simp)).trans (new_at _ _ (by simp))))),
   (hb.block _ (by simp <;> omega)).trans ((alloc_old _ _ (by simp <;> omega)).trans ((alloc_old _ _ (by simp)).trans (new_at _ _ (by simp)))),
   (hb.block _ (by simp <;> omega)).trans ((alloc_old _ _ (by simp)).trans (new_at _ _ (by simp)))⟩
theorem cells3 {w : World} {g : Nat} {a b c : Value} {t : TypeId} (h : w.heap[g]? = some (.cells #[a, b, c] t)) : w.cell? ⟨g, 0, none⟩ = some a ∧ w.cell? ⟨g, 1, none⟩ = some b ∧ w.cell? ⟨g, 2, none⟩ = some c ∧ ∀ i, w.frozen? ⟨g, i, none⟩ = false := by simp [World.cell?, World.frozen?, h]
theorem three {w : World} {g : Nat} {x y z : Value} {t : TypeId} (h : w.heap[g]? = some (.cells #[x, y, z] t)) (a b c : Value) : (((w.setCell ⟨g, 0, none⟩ a).setCell ⟨g, 1, none⟩ b).setCell ⟨g, 2, none⟩ c).heap[g]? = some (.cells #[a, b, c] t) := by
  simp [World.setCell, Array.getElem?_modify, h]
theorem own_less {w : World} {base base' e size n : Nat} {v : Value} {xs : List Value} (h : w.ownsRow base e size v n xs) (hb : base' ≤ base) : w.ownsRow base' e size v n xs := by
  obtain ⟨h1, h2 | ⟨g, cap, cur, hv, hg, r⟩⟩ := h
  · exact ⟨h1, Or.inl h2⟩
  · exact ⟨h1, Or.inr ⟨g, cap, cur, hv, Nat.le_trans hb hg, r⟩⟩
set_option maxHeartbeats 4000000 in
set_option maxRecDepth 20000 in
theorem inRow_tf (a1 a2 b1 b2 : Option Addr) (n1 n2 m1 m2 c1 c2 d1 d2 : Nat) (w : World) (xs1 ys1 : List Int) (hx1 : Ints w (.slice a1 n1 c1) xs1) (hy1 : Ints w (.slice b1 m1 d1) ys1) (hs1 : xs1.length + ys1.length ≤ 100000) :
    Calls Try.prog 85 #[.agg #[.slice a1 n1 c1, .slice a2 n2 c2, .bool true], .agg #[.slice b1 m1 d1, .slice b2 m2 d2, .bool false]] w fun e w' => ∃ o1 k1 e1, e = .returned (.agg #[.slice o1 k1 e1, .slice b2 m2 d2, .bool false]) ∧ w'.ownsRow w.heap.size 3 1 (.slice o1 k1 e1) (xs1 ++ ys1).length ((xs1 ++ ys1).map (Value.int .i64)) ∧ Below w.heap.size w w' := by
  have HB4 : Hid (Below w.heap.size w (((((w.alloc (.cells #[.slice a1 n1 c1, .slice a2 n2 c2, .bool true] 137)).alloc (.cells #[.slice b1 m1 d1, .slice b2 m2 d2, .bool false] 137)).alloc (.cells #[.slice none 0 0, .slice none 0 0, .bool false] 137)).alloc (.cells #[.slice a1 n1 c1, .slice b2 m2 d2, .bool false] 137)).alloc (.cells #[.slice a1 n1 c1, .slice b1 m1 d1] 23))) := ((((((Below.refl _ w).alloc (Nat.le_refl _) _).alloc (by simp) _).alloc (by simp <;> omega) _).alloc (by simp <;> omega) _).alloc (by simp <;> omega) _)
  have HCL : Hid (Calls Try.prog 86 #[.slice (some ⟨w.heap.size + 1 + 1 + 1 + 1, 0, none⟩) 2 2] (((((w.alloc (.cells #[.slice a1 n1 c1, .slice a2 n2 c2, .bool true] 137)).alloc (.cells #[.slice b1 m1 d1, .slice b2 m2 d2, .bool false] 137)).alloc (.cells #[.slice none 0 0, .slice none 0 0, .bool false] 137)).alloc (.cells #[.slice a1 n1 c1, .slice b2 m2 d2, .bool false] 137)).alloc (.cells #[.slice a1 n1 c1, .slice b1 m1 d1] 23)) fun e w' => ∃ o n c, e = .returned (.slice o n c) ∧ w'.ownsRow (((((w.alloc (.cells #[.slice a1 n1 c1, .slice a2 n2 c2, .bool true] 137)).alloc (.cells #[.slice b1 m1 d1, .slice b2 m2 d2, .bool false] 137)).alloc (.cells #[.slice none 0 0, .slice none 0 0, .bool false] 137)).alloc (.cells #[.slice a1 n1 c1, .slice b2 m2 d2, .bool false] 137)).alloc (.cells #[.slice a1 n1 c1, .slice b1 m1 d1] 23)).heap.size 3 1 (.slice o n c) (xs1 ++ ys1).length ((xs1 ++ ys1).map (Value.int .i64)) ∧ Below (((((w.alloc (.cells #[.slice a1 n1 c1, .slice a2 n2 c2, .bool true] 137)).alloc (.cells #[.slice b1 m1 d1, .slice b2 m2 d2, .bool false] 137)).alloc (.cells #[.slice none 0 0, .slice none 0 0, .bool false] 137)).alloc (.cells #[.slice a1 n1 c1, .slice b2 m2 d2, .bool false] 137)).alloc (.cells #[.slice a1 n1 c1, .slice b1 m1 d1] 23)).heap.size (((((w.alloc (.cells #[.slice a1 n1 c1, .slice a2 n2 c2, .bool true] 137)).alloc (.cells #[.slice b1 m1 d1, .slice b2 m2 d2, .bool false] 137)).alloc (.cells #[.slice none 0 0, .slice none 0 0, .bool false] 137)).alloc (.cells #[.slice a1 n1 c1, .slice b2 m2 d2, .bool false] 137)).alloc (.cells #[.slice a1 n1 c1, .slice b1 m1 d1] 23)) w') :=
    concat_any (w.heap.size + 1 + 1 + 1 + 1) 2 (.slice a1 n1 c1) (.slice b1 m1 d1) xs1 ys1 _ (hx1.below HB4.out) (hy1.below HB4.out) (cell_new_at _ [.slice a1 n1 c1, .slice b1 m1 d1] 23 0 (by simp)) (cell_new_at _ [.slice a1 n1 c1, .slice b1 m1 d1] 23 1 (by simp)) (by simp) hs1
  go_enter Try.func85, Try.ntmps85
  go_wp2_with (go_at_call 86; refine HCL.out.mono ?_; rintro _ w5 ⟨o1, k1, e1, rfl, h5⟩; have H5 : Hid _ := h5; obtain ⟨q0, q1, q2, q3⟩ := boxes4 h5.2; have z0 := cells3 q0; have z1 := cells3 q1; have z2 := cells3 q2; have z3 := cells3 q3; have Q2 : Hid _ := q2; clear q0 q1 q2 q3 h5; obtain ⟨z00, z01, z02, z0f⟩ := z0; obtain ⟨z10, z11, z12, z1f⟩ := z1; obtain ⟨z20, z21, z22, z2f⟩ := z2; obtain ⟨z30, z31, z32, z3f⟩ := z3)
  have hh : (w5.setCell ⟨w.heap.size + 1 + 1 + 1, 0, none⟩ (.slice o1 k1 e1)).heap[w.heap.size + 1 + 1]? = some (.cells #[.slice none 0 0, .slice none 0 0, .bool false] 137) := (Below.heap_setCell _ _ _ _ (by simp)).trans Q2.out
  have hst : ((((w5.setCell ⟨w.heap.size + 1 + 1 + 1, 0, none⟩ (.slice o1 k1 e1)).setCell ⟨w.heap.size + 1 + 1, 0, none⟩ (.slice o1 k1 e1)).setCell ⟨w.heap.size + 1 + 1, 1, none⟩ (.slice b2 m2 d2)).setCell ⟨w.heap.size + 1 + 1, 2, none⟩ (.bool false)).heap[w.heap.size + 1 + 1]? = some (.cells #[(.slice o1 k1 e1), .slice b2 m2 d2, .bool false] 137) := three hh _ _ _
  have hfr : ∀ q, q ≠ w.heap.size + 1 + 1 → q ≠ w.heap.size + 1 + 1 + 1 → ((((w5.setCell ⟨w.heap.size + 1 + 1 + 1, 0, none⟩ (.slice o1 k1 e1)).setCell ⟨w.heap.size + 1 + 1, 0, none⟩ (.slice o1 k1 e1)).setCell ⟨w.heap.size + 1 + 1, 1, none⟩ (.slice b2 m2 d2)).setCell ⟨w.heap.size + 1 + 1, 2, none⟩ (.bool false)).heap[q]? = w5.heap[q]? := fun q h1 h2 => (Below.heap_setCell _ _ _ _ h1).trans ((Below.heap_setCell _ _ _ _ h1).trans ((Below.heap_setCell _ _ _ _ h1).trans (Below.heap_setCell _ _ _ _ h2)))
  have hsz : (((((w.alloc (.cells #[.slice a1 n1 c1, .slice a2 n2 c2, .bool true] 137)).alloc (.cells #[.slice b1 m1 d1, .slice b2 m2 d2, .bool false] 137)).alloc (.cells #[.slice none 0 0, .slice none 0 0, .bool false] 137)).alloc (.cells #[.slice a1 n1 c1, .slice b2 m2 d2, .bool false] 137)).alloc (.cells #[.slice a1 n1 c1, .slice b1 m1 d1] 23)).heap.size = w.heap.size + 5 := by simp
  have ho := H5.out.1
  have hbb := H5.out.2
  rw [hsz] at ho
  refine bodyPost_ret (v := .agg #[(.slice o1 k1 e1), .slice b2 m2 d2, .bool false]) (results_cell_row results59 _ _ (w.heap.size + 1 + 1) 137 #[(.slice o1 k1 e1), .slice b2 m2 d2, .bool false] (0, 0) _ rfl hst Try.underlying137 rfl (by kernel_rfl)) rfl ⟨_, _, _, rfl, ?_, ?_⟩
  · exact own_keep (own_less ho (by omega)) fun q hq => hfr q (by have := (ho.lt q hq).1; omega) (by have := (ho.lt q hq).1; omega)
  · refine ⟨hbb.os, hbb.tape, hbb.output, ?_, fun q hq => (hfr q (by omega) (by omega)).trans ((hbb.block q (by rw [hsz]; omega)).trans (HB4.out.block q hq))⟩
    have h1 := hbb.size
    rw [hsz] at h1
    simp only [World.setCell, Array.size_modify]
    omega
set_option maxHeartbeats 4000000 in
set_option maxRecDepth 20000 in
theorem inRow_ft (a1 a2 b1 b2 : Option Addr) (n1 n2 m1 m2 c1 c2 d1 d2 : Nat) (w : World) (xs2 ys2 : List Int) (hx2 : Ints w (.slice a2 n2 c2) xs2) (hy2 : Ints w (.slice b2 m2 d2) ys2) (hs2 : xs2.length + ys2.length ≤ 100000) :
    Calls Try.prog 85 #[.agg #[.slice a1 n1 c1, .slice a2 n2 c2, .bool false], .agg #[.slice b1 m1 d1, .slice b2 m2 d2, .bool true]] w fun e w' => ∃ o2 k2 e2, e = .returned (.agg #[.slice a1 n1 c1, .slice o2 k2 e2, .bool false]) ∧ w'.ownsRow w.heap.size 3 1 (.slice o2 k2 e2) (xs2 ++ ys2).length ((xs2 ++ ys2).map (Value.int .i64)) ∧ Below w.heap.size w w' := by
  have HB4 : Hid (Below w.heap.size w (((((w.alloc (.cells #[.slice a1 n1 c1, .slice a2 n2 c2, .bool false] 137)).alloc (.cells #[.slice b1 m1 d1, .slice b2 m2 d2, .bool true] 137)).alloc (.cells #[.slice none 0 0, .slice none 0 0, .bool false] 137)).alloc (.cells #[.slice a1 n1 c1, .slice b2 m2 d2, .bool false] 137)).alloc (.cells #[.slice a2 n2 c2, .slice b2 m2 d2] 23))) := ((((((Below.refl _ w).alloc (Nat.le_refl _) _).alloc (by simp) _).alloc (by simp <;> omega) _).alloc (by simp <;> omega) _).alloc (by simp <;> omega) _)
  have HCL : Hid (Calls Try.prog 86 #[.slice (some ⟨w.heap.size + 1 + 1 + 1 + 1, 0, none⟩) 2 2] (((((w.alloc (.cells #[.slice a1 n1 c1, .slice a2 n2 c2, .bool false] 137)).alloc (.cells #[.slice b1 m1 d1, .slice b2 m2 d2, .bool true] 137)).alloc (.cells #[.slice none 0 0, .slice none 0 0, .bool false] 137)).alloc (.cells #[.slice a1 n1 c1, .slice b2 m2 d2, .bool false] 137)).alloc (.cells #[.slice a2 n2 c2, .slice b2 m2 d2] 23)) fun e w' => ∃ o n c, e = .returned (.slice o n c) ∧ w'.ownsRow (((((w.alloc (.cells #[.slice a1 n1 c1, .slice a2 n2 c2, .bool false] 137)).alloc (.cells #[.slice b1 m1 d1, .slice b2 m2 d2, .bool true] 137)).alloc (.cells #[.slice none 0 0, .slice none 0 0, .bool false] 137)).alloc (.cells #[.slice a1 n1 c1, .slice b2 m2 d2, .bool false] 137)).alloc (.cells #[.slice a2 n2 c2, .slice b2 m2 d2] 23)).heap.size 3 1 (.slice o n c) (xs2 ++ ys2).length ((xs2 ++ ys2).map (Value.int .i64)) ∧ Below (((((w.alloc (.cells #[.slice a1 n1 c1, .slice a2 n2 c2, .bool false] 137)).alloc (.cells #[.slice b1 m1 d1, .slice b2 m2 d2, .bool true] 137)).alloc (.cells #[.slice none 0 0, .slice none 0 0, .bool false] 137)).alloc (.cells #[.slice a1 n1 c1, .slice b2 m2 d2, .bool false] 137)).alloc (.cells #[.slice a2 n2 c2, .slice b2 m2 d2] 23)).heap.size (((((w.alloc (.cells #[.slice a1 n1 c1, .slice a2 n2 c2, .bool false] 137)).alloc (.cells #[.slice b1 m1 d1, .slice b2 m2 d2, .bool true] 137)).alloc (.cells #[.slice none 0 0, .slice none 0 0, .bool false] 137)).alloc (.cells #[.slice a1 n1 c1, .slice b2 m2 d2, .bool false] 137)).alloc (.cells #[.slice a2 n2 c2, .slice b2 m2 d2] 23)) w') :=
    concat_any (w.heap.size + 1 + 1 + 1 + 1) 2 (.slice a2 n2 c2) (.slice b2 m2 d2) xs2 ys2 _ (hx2.below HB4.out) (hy2.below HB4.out) (cell_new_at _ [.slice a2 n2 c2, .slice b2 m2 d2] 23 0 (by simp)) (cell_new_at _ [.slice a2 n2 c2, .slice b2 m2 d2] 23 1 (by simp)) (by simp) hs2
  go_enter Try.func85, Try.ntmps85
  go_wp2_with (go_at_call 86; refine HCL.out.mono ?_; rintro _ w5 ⟨o2, k2, e2, rfl, h5⟩; have H5 : Hid _ := h5; obtain ⟨q0, q1, q2, q3⟩ := boxes4 h5.2; have z0 := cells3 q0; have z1 := cells3 q1; have z2 := cells3 q2; have z3 := cells3 q3; have Q2 : Hid _ := q2; clear q0 q1 q2 q3 h5; obtain ⟨z00, z01, z02, z0f⟩ := z0; obtain ⟨z10, z11, z12, z1f⟩ := z1; obtain ⟨z20, z21, z22, z2f⟩ := z2; obtain ⟨z30, z31, z32, z3f⟩ := z3)
  have hh : (w5.setCell ⟨w.heap.size + 1 + 1 + 1, 1, none⟩ (.slice o2 k2 e2)).heap[w.heap.size + 1 + 1]? = some (.cells #[.slice none 0 0, .slice none 0 0, .bool false] 137) := (Below.heap_setCell _ _ _ _ (by simp)).trans Q2.out
  have hst : ((((w5.setCell ⟨w.heap.size + 1 + 1 + 1, 1, none⟩ (.slice o2 k2 e2)).setCell ⟨w.heap.size + 1 + 1, 0, none⟩ (.slice a1 n1 c1)).setCell ⟨w.heap.size + 1 + 1, 1, none⟩ (.slice o2 k2 e2)).setCell ⟨w.heap.size + 1 + 1, 2, none⟩ (.bool false)).heap[w.heap.size + 1 + 1]? = some (.cells #[.slice a1 n1 c1, (.slice o2 k2 e2), .bool false] 137) := three hh _ _ _
  have hfr : ∀ q, q ≠ w.heap.size + 1 + 1 → q ≠ w.heap.size + 1 + 1 + 1 → ((((w5.setCell ⟨w.heap.size + 1 + 1 + 1, 1, none⟩ (.slice o2 k2 e2)).setCell ⟨w.heap.size + 1 + 1, 0, none⟩ (.slice a1 n1 c1)).setCell ⟨w.heap.size + 1 + 1, 1, none⟩ (.slice o2 k2 e2)).setCell ⟨w.heap.size + 1 + 1, 2, none⟩ (.bool false)).heap[q]? = w5.heap[q]? := fun q h1 h2 => (Below.heap_setCell _ _ _ _ h1).trans ((Below.heap_setCell _ _ _ _ h1).trans ((Below.heap_setCell _ _ _ _ h1).trans (Below.heap_setCell _ _ _ _ h2)))
  have hsz : (((((w.alloc (.cells #[.slice a1 n1 c1, .slice a2 n2 c2, .bool false] 137)).alloc (.cells #[.slice b1 m1 d1, .slice b2 m2 d2, .bool true] 137)).alloc (.cells #[.slice none 0 0, .slice none 0 0, .bool false] 137)).alloc (.cells #[.slice a1 n1 c1, .slice b2 m2 d2, .bool false] 137)).alloc (.cells #[.slice a2 n2 c2, .slice b2 m2 d2] 23)).heap.size = w.heap.size + 5 := by simp
  have ho := H5.out.1
  have hbb := H5.out.2
  rw [hsz] at ho
  refine bodyPost_ret (v := .agg #[.slice a1 n1 c1, (.slice o2 k2 e2), .bool false]) (results_cell_row results59 _ _ (w.heap.size + 1 + 1) 137 #[.slice a1 n1 c1, (.slice o2 k2 e2), .bool false] (0, 0) _ rfl hst Try.underlying137 rfl (by kernel_rfl)) rfl ⟨_, _, _, rfl, ?_, ?_⟩
  · exact own_keep (own_less ho (by omega)) fun q hq => hfr q (by have := (ho.lt q hq).1; omega) (by have := (ho.lt q hq).1; omega)
  · refine ⟨hbb.os, hbb.tape, hbb.output, ?_, fun q hq => (hfr q (by omega) (by omega)).trans ((hbb.block q (by rw [hsz]; omega)).trans (HB4.out.block q hq))⟩
    have h1 := hbb.size
    rw [hsz] at h1
    simp only [World.setCell, Array.size_modify]
    omega
set_option maxHeartbeats 4000000 in
set_option maxRecDepth 20000 in
theorem inRow_tt (a1 a2 b1 b2 : Option Addr) (n1 n2 m1 m2 c1 c2 d1 d2 : Nat) (w : World) (xs1 ys1 : List Int) (hx1 : Ints w (.slice a1 n1 c1) xs1) (hy1 : Ints w (.slice b1 m1 d1) ys1) (hs1 : xs1.length + ys1.length ≤ 100000) (xs2 ys2 : List Int) (hx2 : Ints w (.slice a2 n2 c2) xs2) (hy2 : Ints w (.slice b2 m2 d2) ys2) (hs2 : xs2.length + ys2.length ≤ 100000) :
    Calls Try.prog 85 #[.agg #[.slice a1 n1 c1, .slice a2 n2 c2, .bool true], .agg #[.slice b1 m1 d1, .slice b2 m2 d2, .bool true]] w fun e w' => ∃ o1 k1 e1 o2 k2 e2, e = .returned (.agg #[.slice o1 k1 e1, .slice o2 k2 e2, .bool true]) ∧ w'.ownsRow w.heap.size 3 1 (.slice o1 k1 e1) (xs1 ++ ys1).length ((xs1 ++ ys1).map (Value.int .i64)) ∧ w'.ownsRow w.heap.size 3 1 (.slice o2 k2 e2) (xs2 ++ ys2).length ((xs2 ++ ys2).map (Value.int .i64)) ∧ Below w.heap.size w w' := by
  have HB4 : Hid (Below w.heap.size w (((((w.alloc (.cells #[.slice a1 n1 c1, .slice a2 n2 c2, .bool true] 137)).alloc (.cells #[.slice b1 m1 d1, .slice b2 m2 d2, .bool true] 137)).alloc (.cells #[.slice none 0 0, .slice none 0 0, .bool false] 137)).alloc (.cells #[.slice a1 n1 c1, .slice b2 m2 d2, .bool true] 137)).alloc (.cells #[.slice a1 n1 c1, .slice b1 m1 d1] 23))) := ((((((Below.refl _ w).alloc (Nat.le_refl _) _).alloc (by simp) _).alloc (by simp <;> omega) _).alloc (by simp <;> omega) _).alloc (by simp <;> omega) _)
  have HCL : Hid (Calls Try.prog 86 #[.slice (some ⟨w.heap.size + 1 + 1 + 1 + 1, 0, none⟩) 2 2] (((((w.alloc (.cells #[.slice a1 n1 c1, .slice a2 n2 c2, .bool true] 137)).alloc (.cells #[.slice b1 m1 d1, .slice b2 m2 d2, .bool true] 137)).alloc (.cells #[.slice none 0 0, .slice none 0 0, .bool false] 137)).alloc (.cells #[.slice a1 n1 c1, .slice b2 m2 d2, .bool true] 137)).alloc (.cells #[.slice a1 n1 c1, .slice b1 m1 d1] 23)) fun e w' => ∃ o n c, e = .returned (.slice o n c) ∧ w'.ownsRow (((((w.alloc (.cells #[.slice a1 n1 c1, .slice a2 n2 c2, .bool true] 137)).alloc (.cells #[.slice b1 m1 d1, .slice b2 m2 d2, .bool true] 137)).alloc (.cells #[.slice none 0 0, .slice none 0 0, .bool false] 137)).alloc (.cells #[.slice a1 n1 c1, .slice b2 m2 d2, .bool true] 137)).alloc (.cells #[.slice a1 n1 c1, .slice b1 m1 d1] 23)).heap.size 3 1 (.slice o n c) (xs1 ++ ys1).length ((xs1 ++ ys1).map (Value.int .i64)) ∧ Below (((((w.alloc (.cells #[.slice a1 n1 c1, .slice a2 n2 c2, .bool true] 137)).alloc (.cells #[.slice b1 m1 d1, .slice b2 m2 d2, .bool true] 137)).alloc (.cells #[.slice none 0 0, .slice none 0 0, .bool false] 137)).alloc (.cells #[.slice a1 n1 c1, .slice b2 m2 d2, .bool true] 137)).alloc (.cells #[.slice a1 n1 c1, .slice b1 m1 d1] 23)).heap.size (((((w.alloc (.cells #[.slice a1 n1 c1, .slice a2 n2 c2, .bool true] 137)).alloc (.cells #[.slice b1 m1 d1, .slice b2 m2 d2, .bool true] 137)).alloc (.cells #[.slice none 0 0, .slice none 0 0, .bool false] 137)).alloc (.cells #[.slice a1 n1 c1, .slice b2 m2 d2, .bool true] 137)).alloc (.cells #[.slice a1 n1 c1, .slice b1 m1 d1] 23)) w') :=
    concat_any (w.heap.size + 1 + 1 + 1 + 1) 2 (.slice a1 n1 c1) (.slice b1 m1 d1) xs1 ys1 _ (hx1.below HB4.out) (hy1.below HB4.out) (cell_new_at _ [.slice a1 n1 c1, .slice b1 m1 d1] 23 0 (by simp)) (cell_new_at _ [.slice a1 n1 c1, .slice b1 m1 d1] 23 1 (by simp)) (by simp) hs1
  have HX2 : Hid (Ints w (.slice a2 n2 c2) xs2 ∧ Ints w (.slice b2 m2 d2) ys2 ∧ xs2.length + ys2.length ≤ 100000) := ⟨hx2, hy2, hs2⟩
  clear hx1 hy1 hs1 hx2 hy2 hs2
  go_enter Try.func85, Try.ntmps85
  go_upto_region 4 with (go_at_call 86; refine HCL.out.mono ?_; rintro _ w5 ⟨o1, k1, e1, rfl, h5⟩; have H5 : Hid _ := h5; obtain ⟨q0, q1, q2, q3⟩ := boxes4 h5.2; have z3 := cells3 q3; have Q : Hid _ := And.intro q0 (And.intro q1 (And.intro q2 q3)); clear q0 q1 q2 q3 h5; obtain ⟨z30, z31, z32, z3f⟩ := z3)
  clear HCL z30 z31 z32 z3f
  have hsz : (((((w.alloc (.cells #[.slice a1 n1 c1, .slice a2 n2 c2, .bool true] 137)).alloc (.cells #[.slice b1 m1 d1, .slice b2 m2 d2, .bool true] 137)).alloc (.cells #[.slice none 0 0, .slice none 0 0, .bool false] 137)).alloc (.cells #[.slice a1 n1 c1, .slice b2 m2 d2, .bool true] 137)).alloc (.cells #[.slice a1 n1 c1, .slice b1 m1 d1] 23)).heap.size = w.heap.size + 5 := by simp
  have ho := H5.out.1
  have hbb := H5.out.2
  rw [hsz] at ho
  have e1x : ∀ q, q ≠ w.heap.size + 1 + 1 + 1 → (w5.setCell ⟨w.heap.size + 1 + 1 + 1, 0, none⟩ (.slice o1 k1 e1)).heap[q]? = w5.heap[q]? := fun q hq => Below.heap_setCell _ _ _ _ hq
  have HQ4 : Hid ((w5.setCell ⟨w.heap.size + 1 + 1 + 1, 0, none⟩ (.slice o1 k1 e1)).heap[w.heap.size]? = some (.cells #[.slice a1 n1 c1, .slice a2 n2 c2, .bool true] 137) ∧ (w5.setCell ⟨w.heap.size + 1 + 1 + 1, 0, none⟩ (.slice o1 k1 e1)).heap[w.heap.size + 1]? = some (.cells #[.slice b1 m1 d1, .slice b2 m2 d2, .bool true] 137) ∧ (w5.setCell ⟨w.heap.size + 1 + 1 + 1, 0, none⟩ (.slice o1 k1 e1)).heap[w.heap.size + 1 + 1]? = some (.cells #[.slice none 0 0, .slice none 0 0, .bool false] 137) ∧ (w5.setCell ⟨w.heap.size + 1 + 1 + 1, 0, none⟩ (.slice o1 k1 e1)).heap[w.heap.size + 1 + 1 + 1]? = some (.cells #[(.slice o1 k1 e1), .slice b2 m2 d2, .bool true] 137)) :=
    ⟨(e1x _ (by omega)).trans Q.out.1, (e1x _ (by omega)).trans Q.out.2.1, (e1x _ (by omega)).trans Q.out.2.2.1, by simp [World.setCell, Array.getElem?_modify, Q.out.2.2.2]⟩
  have HO4 : Hid ((w5.setCell ⟨w.heap.size + 1 + 1 + 1, 0, none⟩ (.slice o1 k1 e1)).ownsRow (w.heap.size + 5) 3 1 (.slice o1 k1 e1) (xs1 ++ ys1).length ((xs1 ++ ys1).map (Value.int .i64))) := own_keep ho fun q hq => e1x q (by have := (ho.lt q hq).1; omega)
  have HB : Hid (Below w.heap.size w (w5.setCell ⟨w.heap.size + 1 + 1 + 1, 0, none⟩ (.slice o1 k1 e1)) ∧ w.heap.size + 5 ≤ (w5.setCell ⟨w.heap.size + 1 + 1 + 1, 0, none⟩ (.slice o1 k1 e1)).heap.size) := by
    have h1 := hbb.size
    rw [hsz] at h1
    exact ⟨⟨hbb.os, hbb.tape, hbb.output, by simp only [World.setCell, Array.size_modify]; omega, fun q hq => (e1x q (by omega)).trans ((hbb.block q (by rw [hsz]; omega)).trans (HB4.out.block q hq))⟩, by simp only [World.setCell, Array.size_modify]; exact h1⟩
  clear ho hbb hsz e1x H5 Q HB4
  obtain ⟨x4, HX4⟩ : ∃ q, Hid ((w5.setCell ⟨w.heap.size + 1 + 1 + 1, 0, none⟩ (.slice o1 k1 e1)) = q) := ⟨_, (rfl : _ = _)⟩
  rw [HX4.out] at HQ4 HO4 HB ⊢
  clear HX4
  obtain ⟨z00, z01, z02, z0f⟩ := cells3 HQ4.out.1
  obtain ⟨z10, z11, z12, z1f⟩ := cells3 HQ4.out.2.1
  have HE : Hid (Below x4.heap.size x4 (x4.alloc (.cells #[.slice a2 n2 c2, .slice b2 m2 d2] 23))) := (Below.refl _ _).alloc (Nat.le_refl _) _
  have HBE : Hid (Below w.heap.size w (x4.alloc (.cells #[.slice a2 n2 c2, .slice b2 m2 d2] 23))) := HB.out.1.alloc (by have := HB.out.2; omega) _
  have HCL : Hid (Calls Try.prog 86 #[.slice (some ⟨x4.heap.size, 0, none⟩) 2 2] (x4.alloc (.cells #[.slice a2 n2 c2, .slice b2 m2 d2] 23)) fun e w' => ∃ o n c, e = .returned (.slice o n c) ∧ w'.ownsRow (x4.alloc (.cells #[.slice a2 n2 c2, .slice b2 m2 d2] 23)).heap.size 3 1 (.slice o n c) (xs2 ++ ys2).length ((xs2 ++ ys2).map (Value.int .i64)) ∧ Below (x4.alloc (.cells #[.slice a2 n2 c2, .slice b2 m2 d2] 23)).heap.size (x4.alloc (.cells #[.slice a2 n2 c2, .slice b2 m2 d2] 23)) w') :=
    concat_any x4.heap.size 2 (.slice a2 n2 c2) (.slice b2 m2 d2) xs2 ys2 _ (HX2.out.1.below HBE.out) (HX2.out.2.1.below HBE.out) (cell_new_at _ [.slice a2 n2 c2, .slice b2 m2 d2] 23 0 rfl) (cell_new_at _ [.slice a2 n2 c2, .slice b2 m2 d2] 23 1 rfl) (by simp) HX2.out.2.2
  have hsx : (x4.alloc (.cells #[.slice a2 n2 c2, .slice b2 m2 d2] 23)).heap.size = x4.heap.size + 1 := by simp
  have HS : Hid ((x4.alloc (.cells #[.slice a2 n2 c2, .slice b2 m2 d2] 23)).heap.size = x4.heap.size + 1) := hsx
  clear hsx
  have HKP : Hid (∀ w6, Below (x4.alloc (.cells #[.slice a2 n2 c2, .slice b2 m2 d2] 23)).heap.size (x4.alloc (.cells #[.slice a2 n2 c2, .slice b2 m2 d2] 23)) w6 → ∀ q, q < x4.heap.size → w6.heap[q]? = x4.heap[q]?) := fun w6 h6 q hq => (h6.block q (by rw [HS.out]; omega)).trans (HE.out.block q hq)
  go_wp2_with (go_at_call 86; refine HCL.out.mono ?_; rintro _ w6 ⟨o2, k2, e2, rfl, h6⟩; have H6 : Hid _ := h6; have hk := HKP.out w6 h6.2; have hl := HB.out.2; have q2 := (hk (w.heap.size + 1 + 1) (by omega)).trans HQ4.out.2.2.1; have q3 := (hk (w.heap.size + 1 + 1 + 1) (by omega)).trans HQ4.out.2.2.2; have y2 := cells3 q2; have y3 := cells3 q3; have Q2 : Hid _ := q2; have HK : Hid _ := hk; clear q2 q3 h6 hk; obtain ⟨z20, z21, z22, z2f⟩ := y2; obtain ⟨z30, z31, z32, z3f⟩ := y3)
  have hh : (w6.setCell ⟨w.heap.size + 1 + 1 + 1, 1, none⟩ (.slice o2 k2 e2)).heap[w.heap.size + 1 + 1]? = some (.cells #[.slice none 0 0, .slice none 0 0, .bool false] 137) := (Below.heap_setCell _ _ _ _ (by simp)).trans Q2.out
  have hst : ((((w6.setCell ⟨w.heap.size + 1 + 1 + 1, 1, none⟩ (.slice o2 k2 e2)).setCell ⟨w.heap.size + 1 + 1, 0, none⟩ (.slice o1 k1 e1)).setCell ⟨w.heap.size + 1 + 1, 1, none⟩ (.slice o2 k2 e2)).setCell ⟨w.heap.size + 1 + 1, 2, none⟩ (.bool true)).heap[w.heap.size + 1 + 1]? = some (.cells #[(.slice o1 k1 e1), (.slice o2 k2 e2), .bool true] 137) := three hh _ _ _
  have hfr : ∀ q, q ≠ w.heap.size + 1 + 1 → q ≠ w.heap.size + 1 + 1 + 1 → ((((w6.setCell ⟨w.heap.size + 1 + 1 + 1, 1, none⟩ (.slice o2 k2 e2)).setCell ⟨w.heap.size + 1 + 1, 0, none⟩ (.slice o1 k1 e1)).setCell ⟨w.heap.size + 1 + 1, 1, none⟩ (.slice o2 k2 e2)).setCell ⟨w.heap.size + 1 + 1, 2, none⟩ (.bool true)).heap[q]? = w6.heap[q]? := fun q h1 h2 => (Below.heap_setCell _ _ _ _ h1).trans ((Below.heap_setCell _ _ _ _ h1).trans ((Below.heap_setCell _ _ _ _ h1).trans (Below.heap_setCell _ _ _ _ h2)))
  have ho := H6.out.1
  have hbb := H6.out.2
  rw [HS.out] at ho
  refine bodyPost_ret (v := .agg #[(.slice o1 k1 e1), (.slice o2 k2 e2), .bool true]) (results_cell_row results59 _ _ (w.heap.size + 1 + 1) 137 #[(.slice o1 k1 e1), (.slice o2 k2 e2), .bool true] (0, 0) _ rfl hst Try.underlying137 rfl (by kernel_rfl)) rfl ⟨_, _, _, _, _, _, rfl, ?_, ?_, ?_⟩
  · exact own_keep (own_less HO4.out (by omega)) fun q hq => (hfr q (by have := (HO4.out.lt q hq).1; omega) (by have := (HO4.out.lt q hq).1; omega)).trans (HK.out q (HO4.out.lt q hq).2)
  · exact own_keep (own_less ho (by omega)) fun q hq => hfr q (by have := (ho.lt q hq).1; omega) (by have := (ho.lt q hq).1; omega)
  · have hb1 := HB.out.1
    refine ⟨hbb.os.trans hb1.os, hbb.tape.trans hb1.tape, hbb.output.trans hb1.output, ?_, fun q hq => (hfr q (by omega) (by omega)).trans ((HK.out q (by omega)).trans (hb1.block q hq))⟩
    have h1 := hbb.size
    rw [HS.out] at h1
    simp only [World.setCell, Array.size_modify]
    omega
end Go.Proofs.Ytlmlkpdppkgenaa
