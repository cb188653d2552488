/-
  The contracts of slices.Grow (at nothing) and of slices.Concat (of two).
-/
import Derived.Test.YtlmlkpdppkgenaaShelfG
import Derived.Test.YtlmlkpdppkgenaaPmLink
namespace Go.Proofs.Ytlmlkpdppkgenaa
open Go.RowKit
open Cls Po

theorem heap_new (w : World) (o : Obj) : (w.alloc o).heap[w.heap.size]? = some o := by show (w.heap.push o)[w.heap.size]? = some o; simp
theorem grow_nil (n : Nat) (hn : n ≤ 1000000) (w : World) :
    Calls Try.prog 91 #[.slice none 0 0, .int .i64 (n : Int)] w fun e w' => ∃ o c, e = .returned (.slice o 0 c) ∧ w'.ownsRow w.heap.size 3 1 (.slice o 0 c) 0 [] ∧ Below w.heap.size w w' := by
  by_cases h0 : n = 0
  · have h1 : Calls Try.prog 91 #[.slice none 0 0, .int .i64 (n : Int)] w fun e w' => e = .returned (.slice none 0 0) ∧ w' = w := Any8.slices_Grow_room Try.growI none 0 0 n w (by omega) (by omega) (by omega) (by omega)
    refine h1.mono ?_
    rintro e w' ⟨he, hw⟩
    rw [hw]
    exact ⟨none, 0, he, World.ownsRow_nil _ _ _ _, Below.refl _ _⟩
  · obtain ⟨i3, a1, a2, a3, a4⟩ := info_parts iinfo3
    have h1 : Calls Try.prog 91 #[.slice none 0 0, .int .i64 (n : Int)] w fun e w' => e = .returned (.slice (some ⟨w.heap.size, 0, none⟩) 0 (grownCap w (0 + n) 0 3)) ∧ w' = w.drew.alloc (.cells (([] : List Value).toArray ++ Builtin.zeroCells (Value.int .i64 0).cells (0 + n - 0) ++ Builtin.zeroCells (Value.int .i64 0).cells (grownCap w (0 + n) 0 3 - (0 + n))) 3) :=
      Any8.slices_Grow_grow Try.growI i3 (.int .i64 0) a1 a2 (by omega) none 0 0 n [] w (by omega) (by omega) (by rw [a4]; omega) (by omega) (by simp) (fun _ => rfl) (fun a ha => by cases ha)
    refine h1.mono ?_
    rintro e w' ⟨he, hw⟩
    rw [hw]
    have hge := grownCap_ge w (0 + n) 0 3
    have hle := grownCap_le_maxLen w (0 + n) 0 3 (by unfold maxLen; omega)
    refine ⟨_, _, he, ⟨rfl, Or.inr ⟨w.heap.size, _, _, rfl, Nat.le_refl _, heap_new w.drew _, by omega, hle, ?_, by simp⟩⟩, (Below.refl _ _).drew.alloc (Nat.le_refl _) _⟩
    rw [Nat.zero_add] at hge
    simp [size_zeroCells, Value.cells]
    omega
theorem below_grown {B : Nat} {w w' w'' : World} {o : Option Nat} (h : Below B w w') (k : w'.grownBy w'' o) (ho : ∀ q, o = some q → B ≤ q) (hB : B ≤ w'.heap.size) : Below B w w'' :=
  ⟨k.os.trans h.os, k.tape.trans h.tape, k.output.trans h.output, Nat.le_trans h.size k.size, fun q hq => (k.block q (by omega) (fun e => by have := ho q e.symm; omega)).trans (h.block q hq)⟩
def two (xs ys : List Int) : Nat → List Int
  | 0 => []
  | 1 => xs
  | _ => xs ++ ys
set_option maxHeartbeats 4000000 in
set_option maxRecDepth 20000 in
theorem concat_any (g cap : Nat) (vx vy : Value) (xs ys : List Int) (w : World) (hx : Ints w vx xs) (hy : Ints w vy ys) (h0 : w.cell? ⟨g, 0, none⟩ = some vx) (h1 : w.cell? ⟨g, 1, none⟩ = some vy) (hgl : g < w.heap.size) (hs : xs.length + ys.length ≤ 100000) :
    Calls Try.prog 86 #[.slice (some ⟨g, 0, none⟩) 2 cap] w fun e w' => ∃ o n c, e = .returned (.slice o n c) ∧ w'.ownsRow w.heap.size 3 1 (.slice o n c) (xs ++ ys).length ((xs ++ ys).map (Value.int .i64)) ∧ Below w.heap.size w w' := by
  have HX : Hid (Ints w vx xs ∧ Ints w vy ys) := ⟨hx, hy⟩
  have HC : Hid (w.cell? ⟨g, 0, none⟩ = some vx ∧ w.cell? ⟨g, 1, none⟩ = some vy ∧ g < w.heap.size) := ⟨h0, h1, hgl⟩
  have HS : Hid (xs.length + ys.length ≤ 100000) := hs
  obtain ⟨ax, cx, rfl, -, -⟩ := hx
  obtain ⟨ay, cy, rfl, -, -⟩ := hy
  have HT : Hid (∀ k, (two xs ys k).length ≤ 100000) := fun k => by
    match k with
    | 0 => simp [two]
    | 1 => simp only [two]; omega
    | k + 2 => simp only [two, List.length_append]; omega
  clear h0 h1 hgl hs
  go_enter Try.func86, Try.ntmps86
  go_wp2_with fail
  go_loopw [11, 3] (fun z y wr => ∃ k : Nat, k ≤ 2 ∧ z = .int .i64 (k : Int) ∧ y = .int .i64 ((two xs ys k).length : Int) ∧ Hid (wr = w)) (fun z _ _ => 2 - (intOf z).toNat)
  case atStart => exact ⟨0, by omega, rfl, rfl, (rfl : _ = _)⟩
  case round =>
    obtain ⟨k, hk, rfl, rfl, HW⟩ := hrel
    have h9 : w = wr := HW.out.symm
    subst h9
    clear HW
    by_cases hlt : k < 2
    · have hk0 : (0 : Int) ≤ (k : Int) := by omega
      have hk1 : (k : Int) < 2 := by omega
      rcases (by omega : k = 0 ∨ k = 1) with rfl | rfl
      · have ya := HC.out.1
        have hl := HS.out
        have hw : wrap64 (xs.length : Int) = (xs.length : Int) := by unfold wrap64; omega
        simp only [two] at *
        go_wp2_with fail
        go_roundw
        case rel => exact ⟨1, by omega, by go_num, by simp, trivial⟩
        case measure => simp [intOf]
      · have ya := HC.out.2.1
        have hl := HS.out
        have hw : wrap64 ((xs.length : Int) + (ys.length : Int)) = (xs.length : Int) + (ys.length : Int) := by unfold wrap64; omega
        simp only [two] at *
        go_wp2_with fail
        go_roundw
        case rel => exact ⟨2, by omega, by go_num, by simp, trivial⟩
        case measure => simp [intOf]
    · have hk2 : k = 2 := by omega
      subst hk2
      have hcl := grow_nil (two xs ys 2).length (Nat.le_trans (HT.out 2) (by omega)) w
      generalize (two xs ys 2).length = m2 at hcl
      have HCL : Hid _ := hcl
      go_upto_region 10 with (go_at_call 91; refine hcl.mono ?_; rintro _ w5 ⟨o5, c5, rfl, h5⟩)
      have HB5 : Hid (w5.ownsRow w.heap.size 3 1 (.slice o5 0 c5) 0 [] ∧ Below w.heap.size w w5) := h5
      clear h5 hcl HCL
      go_wp2_with fail
      go_loopw [27, 6] (fun z y wr => ∃ k : Nat, k ≤ 2 ∧ z = .int .i64 (k : Int) ∧ ∃ o n c, y = .slice o n c ∧ Hid (wr.ownsRow w.heap.size 3 1 (.slice o n c) (two xs ys k).length ((two xs ys k).map (Value.int .i64)) ∧ Below w.heap.size w wr)) (fun z _ _ => 2 - (intOf z).toNat)
      case atStart => exact ⟨0, by omega, rfl, o5, 0, c5, rfl, HB5⟩
      case round =>
        obtain ⟨k, hk, rfl, o6, n6, c6, rfl, HR⟩ := hrel
        by_cases hlt : k < 2
        · have hk0 : (0 : Int) ≤ (k : Int) := by omega
          have hk1 : (k : Int) < 2 := by omega
          obtain ⟨ao, l, cp, hci, hin, hnx⟩ : ∃ ao l cp, w.cell? ⟨g, k, none⟩ = some (.slice ao (List.length l) cp) ∧ Ints w (.slice ao l.length cp) l ∧ two xs ys (k + 1) = two xs ys k ++ l := by
            rcases (by omega : k = 0 ∨ k = 1) with rfl | rfl
            · exact ⟨ax, xs, cx, HC.out.1, HX.out.1, by simp [two]⟩
            · exact ⟨ay, ys, cy, HC.out.2.1, HX.out.2, by simp [two]⟩
          have ya : wr.cell? ⟨g, k, none⟩ = some (.slice ao l.length cp) := (HR.out.2.cell (p := ⟨g, k, none⟩) HC.out.2.2).trans hci
          obtain ⟨o8, n8, c8, w8, hrun, how8, hgw8, hq8⟩ := append_ints HR.out.1 (hin.below HR.out.2) (by have := HT.out (k + 1); rw [hnx, List.length_append] at this; omega) HR.out.2.size
          have HRUN : Hid ((Builtin.append_ #[23, 23] 23 #[.slice o6 n6 c6, .slice ao l.length cp]).run Try.prog wr = .ok (.slice o8 n8 c8) w8) := hrun
          have HNX : Hid (w8.ownsRow w.heap.size 3 1 (.slice o8 n8 c8) (two xs ys (k + 1)).length ((two xs ys (k + 1)).map (Value.int .i64)) ∧ Below w.heap.size w w8) := by
            rw [hnx]
            exact ⟨how8, below_grown HR.out.2 hgw8 (fun q hq => (HR.out.1.lt q hq).1) HR.out.2.size⟩
          clear hrun how8 hgw8 hq8 hnx hci hin HR
          go_wp2_with (refine wpList_append_run rfl _ _ 23 rfl _ _ rfl rfl HRUN.out ?_)
          go_roundw
          case rel => exact ⟨k + 1, by omega, by go_num, o8, n8, c8, rfl, HNX⟩
          case measure => simp [intOf]; omega
        · have hk2 : k = 2 := by omega
          subst hk2
          go_wp2_with fail
          go_ret
          exact ⟨_, _, _, rfl, HR.out⟩
end Go.Proofs.Ytlmlkpdppkgenaa
