/-
  The contract of ClassAtoms' closure and of slices.ContainsFunc with it: does some class of the list tell two classes apart?
-/
import Derived.Test.YtgoejdakmbpcmaaSame
import Derived.Test.YtgoejdakmbpcmaaAtoms
namespace Go.Proofs.Ytgoejdakmbpcmaa
open Go.RowKit
open Cls
open Go.Shelf

set_option maxHeartbeats 2000000 in
set_option maxRecDepth 20000 in
theorem clos26 (x y c : Cl) (a b : Nat) (W : World) (h0 : Bx W a x) (h1 : Bx W b y) :
    Calls Try.prog 26 (#[.agg #[.int .u64 (c.1.toNat : Int), .int .u64 (c.2.1.toNat : Int), .int .u64 (c.2.2.1.toNat : Int), .int .u64 (c.2.2.2.toNat : Int)]] ++ #[.pointer (some ⟨a, 0, none⟩), .pointer (some ⟨b, 0, none⟩)]) W fun e w' => e = .returned (.bool (tells x y c)) ∧ Below W.heap.size W w' := by
  show Calls Try.prog 26 #[.agg #[.int .u64 (c.1.toNat : Int), .int .u64 (c.2.1.toNat : Int), .int .u64 (c.2.2.1.toNat : Int), .int .u64 (c.2.2.2.toNat : Int)], .pointer (some ⟨a, 0, none⟩), .pointer (some ⟨b, 0, none⟩)] W _
  have S1 : S3 W a b W.heap.size x y c (W.alloc (.cells #[.int .u64 (c.1.toNat : Int), .int .u64 (c.2.1.toNat : Int), .int .u64 (c.2.2.1.toNat : Int), .int .u64 (c.2.2.2.toNat : Int)] 24)).drew := S3.drew ⟨(Below.refl _ W).alloc (Nat.le_refl _) _, h0.alloc _, h1.alloc _, bx_new W c⟩
  clear h0 h1
  have hq := eqIn24
  have hgd := guard24
  go_enter Try.func26, Try.ntmps26
  go_wp2_with fail
  have pa0 : ∀ p : Kp (S3 W a b W.heap.size x y c), p.W.cell? ⟨a, 0, none⟩ = some (.int .u64 (x.1.toNat : Int)) := fun p => p.h.2.1.1
  have pa1 : ∀ p : Kp (S3 W a b W.heap.size x y c), p.W.cell? ⟨a, 1, none⟩ = some (.int .u64 (x.2.1.toNat : Int)) := fun p => p.h.2.1.2.1
  have pa2 : ∀ p : Kp (S3 W a b W.heap.size x y c), p.W.cell? ⟨a, 2, none⟩ = some (.int .u64 (x.2.2.1.toNat : Int)) := fun p => p.h.2.1.2.2.1
  have pa3 : ∀ p : Kp (S3 W a b W.heap.size x y c), p.W.cell? ⟨a, 3, none⟩ = some (.int .u64 (x.2.2.2.toNat : Int)) := fun p => p.h.2.1.2.2.2
  have pb0 : ∀ p : Kp (S3 W a b W.heap.size x y c), p.W.cell? ⟨b, 0, none⟩ = some (.int .u64 (y.1.toNat : Int)) := fun p => p.h.2.2.1.1
  have pb1 : ∀ p : Kp (S3 W a b W.heap.size x y c), p.W.cell? ⟨b, 1, none⟩ = some (.int .u64 (y.2.1.toNat : Int)) := fun p => p.h.2.2.1.2.1
  have pb2 : ∀ p : Kp (S3 W a b W.heap.size x y c), p.W.cell? ⟨b, 2, none⟩ = some (.int .u64 (y.2.2.1.toNat : Int)) := fun p => p.h.2.2.1.2.2.1
  have pb3 : ∀ p : Kp (S3 W a b W.heap.size x y c), p.W.cell? ⟨b, 3, none⟩ = some (.int .u64 (y.2.2.2.toNat : Int)) := fun p => p.h.2.2.1.2.2.2
  have pc0 : ∀ p : Kp (S3 W a b W.heap.size x y c), p.W.cell? ⟨W.heap.size, 0, none⟩ = some (.int .u64 (c.1.toNat : Int)) := fun p => p.h.2.2.2.1
  have pc1 : ∀ p : Kp (S3 W a b W.heap.size x y c), p.W.cell? ⟨W.heap.size, 1, none⟩ = some (.int .u64 (c.2.1.toNat : Int)) := fun p => p.h.2.2.2.2.1
  have pc2 : ∀ p : Kp (S3 W a b W.heap.size x y c), p.W.cell? ⟨W.heap.size, 2, none⟩ = some (.int .u64 (c.2.2.1.toNat : Int)) := fun p => p.h.2.2.2.2.2.1
  have pc3 : ∀ p : Kp (S3 W a b W.heap.size x y c), p.W.cell? ⟨W.heap.size, 3, none⟩ = some (.int .u64 (c.2.2.2.toNat : Int)) := fun p => p.h.2.2.2.2.2.2
  have hne : Nonempty (Kp (S3 W a b W.heap.size x y c)) := ⟨⟨_, S1⟩⟩
  refine wp_region_kept mixed (by kernel_rfl) S1 ?_
  clear S1
  repeat (go_big_quiet_step (first | (go_at_call 16; exact Kp.calls _ S3.next (meet_any _ _ _))))
  refine wpQuiet_nil ?_
  intro W1 hw1
  obtain ⟨⟨W1, HS⟩, rfl⟩ := hw1
  have HB := HS.1
  clear pa0 pa1 pa2 pa3 pb0 pb1 pb2 pb3 pc0 pc1 pc2 pc3 hne HS
  go_wp2_with fail
  go_ret
  exact ⟨rfl, HB⟩
theorem enters26 : ∀ args w, (callFunc 26 args).run Try.prog w = .ok (.enter 26 args) w := enters_of Try.func26 (by kernel_rfl) rfl
theorem contains_any (l : List Cl) (hl : l ≠ []) (v : Value) (w : World) (hv : Cs w v l) (x y : Cl) (a b : Nat) (h0 : Bx w a x) (h1 : Bx w b y) :
    Calls Try.prog 25 #[v, .func (.func 26) #[] #[.pointer (some ⟨a, 0, none⟩), .pointer (some ⟨b, 0, none⟩)]] w fun e w' => e = .returned (.bool (l.any (tells x y))) ∧ Below w.heap.size w w' := by
  obtain ⟨ao, cap, rfl, hm, h⟩ := hv
  obtain ⟨b1, o1, rfl, hb1, c1⟩ := h.resolve_left hl
  have cell : ∀ j, j < l.length → ∀ i v, (ce l[j]!)[i]? = some v → w.cell? ⟨b1, o1 + j * 4 + i, none⟩ = some v := fun j hj i v hv => by
    rw [getElem!_pos l j hj] at hv
    have hi : i < 4 := by
      rcases Nat.lt_or_ge i 4 with h' | h'
      · exact h'
      · rw [List.getElem?_eq_none (by simp [ce]; omega)] at hv; cases hv
    rw [ce_at _ i hi] at hv
    rw [c1 j hj i hi]; exact hv
  have hp : PredBelow Try.prog 26 #[.pointer (some ⟨a, 0, none⟩), .pointer (some ⟨b, 0, none⟩)] (fun z : Cl => .agg (ce z).toArray) (tells x y) w := fun W z hb =>
    (clos26 x y z a b W (h0.next hb) (h1.next hb)).mono fun _ _ ⟨k1, k2⟩ => ⟨k1, hb.trans (k2.mono hb.size)⟩
  have hcon := AnyQ.slices_ContainsFunc Try.hasFunc 4 Try.isAgg24 Try.sizeOf24 ce (fun _ => rfl) (tells x y) 26 _ enters26 b1 o1 l.length cap l w hp (Nat.le_refl _) hm hb1 cell
  change Calls Try.prog 25 _ _ _ at hcon
  rw [List.take_length] at hcon
  exact hcon
end Go.Proofs.Ytgoejdakmbpcmaa
