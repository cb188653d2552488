/-
  The contracts of pushref's rexAt and Rex: what is wrong first with a tree.
-/
import Derived.Test.YthloedfiomfnbaaRefSix
import Derived.Test.YthloedfiomfnbaaRefFour
import Derived.Test.YthloedfiomfnbaaRefFive
import Derived.Test.YthloedfiomfnbaaRefNone
namespace Go.Proofs.Ythloedfiomfnbaa
open Go.RowKit
open Cls Rex
theorem refAt_all : ∀ (m : Nat) (t : T), t.sz ≤ m → ∀ v, RC v t
  | 0, t, hm => by have := t.sz_pos; omega
  | m + 1, .mk k c kids, hm => by
    have IH : ∀ i (hi : i < kids.length) v, RC v kids[i] := fun i hi v => refAt_all m kids[i] (by have := T.sz_lt (t := .mk k c kids) (List.getElem_mem hi); omega) v
    intro v
    by_cases hk6 : k = 6
    · exact refAt_six k c kids hk6 IH v
    · by_cases hk4 : k = 4
      · exact refAt_four k c kids hk6 hk4 IH v
      · by_cases hk5 : k = 5
        · exact refAt_five k c kids hk6 hk4 hk5 IH v
        · exact refAt_none k c kids hk6 hk4 hk5 IH v
set_option maxHeartbeats 1000000 in
theorem Ref_any (t : T) (v : Value) (B : Nat) (w : World) (hx : Rx w B v t) (hBw : B ≤ w.heap.size) :
    Calls Try.prog 7 #[v] w fun e w' => e = .returned (.int .i64 (err t : Int)) ∧ Below w.heap.size w w' := by
  obtain ⟨k, c, ao, cap, kids, vals, rfl, rfl, -⟩ := hx.shape
  have hcall := refAt_all _ _ (Nat.le_refl _) _ 1 0 (w.heap.size + 1) B ((w.alloc (.cells #[.int .i64 k, .int .u64 (c.1.toNat : Int), .int .u64 (c.2.1.toNat : Int), .int .u64 (c.2.2.1.toNat : Int), .int .u64 (c.2.2.2.toNat : Int), .slice ao kids.length cap] 27)).alloc (.cells #[.int .i64 0] 3)) (hx.next (((Below.refl B w).alloc hBw _).alloc (by simp; omega) _)) (by omega) (by omega) (by omega) (by simp; omega) (by
    have h := block_new (w.alloc (.cells #[.int .i64 k, .int .u64 (c.1.toNat : Int), .int .u64 (c.2.1.toNat : Int), .int .u64 (c.2.2.1.toNat : Int), .int .u64 (c.2.2.2.toNat : Int), .slice ao kids.length cap] 27)) (.cells #[.int .i64 0] 3)
    have e : (w.alloc (.cells #[.int .i64 k, .int .u64 (c.1.toNat : Int), .int .u64 (c.2.1.toNat : Int), .int .u64 (c.2.2.1.toNat : Int), .int .u64 (c.2.2.2.toNat : Int), .slice ao kids.length cap] 27)).heap.size = w.heap.size + 1 := by simp
    rw [e] at h; exact h)
  have HB : Hid (Below w.heap.size w ((w.alloc (.cells #[.int .i64 k, .int .u64 (c.1.toNat : Int), .int .u64 (c.2.1.toNat : Int), .int .u64 (c.2.2.1.toNat : Int), .int .u64 (c.2.2.2.toNat : Int), .slice ao kids.length cap] 27)).alloc (.cells #[.int .i64 0] 3))) := ((Below.refl _ w).alloc (Nat.le_refl _) _).alloc (by simp) _
  clear hx
  go_enter Try.func7, Try.ntmps7
  go_wp2_with fail
  refine hcall.mono ?_
  rintro e W1 ⟨rfl, _, hb, hk⟩
  have HX : Hid (Below w.heap.size w W1) := ⟨hb.os.trans HB.out.os, hb.tape.trans HB.out.tape, hb.output.trans HB.out.output, Nat.le_trans HB.out.size hb.size, fun b g => (hk b (by simp; omega) (by omega)).trans (HB.out.block b g)⟩
  clear hb hk
  go_wp2_with fail
  go_ret
  exact ⟨by unfold err; rfl, HX.out⟩
end Go.Proofs.Ythloedfiomfnbaa
