/-
  The contracts of class.bit, class.Has and pushref.Has: each tells whether the byte is in the class, for every class and every byte, and lays blocks of its own alone.
-/
import Derived.Test.YtlmlkpdppkgenaaRows
import Derived.Test.YtlmlkpdppkgenaaMath
import Derived.WalkKit
import Derived.WalkLawsBesides
import Derived.WalkSpells
import Derived.Laws.BitsAllLaws
import Derived.Sort.Grow
namespace Go.Proofs.Ytlmlkpdppkgenaa
open Go.RowKit
open Cls

/-- The world has come of w by new blocks alone. -/
def Lays (w w' : World) : Prop := ∃ os, w' = Sort.grow w os
theorem Lays.refl (w : World) : Lays w w := ⟨#[], by simp⟩
theorem Lays.alloc {w w' : World} (h : Lays w w') (o : Obj) : Lays w (w'.alloc o) := by
  obtain ⟨os, rfl⟩ := h
  exact ⟨os ++ #[o], by rw [Sort.alloc_eq_grow, Sort.grow_grow]⟩
theorem Lays.trans {a b c : World} (h : Lays a b) (k : Lays b c) : Lays a c := by
  obtain ⟨os, rfl⟩ := h
  obtain ⟨os', rfl⟩ := k
  exact ⟨os ++ os', by rw [Sort.grow_grow]⟩
theorem Lays.below {w w' : World} (h : Lays w w') : Below w.heap.size w w' := by
  obtain ⟨os, rfl⟩ := h
  exact ⟨rfl, rfl, rfl, by simp, fun k hk => Sort.heap_grow_old w os hk⟩

theorem cell_wd (w : World) (c : Cl) (i : Nat) (hi : i < 4) : (w.alloc (.cells #[.int .u64 (c.1.toNat : Int), .int .u64 (c.2.1.toNat : Int), .int .u64 (c.2.2.1.toNat : Int), .int .u64 (c.2.2.2.toNat : Int)] 42)).cell? ⟨w.heap.size, i, none⟩ = some (.int .u64 ((wd c i).toNat : Int)) := by
  have : i = 0 ∨ i = 1 ∨ i = 2 ∨ i = 3 := by omega
  rcases this with rfl | rfl | rfl | rfl <;> simp [wd]

theorem ret_u64 {a b : Int} (h : a = b) : Ending.returned (.int .u64 a) = .returned (.int .u64 b) := by rw [h]
theorem ret_bool {a b : Bool} (h : a = b) : Ending.returned (.bool a) = .returned (.bool b) := by rw [h]
theorem and_bit (c : Cl) (b : Nat) : bits .and .u64 (((wd c (b / 64)).toNat : Int) / 2 ^ (b % 64)) 1 = (bit c b : Int) := by
  have h1 := (wd c (b / 64)).isLt
  have e : (((wd c (b / 64)).toNat : Int) / 2 ^ (b % 64)) = (((wd c (b / 64)).toNat / 2 ^ (b % 64) : Nat) : Int) := by simp
  have h2 : (wd c (b / 64)).toNat / 2 ^ (b % 64) ≤ (wd c (b / 64)).toNat := Nat.div_le_self _ _
  rw [e]
  have := u64_and_nat ((wd c (b / 64)).toNat / 2 ^ (b % 64)) 1 (by omega) (by omega)
  rw [show ((1 : Nat) : Int) = 1 from rfl] at this
  rw [this, Nat.and_one_is_mod, bit_eq]
theorem bit_one (c : Cl) (b : Nat) : ((bit c b : Int) == 1) = mem c b := by
  unfold bit; cases mem c b <;> rfl

set_option maxHeartbeats 400000 in
theorem bit_any (c : Cl) (z : Int) (b : Nat) (hz : z = (b : Int)) (hb : b < 256) (w : World) :
    Calls Try.prog 81 #[.agg #[.int .u64 (c.1.toNat : Int), .int .u64 (c.2.1.toNat : Int), .int .u64 (c.2.2.1.toNat : Int), .int .u64 (c.2.2.2.toNat : Int)], .int .u8 z] w fun e w' => e = .returned (.int .u64 (bit c b : Int)) ∧ Lays w w' := by
  subst hz
  have hc := cell_wd w c (b / 64) (by omega)
  have hi : b / 64 < 4 := by omega
  have hm : b % 64 < 64 := by omega
  go_enter Try.func81, Try.ntmps81
  go_wp2
  go_ret
  exact ⟨ret_u64 (and_bit c b), (Lays.refl w).alloc _⟩

set_option maxHeartbeats 400000 in
theorem has_any (c : Cl) (z : Int) (b : Nat) (hz : z = (b : Int)) (hb : b < 256) (w : World) :
    Calls Try.prog 72 #[.agg #[.int .u64 (c.1.toNat : Int), .int .u64 (c.2.1.toNat : Int), .int .u64 (c.2.2.1.toNat : Int), .int .u64 (c.2.2.2.toNat : Int)], .int .u8 z] w fun e w' => e = .returned (.bool (mem c b)) ∧ Lays w w' := by
  subst hz
  go_enter Try.func72, Try.ntmps72
  go_wp2_with (go_at_call 81; refine (bit_any c _ b rfl hb _).mono ?_; rintro e w' ⟨rfl, hl⟩)
  go_ret
  exact ⟨ret_bool (bit_one c b), ((Lays.refl w).alloc _).trans hl⟩
end Go.Proofs.Ytlmlkpdppkgenaa
