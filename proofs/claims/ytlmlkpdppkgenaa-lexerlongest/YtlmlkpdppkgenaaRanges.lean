/-
  The contract of class.Range: it answers the class of the bytes from lo to hi, for every two numbers of 64 bits, and leaves what lay below the heap's end as it was.
-/
import Derived.Test.YtlmlkpdppkgenaaSets
import Derived.Deep.RegionHeld3
namespace Go.Proofs.Ytlmlkpdppkgenaa
open Go.RowKit
open Cls

/-- Four cells that hold a class stay in a world that is as it was below the heap's end. -/
theorem keep4 {W W' : World} {B : Nat} {c : Cl} (h : W.cell? ⟨B, 0, none⟩ = some (.int .u64 (c.1.toNat : Int)) ∧ W.cell? ⟨B, 1, none⟩ = some (.int .u64 (c.2.1.toNat : Int)) ∧ W.cell? ⟨B, 2, none⟩ = some (.int .u64 (c.2.2.1.toNat : Int)) ∧ W.cell? ⟨B, 3, none⟩ = some (.int .u64 (c.2.2.2.toNat : Int))) (hb : Below W.heap.size W W') : W'.cell? ⟨B, 0, none⟩ = some (.int .u64 (c.1.toNat : Int)) ∧ W'.cell? ⟨B, 1, none⟩ = some (.int .u64 (c.2.1.toNat : Int)) ∧ W'.cell? ⟨B, 2, none⟩ = some (.int .u64 (c.2.2.1.toNat : Int)) ∧ W'.cell? ⟨B, 3, none⟩ = some (.int .u64 (c.2.2.2.toNat : Int)) := by
  obtain ⟨h0, h1, h2, h3⟩ := h
  have hB : B < W.heap.size := World.block_lt_of_cell? W ⟨B, 0, none⟩ h0
  exact ⟨(hb.cell hB).trans h0, (hb.cell hB).trans h1, (hb.cell hB).trans h2, (hb.cell hB).trans h3⟩
/-- What a region that makes one class of others keeps: block b1 holds the class c, block b0 is a fresh one to be written, and below B the world is as w was. -/
structure RF (B : Nat) (w : World) (b0 b1 : Nat) (c : Cl) (W : World) : Prop where
  below : Below B w W
  lt0 : b0 < W.heap.size
  lt1 : b1 < W.heap.size
  q0 : W.cell? ⟨b1, 0, none⟩ = some (.int .u64 (c.1.toNat : Int))
  q1 : W.cell? ⟨b1, 1, none⟩ = some (.int .u64 (c.2.1.toNat : Int))
  q2 : W.cell? ⟨b1, 2, none⟩ = some (.int .u64 (c.2.2.1.toNat : Int))
  q3 : W.cell? ⟨b1, 3, none⟩ = some (.int .u64 (c.2.2.2.toNat : Int))
  zz : ∃ d : Cl, W.heap[b0]? = some (.cells #[.int .u64 (d.1.toNat : Int), .int .u64 (d.2.1.toNat : Int), .int .u64 (d.2.2.1.toNat : Int), .int .u64 (d.2.2.2.toNat : Int)] 42)

theorem RF.next {B : Nat} {w : World} {b0 b1 : Nat} {c : Cl} {W W' : World} (h : RF B w b0 b1 c W) (hB : B ≤ W.heap.size) (hb : Below W.heap.size W W') : RF B w b0 b1 c W' := by
  obtain ⟨h1, h2, h3, q0, q1, q2, q3, d, hd⟩ := h
  exact ⟨h1.trans (hb.mono hB), by have := hb.size; omega, by have := hb.size; omega, (hb.cell h3).trans q0, (hb.cell h3).trans q1, (hb.cell h3).trans q2, (hb.cell h3).trans q3, d, (hb.block b0 h2).trans hd⟩
theorem RF.drew {B : Nat} {w : World} {b0 b1 : Nat} {c : Cl} {W : World} (h : RF B w b0 b1 c W) : RF B w b0 b1 c W.drew := by
  obtain ⟨h1, h2, h3, q0, q1, q2, q3, d, hd⟩ := h
  exact ⟨h1.drew, h2, h3, q0, q1, q2, q3, d, hd⟩
/-- A block of a class, written anew: its cells, free to be written. -/
theorem block4 {W : World} {b : Nat} {d : Cl} (h : W.heap[b]? = some (.cells #[.int .u64 (d.1.toNat : Int), .int .u64 (d.2.1.toNat : Int), .int .u64 (d.2.2.1.toNat : Int), .int .u64 (d.2.2.2.toNat : Int)] 42)) :
    (W.cell? ⟨b, 0, none⟩ = some (.int .u64 (d.1.toNat : Int)) ∧ W.cell? ⟨b, 1, none⟩ = some (.int .u64 (d.2.1.toNat : Int)) ∧ W.cell? ⟨b, 2, none⟩ = some (.int .u64 (d.2.2.1.toNat : Int)) ∧ W.cell? ⟨b, 3, none⟩ = some (.int .u64 (d.2.2.2.toNat : Int))) ∧
    (W.frozen? ⟨b, 0, none⟩ = false ∧ W.frozen? ⟨b, 1, none⟩ = false ∧ W.frozen? ⟨b, 2, none⟩ = false ∧ W.frozen? ⟨b, 3, none⟩ = false) := by
  have hf : ∀ o, W.frozen? ⟨b, o, none⟩ = false := fun o => by simp [World.frozen?, h]
  refine ⟨⟨?_, ?_, ?_, ?_⟩, hf 0, hf 1, hf 2, hf 3⟩ <;> simp [World.cell?, h]
theorem block_new (w : World) (o : Obj) : (w.alloc o).heap[w.heap.size]? = some o := heap_alloc_new w o

def top (hi : Int) : Cl := below (min hi 255 + 1).toNat
theorem top_any (hi z : Int) (hz : z = min hi 255 + 1) (w : World) :
    Calls Try.prog 61 #[.int .i64 z] w fun e w' => e = .returned (.agg #[.int .u64 ((top hi).1.toNat : Int), .int .u64 ((top hi).2.1.toNat : Int), .int .u64 ((top hi).2.2.1.toNat : Int), .int .u64 ((top hi).2.2.2.toNat : Int)]) ∧ Below w.heap.size w w' := by
  subst hz
  exact below_any _ (by omega) w
def bot (lo : Int) : Cl := below lo.toNat
theorem bot_any (lo : Int) (h1 : lo ≤ 9223372036854775807) (w : World) :
    Calls Try.prog 61 #[.int .i64 lo] w fun e w' => e = .returned (.agg #[.int .u64 ((bot lo).1.toNat : Int), .int .u64 ((bot lo).2.1.toNat : Int), .int .u64 ((bot lo).2.2.1.toNat : Int), .int .u64 ((bot lo).2.2.2.toNat : Int)]) ∧ Below w.heap.size w w' := below_any _ h1 w
theorem range_eq (lo hi : Int) : meet (top hi) (neg (bot lo)) = range lo hi := rfl

set_option maxHeartbeats 2000000 in
set_option maxRecDepth 20000 in
theorem range_any (lo hi : Int) (h1 : lo ≤ 9223372036854775807) (h2 : -9223372036854775808 ≤ hi) (h3 : hi ≤ 9223372036854775807) (w : World) :
    Calls Try.prog 38 #[.int .i64 lo, .int .i64 hi] w fun e w' => e = .returned (.agg #[.int .u64 ((range lo hi).1.toNat : Int), .int .u64 ((range lo hi).2.1.toNat : Int), .int .u64 ((range lo hi).2.2.1.toNat : Int), .int .u64 ((range lo hi).2.2.2.toNat : Int)]) ∧ Below w.heap.size w w' := by
  rw [← range_eq]
  go_enter Try.func38, Try.ntmps38
  go_wp2_with fail
  all_goals
    refine (top_any hi _ (by omega) _).mono ?_
    rintro e w1 ⟨rfl, hb1⟩
    have F0 : RF w.heap.size w w.heap.size w1.heap.size (top hi) (w1.alloc (.cells #[.int .u64 ((top hi).1.toNat : Int), .int .u64 ((top hi).2.1.toNat : Int), .int .u64 ((top hi).2.2.1.toNat : Int), .int .u64 ((top hi).2.2.2.toNat : Int)] 42)) := by
      have hs := hb1.size
      simp at hs
      refine ⟨?_, by simp; omega, by simp, by simp, by simp, by simp, by simp, empty, ?_⟩
      · exact (((Below.refl _ w).alloc (Nat.le_refl _) _).trans (hb1.mono (by simp))).alloc (by omega) _
      · rw [Below.heap_alloc _ _ _ (by omega), hb1.block _ (by simp), block_new]; rfl
    clear hb1
    go_wp2_with fail
    have F1 := F0.drew
    go_region_with ((first
      | (go_at_call 61; refine (bot_any lo h1 _).mono ?_; rintro e w3 ⟨rfl, hb3⟩; have F3 := RF.next (by assumption) (by first | exact F1.below.size | exact Nat.le_trans F1.below.size hb3.size) hb3; have q0 := F3.q0; have q1 := F3.q1; have q2 := F3.q2; have q3 := F3.q3)
      | (go_at_call 63; refine (not_any (bot lo) _).mono ?_; rintro e w4 ⟨rfl, hb4⟩; have F4 := RF.next (by assumption) F3.below.size hb4; have q0 := F4.q0; have q1 := F4.q1; have q2 := F4.q2; have q3 := F4.q3)
      | (go_at_call 62; refine (meet_any (top hi) (neg (bot lo)) _).mono ?_; rintro e w5 ⟨rfl, hb5⟩; have F5 := RF.next (by assumption) F4.below.size hb5; obtain ⟨dz, hdz⟩ := F5.zz; obtain ⟨⟨z0, z1, z2, z3⟩, y0, y1, y2, y3⟩ := block4 hdz)))
  all_goals
    go_wp2_with fail
    refine bodyPost_ret (v := .agg #[.int .u64 ((meet (top hi) (neg (bot lo))).1.toNat : Int), .int .u64 ((meet (top hi) (neg (bot lo))).2.1.toNat : Int), .int .u64 ((meet (top hi) (neg (bot lo))).2.2.1.toNat : Int), .int .u64 ((meet (top hi) (neg (bot lo))).2.2.2.toNat : Int)]) (by simp [results, Try.results38, go_sem, z0, z1, z2, z3]) rfl ⟨rfl, ?_⟩
    exact (((F5.below.setCell (Nat.le_refl _) _).setCell (Nat.le_refl _) _).setCell (Nat.le_refl _) _).setCell (Nat.le_refl _) _
end Go.Proofs.Ytlmlkpdppkgenaa
