/-
  The contracts of pushkeep.spoil and of pushkeep.filled at numbers, and of pushkeep.spoil at rows.
-/
import Derived.Test.YtlgcggfenljdnaaFrHold
namespace Go.Proofs.Ytlgcggfenljdnaa
open Go.RowKit
open Dfa
theorem cell_blk {w w' : World} {b j : Nat} (h : w'.heap[b]? = w.heap[b]?) : w'.cell? ⟨b, j, none⟩ = w.cell? ⟨b, j, none⟩ := by simp [World.cell?, h]

set_option maxHeartbeats 1600000 in
set_option maxRecDepth 20000 in
theorem spoilT_any (g n cap M : Nat) (f : Nat → Value) (v : Int) (w : World) (h : w.rowIs g 3 M f) (hc : cap ≤ M) (_hn : n ≤ cap) (hm : cap ≤ 9223372036854775807) :
    Calls Try.prog 28 #[.slice (some ⟨g, 0, none⟩) n cap, .int .i64 v] w fun e w' => e = .returned (.tuple #[]) ∧ (∃ f', w'.rowIs g 3 M f') ∧ w.grownBy w' (some g) := by
  have HG : Hid (w.rowIs g 3 M f) := h
  clear h
  have hc1 : (cap : Int) ≤ (cap : Int) := Int.le_refl _
  go_enter Try.func28, Try.ntmps28
  go_wp2_with fail
  go_loopw [11] (fun z wr => ∃ k : Nat, k ≤ cap ∧ z = .int .i64 (k : Int) ∧ Hid ((∃ f', wr.rowIs g 3 M f') ∧ w.grownBy wr (some g))) (fun z _ => cap - (intOf z).toNat)
  case atStart => exact ⟨0, by omega, rfl, ⟨f, HG.out⟩, World.grownBy.refl _ _⟩
  case round =>
    obtain ⟨k, hk, rfl, HR⟩ := hrel
    by_cases hlt : k < cap
    · have hk0 : (0 : Int) ≤ (k : Int) := by omega
      have hk1 : (k : Int) < (cap : Int) := by omega
      obtain ⟨⟨f', h1⟩, h2⟩ := HR.out
      have y0 := h1.cell (i := k) (by omega)
      have y1 := h1.frozen k
      have HNX : Hid ((∃ f', (wr.setCell ⟨g, k, none⟩ (.int .i64 v)).rowIs g 3 M f') ∧ w.grownBy (wr.setCell ⟨g, k, none⟩ (.int .i64 v)) (some g)) :=
        ⟨⟨_, h1.set k _⟩, h2.os, h2.tape, h2.output, by simp only [World.setCell, Array.size_modify]; exact h2.size, fun q hq hq2 => (Below.heap_setCell _ _ _ _ (by simp at hq2; simpa using hq2)).trans (h2.block q hq hq2)⟩
      clear h1 h2 HR
      go_wp2_with fail
      go_roundw
      case rel => exact ⟨k + 1, by omega, by go_num, HNX⟩
      case measure => simp [intOf]; omega
    · have hk1 : ¬ (k : Int) < (cap : Int) := by omega
      go_wp2_with fail
      go_end0
      exact ⟨rfl, HR.out⟩
set_option maxHeartbeats 1600000 in
set_option maxRecDepth 20000 in
theorem filledT_any (g n cap : Nat) (v : Int) (w : World) (hcap : n + 2 ≤ cap) (hm : n ≤ 1000) (h0 : w.cell? ⟨g, n, none⟩ = some (.int .i64 v)) (h1 : w.cell? ⟨g, n + 1, none⟩ = some (.int .i64 v)) :
    Calls Try.prog 24 #[.slice (some ⟨g, 0, none⟩) n cap, .int .i64 v] w fun e w' => e = .returned (.bool true) ∧ w' = w := by
  have hw1 : IntKind.i64.wrap ((n : Int) + 1) = ((n + 1 : Nat) : Int) := by rw [show (n : Int) + 1 = ((n + 1 : Nat) : Int) by omega]; exact wrap_small (by omega)
  have hw2 : IntKind.i64.wrap ((n : Int) + 2) = ((n + 2 : Nat) : Int) := by rw [show (n : Int) + 2 = ((n + 2 : Nat) : Int) by omega]; exact wrap_small (by omega)
  have hc0 : ((n + 2 : Nat) : Int) ≤ (cap : Int) := by omega
  have hc1 : (n : Int) < ((n + 2 : Nat) : Int) := by omega
  have hc2 : ((n + 1 : Nat) : Int) < ((n + 2 : Nat) : Int) := by omega
  go_enter Try.func24, Try.ntmps24
  go_wp2_with fail
  go_ret
  exact ⟨rfl, rfl⟩
set_option maxHeartbeats 1600000 in
set_option maxRecDepth 20000 in
theorem spoilR_any (g n cap M : Nat) (f : Nat → Value) (l : List Value) (w : World) (h : w.rowIs g 42 M f) (hc : cap * 256 ≤ M) (_hn : n ≤ cap) (hm : cap ≤ 1000) (hl : l.length = 256) (ho : l.toArray.all (·.oneCell') = true) :
    Calls Try.prog 27 #[.slice (some ⟨g, 0, none⟩) n cap, .agg l.toArray] w fun e w' => e = .returned (.tuple #[]) ∧ (∃ f', w'.rowIs g 42 M f') ∧ w.grownBy w' (some g) := by
  have HG : Hid (w.rowIs g 42 M f) := h
  have HL : Hid (l.toArray.size = 256) := by show _ = _; simp [hl]
  have HS : Hid ((Try.prog.info? 42).map (·.size) = some l.length) := by show _ = _; rw [hl]; exact size42
  have HO : Hid (l.toArray.all (·.oneCell') = true) := ho
  obtain ⟨zs, hz42, hzsz⟩ := zero42
  have HZ : Hid (zs.size = 256) := hzsz
  obtain ⟨w0, HW0⟩ : ∃ q, Hid (w.alloc (Obj.cells l.toArray 42) = q) := ⟨_, (rfl : _ = _)⟩
  have HST : Hid ((∃ f', w0.rowIs g 42 M f') ∧ w0.rangeAt w.heap.size 0 l ∧ w.heap.size < w0.heap.size ∧ w.grownBy w0 (some g)) := by
    rw [← HW0.out]
    exact ⟨⟨f, HG.out.alloc _⟩, fun j v hv => by rw [Nat.zero_add]; simpa [cell_of_block] using hv, by simp, rfl, rfl, rfl, by simp, fun q hq _ => Below.heap_alloc _ _ _ hq⟩
  have HGL : Hid (g < w.heap.size) := HG.out.lt
  clear h ho hl hzsz
  have hc1 : (cap : Int) ≤ (cap : Int) := Int.le_refl _
  go_enter Try.func27, Try.ntmps27
  go_wp2_with (refine wpList_store_new rfl _ _ rfl _ l.toArray rfl rfl HZ.out HL.out HO.out ?_)
  rw [HW0.out]
  go_loopw [11] (fun z wr => ∃ k : Nat, k ≤ cap ∧ z = .int .i64 (k : Int) ∧ Hid ((∃ f', wr.rowIs g 42 M f') ∧ wr.rangeAt w.heap.size 0 l ∧ w.heap.size < wr.heap.size ∧ w.grownBy wr (some g))) (fun z _ => cap - (intOf z).toNat)
  case atStart => exact ⟨0, by omega, rfl, HST⟩
  case round =>
    clear HST
    obtain ⟨k, hk, rfl, HR⟩ := hrel
    by_cases hlt : k < cap
    · have hk0 : (0 : Int) ≤ (k : Int) := by omega
      have hk1 : (k : Int) < (cap : Int) := by omega
      have HRG : Hid (wr.rangeAt w.heap.size 0 l) := HR.out.2.1
      have HTH : Hid (wr.there g (k * 256) l.toArray.size) := by
        obtain ⟨⟨f', h1⟩, -⟩ := HR.out
        rw [HL.out]
        exact fun j hj => ⟨by rw [h1.cell (by omega)]; rfl, h1.frozen _⟩
      have HNX : Hid ((∃ f', (wr.setCells g (k * 256) l).rowIs g 42 M f') ∧ (wr.setCells g (k * 256) l).rangeAt w.heap.size 0 l ∧ w.heap.size < (wr.setCells g (k * 256) l).heap.size ∧ w.grownBy (wr.setCells g (k * 256) l) (some g)) := by
        obtain ⟨⟨f', h1⟩, h2, h3, h4⟩ := HR.out
        have hll : l.length = 256 := by have := HL.out; simpa using this
        obtain ⟨f2, k1, -⟩ := rowIs_setCells2 l (k * 256) f' h1 (by omega)
        have hne : w.heap.size ≠ g := by have := HGL.out; omega
        have hbz := setCells_below (B := 0) g (Nat.zero_le _) l (k * 256) wr (Below.refl 0 wr)
        exact ⟨⟨f2, k1⟩, fun j v hv => by rw [cell_blk (heap_setCells_ne _ _ _ _ _ hne)]; exact h2 j v hv, by rw [size_setCells]; exact h3, hbz.os.trans h4.os, hbz.tape.trans h4.tape, hbz.output.trans h4.output, by rw [size_setCells]; exact h4.size, fun q hq hq2 => (heap_setCells_ne _ _ _ _ _ (by simp at hq2; exact hq2)).trans (h4.block q hq hq2)⟩
      clear HR
      go_wp2_with (first | refine wpList_load_mid rfl 42 _ rfl w.heap.size 0 rfl l _ HRG.out Try.underlying42 rfl HS.out ?_ | refine wpList_store_mid rfl 42 _ _ rfl g (k * 256) l.toArray rfl rfl HTH.out (by rw [HL.out]; exact size42) HO.out ?_)
      go_roundw
      case rel => exact ⟨k + 1, by omega, by go_num, HNX⟩
      case measure => simp [intOf]; omega
    · have hk1 : ¬ (k : Int) < (cap : Int) := by omega
      go_wp2_with fail
      go_end0
      obtain ⟨h1, -, h3, h4⟩ := HR.out
      exact ⟨rfl, h1, h4⟩
end Go.Proofs.Ytlgcggfenljdnaa
