/-
  The contracts of frame.tail and pushref.four: each answers the four bytes that YtnheaafepejaoaaMath says; what was there stays.
-/
import Derived.Test.YtnheaafepejaoaaChecks
import Derived.Laws.IdiomStrings
import Derived.Laws.BytesArg
import Derived.Laws.Concat
import Derived.OwnWalk
import Derived.Deep.AppendLies
namespace Go.Proofs.Ytnheaafepejaoaa
open Go.RowKit
open Frm Crc

theorem block_cell {w : World} {g : Nat} {cs : Array Value} {t : TypeId} {fr : Nat × Nat} (h : w.heap[g]? = some (.cells cs t fr)) (i : Nat) : w.cell? ⟨g, i, none⟩ = cs[i]? := by simp [World.cell?, h]
theorem block_free {w : World} {g : Nat} {cs : Array Value} {t : TypeId} (h : w.heap[g]? = some (.cells cs t (0, 0))) (i : Nat) : w.frozen? ⟨g, i, none⟩ = false := by simp [World.frozen?, h]
theorem block_store {w : World} {g i : Nat} {cs : Array Value} {t : TypeId} {fr : Nat × Nat} (h : w.heap[g]? = some (.cells cs t fr)) (v : Value) : (w.setCell ⟨g, i, none⟩ v).heap[g]? = some (.cells (cs.setIfInBounds i v) t fr) := by
  rw [setCell_eq_setRow w g i cs t fr v h]
  exact setRow_heap w g _ _ t _ h
/-- Four bytes as they lie in memory. -/
def lay4 (l : List UInt8) : Array Value := (l.map (fun c => Value.int .u8 (c.toNat : Int))).toArray
/-- Bytes that lie in a block, as a string. -/
theorem conv_block {w : World} {g c : Nat} {l : List UInt8} {cs : Array Value} {t : TypeId} {fr : Nat × Nat} (h : w.heap[g]? = some (.cells cs t fr)) (hl : ∀ j (hj : j < l.length), cs[j]? = some (.int .u8 (l[j].toNat : Int))) (n : Nat) (hn : n = l.length) :
    (convert 44 9 (.slice (some ⟨g, 0, none⟩) n c)).run Try.prog w = .ok (.string ⟨l.toArray⟩) w := by
  subst hn
  refine run_convert_bytes_back _ 44 9 5 ⟨g, 0, none⟩ c l Try.underlying44 Try.underlying5 Try.underlying9 fun j hj => ?_
  have hadd : (⟨g, 0, none⟩ : Addr).add j = ⟨g, j, none⟩ := by unfold Addr.add; split <;> simp_all
  rw [hadd, block_cell h, hl j hj]
theorem conv4 {w : World} {g c : Nat} {x0 x1 x2 x3 : Int} {t : TypeId} {fr : Nat × Nat} (h : w.heap[g]? = some (.cells #[.int .u8 x0, .int .u8 x1, .int .u8 x2, .int .u8 x3] t fr)) (l0 l1 l2 l3 : UInt8)
    (e0 : x0 = (l0.toNat : Int)) (e1 : x1 = (l1.toNat : Int)) (e2 : x2 = (l2.toNat : Int)) (e3 : x3 = (l3.toNat : Int)) :
    (convert 44 9 (.slice (some ⟨g, 0, none⟩) 4 c)).run Try.prog w = .ok (.string ⟨[l0, l1, l2, l3].toArray⟩) w := by
  subst e0 e1 e2 e3
  refine conv_block h (l := [l0, l1, l2, l3]) (fun j hj => ?_) 4 rfl
  have : j = 0 ∨ j = 1 ∨ j = 2 ∨ j = 3 := by simp at hj; omega
  rcases this with rfl | rfl | rfl | rfl <;> rfl
theorem pow_byte (n k : Nat) : ((n : Int) / 2 ^ (8 * k) % 256) = ((n / 256 ^ k % 256 : Nat) : Int) := by
  have : (2 : Int) ^ (8 * k) = ((256 ^ k : Nat) : Int) := by rw [Int.pow_mul]; simp
  rw [this]; simp
theorem tail_cells (n : Nat) (cs : Array Value) (h : ∀ j, j < 4 → cs[j]? = some (.int .u8 ((n / 256 ^ j % 256 : Nat) : Int))) : ∀ j (hj : j < (le 4 n).length), cs[j]? = some (.int .u8 (((le 4 n)[j]).toNat : Int)) := by
  intro j hj
  have hj4 : j < 4 := hj
  rw [h j hj4]
  have : j = 0 ∨ j = 1 ∨ j = 2 ∨ j = 3 := by omega
  rcases this with rfl | rfl | rfl | rfl
  · show some (Value.int .u8 _) = some (.int .u8 ((UInt8.ofNat n).toNat : Int)); rw [UInt8.toNat_ofNat']; simp
  · show some (Value.int .u8 _) = some (.int .u8 ((UInt8.ofNat (n / 256)).toNat : Int)); rw [UInt8.toNat_ofNat']
  · show some (Value.int .u8 _) = some (.int .u8 ((UInt8.ofNat (n / 256 / 256)).toNat : Int)); rw [UInt8.toNat_ofNat', Nat.div_div_eq_div_mul]
  · show some (Value.int .u8 _) = some (.int .u8 ((UInt8.ofNat (n / 256 / 256 / 256)).toNat : Int)); rw [UInt8.toNat_ofNat', Nat.div_div_eq_div_mul, Nat.div_div_eq_div_mul]

set_option maxHeartbeats 400000 in
theorem tail_any (s : ByteArray) (hs : s.size ≤ 9223372036854775807) (w : World) :
    Calls Try.prog 18 #[.string s] w fun e w' => e = .returned (.string ⟨(tail s.data.toList).toArray⟩) ∧ Below w.heap.size w w' := by
  obtain ⟨n, HN, hn⟩ : ∃ n : Nat, Hid (n = more 0 s.data.toList) ∧ n < 4294967296 := ⟨_, rfl, more_lt (by omega) _⟩
  go_enter Try.func18, Try.ntmps18
  go_wp2_with fail
  refine (sum_any s hs _).mono ?_
  rintro e w1 ⟨rfl, hw1⟩
  subst hw1
  rw [← HN.out]
  go_wp2_with fail
  go_loopw [8] (fun i wr => ∃ (k : Nat) (cs : Array Value), k ≤ 4 ∧ i = .int .i64 (k : Int) ∧ cs.size = 4 ∧ Hid (∀ j, j < k → cs[j]? = some (.int .u8 ((n / 256 ^ j % 256 : Nat) : Int))) ∧ wr.heap[w1.heap.size]? = some (.cells cs 58 (0, 0)) ∧ Below w1.heap.size w1 wr) (fun i _ => 4 - (intOf i).toNat)
  case atStart => exact ⟨0, _, by omega, rfl, rfl, (fun j hj => by omega), heap_alloc_new _ _, (Below.refl _ _).alloc (Nat.le_refl _) _⟩
  case round => 
    obtain ⟨k, cs, hk, rfl, hcs, HC, hbk, hbel⟩ := hrel
    by_cases hlt : k < 4
    · have c0 : wr.cell? ⟨w1.heap.size, k, none⟩ = some cs[k] := by rw [block_cell hbk]; simp
      have f0 := block_free hbk k
      go_wp2_with fail
      go_roundw
      case rel => exact ⟨k + 1, _, by omega, by go_num, by simpa using hcs, (fun j hj => by
          by_cases hjk : j = k
          · subst hjk
            rw [Array.getElem?_setIfInBounds_self_of_lt (by omega)]
            exact congrArg some (val_int (pow_byte n j))
          · rw [Array.getElem?_setIfInBounds_ne (by omega)]
            exact HC.out j (by omega)), block_store hbk _, hbel.setCell (p := ⟨w1.heap.size, k, none⟩) (Nat.le_refl _) _⟩
      case measure => simp [intOf]; omega
    · have HT : tail s.data.toList = le 4 n := by unfold tail; rw [← HN.out]
      have hconv := conv_block (l := tail s.data.toList) (c := 4) hbk (by rw [HT]; exact tail_cells n cs (fun j hj => HC.out j (by omega))) 4 rfl
      clear HT
      go_wp2_with fail
      go_ret
      exact ⟨rfl, hbel⟩

theorem four_any (n : Nat) (hn : n < 4294967296) (w : World) :
    Calls Try.prog 19 #[.int .u32 (n : Int)] w fun e w' => e = .returned (.string ⟨(le 4 n).toArray⟩) ∧ Below w.heap.size w w' := by
  have hconv := conv4 (c := 4) (heap_alloc_new w (Obj.cells #[.int .u8 ((n : Int) % 256), .int .u8 ((n : Int) / 256 % 256), .int .u8 ((n : Int) / 65536 % 256), .int .u8 ((n : Int) / 16777216)] 5)) (UInt8.ofNat n) (UInt8.ofNat (n / 256)) (UInt8.ofNat (n / 256 / 256)) (UInt8.ofNat (n / 256 / 256 / 256))
    (by rw [UInt8.toNat_ofNat']; omega) (by rw [UInt8.toNat_ofNat']; omega) (by rw [UInt8.toNat_ofNat']; omega) (by rw [UInt8.toNat_ofNat']; omega)
  go_enter Try.func19, Try.ntmps19
  go_wp2_with fail
  go_ret
  exact ⟨rfl, (Below.refl _ _).alloc (Nat.le_refl _) _⟩
end Go.Proofs.Ytnheaafepejaoaa
