/-
  The contracts of lexer.check, pushref.TagOf, pushref.Longest and lexer.longest.
-/
import Derived.Test.YtcdnbkfjiigdmaaPkWide
import Derived.Test.YtcdnbkfjiigdmaaLxMath
namespace Go.Proofs.Ytcdnbkfjiigdmaa
open Go.RowKit
open Dfa

/-- A byte of a text. -/
theorem byte_run (s : ByteArray) (k : Nat) (h : k < s.size) (w : World) : (Instr.index 9 (.string s) (.int .i64 (k : Int))).run Try.prog w = .ok (.int .u8 (s[k].toNat : Int)) w := by
  rw [run_index_string (h := Try.underlying9)]
  simp [h]
theorem data_size (s : ByteArray) : s.data.toList.length = s.size := by rw [Array.length_toList]; rfl
theorem drop_cons (s : ByteArray) (k : Nat) (h : k < s.size) : s.data.toList.drop k = s[k] :: s.data.toList.drop (k + 1) := by
  rw [List.drop_eq_getElem_cons (by rw [data_size]; exact h)]; rfl
theorem drop_all (s : ByteArray) (k : Nat) (h : s.size ≤ k) : s.data.toList.drop k = [] := List.drop_of_length_le (by rw [data_size]; exact h)

set_option maxHeartbeats 1600000 in
set_option maxRecDepth 20000 in
theorem tagOf_any (rv tv : Value) (m : Nat) (T : Nat → Int) (q : Int) (w : World) (ht : Ts w tv m T) (hq2 : q < (m : Int)) :
    Calls Try.prog 24 #[.agg #[rv, tv], .int .i64 q] w fun e w' => e = .returned (.int .i64 (tagOf T q)) ∧ Below w.heap.size w w' := by
  obtain ⟨ao, cap, rfl, hm, hwf, hcs⟩ := ht
  have B0 : Below w.heap.size w (w.alloc (Obj.cells #[rv, Value.slice ao m cap] 51)) := (Below.refl _ _).alloc (Nat.le_refl _) _
  clear hwf
  go_enter Try.func24, Try.ntmps24
  by_cases hq : q < 0
  · go_wp2_with fail
    go_ret
    exact ⟨by unfold tagOf; rw [if_pos hq]; rfl, B0⟩
  · obtain ⟨p, rfl⟩ : ∃ p : Nat, q = (p : Int) := ⟨q.toNat, by omega⟩
    obtain ⟨b, o, rfl, hb, hc⟩ := hcs.resolve_left (by omega)
    have e0 : (w.alloc (Obj.cells #[rv, Value.slice (some ⟨b, o, none⟩) m cap] 51)).cell? ⟨b, o + p, none⟩ = some (.int .i64 (T p)) := (B0.cell (p := ⟨b, o + p, none⟩) hb).trans (hc p (by omega))
    clear hcs hc
    go_wp2_with fail
    go_ret
    exact ⟨by unfold tagOf; rw [if_neg (by omega)]; rfl, B0⟩

/-- The answer is what the search finds from here on. -/
def Goes (R : Nat → Nat → Int) (T : Nat → Int) (l : List UInt8) (k : Nat) (q r : Int) (z : Nat) (ans : Int × Nat) : Prop := (if q < 0 then (r, z) else lg R T q.toNat k r z (l.drop k)) = ans
theorem Goes.start (R : Nat → Nat → Int) (T : Nat → Int) (l : List UInt8) : Goes R T l 0 0 0 0 (lng R T l) := by unfold Goes lng; rw [if_neg (by omega)]; rfl
theorem Goes.over {R : Nat → Nat → Int} {T : Nat → Int} {l : List UInt8} {k : Nat} {q r : Int} {z : Nat} {ans : Int × Nat} (h : Goes R T l k q r z ans) (hk : l.drop k = [] ∨ q < 0) : ans = (r, z) := by
  unfold Goes at h
  by_cases hq : q < 0
  · rw [if_pos hq] at h; exact h.symm
  · rw [if_neg hq, hk.resolve_right hq] at h; exact h.symm
theorem Goes.none {R : Nat → Nat → Int} {T : Nat → Int} {l : List UInt8} {k p : Nat} {r : Int} {z : Nat} {ans : Int × Nat} {x : UInt8} (h : Goes R T l k (p : Int) r z ans) (hk : l.drop k = x :: l.drop (k + 1)) (hn : tagOf T (R p x.toNat) < 0) :
    Goes R T l (k + 1) (R p x.toNat) r z ans := by
  unfold Goes at *
  rw [if_neg (by omega), hk] at h
  rw [← h]
  show _ = lg R T p k r z _
  rw [lg]
  by_cases hq : R p x.toNat < 0
  · rw [if_pos hq, if_pos hq]
  · rw [if_neg hq, if_neg hq, if_pos (by unfold tagOf at hn; rw [if_neg hq] at hn; exact hn)]
theorem Goes.some {R : Nat → Nat → Int} {T : Nat → Int} {l : List UInt8} {k p : Nat} {r : Int} {z : Nat} {ans : Int × Nat} {x : UInt8} (h : Goes R T l k (p : Int) r z ans) (hk : l.drop k = x :: l.drop (k + 1)) (hn : ¬ tagOf T (R p x.toNat) < 0) :
    Goes R T l (k + 1) (R p x.toNat) (tagOf T (R p x.toNat)) (k + 1) ans := by
  unfold Goes at *
  rw [if_neg (by omega), hk] at h
  rw [← h]
  show _ = lg R T p k r z _
  rw [lg]
  by_cases hq : R p x.toNat < 0
  · exfalso; apply hn; unfold tagOf; rw [if_pos hq]; omega
  · have ht : tagOf T (R p x.toNat) = T (R p x.toNat).toNat := by unfold tagOf; rw [if_neg hq]
    rw [if_neg hq, if_neg hq, if_neg (by rw [← ht]; exact hn), ht]
theorem drop_from (s : ByteArray) (f k : Nat) (h : f + k < s.size) : (s.data.toList.drop f).drop k = s[f + k] :: (s.data.toList.drop f).drop (k + 1) := by
  rw [List.drop_drop, List.drop_drop, drop_cons s (f + k) h, Nat.add_assoc]
theorem drop_from_all (s : ByteArray) (f k : Nat) (h : s.size ≤ f + k) : (s.data.toList.drop f).drop k = [] := by rw [List.drop_drop, drop_all s _ h]
/-- The rows of a packed one, unpacked. -/
def RR (n : Nat) (O : Nat → Nat) (X : Nat → Nat → Int) : Nat → Nat → Int := fun i j => if i < n ∧ j < 256 then X i (O j) else 0
/-- A token in memory: none yet, or this one. -/
def Tv (f : Nat) (r : Int) (z : Nat) (bb : Bool) (a b c : Int) : Prop := (z = 0 ∧ bb = false ∧ a = 0 ∧ b = 0 ∧ c = 0) ∨ (0 < z ∧ bb = true ∧ a = r ∧ b = (f : Int) ∧ c = (f : Int) + (z : Int))
theorem block_cell {w : World} {g : Nat} {cs : Array Value} {t : TypeId} {fr : Nat × Nat} (h : w.heap[g]? = some (.cells cs t fr)) (i : Nat) : w.cell? ⟨g, i, none⟩ = cs[i]? := by simp [World.cell?, h]
theorem block_free {w : World} {g : Nat} {cs : Array Value} {t : TypeId} (h : w.heap[g]? = some (.cells cs t (0, 0))) (i : Nat) : w.frozen? ⟨g, i, none⟩ = false := by simp [World.frozen?, h]
theorem block_store {w : World} {g i : Nat} {cs : Array Value} {t : TypeId} {fr : Nat × Nat} (h : w.heap[g]? = some (.cells cs t fr)) (v : Value) : (w.setCell ⟨g, i, none⟩ v).heap[g]? = some (.cells (cs.setIfInBounds i v) t fr) := by
  rw [setCell_eq_setRow w g i cs t fr v h]
  exact setRow_heap w g _ _ t _ h
theorem three {w : World} {g : Nat} {x y z : Value} {t : TypeId} (h : w.heap[g]? = some (.cells #[x, y, z] t (0, 0))) (a b c : Value) :
    (((w.setCell ⟨g, 0, none⟩ a).setCell ⟨g, 1, none⟩ b).setCell ⟨g, 2, none⟩ c).heap[g]? = some (.cells #[a, b, c] t (0, 0)) := block_store (i := 2) (block_store (i := 1) (block_store (i := 0) h a) b) c
theorem same_three (w : World) (g : Nat) (a b c : Value) : (((w.setCell ⟨g, 0, none⟩ a).setCell ⟨g, 1, none⟩ b).setCell ⟨g, 2, none⟩ c).heap.size = w.heap.size ∧ (((w.setCell ⟨g, 0, none⟩ a).setCell ⟨g, 1, none⟩ b).setCell ⟨g, 2, none⟩ c).os = w.os ∧
    (((w.setCell ⟨g, 0, none⟩ a).setCell ⟨g, 1, none⟩ b).setCell ⟨g, 2, none⟩ c).tape = w.tape ∧ (((w.setCell ⟨g, 0, none⟩ a).setCell ⟨g, 1, none⟩ b).setCell ⟨g, 2, none⟩ c).output = w.output ∧
    ∀ k, k ≠ g → (((w.setCell ⟨g, 0, none⟩ a).setCell ⟨g, 1, none⟩ b).setCell ⟨g, 2, none⟩ c).heap[k]? = w.heap[k]? :=
  ⟨by simp [World.setCell], rfl, rfl, rfl, fun k hk => by rw [Below.heap_setCell _ _ _ _ (by simpa using hk), Below.heap_setCell _ _ _ _ (by simpa using hk), Below.heap_setCell _ _ _ _ (by simpa using hk)]⟩
end Go.Proofs.Ytcdnbkfjiigdmaa
