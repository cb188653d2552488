/-
  The contracts of lexer.check, pushref.TagOf, pushref.Longest and lexer.longest.
-/
import Derived.Test.YtichmhlnjjejmaaPkWide
import Derived.Test.YtichmhlnjjejmaaLxMath
namespace Go.Proofs.Ytichmhlnjjejmaa
open Go.RowKit
open Dfa

/-- A byte of a text. -/
theorem byte_run (s : ByteArray) (k : Nat) (h : k < s.size) (w : World) : (Instr.index 9 (.string s) (.int .i64 (k : Int))).run Try.prog w = .ok (.int .u8 (s[k].toNat : Int)) w := by
  rw [run_index_string (h := Try.underlying9)]
  simp [h]
theorem data_size (s : ByteArray) : s.data.toList.length = s.size := by rw [Array.length_toList]; rfl
theorem drop_cons (s : ByteArray) (k : Nat) (h : k < s.size) : s.data.toList.drop k = s[k] :: s.data.toList.drop (k + 1) := by
  rw [List.drop_eq_getElem_cons (by rw [data_size]; exact h)]; rfl
theorem drop_all (s : ByteArray) (k : Nat) (h : s.size ≤ k) : s.data.toList.drop k = [] := List.drop_of_length_le (by rw [data_size]; exact h)

/-- What check says of a packed one and a text. -/
def chkS (n m : Nat) (O : Nat → Nat) (L : Nat → Nat) (X : Nat → Nat → Int) (T : Nat → Int) (k : Nat) : Int := if chkP n m O L X T = 0 then (if 2000 < k then 2 else 0) else chkP n m O L X T

set_option maxHeartbeats 1600000 in
set_option maxRecDepth 20000 in
theorem checkS_any (O : Nat → Nat) (nv tv : Value) (n m : Nat) (L : Nat → Nat) (X : Nat → Nat → Int) (T : Nat → Int) (s : ByteArray) (w : World) (hO : ∀ j, O j < 256) (hx : Nx w nv n L X) (ht : Ts w tv m T) (hs : s.size ≤ 9223372036854775807) :
    Calls Try.prog 11 #[.agg (pl O nv tv).toArray, .string s] w fun e w' => e = .returned (.int .i64 (chkS n m O L X T s.size)) ∧ Below w.heap.size w w' := by
  obtain ⟨l, HLL⟩ : ∃ l, Hid (pl O nv tv = l) := ⟨_, (rfl : pl O nv tv = pl O nv tv)⟩
  have HP : Hid (Px w w.heap.size O nv tv n m L X T l (w.alloc (Obj.cells l.toArray 26))) := Px.box HLL.out hx ht
  have HI : Hid ((w.alloc (Obj.cells l.toArray 26)).rangeAt w.heap.size 0 l) := by show World.rangeAt _ _ _ _; rw [← HLL.out]; exact HLL.out ▸ HP.out.all
  have HQ : Hid (Calls Try.prog 14 #[.agg l.toArray] (w.alloc (Obj.cells l.toArray 26)) fun e w' => e = .returned (.int .i64 (chkP n m O L X T)) ∧ Below (w.alloc (Obj.cells l.toArray 26)).heap.size (w.alloc (Obj.cells l.toArray 26)) w') := by
    have := checkP_any O nv tv n m L X T (w.alloc (Obj.cells l.toArray 26)) hO HP.out.next HP.out.tags
    rw [HLL.out] at this
    exact this
  have HS : Hid ((Try.prog.info? 26).map (·.size) = some l.length) := by show _ = _; rw [← HLL.out, pl_length]; exact size26
  have HB : Hid (Below w.heap.size w (w.alloc (Obj.cells l.toArray 26))) := HP.out.below
  rw [HLL.out]
  clear hO hx ht
  obtain ⟨c, HC⟩ : ∃ c, Hid (chkP n m O L X T = c) := ⟨_, (rfl : chkP n m O L X T = chkP n m O L X T)⟩
  unfold chkS
  rw [HC.out] at HQ ⊢
  obtain ⟨ww, HW⟩ : ∃ ww, Hid (w.alloc (Obj.cells l.toArray 26) = ww) := ⟨_, (rfl : w.alloc _ = w.alloc _)⟩
  go_enter Try.func11, Try.ntmps11
  go_wp2_with (refine wpList_load_mid rfl 26 _ rfl w.heap.size 0 rfl l _ HI.out Try.underlying26 rfl HS.out ?_)
  refine HQ.out.mono ?_
  rintro _ w1 ⟨rfl, hb1⟩
  have B1 : Below w.heap.size w w1 := HB.out.trans (hb1.mono HB.out.size)
  clear hb1 HQ HI
  by_cases h0 : c = 0
  · subst h0
    by_cases h2 : 2000 < s.size
    · have h3 : (2000 : Int) < (s.size : Int) := by omega
      go_wp2_with fail
      go_ret
      exact ⟨by rfl, B1⟩
    · have h3 : ¬ (2000 : Int) < (s.size : Int) := by omega
      go_wp2_with fail
      go_ret
      exact ⟨by rfl, B1⟩
  · have h3 : (c == 0) = false := by simp [h0]
    go_wp2_with fail
    go_ret
    exact ⟨by rfl, B1⟩

set_option maxHeartbeats 1600000 in
set_option maxRecDepth 20000 in
theorem tagOf_any (rv tv : Value) (m : Nat) (T : Nat → Int) (q : Int) (w : World) (ht : Ts w tv m T) (hq2 : q < (m : Int)) :
    Calls Try.prog 13 #[.agg #[rv, tv], .int .i64 q] w fun e w' => e = .returned (.int .i64 (tagOf T q)) ∧ Below w.heap.size w w' := by
  obtain ⟨ao, cap, rfl, hm, hwf, hcs⟩ := ht
  have B0 : Below w.heap.size w (w.alloc (Obj.cells #[rv, Value.slice ao m cap] 38)) := (Below.refl _ _).alloc (Nat.le_refl _) _
  clear hwf
  go_enter Try.func13, Try.ntmps13
  by_cases hq : q < 0
  · go_wp2_with fail
    go_ret
    exact ⟨by unfold tagOf; rw [if_pos hq]; rfl, B0⟩
  · obtain ⟨p, rfl⟩ : ∃ p : Nat, q = (p : Int) := ⟨q.toNat, by omega⟩
    obtain ⟨b, o, rfl, hb, hc⟩ := hcs.resolve_left (by omega)
    have e0 : (w.alloc (Obj.cells #[rv, Value.slice (some ⟨b, o, none⟩) m cap] 38)).cell? ⟨b, o + p, none⟩ = some (.int .i64 (T p)) := (B0.cell (p := ⟨b, o + p, none⟩) hb).trans (hc p (by omega))
    clear hcs hc
    go_wp2_with fail
    go_ret
    exact ⟨by unfold tagOf; rw [if_neg (by omega)]; rfl, B0⟩

/-- The answer is what the search finds from here on. -/
def Goes (R : Nat → Nat → Int) (T : Nat → Int) (l : List UInt8) (k : Nat) (q r : Int) (z : Nat) (ans : Int × Nat) : Prop := (if q < 0 then (r, z) else lg R T q.toNat k r z (l.drop k)) = ans
theorem Goes.start (R : Nat → Nat → Int) (T : Nat → Int) (l : List UInt8) : Goes R T l 0 0 0 0 (lng R T l) := by unfold Goes lng; rw [if_neg (by omega)]; rfl
theorem Goes.over {R : Nat → Nat → Int} {T : Nat → Int} {l : List UInt8} {k : Nat} {q r : Int} {z : Nat} {ans : Int × Nat} (h : Goes R T l k q r z ans) (hk : l.drop k = [] ∨ q < 0) : ans = (r, z) := by
  unfold Goes at h
  by_cases hq : q < 0
  · rw [if_pos hq] at h; exact h.symm
  · rw [if_neg hq, hk.resolve_right hq] at h; exact h.symm
theorem Goes.none {R : Nat → Nat → Int} {T : Nat → Int} {l : List UInt8} {k p : Nat} {r : Int} {z : Nat} {ans : Int × Nat} {x : UInt8} (h : Goes R T l k (p : Int) r z ans) (hk : l.drop k = x :: l.drop (k + 1)) (hn : tagOf T (R p x.toNat) < 0) :
    Goes R T l (k + 1) (R p x.toNat) r z ans := by
  unfold Goes at *
  rw [if_neg (by omega), hk] at h
  rw [← h]
  show _ = lg R T p k r z _
  rw [lg]
  by_cases hq : R p x.toNat < 0
  · rw [if_pos hq, if_pos hq]
  · rw [if_neg hq, if_neg hq, if_pos (by unfold tagOf at hn; rw [if_neg hq] at hn; exact hn)]
theorem Goes.some {R : Nat → Nat → Int} {T : Nat → Int} {l : List UInt8} {k p : Nat} {r : Int} {z : Nat} {ans : Int × Nat} {x : UInt8} (h : Goes R T l k (p : Int) r z ans) (hk : l.drop k = x :: l.drop (k + 1)) (hn : ¬ tagOf T (R p x.toNat) < 0) :
    Goes R T l (k + 1) (R p x.toNat) (tagOf T (R p x.toNat)) (k + 1) ans := by
  unfold Goes at *
  rw [if_neg (by omega), hk] at h
  rw [← h]
  show _ = lg R T p k r z _
  rw [lg]
  by_cases hq : R p x.toNat < 0
  · exfalso; apply hn; unfold tagOf; rw [if_pos hq]; omega
  · have ht : tagOf T (R p x.toNat) = T (R p x.toNat).toNat := by unfold tagOf; rw [if_neg hq]
    rw [if_neg hq, if_neg hq, if_neg (by rw [← ht]; exact hn), ht]
theorem drop_from (s : ByteArray) (f k : Nat) (h : f + k < s.size) : (s.data.toList.drop f).drop k = s[f + k] :: (s.data.toList.drop f).drop (k + 1) := by
  rw [List.drop_drop, List.drop_drop, drop_cons s (f + k) h, Nat.add_assoc]
theorem drop_from_all (s : ByteArray) (f k : Nat) (h : s.size ≤ f + k) : (s.data.toList.drop f).drop k = [] := by rw [List.drop_drop, drop_all s _ h]
/-- The rows of a packed one, unpacked. -/
def RR (n : Nat) (O : Nat → Nat) (X : Nat → Nat → Int) : Nat → Nat → Int := fun i j => if i < n ∧ j < 256 then X i (O j) else 0
/-- A token in memory: none yet, or this one. -/
def Tv (f : Nat) (r : Int) (z : Nat) (bb : Bool) (a b c : Int) : Prop := (z = 0 ∧ bb = false ∧ a = 0 ∧ b = 0 ∧ c = 0) ∨ (0 < z ∧ bb = true ∧ a = r ∧ b = (f : Int) ∧ c = (f : Int) + (z : Int))
theorem block_cell {w : World} {g : Nat} {cs : Array Value} {t : TypeId} {fr : Nat × Nat} (h : w.heap[g]? = some (.cells cs t fr)) (i : Nat) : w.cell? ⟨g, i, none⟩ = cs[i]? := by simp [World.cell?, h]
theorem block_free {w : World} {g : Nat} {cs : Array Value} {t : TypeId} (h : w.heap[g]? = some (.cells cs t (0, 0))) (i : Nat) : w.frozen? ⟨g, i, none⟩ = false := by simp [World.frozen?, h]
theorem block_store {w : World} {g i : Nat} {cs : Array Value} {t : TypeId} {fr : Nat × Nat} (h : w.heap[g]? = some (.cells cs t fr)) (v : Value) : (w.setCell ⟨g, i, none⟩ v).heap[g]? = some (.cells (cs.setIfInBounds i v) t fr) := by
  rw [setCell_eq_setRow w g i cs t fr v h]
  exact setRow_heap w g _ _ t _ h
theorem three {w : World} {g : Nat} {x y z : Value} {t : TypeId} (h : w.heap[g]? = some (.cells #[x, y, z] t (0, 0))) (a b c : Value) :
    (((w.setCell ⟨g, 0, none⟩ a).setCell ⟨g, 1, none⟩ b).setCell ⟨g, 2, none⟩ c).heap[g]? = some (.cells #[a, b, c] t (0, 0)) := block_store (i := 2) (block_store (i := 1) (block_store (i := 0) h a) b) c
theorem same_three (w : World) (g : Nat) (a b c : Value) : (((w.setCell ⟨g, 0, none⟩ a).setCell ⟨g, 1, none⟩ b).setCell ⟨g, 2, none⟩ c).heap.size = w.heap.size ∧ (((w.setCell ⟨g, 0, none⟩ a).setCell ⟨g, 1, none⟩ b).setCell ⟨g, 2, none⟩ c).os = w.os ∧
    (((w.setCell ⟨g, 0, none⟩ a).setCell ⟨g, 1, none⟩ b).setCell ⟨g, 2, none⟩ c).tape = w.tape ∧ (((w.setCell ⟨g, 0, none⟩ a).setCell ⟨g, 1, none⟩ b).setCell ⟨g, 2, none⟩ c).output = w.output ∧
    ∀ k, k ≠ g → (((w.setCell ⟨g, 0, none⟩ a).setCell ⟨g, 1, none⟩ b).setCell ⟨g, 2, none⟩ c).heap[k]? = w.heap[k]? :=
  ⟨by simp [World.setCell], rfl, rfl, rfl, fun k hk => by rw [Below.heap_setCell _ _ _ _ (by simpa using hk), Below.heap_setCell _ _ _ _ (by simpa using hk), Below.heap_setCell _ _ _ _ (by simpa using hk)]⟩
end Go.Proofs.Ytichmhlnjjejmaa
