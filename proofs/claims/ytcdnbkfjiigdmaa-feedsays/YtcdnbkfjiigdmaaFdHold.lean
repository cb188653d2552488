/-
  What a reader of package feed is in memory: an automaton, what is held, the tokens told. No function is walked here but reader.stop.
-/
import Derived.Test.YtcdnbkfjiigdmaaFdLook
import Derived.Test.YtcdnbkfjiigdmaaLxTok
import Derived.Great.FillDense
import Derived.Laws.Tables
import Derived.Deep.AppendLies
namespace Go.Proofs.Ytcdnbkfjiigdmaa
open Go.RowKit
open Dfa

theorem size42 : (Try.prog.info? 42).map (·.size) = some 262 := by kernel_rfl
theorem size29 : (Try.prog.info? 29).map (·.size) = some 3 := by kernel_rfl
/-- The cells of a reader, as a list. -/
def rdl (l : List Value) (x y z v : Value) : List Value := l ++ [x, y, z, v]
def z42 : List Value := rdl (pl (fun _ => 0) (.slice none 0 0) (.slice none 0 0)) (.int .i64 0) (.string ⟨#[]⟩) (.int .i64 0) (.slice none 0 0)
theorem zero42z : (Try.prog.info? 42).bind (·.zero) = some (.agg z42.toArray) := by kernel_rfl
/-- The cells of a reader. -/
def rf (O : Nat → Nat) (nv tv : Value) (a : Int) (s : ByteArray) (o : Int) (v : Value) (j : Nat) : Value := if j < 258 then (pl O nv tv).getD j undef else if j = 258 then .int .i64 a else if j = 259 then .string s else if j = 260 then .int .i64 o else v
theorem rf_at (O : Nat → Nat) (nv tv : Value) (a : Int) (s : ByteArray) (o : Int) (v : Value) (j : Nat) (hj : j < 262) : (rdl (pl O nv tv) (.int .i64 a) (.string s) (.int .i64 o) v)[j]? = some (rf O nv tv a s o v j) := by
  unfold rf rdl
  by_cases h : j < 258
  · rw [if_pos h, List.getElem?_append_left (by rw [pl_length]; exact h), List.getD_eq_getElem?_getD, List.getElem?_eq_getElem (by rw [pl_length]; exact h)]; rfl
  · rw [if_neg h, List.getElem?_append_right (by rw [pl_length]; omega), pl_length]
    have : j = 258 ∨ j = 259 ∨ j = 260 ∨ j = 261 := by omega
    rcases this with rfl | rfl | rfl | rfl <;> simp
theorem rdl_length (l : List Value) (x y z v : Value) (h : l.length = 258) : (rdl l x y z v).length = 262 := by simp [rdl, h]
/-- All but one block below a height stays. -/
structure Mk (B g : Nat) (W W' : World) : Prop where
  os : W'.os = W.os
  tape : W'.tape = W.tape
  output : W'.output = W.output
  size : W.heap.size ≤ W'.heap.size
  blk : ∀ k, k < B → k ≠ g → W'.heap[k]? = W.heap[k]?
theorem Mk.refl (B g : Nat) (W : World) : Mk B g W W := ⟨rfl, rfl, rfl, Nat.le_refl _, fun _ _ _ => rfl⟩
theorem Mk.trans {B g : Nat} {W W' W'' : World} (h : Mk B g W W') (k : Mk B g W' W'') : Mk B g W W'' :=
  ⟨k.os.trans h.os, k.tape.trans h.tape, k.output.trans h.output, Nat.le_trans h.size k.size, fun q h1 h2 => (k.blk q h1 h2).trans (h.blk q h1 h2)⟩
theorem Mk.next {B g : Nat} {W W' W'' : World} (h : Mk B g W W') (hb : Below W'.heap.size W' W'') (hs : B ≤ W'.heap.size) : Mk B g W W'' :=
  ⟨hb.os.trans h.os, hb.tape.trans h.tape, hb.output.trans h.output, Nat.le_trans h.size hb.size, fun k h1 h2 => (hb.block k (by omega)).trans (h.blk k h1 h2)⟩
theorem Mk.grown {B g : Nat} {own : Option Nat} {W W' W'' : World} (h : Mk B g W W') (hb : W'.grownBy W'' own) (ho : ∀ k, own = some k → B ≤ k) (hs : B ≤ W'.heap.size) : Mk B g W W'' :=
  ⟨hb.os.trans h.os, hb.tape.trans h.tape, hb.output.trans h.output, Nat.le_trans h.size hb.size, fun k h1 h2 => (hb.block k (by omega) (fun e => by have := ho k e.symm; omega)).trans (h.blk k h1 h2)⟩
theorem Mk.set {B g : Nat} {W W' : World} (h : Mk B g W W') (j : Nat) (u : Value) : Mk B g W (W'.setCell ⟨g, j, none⟩ u) :=
  ⟨h.os, h.tape, h.output, by simp only [World.setCell, Array.size_modify]; exact h.size, fun k h1 h2 => (Below.heap_setCell _ _ _ _ (by simpa using h2)).trans (h.blk k h1 h2)⟩
theorem Mk.drew {B g : Nat} {W W' : World} (h : Mk B g W W') : Mk B g W W'.drew := ⟨h.os, h.tape, h.output, h.size, h.blk⟩
theorem Mk.below {B g : Nat} {w W W' : World} (h : Mk B g W W') (hb : Below w.heap.size w W) (h1 : w.heap.size ≤ g) (h2 : w.heap.size ≤ B) : Below w.heap.size w W' :=
  ⟨h.os.trans hb.os, h.tape.trans hb.tape, h.output.trans hb.output, Nat.le_trans hb.size h.size, fun k hk => (h.blk k (by omega) (by omega)).trans (hb.block k hk)⟩
/-- A reader in block g; the tokens lie at B or above. -/
structure Rd (O : Nat → Nat) (nv tv : Value) (B g a : Nat) (s : ByteArray) (o : Int) (v : Value) (ts : List (Int × Nat × Nat)) (W : World) : Prop where
  row : W.rowIs g 42 262 (rf O nv tv (a : Int) s o v)
  own : W.ownsRow B 37 3 v ts.length (tcs ts)
  lt : g < B
  sz : B ≤ W.heap.size
section
variable {O : Nat → Nat} {nv tv : Value} {B g a : Nat} {s : ByteArray} {o : Int} {v : Value} {ts : List (Int × Nat × Nat)} {W W' : World}
theorem Rd.range (h : Rd O nv tv B g a s o v ts W) : W.rangeAt g 0 (pl O nv tv) := fun j u hu => by
  have hj : j < 258 := by have := (List.getElem?_eq_some_iff.1 hu).1; rwa [pl_length] at this
  rw [Nat.zero_add, h.row.cell (i := j) (by omega)]
  unfold rf
  rw [if_pos hj, List.getD_eq_getElem?_getD, hu]; rfl
theorem Rd.c258 (h : Rd O nv tv B g a s o v ts W) : W.cell? ⟨g, 258, none⟩ = some (.int .i64 (a : Int)) := h.row.cell (i := 258) (by omega)
theorem Rd.c259 (h : Rd O nv tv B g a s o v ts W) : W.cell? ⟨g, 259, none⟩ = some (.string s) := h.row.cell (i := 259) (by omega)
theorem Rd.c260 (h : Rd O nv tv B g a s o v ts W) : W.cell? ⟨g, 260, none⟩ = some (.int .i64 o) := h.row.cell (i := 260) (by omega)
theorem Rd.c261 (h : Rd O nv tv B g a s o v ts W) : W.cell? ⟨g, 261, none⟩ = some v := h.row.cell (i := 261) (by omega)
theorem own_set {base e size n : Nat} {u : Value} {xs : List Value} (h : W.ownsRow base e size u n xs) (hg : g < base) (j : Nat) (x : Value) : (W.setCell ⟨g, j, none⟩ x).ownsRow base e size u n xs :=
  own_same h fun k hk => Below.heap_setCell _ _ _ _ (by have := (h.lt k hk).1; simp; omega)
theorem size_set1 {j : Nat} {x : Value} : (W.setCell ⟨g, j, none⟩ x).heap.size = W.heap.size := by simp [World.setCell]
theorem Rd.setAt (h : Rd O nv tv B g a s o v ts W) (a' : Nat) : Rd O nv tv B g a' s o v ts (W.setCell ⟨g, 258, none⟩ (.int .i64 (a' : Int))) :=
  ⟨(h.row.set 258 _).congr fun j _ => by unfold rf; by_cases e : j = 258 <;> simp [e], own_set h.own h.lt _ _, h.lt, by rw [size_set1]; exact h.sz⟩
theorem Rd.setBuf (h : Rd O nv tv B g a s o v ts W) (s' : ByteArray) : Rd O nv tv B g a s' o v ts (W.setCell ⟨g, 259, none⟩ (.string s')) :=
  ⟨(h.row.set 259 _).congr fun j _ => by unfold rf; by_cases e : j = 259 <;> simp [e], own_set h.own h.lt _ _, h.lt, by rw [size_set1]; exact h.sz⟩
theorem Rd.setOver (h : Rd O nv tv B g a s o v ts W) (o' : Int) : Rd O nv tv B g a s o' v ts (W.setCell ⟨g, 260, none⟩ (.int .i64 o')) :=
  ⟨(h.row.set 260 _).congr fun j _ => by unfold rf; by_cases e : j = 260 <;> simp [e], own_set h.own h.lt _ _, h.lt, by rw [size_set1]; exact h.sz⟩
theorem Rd.setToks (h : W.rowIs g 42 262 (rf O nv tv (a : Int) s o v)) {v' : Value} {ts' : List (Int × Nat × Nat)} (ho : W.ownsRow B 37 3 v' ts'.length (tcs ts')) (hlt : g < B) (hs : B ≤ W.heap.size) : Rd O nv tv B g a s o v' ts' (W.setCell ⟨g, 261, none⟩ v') :=
  ⟨(h.set 261 _).congr fun j hj => by
    unfold rf
    by_cases e : j = 261
    · simp [e]
    · have : ¬ (¬ j < 258 ∧ j ≠ 258 ∧ j ≠ 259 ∧ j ≠ 260) := by omega
      simp only [e, if_false]
      by_cases h1 : j < 258
      · rw [if_pos h1, if_pos h1]
      · rw [if_neg h1, if_neg h1]
        by_cases h2 : j = 258
        · rw [if_pos h2, if_pos h2]
        · rw [if_neg h2, if_neg h2]
          by_cases h3 : j = 259
          · rw [if_pos h3, if_pos h3]
          · have h4 : j = 260 := by omega
            rw [if_neg h3, if_neg h3, if_pos h4, if_pos h4], own_set ho hlt _ _, hlt, by rw [size_set1]; exact hs⟩
theorem Rd.next (h : Rd O nv tv B g a s o v ts W) (hb : Below W.heap.size W W') : Rd O nv tv B g a s o v ts W' :=
  ⟨h.row.of_block (hb.block _ h.row.lt), own_same h.own fun k hk => hb.block k (h.own.lt k hk).2, h.lt, Nat.le_trans h.sz hb.size⟩
theorem Rd.drew (h : Rd O nv tv B g a s o v ts W) : Rd O nv tv B g a s o v ts W.drew := h.next (Below.refl _ _).drew
theorem Rd.box (W : World) (O : Nat → Nat) (nv tv : Value) (a : Nat) (s : ByteArray) (o : Int) : Rd O nv tv (W.heap.size + 1) W.heap.size a s o (.slice none 0 0) [] (W.alloc (.cells (rdl (pl O nv tv) (.int .i64 (a : Int)) (.string s) (.int .i64 o) (.slice none 0 0)).toArray 42)) := by
  have := World.rowIs_alloc W (rdl (pl O nv tv) (.int .i64 (a : Int)) (.string s) (.int .i64 o) (.slice none 0 0)).toArray 42 (rf O nv tv (a : Int) s o (.slice none 0 0)) (fun i hi => by rw [List.getElem?_toArray]; exact rf_at _ _ _ _ _ _ _ i (by rwa [List.size_toArray, rdl_length _ _ _ _ _ (pl_length _ _ _)] at hi))
  rw [show (rdl (pl O nv tv) (.int .i64 (a : Int)) (.string s) (.int .i64 o) (.slice none 0 0)).toArray.size = 262 by rw [List.size_toArray, rdl_length _ _ _ _ _ (pl_length _ _ _)]] at this
  exact ⟨this, World.ownsRow_nil _ _ _ _, by omega, by simp⟩
end
theorem z42_length : z42.length = 262 := rdl_length _ _ _ _ _ (pl_length _ _ _)
theorem built42 (l : List Value) (hl : l.length = 258) (x y z : Value) : Try.prog.built 42 [(0, .agg l.toArray), (1, .agg #[x, y, z])] = some (rdl l x y z (.slice none 0 0)).toArray := by
  obtain ⟨it, hi, hz⟩ : ∃ it, Try.prog.info? 42 = some it ∧ it.zero = some (.agg z42.toArray) := by
    have := zero42z
    cases h : Try.prog.info? 42 with
    | none => rw [h] at this; cases this
    | some it => rw [h] at this; exact ⟨it, rfl, this⟩
  have hp : ∃ fs : Array Field, Try.prog.underlying 42 = some (.struct fs) ∧ fs.toList.mapM (fun f => (Try.prog.info? f.type).map fun i => (f.offset, i.size)) = some [(0, 258), (258, 3), (261, 1)] := ⟨_, Try.underlying42, by kernel_rfl⟩
  obtain ⟨fs, h1, h2⟩ := hp
  unfold Program.built
  simp only [hi, h1, hz, h2]
  have e1 : (Value.agg l.toArray).cells = l.toArray := rfl
  have e2 : (Value.agg #[x, y, z]).cells = #[x, y, z] := rfl
  have e3 : (Value.agg z42.toArray).cells = z42.toArray := rfl
  rw [e3]
  obtain ⟨g1, g2⟩ := Great.foldl_set 0 l 0 z42.toArray
  obtain ⟨k1, k2⟩ := Great.foldl_set 258 [x, y, z] 0 ((l.zipIdx 0).foldl (fun cs (q : Value × Nat) => cs.setIfInBounds (0 + q.2) q.1) z42.toArray)
  unfold Instr.fill
  simp only [List.getElem?_toArray, List.getElem?_cons_zero, e1]
  rw [if_neg (by simp [hl, z42_length])]
  unfold Instr.fill
  simp only [List.getElem?_cons_succ, List.getElem?_cons_zero, e2]
  have f1 : l.toArray.zipIdx.foldl (fun cs (q : Value × Nat) => cs.setIfInBounds (0 + q.2) q.1) z42.toArray = (l.zipIdx 0).foldl (fun cs (q : Value × Nat) => cs.setIfInBounds (0 + q.2) q.1) z42.toArray := by
    rw [← Array.foldl_toList, Array.toList_zipIdx]
  rw [f1, if_neg (by rw [g1]; simp [z42_length])]
  unfold Instr.fill
  congr 1
  rw [← Array.foldl_toList, Array.toList_zipIdx]
  refine Array.ext_getElem? fun k => ?_
  rw [k2 k, g1, g2 k]
  simp only [List.size_toArray, z42_length, List.length_cons, List.length_nil, List.getElem?_toArray, Nat.zero_add, hl, Nat.add_zero, Nat.sub_zero]
  by_cases ha : k < 258
  · rw [if_neg (by omega), if_pos (by omega)]
    unfold rdl
    rw [List.getElem?_append_left (by omega)]
  · by_cases hb : k < 261
    · rw [if_pos (by omega)]
      unfold rdl
      rw [List.getElem?_append_right (by omega), hl]
      have : k = 258 ∨ k = 259 ∨ k = 260 := by omega
      rcases this with rfl | rfl | rfl <;> rfl
    · rw [if_neg (by omega), if_neg (by omega)]
      by_cases hc : k = 261
      · subst hc
        have a1 : z42[261]? = some (.slice none 0 0) := by unfold z42 rdl; rw [List.getElem?_append_right (by rw [pl_length]; omega), pl_length]; rfl
        have a2 : (rdl l x y z (.slice none 0 0))[261]? = some (.slice none 0 0) := by unfold rdl; rw [List.getElem?_append_right (by omega), hl]; rfl
        rw [a1, a2]
      · rw [List.getElem?_eq_none (by rw [z42_length]; omega), List.getElem?_eq_none (by rw [rdl_length _ _ _ _ _ hl]; omega)]

set_option maxHeartbeats 1600000 in
set_option maxRecDepth 20000 in
theorem stop_any (O : Nat → Nat) (nv tv : Value) (B g a : Nat) (s : ByteArray) (o e : Int) (v : Value) (ts : List (Int × Nat × Nat)) (w : World) (h : Rd O nv tv B g a s o v ts w) :
    Calls Try.prog 22 #[.pointer (some ⟨g, 0, none⟩), .int .i64 e] w fun r w' => r = .returned (.tuple #[]) ∧ Rd O nv tv B g a ⟨#[]⟩ e v ts w' ∧ Mk B g w w' := by
  have HD : Hid (Rd O nv tv B g a ⟨#[]⟩ e v ts ((w.setCell ⟨g, 260, none⟩ (.int .i64 e)).setCell ⟨g, 259, none⟩ (.string ⟨#[]⟩)) ∧ Mk B g w ((w.setCell ⟨g, 260, none⟩ (.int .i64 e)).setCell ⟨g, 259, none⟩ (.string ⟨#[]⟩))) := ⟨(h.setOver e).setBuf _, ((Mk.refl B g w).set _ _).set _ _⟩
  have y0 := h.c260
  have y1 := h.c259
  have f0 := h.row.frozen 260
  have f1 := h.row.frozen 259
  clear h
  go_enter Try.func22, Try.ntmps22
  go_wp2_with fail
  go_end0
  exact ⟨rfl, HD.out⟩
end Go.Proofs.Ytcdnbkfjiigdmaa
