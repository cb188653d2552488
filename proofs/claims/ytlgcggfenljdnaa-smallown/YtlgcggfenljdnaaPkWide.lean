/-
  The contract of the document's own answer: pushref.Wide.
-/
import Derived.Test.YtlgcggfenljdnaaPkUnpack
import Derived.Great.BuildSlice
namespace Go.Proofs.Ytlgcggfenljdnaa
open Go.RowKit
open Dfa

/-- The cells of the first rows. -/
def rcl (O : Nat → Nat) (X : Nat → Nat → Int) (k : Nat) : List Value := (List.range (k * 256)).map fun q => Value.int .i16 (X (q / 256) (O (q % 256)))
theorem rcl_length (O : Nat → Nat) (X : Nat → Nat → Int) (k : Nat) : (rcl O X k).length = k * 256 := by simp [rcl]
theorem rcl_at (O : Nat → Nat) (X : Nat → Nat → Int) (k q : Nat) (hq : q < k * 256) : (rcl O X k)[q]? = some (.int .i16 (X (q / 256) (O (q % 256)))) := by simp [rcl, hq]
set_option maxRecDepth 20000 in
theorem rcl_succ (O : Nat → Nat) (X : Nat → Nat → Int) (k : Nat) : rcl O X k ++ rl (fun j => X k (O j)) = rcl O X (k + 1) := by
  apply List.ext_getElem?
  intro q
  rw [List.getElem?_append, rcl_length]
  split
  · rw [rcl_at _ _ _ q (by omega), rcl_at _ _ _ q (by omega)]
  · by_cases hq : q < (k + 1) * 256
    · rw [rcl_at _ _ _ q hq, rl_at _ _ (by omega), show q / 256 = k by omega, show q % 256 = q - k * 256 by omega]
    · rw [List.getElem?_eq_none (by rw [rl_length]; omega), List.getElem?_eq_none (by rw [rcl_length]; omega)]
theorem rl_one' (f : Nat → Int) : ∀ u ∈ rl f, u.oneCell' = true := fun v hv => by
  simp only [rl, List.mem_map] at hv
  obtain ⟨j, _, rfl⟩ := hv
  rfl
theorem fill_row (l : List Value) (h : l.length = 256) (cells : Array Value) (hc : cells.size = 256) : Instr.fill (fun i => some (i * 256, 256)) cells [(0, .agg l.toArray)] = some l.toArray := by
  have := Great.fill_whole (s := 256) (by omega) [.agg l.toArray] cells (fun v hv => by simp at hv; subst hv; simp [Value.cells, h]) (by simp [hc])
  simpa [Value.cells] using this
theorem own_same {w w' : World} {base e size n : Nat} {v : Value} {xs : List Value} (h : w.ownsRow base e size v n xs) (hs : ∀ k, v.ownBlock = some k → w'.heap[k]? = w.heap[k]?) : w'.ownsRow base e size v n xs := by
  obtain ⟨h1, h2 | ⟨g, cap, cur, hv, hg, hh, r⟩⟩ := h
  · exact ⟨h1, Or.inl h2⟩
  · subst hv
    exact ⟨h1, Or.inr ⟨g, cap, cur, rfl, hg, by rw [hs g rfl]; exact hh, r⟩⟩

/-- What is held while the rows are laid one behind the other. -/
structure Wd (w : World) (O : Nat → Nat) (b o cap b2 o2 cap2 n : Nat) (L : Nat → Nat) (X : Nat → Nat → Int) (T : Nat → Int) (l : List Value) (k : Nat) (rv : Value) (W : World) : Prop where
  px : Px w w.heap.size O (.slice (some ⟨b, o, none⟩) n cap) (.slice (some ⟨b2, o2, none⟩) n cap2) n n L X T l W
  own : W.ownsRow (w.heap.size + 3) 42 256 rv k (rcl O X k)
  st : W.rowIs (w.heap.size + 2) 25 2 (fun i => if i = 0 then rv else (.slice (some ⟨b2, o2, none⟩) n cap2))
  rs : W.rowIs (w.heap.size + 1) 25 2 (fun _ => Value.slice none 0 0)
theorem Wd.same {w : World} {O : Nat → Nat} {b o cap b2 o2 cap2 n : Nat} {L : Nat → Nat} {X : Nat → Nat → Int} {T : Nat → Int} {l : List Value} {k : Nat} {rv : Value} {W W' : World} {g : Nat} (h : Wd w O b o cap b2 o2 cap2 n L X T l k rv W) (hx : Nx w (.slice (some ⟨b, o, none⟩) n cap) n L X) (ht : Ts w (.slice (some ⟨b2, o2, none⟩) n cap2) n T) (hg : w.heap.size + 3 ≤ g) (hr : rv.ownBlock ≠ some g)
    (hs : W'.heap.size = W.heap.size ∧ W'.os = W.os ∧ W'.tape = W.tape ∧ W'.output = W.output ∧ ∀ k, k ≠ g → W'.heap[k]? = W.heap[k]?) : Wd w O b o cap b2 o2 cap2 n L X T l k rv W' :=
  ⟨h.px.set hx ht hs (by omega) (by omega), own_same h.own fun k hk => hs.2.2.2.2 k (fun e => hr (by rw [hk, e])), h.st.of_block (hs.2.2.2.2 _ (by omega)), h.rs.of_block (hs.2.2.2.2 _ (by omega))⟩
theorem Wd.set {w : World} {O : Nat → Nat} {b o cap b2 o2 cap2 n : Nat} {L : Nat → Nat} {X : Nat → Nat → Int} {T : Nat → Int} {l : List Value} {k : Nat} {rv : Value} {W W' : World} {g : Nat} (h : Wd w O b o cap b2 o2 cap2 n L X T l k rv W) (hx : Nx w (.slice (some ⟨b, o, none⟩) n cap) n L X) (ht : Ts w (.slice (some ⟨b2, o2, none⟩) n cap2) n T) (hg : w.heap.size + 3 ≤ g) (hr : rv.ownBlock ≠ some g) (hs : Sm W W') (j : Nat) (u : Value) : Wd w O b o cap b2 o2 cap2 n L X T l k rv (W'.setCell ⟨g, j, none⟩ u) :=
  h.same hx ht hg hr ⟨by simp [World.setCell, hs.heap], hs.os, hs.tape, hs.output, fun q hq => by rw [Below.heap_setCell _ _ _ _ (by simpa using hq), hs.heap]⟩
theorem Wd.alloc {w : World} {O : Nat → Nat} {b o cap b2 o2 cap2 n : Nat} {L : Nat → Nat} {X : Nat → Nat → Int} {T : Nat → Int} {l : List Value} {k : Nat} {rv : Value} {W : World} (h : Wd w O b o cap b2 o2 cap2 n L X T l k rv W) (ob : Obj) : Wd w O b o cap b2 o2 cap2 n L X T l k rv (W.alloc ob) := by
  have B := (Below.refl W.heap.size W).alloc (Nat.le_refl _) ob
  exact ⟨h.px.step B, own_same h.own fun q hq => B.block q (h.own.lt q hq).2, h.st.alloc _, h.rs.alloc _⟩
theorem Px.moved {w0 : World} {g : Nat} {O : Nat → Nat} {nv tv : Value} {n m : Nat} {L : Nat → Nat} {X : Nat → Nat → Int} {T : Nat → Int} {l : List Value} {w w' : World} (h : Px w0 g O nv tv n m L X T l w) (hx : Nx w0 nv n L X) (ht : Ts w0 tv m T)
    (hB : Below w0.heap.size w0 w') (hs : w'.heap[g]? = w.heap[g]?) (hlt : g < w'.heap.size) : Px w0 g O nv tv n m L X T l w' := by
  have e : ∀ j, w'.cell? ⟨g, j, none⟩ = w.cell? ⟨g, j, none⟩ := fun j => cell_same hs j
  exact ⟨(e _).trans h.c1, (e _).trans h.c2, fun j hj => (e _).trans (h.of j hj), fun j v hv => (e _).trans (h.all j v hv), fun j v hv => (e _).trans (h.cols j v hv), hx.below hB (Nat.le_refl _), ht.below hB (Nat.le_refl _), hlt, hB⟩
theorem Wd.next {w : World} {O : Nat → Nat} {b o cap b2 o2 cap2 n : Nat} {L : Nat → Nat} {X : Nat → Nat → Int} {T : Nat → Int} {l : List Value} {k : Nat} {rv v' : Value} {W w' : World} {ob : Obj} (h : Wd w O b o cap b2 o2 cap2 n L X T l k rv W) (hx : Nx w (.slice (some ⟨b, o, none⟩) n cap) n L X) (ht : Ts w (.slice (some ⟨b2, o2, none⟩) n cap2) n T) (hown : w'.ownsRow (w.heap.size + 3) 42 256 v' (k + 1) (rcl O X (k + 1))) (hg : (W.alloc ob).grownBy w' rv.ownBlock) :
    Wd w O b o cap b2 o2 cap2 n L X T l (k + 1) v' (w'.setCell ⟨w.heap.size + 2, 0, none⟩ v') := by
  have hsz := h.st.lt
  have hne : ∀ q, q < w.heap.size + 3 → some q ≠ rv.ownBlock := fun q hq e => by have := (h.own.lt q e.symm).1; omega
  have e : ∀ q, q < w.heap.size + 3 → w'.heap[q]? = W.heap[q]? := fun q hq => by
    rw [hg.block q (by simp; omega) (hne q hq)]
    exact ((Below.refl W.heap.size W).alloc (Nat.le_refl _) ob).block q (by omega)
  have e2 : ∀ q, q ≠ w.heap.size + 2 → (w'.setCell ⟨w.heap.size + 2, 0, none⟩ v').heap[q]? = w'.heap[q]? := fun q hq => Below.heap_setCell _ _ _ _ (by simpa using hq)
  have hBs := h.px.below.size
  have hB : Below w.heap.size w (w'.setCell ⟨w.heap.size + 2, 0, none⟩ v') := ((h.px.below.alloc hBs ob).grown hg (by simp; omega) (fun q hq => by have := (h.own.lt q hq).1; omega)).setCell (by simp) _
  have hst : w'.rowIs (w.heap.size + 2) 25 2 (fun i => if i = 0 then rv else (.slice (some ⟨b2, o2, none⟩) n cap2)) := h.st.of_block (e _ (by omega))
  refine ⟨h.px.moved hx ht hB ((e2 _ (by omega)).trans (e _ (by omega))) (by simp only [World.setCell, Array.size_modify]; have := hst.lt; omega), own_same hown fun q hq => e2 q (by have := (hown.lt q hq).1; omega), (hst.set 0 v').congr fun i hi => ?_, h.rs.of_block ((e2 _ (by omega)).trans (e _ (by omega)))⟩
  have : i = 0 ∨ i = 1 := by omega
  rcases this with rfl | rfl <;> simp
theorem rows_of_own {w : World} {base n : Nat} {v : Value} {O : Nat → Nat} {X : Nat → Nat → Int} (h : w.ownsRow base 42 256 v n (rcl O X n)) (h0 : 0 < n) (hn : n ≤ 200) (hr : ∀ i j, i < n → j < 256 → -32768 ≤ X i (O j) ∧ X i (O j) ≤ 32767) : Rw w v n (fun i j => if i < n ∧ j < 256 then X i (O j) else 0) := by
  obtain ⟨hl, ⟨h1, h2⟩ | ⟨g, cap, cur, hv, hg, hh, hnn, hc, hs, ht⟩⟩ := h
  · omega
  · refine ⟨_, cap, hv, by omega, fun i j => ?_, Or.inr ⟨g, 0, rfl, ?_, fun i hi j hj => ?_⟩⟩
    · dsimp only
      split
      · rename_i h; exact hr i j h.1 h.2
      · omega
    · rcases Nat.lt_or_ge g w.heap.size with h' | h'
      · exact h'
      · simp [Array.getElem?_eq_none h'] at hh
    · have e : w.cell? ⟨g, 0 + i * 256 + j, none⟩ = cur[i * 256 + j]? := by simp [World.cell?, hh]
      dsimp only
      rw [e, if_pos ⟨hi, hj⟩]
      have h2 : (cur.toList.take (n * 256))[i * 256 + j]? = (rcl O X n)[i * 256 + j]? := by rw [ht]
      rw [List.getElem?_take_of_lt (by omega), rcl_at _ _ _ _ (by omega), show (i * 256 + j) / 256 = i by omega, show (i * 256 + j) % 256 = j by omega] at h2
      simpa using h2
end Go.Proofs.Ytlgcggfenljdnaa
