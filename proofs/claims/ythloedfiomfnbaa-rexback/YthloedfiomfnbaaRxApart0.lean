/-
  The contract of rex.apart.
-/
import Derived.Test.YthloedfiomfnbaaRxRow
import Derived.Test.YthloedfiomfnbaaFree
namespace Go.Proofs.Ythloedfiomfnbaa
open Go.RowKit
open Cls Rex

theorem own_some {w : World} {base e g cap n j : Nat} {xs : List Value} (h : w.ownsRow base e 6 (.slice (some ⟨g, 0, none⟩) n cap) n xs) (hj : j < n * 6) : ∃ u, w.cell? ⟨g, j, none⟩ = some u := by
  rw [h.cellAt j hj]
  exact ⟨_, List.getElem?_eq_getElem (by rw [h.1]; exact hj)⟩
theorem own_same {w w' : World} {B e size n : Nat} {v : Value} {xs : List Value} (h : w.ownsRow B e size v n xs) (hb : ∀ b, v.ownBlock = some b → w'.heap[b]? = w.heap[b]?) : w'.ownsRow B e size v n xs := by
  obtain ⟨h1, h2 | ⟨g, cap, cur, hv, hg, hh, r⟩⟩ := h
  · exact ⟨h1, Or.inl h2⟩
  · exact ⟨h1, Or.inr ⟨g, cap, cur, hv, hg, by rw [hb g (by rw [hv]; rfl)]; exact hh, r⟩⟩
theorem blk_store {w : World} {g i : Nat} {cs : Array Value} {t : TypeId} {fr : Nat × Nat} (h : w.heap[g]? = some (.cells cs t fr)) (v : Value) : (w.setCell ⟨g, i, none⟩ v).heap[g]? = some (.cells (cs.setIfInBounds i v) t fr) := by
  simp [World.setCell, Array.getElem?_modify, h]
theorem cell_of {w : World} {g : Nat} {cs : Array Value} {t : TypeId} {fr : Nat × Nat} (h : w.heap[g]? = some (.cells cs t fr)) (i : Nat) : w.cell? ⟨g, i, none⟩ = cs[i]? := by simp [World.cell?, h]
theorem free_of {w : World} {g : Nat} {cs : Array Value} {t : TypeId} (h : w.heap[g]? = some (.cells cs t)) (i : Nat) : w.frozen? ⟨g, i, none⟩ = false := by simp [World.frozen?, h]
/-- What is held when kk of the trees are copied. -/
structure Ap (w : World) (g n c2 kk : Nat) (z box : Obj) (qs nq : Nat → R6) (kids : List T) (W : World) : Prop where
  row : W.ownsRow (w.heap.size + 2) 27 6 (.slice (some ⟨g, 0, none⟩) n c2) n (kxs (fun i => if i < kk then nq i else qs i) n)
  ry : ∀ i (hi : i < kids.length), i < kk → Ry W (fun b => w.heap.size + 2 ≤ b ∧ b < W.heap.size ∧ b ≠ g) (v6 (nq i)) kids[i]
  b0 : W.heap[w.heap.size]? = some box
  b1 : W.heap[w.heap.size + 1]? = some z
  bel : Below w.heap.size w W
theorem Ap.step {w : World} {g n c2 kk : Nat} {z box : Obj} {qs nq : Nat → R6} {kids : List T} {wr : World} (h : Ap w g n c2 kk z box qs nq kids wr) (hk : kk < n) (hn : kids.length = n) (q : R6) {wa V : World} (ha : Below wr.heap.size wr wa) (hV : Below wa.heap.size wa V) (hry : Ry V (fun b => wa.heap.size ≤ b ∧ b < V.heap.size) (v6 q) (kids[kk]'(by omega))) :
    Ap w g n c2 (kk + 1) z box qs (fun i => if i = kk then q else nq i) kids (((((((V.setCell ⟨g, kk * 6, none⟩ (.int .i64 q.1)).setCell ⟨g, kk * 6 + 1, none⟩ (.int .u64 (q.2.1.1.toNat : Int))).setCell ⟨g, kk * 6 + 2, none⟩ (.int .u64 (q.2.1.2.1.toNat : Int))).setCell ⟨g, kk * 6 + 3, none⟩ (.int .u64 (q.2.1.2.2.1.toNat : Int))).setCell ⟨g, kk * 6 + 4, none⟩ (.int .u64 (q.2.1.2.2.2.toNat : Int))).setCell ⟨g, kk * 6 + 5, none⟩ (.slice q.2.2.1 q.2.2.2.1 q.2.2.2.2))) := by
  have hg : w.heap.size + 2 ≤ g ∧ g < wr.heap.size := by
    have := h.row.lt g rfl
    exact ⟨this.1, this.2⟩
  have hWV : Below wr.heap.size wr V := ha.trans (hV.mono ha.size)
  have hoth : ∀ b, b ≠ g → (((((((V.setCell ⟨g, kk * 6, none⟩ (.int .i64 q.1)).setCell ⟨g, kk * 6 + 1, none⟩ (.int .u64 (q.2.1.1.toNat : Int))).setCell ⟨g, kk * 6 + 2, none⟩ (.int .u64 (q.2.1.2.1.toNat : Int))).setCell ⟨g, kk * 6 + 3, none⟩ (.int .u64 (q.2.1.2.2.1.toNat : Int))).setCell ⟨g, kk * 6 + 4, none⟩ (.int .u64 (q.2.1.2.2.2.toNat : Int))).setCell ⟨g, kk * 6 + 5, none⟩ (.slice q.2.2.1 q.2.2.2.1 q.2.2.2.2))).heap[b]? = V.heap[b]? := fun b hb => by
    rw [Below.heap_setCell _ _ _ _ (by simpa using hb), Below.heap_setCell _ _ _ _ (by simpa using hb), Below.heap_setCell _ _ _ _ (by simpa using hb), Below.heap_setCell _ _ _ _ (by simpa using hb), Below.heap_setCell _ _ _ _ (by simpa using hb), Below.heap_setCell _ _ _ _ (by simpa using hb)]
  have hsz : (((((((V.setCell ⟨g, kk * 6, none⟩ (.int .i64 q.1)).setCell ⟨g, kk * 6 + 1, none⟩ (.int .u64 (q.2.1.1.toNat : Int))).setCell ⟨g, kk * 6 + 2, none⟩ (.int .u64 (q.2.1.2.1.toNat : Int))).setCell ⟨g, kk * 6 + 3, none⟩ (.int .u64 (q.2.1.2.2.1.toNat : Int))).setCell ⟨g, kk * 6 + 4, none⟩ (.int .u64 (q.2.1.2.2.2.toNat : Int))).setCell ⟨g, kk * 6 + 5, none⟩ (.slice q.2.2.1 q.2.2.2.1 q.2.2.2.2))).heap.size = V.heap.size := by simp [World.setCell]
  have hs1 := ha.size
  have hs2 := hV.size
  have hs3 := hWV.size
  refine ⟨?_, fun i hi hik => ?_, ?_, ?_, ?_⟩
  · have r0 : V.ownsRow (w.heap.size + 2) 27 6 (.slice (some ⟨g, 0, none⟩) n c2) n (kxs (fun i => if i < kk then nq i else qs i) n) := own_same h.row fun b hb => by
      have e : b = g := by simpa [Value.ownBlock] using hb.symm
      rw [e]; exact hWV.block g hg.2
    have r6 := own_set6 (i := kk * 6 + 5) (s := (.slice q.2.2.1 q.2.2.2.1 q.2.2.2.2)) (own_set6 (i := kk * 6 + 4) (s := (.int .u64 (q.2.1.2.2.2.toNat : Int))) (own_set6 (i := kk * 6 + 3) (s := (.int .u64 (q.2.1.2.2.1.toNat : Int))) (own_set6 (i := kk * 6 + 2) (s := (.int .u64 (q.2.1.2.1.toNat : Int))) (own_set6 (i := kk * 6 + 1) (s := (.int .u64 (q.2.1.1.toNat : Int))) (own_set6 (i := kk * 6) (s := (.int .i64 q.1)) r0)))))
    rw [kxs_set _ n kk q hk] at r6
    rw [kxs_congr (g := fun i => if i < kk + 1 then (if i = kk then q else nq i) else qs i) n (fun i _ => by
      by_cases e1 : i = kk
      · subst e1; simp
      · by_cases e2 : i < kk
        · simp [e1, e2, show i < kk + 1 by omega]
        · simp [e1, e2, show ¬ i < kk + 1 by omega])] at r6
    exact r6
  · by_cases e : i = kk
    · subst e
      simp only [if_true]
      exact hry.move (fun b hb => ⟨by omega, by rw [hsz]; exact hb.2, by omega⟩) (fun b hb => hoth b (by omega))
    · simp only [if_neg e]
      exact (h.ry i hi (by omega)).move (fun b hb => ⟨hb.1, by rw [hsz]; omega, hb.2.2⟩) (fun b hb => by rw [hoth b hb.2.2]; exact hWV.block b hb.2.1)
  · rw [hoth _ (by omega), hWV.block _ (by omega)]; exact h.b0
  · rw [hoth _ (by omega), hWV.block _ (by omega)]; exact h.b1
  · have h0 : Below w.heap.size w V := h.bel.trans (hWV.mono h.bel.size)
    exact (((((h0.setCell (p := ⟨g, kk * 6, none⟩) (by show _ ≤ g; omega) _).setCell (p := ⟨g, kk * 6 + 1, none⟩) (by show _ ≤ g; omega) _).setCell (p := ⟨g, kk * 6 + 2, none⟩) (by show _ ≤ g; omega) _).setCell (p := ⟨g, kk * 6 + 3, none⟩) (by show _ ≤ g; omega) _).setCell (p := ⟨g, kk * 6 + 4, none⟩) (by show _ ≤ g; omega) _).setCell (p := ⟨g, kk * 6 + 5, none⟩) (by show _ ≤ g; omega) _
structure RApR (w9 : World) (g1 g n c2 kk t4 : Nat) (qk : R6) (t : T) (q : R6) (d : Nat → Bool) (x17 x18 x19 x20 x21 x22 : Value) (W : World) : Prop where
  f0 : d 0 = true → x17 = (.pointer (some ⟨g1, 5, none⟩))
  f1 : d 1 = true → x18 = (.slice (some ⟨g, 0, none⟩) n c2)
  f2 : d 2 = true → x19 = (.int .i64 (kk : Int))
  f3 : d 3 = true → x20 = (.agg #[.int .i64 qk.1, .int .u64 (qk.2.1.1.toNat : Int), .int .u64 (qk.2.1.2.1.toNat : Int), .int .u64 (qk.2.1.2.2.1.toNat : Int), .int .u64 (qk.2.1.2.2.2.toNat : Int), .slice qk.2.2.1 qk.2.2.2.1 qk.2.2.2.2])
  f4 : d 4 = true → x21 = (.agg #[.int .i64 q.1, .int .u64 (q.2.1.1.toNat : Int), .int .u64 (q.2.1.2.1.toNat : Int), .int .u64 (q.2.1.2.2.1.toNat : Int), .int .u64 (q.2.1.2.2.2.toNat : Int), .slice q.2.2.1 q.2.2.2.1 q.2.2.2.2])
  f5 : d 5 = true → x22 = (.pointer (some ⟨g, kk * 6, none⟩))
  f6 : d 6 = true → True
  o1 : d 6 = true → d 1 = true
  o3 : d 6 = true → d 3 = true
  o4 : d 6 = true → d 4 = true
  c4 : d 4 = true → d 3 = true
  c5 : d 5 = true → d 1 = true
  kp : d 6 = false → Below w9.heap.size w9 W
  ry : d 4 = true → d 6 = false → Ry W (fun b => w9.heap.size ≤ b ∧ b < W.heap.size) (v6 q) t
  fin : d 6 = true → ∃ V, Below w9.heap.size w9 V ∧ Ry V (fun b => w9.heap.size ≤ b ∧ b < V.heap.size) (v6 q) t ∧ W = ((((((V.setCell ⟨g, kk * 6, none⟩ (.int .i64 q.1)).setCell ⟨g, kk * 6 + 1, none⟩ (.int .u64 (q.2.1.1.toNat : Int))).setCell ⟨g, kk * 6 + 2, none⟩ (.int .u64 (q.2.1.2.1.toNat : Int))).setCell ⟨g, kk * 6 + 3, none⟩ (.int .u64 (q.2.1.2.2.1.toNat : Int))).setCell ⟨g, kk * 6 + 4, none⟩ (.int .u64 (q.2.1.2.2.2.toNat : Int))).setCell ⟨g, kk * 6 + 5, none⟩ (.slice q.2.2.1 q.2.2.2.1 q.2.2.2.2))

end Go.Proofs.Ythloedfiomfnbaa
