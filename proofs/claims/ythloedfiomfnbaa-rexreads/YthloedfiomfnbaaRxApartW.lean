/-
  The contract of rex.apart. The contract of rex.apart. The contract of rex.apart, whole.
-/
import Derived.Test.YthloedfiomfnbaaRxRowW
import Derived.Test.YthloedfiomfnbaaFree
import Derived.LoopN
namespace Go.Proofs.Ythloedfiomfnbaa
open Go.RowKit
open Cls Rex

theorem own_some {w : World} {base e g cap n j : Nat} {xs : List Value} (h : w.ownsRow base e 6 (.slice (some ⟨g, 0, none⟩) n cap) n xs) (hj : j < n * 6) : ∃ u, w.cell? ⟨g, j, none⟩ = some u := by
  rw [h.cellAt j hj]
  exact ⟨_, List.getElem?_eq_getElem (by rw [h.1]; exact hj)⟩
theorem own_same {w w' : World} {B e size n : Nat} {v : Value} {xs : List Value} (h : w.ownsRow B e size v n xs) (hb : ∀ b, v.ownBlock = some b → w'.heap[b]? = w.heap[b]?) : w'.ownsRow B e size v n xs := by
  obtain ⟨h1, h2 | ⟨g, cap, cur, hv, hg, hh, r⟩⟩ := h
  · exact ⟨h1, Or.inl h2⟩
  · exact ⟨h1, Or.inr ⟨g, cap, cur, hv, hg, by rw [hb g (by rw [hv]; rfl)]; exact hh, r⟩⟩
theorem blk_store {w : World} {g i : Nat} {cs : Array Value} {t : TypeId} {fr : Nat × Nat} (h : w.heap[g]? = some (.cells cs t fr)) (v : Value) : (w.setCell ⟨g, i, none⟩ v).heap[g]? = some (.cells (cs.setIfInBounds i v) t fr) := by
  simp [World.setCell, Array.getElem?_modify, h]
theorem cell_of {w : World} {g : Nat} {cs : Array Value} {t : TypeId} {fr : Nat × Nat} (h : w.heap[g]? = some (.cells cs t fr)) (i : Nat) : w.cell? ⟨g, i, none⟩ = cs[i]? := by simp [World.cell?, h]
theorem free_of {w : World} {g : Nat} {cs : Array Value} {t : TypeId} (h : w.heap[g]? = some (.cells cs t)) (i : Nat) : w.frozen? ⟨g, i, none⟩ = false := by simp [World.frozen?, h]
/-- What is held when kk of the trees are copied. -/
structure Ap (w : World) (g n c2 kk : Nat) (z box : Obj) (qs nq : Nat → R6) (kids : List T) (W : World) : Prop where
  row : W.ownsRow (w.heap.size + 2) 27 6 (.slice (some ⟨g, 0, none⟩) n c2) n (kxs (fun i => if i < kk then nq i else qs i) n)
  ry : ∀ i (hi : i < kids.length), i < kk → Ry W (fun b => w.heap.size + 2 ≤ b ∧ b < W.heap.size ∧ b ≠ g) (v6 (nq i)) kids[i]
  b0 : W.heap[w.heap.size]? = some box
  b1 : W.heap[w.heap.size + 1]? = some z
  bel : Below w.heap.size w W
theorem Ap.step {w : World} {g n c2 kk : Nat} {z box : Obj} {qs nq : Nat → R6} {kids : List T} {wr : World} (h : Ap w g n c2 kk z box qs nq kids wr) (hk : kk < n) (hn : kids.length = n) (q : R6) {wa V : World} (ha : Below wr.heap.size wr wa) (hV : Below wa.heap.size wa V) (hry : Ry V (fun b => wa.heap.size ≤ b ∧ b < V.heap.size) (v6 q) (kids[kk]'(by omega))) :
    Ap w g n c2 (kk + 1) z box qs (fun i => if i = kk then q else nq i) kids (((((((V.setCell ⟨g, kk * 6, none⟩ (.int .i64 q.1)).setCell ⟨g, kk * 6 + 1, none⟩ (.int .u64 (q.2.1.1.toNat : Int))).setCell ⟨g, kk * 6 + 2, none⟩ (.int .u64 (q.2.1.2.1.toNat : Int))).setCell ⟨g, kk * 6 + 3, none⟩ (.int .u64 (q.2.1.2.2.1.toNat : Int))).setCell ⟨g, kk * 6 + 4, none⟩ (.int .u64 (q.2.1.2.2.2.toNat : Int))).setCell ⟨g, kk * 6 + 5, none⟩ (.slice q.2.2.1 q.2.2.2.1 q.2.2.2.2))) := by
  have hg : w.heap.size + 2 ≤ g ∧ g < wr.heap.size := by
    have := h.row.lt g rfl
    exact ⟨this.1, this.2⟩
  have hWV : Below wr.heap.size wr V := ha.trans (hV.mono ha.size)
  have hoth : ∀ b, b ≠ g → (((((((V.setCell ⟨g, kk * 6, none⟩ (.int .i64 q.1)).setCell ⟨g, kk * 6 + 1, none⟩ (.int .u64 (q.2.1.1.toNat : Int))).setCell ⟨g, kk * 6 + 2, none⟩ (.int .u64 (q.2.1.2.1.toNat : Int))).setCell ⟨g, kk * 6 + 3, none⟩ (.int .u64 (q.2.1.2.2.1.toNat : Int))).setCell ⟨g, kk * 6 + 4, none⟩ (.int .u64 (q.2.1.2.2.2.toNat : Int))).setCell ⟨g, kk * 6 + 5, none⟩ (.slice q.2.2.1 q.2.2.2.1 q.2.2.2.2))).heap[b]? = V.heap[b]? := fun b hb => by
    rw [Below.heap_setCell _ _ _ _ (by simpa using hb), Below.heap_setCell _ _ _ _ (by simpa using hb), Below.heap_setCell _ _ _ _ (by simpa using hb), Below.heap_setCell _ _ _ _ (by simpa using hb), Below.heap_setCell _ _ _ _ (by simpa using hb), Below.heap_setCell _ _ _ _ (by simpa using hb)]
  have hsz : (((((((V.setCell ⟨g, kk * 6, none⟩ (.int .i64 q.1)).setCell ⟨g, kk * 6 + 1, none⟩ (.int .u64 (q.2.1.1.toNat : Int))).setCell ⟨g, kk * 6 + 2, none⟩ (.int .u64 (q.2.1.2.1.toNat : Int))).setCell ⟨g, kk * 6 + 3, none⟩ (.int .u64 (q.2.1.2.2.1.toNat : Int))).setCell ⟨g, kk * 6 + 4, none⟩ (.int .u64 (q.2.1.2.2.2.toNat : Int))).setCell ⟨g, kk * 6 + 5, none⟩ (.slice q.2.2.1 q.2.2.2.1 q.2.2.2.2))).heap.size = V.heap.size := by simp [World.setCell]
  have hs1 := ha.size
  have hs2 := hV.size
  have hs3 := hWV.size
  refine ⟨?_, fun i hi hik => ?_, ?_, ?_, ?_⟩
  · have r0 : V.ownsRow (w.heap.size + 2) 27 6 (.slice (some ⟨g, 0, none⟩) n c2) n (kxs (fun i => if i < kk then nq i else qs i) n) := own_same h.row fun b hb => by
      have e : b = g := by simpa [Value.ownBlock] using hb.symm
      rw [e]; exact hWV.block g hg.2
    have r6 := own_set6 (i := kk * 6 + 5) (s := (.slice q.2.2.1 q.2.2.2.1 q.2.2.2.2)) (own_set6 (i := kk * 6 + 4) (s := (.int .u64 (q.2.1.2.2.2.toNat : Int))) (own_set6 (i := kk * 6 + 3) (s := (.int .u64 (q.2.1.2.2.1.toNat : Int))) (own_set6 (i := kk * 6 + 2) (s := (.int .u64 (q.2.1.2.1.toNat : Int))) (own_set6 (i := kk * 6 + 1) (s := (.int .u64 (q.2.1.1.toNat : Int))) (own_set6 (i := kk * 6) (s := (.int .i64 q.1)) r0)))))
    rw [kxs_set _ n kk q hk] at r6
    rw [kxs_congr (g := fun i => if i < kk + 1 then (if i = kk then q else nq i) else qs i) n (fun i _ => by
      by_cases e1 : i = kk
      · subst e1; simp
      · by_cases e2 : i < kk
        · simp [e1, e2, show i < kk + 1 by omega]
        · simp [e1, e2, show ¬ i < kk + 1 by omega])] at r6
    exact r6
  · by_cases e : i = kk
    · subst e
      simp only [if_true]
      exact hry.move (fun b hb => ⟨by omega, by rw [hsz]; exact hb.2, by omega⟩) (fun b hb => hoth b (by omega))
    · simp only [if_neg e]
      exact (h.ry i hi (by omega)).move (fun b hb => ⟨hb.1, by rw [hsz]; omega, hb.2.2⟩) (fun b hb => by rw [hoth b hb.2.2]; exact hWV.block b hb.2.1)
  · rw [hoth _ (by omega), hWV.block _ (by omega)]; exact h.b0
  · rw [hoth _ (by omega), hWV.block _ (by omega)]; exact h.b1
  · have h0 : Below w.heap.size w V := h.bel.trans (hWV.mono h.bel.size)
    exact (((((h0.setCell (p := ⟨g, kk * 6, none⟩) (by show _ ≤ g; omega) _).setCell (p := ⟨g, kk * 6 + 1, none⟩) (by show _ ≤ g; omega) _).setCell (p := ⟨g, kk * 6 + 2, none⟩) (by show _ ≤ g; omega) _).setCell (p := ⟨g, kk * 6 + 3, none⟩) (by show _ ≤ g; omega) _).setCell (p := ⟨g, kk * 6 + 4, none⟩) (by show _ ≤ g; omega) _).setCell (p := ⟨g, kk * 6 + 5, none⟩) (by show _ ≤ g; omega) _
structure RApR (w9 : World) (g1 g n c2 kk t4 : Nat) (qk : R6) (t : T) (q : R6) (d : Nat → Bool) (x17 x18 x19 x20 x21 x22 : Value) (W : World) : Prop where
  f0 : d 0 = true → x17 = (.pointer (some ⟨g1, 5, none⟩))
  f1 : d 1 = true → x18 = (.slice (some ⟨g, 0, none⟩) n c2)
  f2 : d 2 = true → x19 = (.int .i64 (kk : Int))
  f3 : d 3 = true → x20 = (.agg #[.int .i64 qk.1, .int .u64 (qk.2.1.1.toNat : Int), .int .u64 (qk.2.1.2.1.toNat : Int), .int .u64 (qk.2.1.2.2.1.toNat : Int), .int .u64 (qk.2.1.2.2.2.toNat : Int), .slice qk.2.2.1 qk.2.2.2.1 qk.2.2.2.2])
  f4 : d 4 = true → x21 = (.agg #[.int .i64 q.1, .int .u64 (q.2.1.1.toNat : Int), .int .u64 (q.2.1.2.1.toNat : Int), .int .u64 (q.2.1.2.2.1.toNat : Int), .int .u64 (q.2.1.2.2.2.toNat : Int), .slice q.2.2.1 q.2.2.2.1 q.2.2.2.2])
  f5 : d 5 = true → x22 = (.pointer (some ⟨g, kk * 6, none⟩))
  f6 : d 6 = true → True
  o1 : d 6 = true → d 1 = true
  o3 : d 6 = true → d 3 = true
  o4 : d 6 = true → d 4 = true
  c4 : d 4 = true → d 3 = true
  c5 : d 5 = true → d 1 = true
  kp : d 6 = false → Below w9.heap.size w9 W
  ry : d 4 = true → d 6 = false → Ry W (fun b => w9.heap.size ≤ b ∧ b < W.heap.size) (v6 q) t
  fin : d 6 = true → ∃ V, Below w9.heap.size w9 V ∧ Ry V (fun b => w9.heap.size ≤ b ∧ b < V.heap.size) (v6 q) t ∧ W = ((((((V.setCell ⟨g, kk * 6, none⟩ (.int .i64 q.1)).setCell ⟨g, kk * 6 + 1, none⟩ (.int .u64 (q.2.1.1.toNat : Int))).setCell ⟨g, kk * 6 + 2, none⟩ (.int .u64 (q.2.1.2.1.toNat : Int))).setCell ⟨g, kk * 6 + 3, none⟩ (.int .u64 (q.2.1.2.2.1.toNat : Int))).setCell ⟨g, kk * 6 + 4, none⟩ (.int .u64 (q.2.1.2.2.2.toNat : Int))).setCell ⟨g, kk * 6 + 5, none⟩ (.slice q.2.2.1 q.2.2.2.1 q.2.2.2.2))

end Go.Proofs.Ythloedfiomfnbaa

namespace Go.Proofs.Ythloedfiomfnbaa
open Go.RowKit
open Cls Rex

theorem no_later {d : Nat → Bool} {i j : Nat} (h : d j = true → d i = true) (hi : d i = false) : d j = false := by
  cases e : d j with
  | false => rfl
  | true => rw [h e] at hi; cases hi
theorem lt_of_blk {w : World} {k : Nat} {o : Obj} (h : w.heap[k]? = some o) : k < w.heap.size := by
  rcases Nat.lt_or_ge k w.heap.size with h' | h'
  · exact h'
  · rw [Array.getElem?_eq_none h'] at h; cases h
theorem blk_on {w w' : World} {k : Nat} {o : Obj} (h : w.heap[k]? = some o) (hb : Below w.heap.size w w') : w'.heap[k]? = some o := (hb.block k (lt_of_blk h)).trans h
theorem two_blks (w : World) (a z : Obj) : ((w.alloc a).alloc z).heap[w.heap.size]? = some a ∧ ((w.alloc a).alloc z).heap[w.heap.size + 1]? = some z ∧ Below w.heap.size w ((w.alloc a).alloc z) ∧ ((w.alloc a).alloc z).heap.size = w.heap.size + 2 := by
  refine ⟨blk_on (heap_alloc_new w a) ((Below.refl _ _).alloc (Nat.le_refl _) _), ?_, ((Below.refl _ w).alloc (Nat.le_refl _) _).alloc (by simp) _, by simp⟩
  have := heap_alloc_new (w.alloc a) z
  rw [show (w.alloc a).heap.size = w.heap.size + 1 by simp] at this
  exact this
theorem pick_r6 (n : Nat) (vals : Nat → Value) (h : ∀ i, i < n → ∃ q : R6, vals i = v6 q) : ∃ qs : Nat → R6, ∀ i, i < n → vals i = v6 (qs i) :=
  ⟨fun i => if h' : i < n then Classical.choose (h i h') else (0, Cls.empty, none, 0, 0), fun i hi => by simp only [dif_pos hi]; exact Classical.choose_spec (h i hi)⟩
theorem cells_v6 (q : R6) (j : Nat) : (v6 q).cells[j]? = (c6 q)[j]? := by
  simp [c6, Value.cells]
set_option maxHeartbeats 8000000 in
set_option maxRecDepth 20000 in
theorem apart_all : ∀ (m : Nat) (t : T), t.sz ≤ m → t.sz ≤ 200 → t.kids ≠ [] → (∀ (s : T), s.sz < t.sz → ∀ (v : Value) (w : World), Rx w w.heap.size v s → Calls Try.prog 27 #[v] w fun e w' => ∃ q : R6, e = .returned (v6 q) ∧ Ry w' (fun b => w.heap.size ≤ b ∧ b < w'.heap.size) (v6 q) s ∧ Below w.heap.size w w') → ∀ (v : Value) (w : World), Rx w w.heap.size v t →
    Calls Try.prog 27 #[v] w fun e w' => ∃ q : R6, e = .returned (v6 q) ∧ Ry w' (fun b => w.heap.size ≤ b ∧ b < w'.heap.size) (v6 q) t ∧ Below w.heap.size w w' := by
  intro m t hm h200 hne ih v w hx
  obtain ⟨k, c, ao, cap, kids, vals, rfl, rfl, hk, hkm, hc, hr⟩ := hx.shape
  simp only [T.kids] at hne
  obtain ⟨b, o, rfl, hb, hcl⟩ := hc.resolve_left hne
  have hlen : kids.length ≤ 200 := by have := len_sz kids; rw [T.sz] at h200; omega
  have hpos : 0 < kids.length := List.length_pos_iff.2 hne
  have HIH : Hid (∀ i (hi : i < kids.length) (W : World), Below w.heap.size w W → Calls Try.prog 27 #[vals i] W fun e w' => ∃ q : R6, e = .returned (v6 q) ∧ Ry w' (fun b => W.heap.size ≤ b ∧ b < w'.heap.size) (v6 q) kids[i] ∧ Below W.heap.size W w') := fun i hi W hW =>
    ih kids[i] (T.sz_lt (t := .mk k c kids) (List.getElem_mem hi)) (vals i) W (((hr i hi).next hW).wide hW.size)
  obtain ⟨qs, HQS⟩ : ∃ qs : Nat → R6, Hid (∀ i, i < kids.length → vals i = v6 (qs i)) := pick_r6 kids.length vals fun i hi => by
    obtain ⟨k', c', a', cap', kids', vals', e, -⟩ := (hr i hi).shape
    exact ⟨(k', c', a', kids'.length, cap'), e⟩
  obtain ⟨e0, e1, e2, e3⟩ := two_blks w (Obj.cells #[.int .i64 k, .int .u64 (c.1.toNat : Int), .int .u64 (c.2.1.toNat : Int), .int .u64 (c.2.2.1.toNat : Int), .int .u64 (c.2.2.2.toNat : Int), .slice (some ⟨b, o, none⟩) kids.length cap] 27) (Obj.cells #[.int .i64 0, .int .u64 0, .int .u64 0, .int .u64 0, .int .u64 0, .slice none 0 0] 27)
  have HCX : Hid (∀ j u, (kxs qs kids.length)[j]? = some u → ((w.alloc (Obj.cells #[.int .i64 k, .int .u64 (c.1.toNat : Int), .int .u64 (c.2.1.toNat : Int), .int .u64 (c.2.2.1.toNat : Int), .int .u64 (c.2.2.2.toNat : Int), .slice (some ⟨b, o, none⟩) kids.length cap] 27)).alloc (Obj.cells #[.int .i64 0, .int .u64 0, .int .u64 0, .int .u64 0, .int .u64 0, .slice none 0 0] 27)).cell? ⟨b, o + j, none⟩ = some u) := fun j u hj => by
    have hj2 : j < kids.length * 6 := by have := (List.getElem?_eq_some_iff.1 hj).1; rw [kxs_len] at this; exact this
    have e : j = j / 6 * 6 + j % 6 := by omega
    have q1 := hcl (j / 6) (by omega) (j % 6) (by omega)
    rw [HQS.out _ (by omega), cells_v6, ← kxs_at qs kids.length (j / 6) (j % 6) (by omega) (by omega), ← e, hj] at q1
    rw [e2.cell (p := ⟨b, o + j, none⟩) hb, e, ← Nat.add_assoc]
    exact q1
  have HE : Hid (((w.alloc (Obj.cells #[.int .i64 k, .int .u64 (c.1.toNat : Int), .int .u64 (c.2.1.toNat : Int), .int .u64 (c.2.2.1.toNat : Int), .int .u64 (c.2.2.2.toNat : Int), .slice (some ⟨b, o, none⟩) kids.length cap] 27)).alloc (Obj.cells #[.int .i64 0, .int .u64 0, .int .u64 0, .int .u64 0, .int .u64 0, .slice none 0 0] 27)).heap[w.heap.size]? = some (Obj.cells #[.int .i64 k, .int .u64 (c.1.toNat : Int), .int .u64 (c.2.1.toNat : Int), .int .u64 (c.2.2.1.toNat : Int), .int .u64 (c.2.2.2.toNat : Int), .slice (some ⟨b, o, none⟩) kids.length cap] 27) ∧ ((w.alloc (Obj.cells #[.int .i64 k, .int .u64 (c.1.toNat : Int), .int .u64 (c.2.1.toNat : Int), .int .u64 (c.2.2.1.toNat : Int), .int .u64 (c.2.2.2.toNat : Int), .slice (some ⟨b, o, none⟩) kids.length cap] 27)).alloc (Obj.cells #[.int .i64 0, .int .u64 0, .int .u64 0, .int .u64 0, .int .u64 0, .slice none 0 0] 27)).heap[w.heap.size + 1]? = some (Obj.cells #[.int .i64 0, .int .u64 0, .int .u64 0, .int .u64 0, .int .u64 0, .slice none 0 0] 27) ∧ Below w.heap.size w ((w.alloc (Obj.cells #[.int .i64 k, .int .u64 (c.1.toNat : Int), .int .u64 (c.2.1.toNat : Int), .int .u64 (c.2.2.1.toNat : Int), .int .u64 (c.2.2.2.toNat : Int), .slice (some ⟨b, o, none⟩) kids.length cap] 27)).alloc (Obj.cells #[.int .i64 0, .int .u64 0, .int .u64 0, .int .u64 0, .int .u64 0, .slice none 0 0] 27)) ∧ ((w.alloc (Obj.cells #[.int .i64 k, .int .u64 (c.1.toNat : Int), .int .u64 (c.2.1.toNat : Int), .int .u64 (c.2.2.1.toNat : Int), .int .u64 (c.2.2.2.toNat : Int), .slice (some ⟨b, o, none⟩) kids.length cap] 27)).alloc (Obj.cells #[.int .i64 0, .int .u64 0, .int .u64 0, .int .u64 0, .int .u64 0, .slice none 0 0] 27)).heap.size = w.heap.size + 2) := ⟨e0, e1, e2, e3⟩
  have hcc := clone_some b o kids.length cap (kxs qs kids.length) ((w.alloc (Obj.cells #[.int .i64 k, .int .u64 (c.1.toNat : Int), .int .u64 (c.2.1.toNat : Int), .int .u64 (c.2.2.1.toNat : Int), .int .u64 (c.2.2.2.toNat : Int), .slice (some ⟨b, o, none⟩) kids.length cap] 27)).alloc (Obj.cells #[.int .i64 0, .int .u64 0, .int .u64 0, .int .u64 0, .int .u64 0, .slice none 0 0] 27)) (kxs_len _ _) (kxs_one _ _) HCX.out hlen
  have x5 := cell_of e0 5
  simp only [List.getElem?_toArray, List.getElem?_cons_zero, List.getElem?_cons_succ] at x5
  have HKK : Hid (-9223372036854775808 ≤ k ∧ k ≤ 9223372036854775807) := hk
  clear e0 e1 e2 e3 hc hcl hr hx ih hne hm h200 hk HCX
  obtain ⟨n, HN⟩ : ∃ n, Hid (kids.length = n) := ⟨_, (rfl : kids.length = kids.length)⟩
  have HQN : Hid (∀ i, i < n → vals i = v6 (qs i)) := fun i hi => HQS.out i (by rw [HN.out]; exact hi)
  rw [HN.out] at hcc x5 hlen hpos HE ⊢
  go_enter Try.func27, Try.ntmps27
  generalize HW0 : ((w.alloc (Obj.cells #[.int .i64 k, .int .u64 (c.1.toNat : Int), .int .u64 (c.2.1.toNat : Int), .int .u64 (c.2.2.1.toNat : Int), .int .u64 (c.2.2.2.toNat : Int), .slice (some ⟨b, o, none⟩) n cap] 27)).alloc (Obj.cells #[.int .i64 0, .int .u64 0, .int .u64 0, .int .u64 0, .int .u64 0, .slice none 0 0] 27)) = W0 at HE hcc x5
  go_upto_region 1 with (fail)
  clear HW0
  go_wp2_with fail
  refine hcc.mono ?_
  rintro _ w3 ⟨a2, c2, rfl, hown, hb3⟩
  clear hcc x5
  rw [HE.out.2.2.2] at hown
  obtain ⟨g, cp, eg, hg, hgl⟩ := hown.form (by omega)
  injection eg with eg1 eg2 eg3
  subst eg1 eg3
  have hbx : w3.heap[w.heap.size]? = some (Obj.cells #[.int .i64 k, .int .u64 (c.1.toNat : Int), .int .u64 (c.2.1.toNat : Int), .int .u64 (c.2.2.1.toNat : Int), .int .u64 (c.2.2.2.toNat : Int), .slice (some ⟨b, o, none⟩) n cap] 27) := blk_on HE.out.1 hb3
  have hbz : w3.heap[w.heap.size + 1]? = some (Obj.cells #[.int .i64 0, .int .u64 0, .int .u64 0, .int .u64 0, .int .u64 0, .slice none 0 0] 27) := blk_on HE.out.2.1 hb3
  have y5 := cell_of hbx 5
  have f5 := free_of hbx 5
  have hst := blk_store (i := 5) hbx (.slice (some ⟨g, 0, none⟩) n c2)
  simp only [List.setIfInBounds_toArray, List.set_cons_zero, List.set_cons_succ, List.getElem?_toArray, List.getElem?_cons_zero, List.getElem?_cons_succ] at y5 hst
  have HAP0 : Hid (Ap w g n c2 0 (Obj.cells #[.int .i64 0, .int .u64 0, .int .u64 0, .int .u64 0, .int .u64 0, .slice none 0 0] 27) (Obj.cells #[.int .i64 k, .int .u64 (c.1.toNat : Int), .int .u64 (c.2.1.toNat : Int), .int .u64 (c.2.2.1.toNat : Int), .int .u64 (c.2.2.2.toNat : Int), .slice (some ⟨g, 0, none⟩) n c2] 27) qs qs kids (w3.setCell ⟨w.heap.size, 5, none⟩ (.slice (some ⟨g, 0, none⟩) n c2))) := by
    refine ⟨?_, fun i hi h => absurd h (Nat.not_lt_zero _), hst, ?_, ?_⟩
    · rw [kxs_congr (g := qs) n (fun i _ => by simp)]
      refine own_same hown fun b' hb' => ?_
      have e : b' = g := by simpa [Value.ownBlock] using hb'.symm
      rw [Below.heap_setCell _ _ _ _ (by simp; omega)]
    · rw [Below.heap_setCell _ _ _ _ (by simp)]; exact hbz
    · exact (HE.out.2.2.1.trans (hb3.mono HE.out.2.2.1.size)).setCell (p := ⟨w.heap.size, 5, none⟩) (Nat.le_refl _) _
  have v5 := cell_of hst 5
  simp only [List.getElem?_toArray, List.getElem?_cons_zero, List.getElem?_cons_succ] at v5
  have HG : Hid (w.heap.size + 2 ≤ g) := hg
  clear hown hb3 hbx hbz hst hgl hg HE
  go_upto_region 2 with (fail)
  clear y5 f5
  generalize w3.setCell ⟨w.heap.size, 5, none⟩ (.slice (some ⟨g, 0, none⟩) n c2) = W4 at HAP0 v5 ⊢
  go_wp2_with fail
  clear v5
  go_loopw [12] (fun z wr => ∃ (kk : Nat) (nq : Nat → R6), z = .int .i64 (kk : Int) ∧ kk ≤ n ∧ Hid (Ap w g n c2 kk (Obj.cells #[.int .i64 0, .int .u64 0, .int .u64 0, .int .u64 0, .int .u64 0, .slice none 0 0] 27) (Obj.cells #[.int .i64 k, .int .u64 (c.1.toNat : Int), .int .u64 (c.2.1.toNat : Int), .int .u64 (c.2.2.1.toNat : Int), .int .u64 (c.2.2.2.toNat : Int), .slice (some ⟨g, 0, none⟩) n c2] 27) qs nq kids wr)) (fun z _ => n - (intOf z).toNat)
  case atStart => exact ⟨0, qs, rfl, by omega, HAP0⟩
  case round =>
    obtain ⟨kk, nq, rfl, hkn, HAP⟩ := hrel
    by_cases hlt : kk < n
    · have hkl : kk < kids.length := by rw [HN.out]; exact hlt
      obtain ⟨qk, HQK⟩ : ∃ qk, Hid (qs kk = qk) := ⟨_, (rfl : qs kk = qs kk)⟩
      have HCE : Hid (∀ j, j < 6 → wr.cell? ⟨g, kk * 6 + j, none⟩ = (c6 qk)[j]?) := fun j hj => by
        rw [HAP.out.row.cellAt (kk * 6 + j) (by omega), kxs_at _ n kk j hlt hj]
        simp only [Nat.lt_irrefl, if_false]
        rw [HQK.out]
      have z0 : wr.cell? ⟨g, kk * 6, none⟩ = some (.int .i64 qk.1) := HCE.out 0 (by omega)
      have z1 : wr.cell? ⟨g, kk * 6 + 1, none⟩ = some (.int .u64 (qk.2.1.1.toNat : Int)) := HCE.out 1 (by omega)
      have z2 : wr.cell? ⟨g, kk * 6 + 2, none⟩ = some (.int .u64 (qk.2.1.2.1.toNat : Int)) := HCE.out 2 (by omega)
      have z3 : wr.cell? ⟨g, kk * 6 + 3, none⟩ = some (.int .u64 (qk.2.1.2.2.1.toNat : Int)) := HCE.out 3 (by omega)
      have z4 : wr.cell? ⟨g, kk * 6 + 4, none⟩ = some (.int .u64 (qk.2.1.2.2.2.toNat : Int)) := HCE.out 4 (by omega)
      have z5 : wr.cell? ⟨g, kk * 6 + 5, none⟩ = some (.slice qk.2.2.1 qk.2.2.2.1 qk.2.2.2.2) := HCE.out 5 (by omega)
      have hk0 : (0 : Int) ≤ (kk : Int) := by omega
      have hk1 : (kk : Int) < (n : Int) := by omega
      have HAL : Hid (Below wr.heap.size wr (wr.alloc (Obj.cells #[.int .i64 qk.1, .int .u64 (qk.2.1.1.toNat : Int), .int .u64 (qk.2.1.2.1.toNat : Int), .int .u64 (qk.2.1.2.2.1.toNat : Int), .int .u64 (qk.2.1.2.2.2.toNat : Int), .slice qk.2.2.1 qk.2.2.2.1 qk.2.2.2.2] 27)) ∧ (wr.alloc (Obj.cells #[.int .i64 qk.1, .int .u64 (qk.2.1.1.toNat : Int), .int .u64 (qk.2.1.2.1.toNat : Int), .int .u64 (qk.2.1.2.2.1.toNat : Int), .int .u64 (qk.2.1.2.2.2.toNat : Int), .slice qk.2.2.1 qk.2.2.2.1 qk.2.2.2.2] 27)).heap[wr.heap.size]? = some (Obj.cells #[.int .i64 qk.1, .int .u64 (qk.2.1.1.toNat : Int), .int .u64 (qk.2.1.2.1.toNat : Int), .int .u64 (qk.2.1.2.2.1.toNat : Int), .int .u64 (qk.2.1.2.2.2.toNat : Int), .slice qk.2.2.1 qk.2.2.2.1 qk.2.2.2.2] 27)) := ⟨(Below.refl _ _).alloc (Nat.le_refl _) _, heap_alloc_new _ _⟩
      go_upto_region 5 with (fail)
      clear z0 z1 z2 z3 z4 z5
      generalize wr.alloc (Obj.cells #[.int .i64 qk.1, .int .u64 (qk.2.1.1.toNat : Int), .int .u64 (qk.2.1.2.1.toNat : Int), .int .u64 (qk.2.1.2.2.1.toNat : Int), .int .u64 (qk.2.1.2.2.2.toNat : Int), .slice qk.2.2.1 qk.2.2.2.1 qk.2.2.2.2] 27) = wa at HAL ⊢
      have HKN : Hid ((0 : Int) ≤ (kk : Int) ∧ (kk : Int) < (n : Int)) := ⟨hk0, hk1⟩
      have HKN2 : Hid (kk < n) := hlt
      have HLT : Hid (w.heap.size < wa.heap.size ∧ wr.heap.size < wa.heap.size) := ⟨Nat.lt_of_lt_of_le (lt_of_blk HAP.out.b0) HAL.out.1.size, lt_of_blk HAL.out.2⟩
      have HC5 : Hid (wa.cell? ⟨w.heap.size, 5, none⟩ = some (.slice (some ⟨g, 0, none⟩) n c2)) := by
        show _ = _
        have := cell_of (blk_on HAP.out.b0 HAL.out.1) 5
        simpa using this
      have HT4 : Hid (wa.cell? ⟨wr.heap.size, 0, none⟩ = some (.int .i64 qk.1) ∧ wa.cell? ⟨wr.heap.size, 1, none⟩ = some (.int .u64 (qk.2.1.1.toNat : Int)) ∧ wa.cell? ⟨wr.heap.size, 2, none⟩ = some (.int .u64 (qk.2.1.2.1.toNat : Int)) ∧ wa.cell? ⟨wr.heap.size, 3, none⟩ = some (.int .u64 (qk.2.1.2.2.1.toNat : Int)) ∧ wa.cell? ⟨wr.heap.size, 4, none⟩ = some (.int .u64 (qk.2.1.2.2.2.toNat : Int)) ∧ wa.cell? ⟨wr.heap.size, 5, none⟩ = some (.slice qk.2.2.1 qk.2.2.2.1 qk.2.2.2.2)) := by
        have h := cell_of HAL.out.2
        exact ⟨h 0, h 1, h 2, h 3, h 4, h 5⟩
      have HWA : Hid (Below w.heap.size w wa) := HAP.out.bel.trans (HAL.out.1.mono HAP.out.bel.size)
      have HCL : Hid (∀ W, Below wa.heap.size wa W → Calls Try.prog 27 #[(.agg #[.int .i64 qk.1, .int .u64 (qk.2.1.1.toNat : Int), .int .u64 (qk.2.1.2.1.toNat : Int), .int .u64 (qk.2.1.2.2.1.toNat : Int), .int .u64 (qk.2.1.2.2.2.toNat : Int), .slice qk.2.2.1 qk.2.2.2.1 qk.2.2.2.2])] W fun e w' => ∃ q : R6, e = .returned (v6 q) ∧ Ry w' (fun b => W.heap.size ≤ b ∧ b < w'.heap.size) (v6 q) kids[kk] ∧ Below W.heap.size W w') := fun W hW => by
        have h := HIH.out kk hkl W (HWA.out.trans (hW.mono HWA.out.size))
        rw [HQN.out kk hlt, HQK.out] at h
        exact h
      have HROW : Hid (∀ W, Below wa.heap.size wa W → W.ownsRow (w.heap.size + 2) 27 6 (.slice (some ⟨g, 0, none⟩) n c2) n (kxs (fun i => if i < kk then nq i else qs i) n)) := fun W hW => own_same HAP.out.row fun b' hb' => by
        have h1 := (HAP.out.row.lt b' hb').2
        have h2 := HAL.out.1.size
        rw [hW.block b' (by omega), HAL.out.1.block b' h1]
      have HSTEP : Hid (∀ q V, Below wa.heap.size wa V → Ry V (fun b => wa.heap.size ≤ b ∧ b < V.heap.size) (v6 q) kids[kk] → Ap w g n c2 (kk + 1) (Obj.cells #[.int .i64 0, .int .u64 0, .int .u64 0, .int .u64 0, .int .u64 0, .slice none 0 0] 27) (Obj.cells #[.int .i64 k, .int .u64 (c.1.toNat : Int), .int .u64 (c.2.1.toNat : Int), .int .u64 (c.2.2.1.toNat : Int), .int .u64 (c.2.2.2.toNat : Int), .slice (some ⟨g, 0, none⟩) n c2] 27) qs (fun i => if i = kk then q else nq i) kids (((((((V.setCell ⟨g, kk * 6, none⟩ (.int .i64 q.1)).setCell ⟨g, kk * 6 + 1, none⟩ (.int .u64 (q.2.1.1.toNat : Int))).setCell ⟨g, kk * 6 + 2, none⟩ (.int .u64 (q.2.1.2.1.toNat : Int))).setCell ⟨g, kk * 6 + 3, none⟩ (.int .u64 (q.2.1.2.2.1.toNat : Int))).setCell ⟨g, kk * 6 + 4, none⟩ (.int .u64 (q.2.1.2.2.2.toNat : Int))).setCell ⟨g, kk * 6 + 5, none⟩ (.slice q.2.2.1 q.2.2.2.1 q.2.2.2.2)))) := fun q V h1 h2 => HAP.out.step hlt HN.out q HAL.out.1 h1 h2
      clear hk0 hk1 HAL HWA HCE
      refine wp_region_free mixed (fun a0 d a W => ∃ (q : R6) (x17 x18 x19 x20 x21 x22 : Value), a = ((((((a0.put (some 17) x17).put (some 18) x18).put (some 19) x19).put (some 20) x20).put (some 21) x21).put (some 22) x22) ∧ Hid (RApR wa w.heap.size g n c2 kk wr.heap.size qk kids[kk] q d x17 x18 x19 x20 x21 x22 W)) (by kernel_rfl) ⟨(0, Cls.empty, none, 0, 0), u17, u18, u19, u20, u21, u22, by simp only [Act.put, List.setIfInBounds_toArray, List.set_cons_zero, List.set_cons_succ], ?_⟩ ?_ ?_
      · exact ⟨fun h => no_way h, fun h => no_way h, fun h => no_way h, fun h => no_way h, fun h => no_way h, fun h => no_way h, fun _ => trivial, fun h => no_way h, fun h => no_way h, fun h => no_way h, fun h => no_way h, fun h => no_way h, fun _ => Below.drew (Below.refl _ _), fun h => no_way h, fun h => no_way h⟩
      · simp only [StepAll, and_true]
        refine ⟨?_, ?_, ?_, ?_, ?_, ?_, ?_⟩
        · intro d a W hI hd hdep
          obtain ⟨q, x17, x18, x19, x20, x21, x22, rfl, hF⟩ := hI
          clear hdep hd
          intro K hK
          simp only [Act.put, List.setIfInBounds_toArray, List.set_cons_zero, List.set_cons_succ]
          go_simp
          refine hK.out _ _ ⟨q, (.pointer (some ⟨w.heap.size, 5, none⟩)), x18, x19, x20, x21, x22, by simp only [Act.put, List.setIfInBounds_toArray, List.set_cons_zero, List.set_cons_succ], ?_⟩
          exact ⟨fun _ => rfl, fun h => hF.out.f1 (by simpa using h), fun h => hF.out.f2 (by simpa using h), fun h => hF.out.f3 (by simpa using h), fun h => hF.out.f4 (by simpa using h), fun h => hF.out.f5 (by simpa using h), fun h => hF.out.f6 (by simpa using h), fun h => by have := hF.out.o1 (by simpa using h); simp [this], fun h => by have := hF.out.o3 (by simpa using h); simp [this], fun h => by have := hF.out.o4 (by simpa using h); simp [this], fun h => by have := hF.out.c4 (by simpa using h); simp [this], fun h => by have := hF.out.c5 (by simpa using h); simp [this], fun h => hF.out.kp (by simpa using h), fun h h2 => hF.out.ry (by simpa using h) (by simpa using h2), fun h => hF.out.fin (by simpa using h)⟩
        · intro d a W hI hd hdep
          obtain ⟨q, x17, x18, x19, x20, x21, x22, rfl, hF⟩ := hI
          have hd0 : d 0 = true := dep_of hdep 0 (by kernel_rfl)
          obtain rfl := hF.out.f0 hd0
          have HNL : Hid (d 6 = false) := no_later hF.out.o1 hd
          have ya := ((hF.out.kp HNL.out).cell (p := ⟨w.heap.size, 5, none⟩) HLT.out.1).trans HC5.out
          clear hdep hd hd0
          intro K hK
          simp only [Act.put, List.setIfInBounds_toArray, List.set_cons_zero, List.set_cons_succ]
          go_simp
          refine hK.out _ _ ⟨q, (.pointer (some ⟨w.heap.size, 5, none⟩)), (.slice (some ⟨g, 0, none⟩) n c2), x19, x20, x21, x22, by simp only [Act.put, List.setIfInBounds_toArray, List.set_cons_zero, List.set_cons_succ], ?_⟩
          exact ⟨fun h => hF.out.f0 (by simpa using h), fun _ => rfl, fun h => hF.out.f2 (by simpa using h), fun h => hF.out.f3 (by simpa using h), fun h => hF.out.f4 (by simpa using h), fun h => hF.out.f5 (by simpa using h), fun h => hF.out.f6 (by simpa using h), fun _ => by simp, fun h => by have := hF.out.o3 (by simpa using h); simp [this], fun h => by have := hF.out.o4 (by simpa using h); simp [this], fun h => by have := hF.out.c4 (by simpa using h); simp [this], fun _ => by simp, fun h => hF.out.kp (by simpa using h), fun h h2 => hF.out.ry (by simpa using h) (by simpa using h2), fun h => hF.out.fin (by simpa using h)⟩
        · intro d a W hI hd hdep
          obtain ⟨q, x17, x18, x19, x20, x21, x22, rfl, hF⟩ := hI
          clear hdep hd
          intro K hK
          simp only [Act.put, List.setIfInBounds_toArray, List.set_cons_zero, List.set_cons_succ]
          go_simp
          refine hK.out _ _ ⟨q, x17, x18, (.int .i64 (kk : Int)), x20, x21, x22, by simp only [Act.put, List.setIfInBounds_toArray, List.set_cons_zero, List.set_cons_succ], ?_⟩
          exact ⟨fun h => hF.out.f0 (by simpa using h), fun h => hF.out.f1 (by simpa using h), fun _ => rfl, fun h => hF.out.f3 (by simpa using h), fun h => hF.out.f4 (by simpa using h), fun h => hF.out.f5 (by simpa using h), fun h => hF.out.f6 (by simpa using h), fun h => by have := hF.out.o1 (by simpa using h); simp [this], fun h => by have := hF.out.o3 (by simpa using h); simp [this], fun h => by have := hF.out.o4 (by simpa using h); simp [this], fun h => by have := hF.out.c4 (by simpa using h); simp [this], fun h => by have := hF.out.c5 (by simpa using h); simp [this], fun h => hF.out.kp (by simpa using h), fun h h2 => hF.out.ry (by simpa using h) (by simpa using h2), fun h => hF.out.fin (by simpa using h)⟩
        · intro d a W hI hd hdep
          obtain ⟨q, x17, x18, x19, x20, x21, x22, rfl, hF⟩ := hI
          have HNL : Hid (d 6 = false) := no_later hF.out.o3 hd
          have y0 := ((hF.out.kp HNL.out).cell (p := ⟨wr.heap.size, 0, none⟩) HLT.out.2).trans HT4.out.1
          have y1 := ((hF.out.kp HNL.out).cell (p := ⟨wr.heap.size, 1, none⟩) HLT.out.2).trans HT4.out.2.1
          have y2 := ((hF.out.kp HNL.out).cell (p := ⟨wr.heap.size, 2, none⟩) HLT.out.2).trans HT4.out.2.2.1
          have y3 := ((hF.out.kp HNL.out).cell (p := ⟨wr.heap.size, 3, none⟩) HLT.out.2).trans HT4.out.2.2.2.1
          have y4 := ((hF.out.kp HNL.out).cell (p := ⟨wr.heap.size, 4, none⟩) HLT.out.2).trans HT4.out.2.2.2.2.1
          have y5 := ((hF.out.kp HNL.out).cell (p := ⟨wr.heap.size, 5, none⟩) HLT.out.2).trans HT4.out.2.2.2.2.2
          clear hdep hd
          intro K hK
          simp only [Act.put, List.setIfInBounds_toArray, List.set_cons_zero, List.set_cons_succ]
          go_simp
          refine hK.out _ _ ⟨q, x17, x18, x19, (.agg #[.int .i64 qk.1, .int .u64 (qk.2.1.1.toNat : Int), .int .u64 (qk.2.1.2.1.toNat : Int), .int .u64 (qk.2.1.2.2.1.toNat : Int), .int .u64 (qk.2.1.2.2.2.toNat : Int), .slice qk.2.2.1 qk.2.2.2.1 qk.2.2.2.2]), x21, x22, by simp only [Act.put, List.setIfInBounds_toArray, List.set_cons_zero, List.set_cons_succ], ?_⟩
          exact ⟨fun h => hF.out.f0 (by simpa using h), fun h => hF.out.f1 (by simpa using h), fun h => hF.out.f2 (by simpa using h), fun _ => rfl, fun h => hF.out.f4 (by simpa using h), fun h => hF.out.f5 (by simpa using h), fun h => hF.out.f6 (by simpa using h), fun h => by have := hF.out.o1 (by simpa using h); simp [this], fun _ => by simp, fun h => by have := hF.out.o4 (by simpa using h); simp [this], fun _ => by simp, fun h => by have := hF.out.c5 (by simpa using h); simp [this], fun h => hF.out.kp (by simpa using h), fun h h2 => hF.out.ry (by simpa using h) (by simpa using h2), fun h => hF.out.fin (by simpa using h)⟩
        · intro d a W hI hd hdep
          obtain ⟨q, x17, x18, x19, x20, x21, x22, rfl, hF⟩ := hI
          have hd3 : d 3 = true := dep_of hdep 3 (by kernel_rfl)
          obtain rfl := hF.out.f3 hd3
          have HNL : Hid (d 6 = false) := no_later hF.out.o4 hd
          have HD3 : Hid (d 3 = true) := hd3
          have HK0 : Hid (Below wa.heap.size wa W) := hF.out.kp HNL.out
          have hcl := HCL.out W HK0.out
          clear hdep hd hd3
          intro K hK
          simp only [Act.put, List.setIfInBounds_toArray, List.set_cons_zero, List.set_cons_succ]
          go_simp
          refine hcl.mono ?_
          rintro _ W1 ⟨q1, rfl, hry, hb⟩
          have HQ : Hid (Ry W1 (fun b => wa.heap.size ≤ b ∧ b < W1.heap.size) (v6 q1) kids[kk] ∧ Below wa.heap.size wa W1) := ⟨hry.move (fun b hb2 => ⟨Nat.le_trans HK0.out.size hb2.1, hb2.2⟩) (fun _ _ => rfl), HK0.out.trans (hb.mono HK0.out.size)⟩
          clear hry hb
          go_simp
          refine hK.out _ _ ⟨q1, x17, x18, x19, (.agg #[.int .i64 qk.1, .int .u64 (qk.2.1.1.toNat : Int), .int .u64 (qk.2.1.2.1.toNat : Int), .int .u64 (qk.2.1.2.2.1.toNat : Int), .int .u64 (qk.2.1.2.2.2.toNat : Int), .slice qk.2.2.1 qk.2.2.2.1 qk.2.2.2.2]), (.agg #[.int .i64 q1.1, .int .u64 (q1.2.1.1.toNat : Int), .int .u64 (q1.2.1.2.1.toNat : Int), .int .u64 (q1.2.1.2.2.1.toNat : Int), .int .u64 (q1.2.1.2.2.2.toNat : Int), .slice q1.2.2.1 q1.2.2.2.1 q1.2.2.2.2]), x22, by simp only [Act.put, List.setIfInBounds_toArray, List.set_cons_zero, List.set_cons_succ], ?_⟩
          exact ⟨fun h => hF.out.f0 (by simpa using h), fun h => hF.out.f1 (by simpa using h), fun h => hF.out.f2 (by simpa using h), fun h => hF.out.f3 (by simpa using h), fun _ => rfl, fun h => hF.out.f5 (by simpa using h), fun h => hF.out.f6 (by simpa using h), fun h => by have := hF.out.o1 (by simpa using h); simp [this], fun h => by have := hF.out.o3 (by simpa using h); simp [this], fun _ => by simp, fun _ => by simp [HD3.out], fun h => by have := hF.out.c5 (by simpa using h); simp [this], fun _ => HQ.out.2, fun _ _ => HQ.out.1, fun h => by have := HNL.out; simp [this] at h⟩
        · intro d a W hI hd hdep
          obtain ⟨q, x17, x18, x19, x20, x21, x22, rfl, hF⟩ := hI
          have hd1 : d 1 = true := dep_of hdep 1 (by kernel_rfl)
          have hd2 : d 2 = true := dep_of hdep 2 (by kernel_rfl)
          obtain rfl := hF.out.f1 hd1
          obtain rfl := hF.out.f2 hd2
          have HD1 : Hid (d 1 = true) := hd1
          have hk0 := HKN.out.1
          have hk1 := HKN.out.2
          clear hdep hd hd1 hd2
          intro K hK
          simp only [Act.put, List.setIfInBounds_toArray, List.set_cons_zero, List.set_cons_succ]
          go_simp
          refine hK.out _ _ ⟨q, x17, (.slice (some ⟨g, 0, none⟩) n c2), (.int .i64 (kk : Int)), x20, x21, (.pointer (some ⟨g, kk * 6, none⟩)), by simp only [Act.put, List.setIfInBounds_toArray, List.set_cons_zero, List.set_cons_succ], ?_⟩
          exact ⟨fun h => hF.out.f0 (by simpa using h), fun h => hF.out.f1 (by simpa using h), fun h => hF.out.f2 (by simpa using h), fun h => hF.out.f3 (by simpa using h), fun h => hF.out.f4 (by simpa using h), fun _ => rfl, fun h => hF.out.f6 (by simpa using h), fun h => by have := hF.out.o1 (by simpa using h); simp [this], fun h => by have := hF.out.o3 (by simpa using h); simp [this], fun h => by have := hF.out.o4 (by simpa using h); simp [this], fun h => by have := hF.out.c4 (by simpa using h); simp [this], fun _ => by simp [HD1.out], fun h => hF.out.kp (by simpa using h), fun h h2 => hF.out.ry (by simpa using h) (by simpa using h2), fun h => hF.out.fin (by simpa using h)⟩
        · intro d a W hI hd hdep
          obtain ⟨q, x17, x18, x19, x20, x21, x22, rfl, hF⟩ := hI
          have hd4 : d 4 = true := dep_of hdep 4 (by kernel_rfl)
          have hd5 : d 5 = true := dep_of hdep 5 (by kernel_rfl)
          obtain rfl := hF.out.f4 hd4
          obtain rfl := hF.out.f5 hd5
          have HD : Hid (d 1 = true ∧ d 3 = true ∧ d 4 = true) := ⟨hF.out.c5 hd5, hF.out.c4 hd4, hd4⟩
          have HK0 : Hid (Below wa.heap.size wa W) := hF.out.kp hd
          have HRY : Hid (Ry W (fun b => wa.heap.size ≤ b ∧ b < W.heap.size) (v6 q) kids[kk]) := hF.out.ry hd4 hd
          have r0 := HROW.out W HK0.out
          have r1 := own_set6 (i := kk * 6) (s := (.int .i64 q.1)) r0
          have r2 := own_set6 (i := kk * 6 + 1) (s := (.int .u64 (q.2.1.1.toNat : Int))) r1
          have r3 := own_set6 (i := kk * 6 + 2) (s := (.int .u64 (q.2.1.2.1.toNat : Int))) r2
          have r4 := own_set6 (i := kk * 6 + 3) (s := (.int .u64 (q.2.1.2.2.1.toNat : Int))) r3
          have r5 := own_set6 (i := kk * 6 + 4) (s := (.int .u64 (q.2.1.2.2.2.toNat : Int))) r4
          have f0 := own_frozen (i := kk * 6) r0
          obtain ⟨u0, y0⟩ := own_some (j := kk * 6) r0 (by have := HKN2.out; omega)
          have f1 := own_frozen (i := kk * 6 + 1) r1
          obtain ⟨u1, y1⟩ := own_some (j := kk * 6 + 1) r1 (by have := HKN2.out; omega)
          have f2 := own_frozen (i := kk * 6 + 2) r2
          obtain ⟨u2, y2⟩ := own_some (j := kk * 6 + 2) r2 (by have := HKN2.out; omega)
          have f3 := own_frozen (i := kk * 6 + 3) r3
          obtain ⟨u3, y3⟩ := own_some (j := kk * 6 + 3) r3 (by have := HKN2.out; omega)
          have f4 := own_frozen (i := kk * 6 + 4) r4
          obtain ⟨u4, y4⟩ := own_some (j := kk * 6 + 4) r4 (by have := HKN2.out; omega)
          have f5 := own_frozen (i := kk * 6 + 5) r5
          obtain ⟨u5, y5⟩ := own_some (j := kk * 6 + 5) r5 (by have := HKN2.out; omega)
          clear r0 r1 r2 r3 r4 r5
          clear hdep hd hd4 hd5
          intro K hK
          simp only [Act.put, List.setIfInBounds_toArray, List.set_cons_zero, List.set_cons_succ]
          go_simp
          refine hK.out _ _ ⟨q, x17, x18, x19, x20, (.agg #[.int .i64 q.1, .int .u64 (q.2.1.1.toNat : Int), .int .u64 (q.2.1.2.1.toNat : Int), .int .u64 (q.2.1.2.2.1.toNat : Int), .int .u64 (q.2.1.2.2.2.toNat : Int), .slice q.2.2.1 q.2.2.2.1 q.2.2.2.2]), (.pointer (some ⟨g, kk * 6, none⟩)), by simp only [Act.put, List.setIfInBounds_toArray, List.set_cons_zero, List.set_cons_succ], ?_⟩
          exact ⟨fun h => hF.out.f0 (by simpa using h), fun h => hF.out.f1 (by simpa using h), fun h => hF.out.f2 (by simpa using h), fun h => hF.out.f3 (by simpa using h), fun h => hF.out.f4 (by simpa using h), fun h => hF.out.f5 (by simpa using h), fun _ => trivial, fun _ => by simp [HD.out.1], fun _ => by simp [HD.out.2.1], fun _ => by simp [HD.out.2.2], fun h => by have := hF.out.c4 (by simpa using h); simp [this], fun h => by have := hF.out.c5 (by simpa using h); simp [this], fun h => by simp at h, fun _ h => by simp at h, fun _ => ⟨W, HK0.out, HRY.out, rfl⟩⟩
      · intro d a W hI hall
        obtain ⟨q, x17, x18, x19, x20, x21, x22, rfl, hF⟩ := hI
        simp only [List.length_cons, List.length_nil] at hall
        obtain rfl := hF.out.f0 (hall 0 (by omega))
        obtain rfl := hF.out.f1 (hall 1 (by omega))
        obtain rfl := hF.out.f2 (hall 2 (by omega))
        obtain rfl := hF.out.f3 (hall 3 (by omega))
        obtain rfl := hF.out.f4 (hall 4 (by omega))
        obtain rfl := hF.out.f5 (hall 5 (by omega))
        obtain ⟨V, v1, v2, rfl⟩ := hF.out.fin (hall 6 (by omega))
        have HV : Hid (Below wa.heap.size wa V ∧ Ry V (fun b => wa.heap.size ≤ b ∧ b < V.heap.size) (v6 q) kids[kk]) := ⟨v1, v2⟩
        clear hF hall v1 v2
        simp only [Act.put, List.setIfInBounds_toArray, List.set_cons_zero, List.set_cons_succ]
        have HNX := HSTEP.out q V HV.out.1 HV.out.2
        replace HNX : Hid (Ap w g n c2 (kk + 1) (Obj.cells #[.int .i64 0, .int .u64 0, .int .u64 0, .int .u64 0, .int .u64 0, .slice none 0 0] 27) (Obj.cells #[.int .i64 k, .int .u64 (c.1.toNat : Int), .int .u64 (c.2.1.toNat : Int), .int .u64 (c.2.2.1.toNat : Int), .int .u64 (c.2.2.2.toNat : Int), .slice (some ⟨g, 0, none⟩) n c2] 27) qs (fun i => if i = kk then q else nq i) kids (((((((V.setCell ⟨g, kk * 6, none⟩ (.int .i64 q.1)).setCell ⟨g, kk * 6 + 1, none⟩ (.int .u64 (q.2.1.1.toNat : Int))).setCell ⟨g, kk * 6 + 2, none⟩ (.int .u64 (q.2.1.2.1.toNat : Int))).setCell ⟨g, kk * 6 + 3, none⟩ (.int .u64 (q.2.1.2.2.1.toNat : Int))).setCell ⟨g, kk * 6 + 4, none⟩ (.int .u64 (q.2.1.2.2.2.toNat : Int))).setCell ⟨g, kk * 6 + 5, none⟩ (.slice q.2.2.1 q.2.2.2.1 q.2.2.2.2)))) := HNX
        clear HSTEP HV
        generalize ((((((V.setCell ⟨g, kk * 6, none⟩ (.int .i64 q.1)).setCell ⟨g, kk * 6 + 1, none⟩ (.int .u64 (q.2.1.1.toNat : Int))).setCell ⟨g, kk * 6 + 2, none⟩ (.int .u64 (q.2.1.2.1.toNat : Int))).setCell ⟨g, kk * 6 + 3, none⟩ (.int .u64 (q.2.1.2.2.1.toNat : Int))).setCell ⟨g, kk * 6 + 4, none⟩ (.int .u64 (q.2.1.2.2.2.toNat : Int))).setCell ⟨g, kk * 6 + 5, none⟩ (.slice q.2.2.1 q.2.2.2.1 q.2.2.2.2)) = WN at HNX ⊢
        go_wp2_with fail
        go_roundw
        case rel => exact ⟨kk + 1, _, by go_num, by omega, HNX⟩
        case measure => simp [intOf]; omega
    · obtain rfl : kk = n := by omega
      have HZ := HAP.out.b1
      have c0 := cell_of HAP.out.b0 0
      have c1 := cell_of HAP.out.b0 1
      have c2' := cell_of HAP.out.b0 2
      have c3 := cell_of HAP.out.b0 3
      have c4 := cell_of HAP.out.b0 4
      have c5 := cell_of HAP.out.b0 5
      have y0 := cell_of HZ 0
      have y1 := cell_of HZ 1
      have y2 := cell_of HZ 2
      have y3 := cell_of HZ 3
      have y4 := cell_of HZ 4
      have y5 := cell_of HZ 5
      have f0 := free_of HZ 0
      have f1 := free_of HZ 1
      have f2 := free_of HZ 2
      have f3 := free_of HZ 3
      have f4 := free_of HZ 4
      have f5 := free_of HZ 5
      simp only [List.getElem?_toArray, List.getElem?_cons_zero, List.getElem?_cons_succ] at c0 c1 c2' c3 c4 c5 y0 y1 y2 y3 y4 y5
      obtain ⟨wf, HWF⟩ : ∃ wf, Hid (((((((wr.setCell ⟨w.heap.size + 1, 0, none⟩ (.int .i64 k)).setCell ⟨w.heap.size + 1, 1, none⟩ (.int .u64 (c.1.toNat : Int))).setCell ⟨w.heap.size + 1, 2, none⟩ (.int .u64 (c.2.1.toNat : Int))).setCell ⟨w.heap.size + 1, 3, none⟩ (.int .u64 (c.2.2.1.toNat : Int))).setCell ⟨w.heap.size + 1, 4, none⟩ (.int .u64 (c.2.2.2.toNat : Int))).setCell ⟨w.heap.size + 1, 5, none⟩ (.slice (some ⟨g, 0, none⟩) kk c2)) = wf) := ⟨_, (rfl : _ = _)⟩
      have HR6 : Hid (wf.heap[w.heap.size + 1]? = some (Obj.cells #[.int .i64 k, .int .u64 (c.1.toNat : Int), .int .u64 (c.2.1.toNat : Int), .int .u64 (c.2.2.1.toNat : Int), .int .u64 (c.2.2.2.toNat : Int), .slice (some ⟨g, 0, none⟩) kk c2] 27)) := by
        show _ = _
        rw [← HWF.out]
        have r6 := blk_store (i := 5) (blk_store (i := 4) (blk_store (i := 3) (blk_store (i := 2) (blk_store (i := 1) (blk_store (i := 0) HZ (.int .i64 k)) (.int .u64 (c.1.toNat : Int))) (.int .u64 (c.2.1.toNat : Int))) (.int .u64 (c.2.2.1.toNat : Int))) (.int .u64 (c.2.2.2.toNat : Int))) (.slice (some ⟨g, 0, none⟩) kk c2)
        simpa only [List.setIfInBounds_toArray, List.set_cons_zero, List.set_cons_succ] using r6
      have hoth : ∀ b', b' ≠ w.heap.size + 1 → wf.heap[b']? = wr.heap[b']? := fun b' hb => by
        rw [← HWF.out, Below.heap_setCell _ _ _ _ (by simpa using hb), Below.heap_setCell _ _ _ _ (by simpa using hb), Below.heap_setCell _ _ _ _ (by simpa using hb), Below.heap_setCell _ _ _ _ (by simpa using hb), Below.heap_setCell _ _ _ _ (by simpa using hb), Below.heap_setCell _ _ _ _ (by simpa using hb)]
      have hsz : wf.heap.size = wr.heap.size := by rw [← HWF.out]; simp [World.setCell]
      have HBL : Hid (Below w.heap.size w wf) := by
        show Below _ _ _
        rw [← HWF.out]
        have h1 : w.heap.size ≤ w.heap.size + 1 := by omega
        exact ((((((HAP.out.bel).setCell (p := ⟨w.heap.size + 1, 0, none⟩) h1 _).setCell (p := ⟨w.heap.size + 1, 1, none⟩) h1 _).setCell (p := ⟨w.heap.size + 1, 2, none⟩) h1 _).setCell (p := ⟨w.heap.size + 1, 3, none⟩) h1 _).setCell (p := ⟨w.heap.size + 1, 4, none⟩) h1 _).setCell (p := ⟨w.heap.size + 1, 5, none⟩) h1 _
      have HFIN : Hid (Ry wf (fun b => w.heap.size ≤ b ∧ b < wf.heap.size) (v6 (k, c, some ⟨g, 0, none⟩, kk, c2)) (.mk k c kids)) := by
        have hg := HG.out
        have hgl := (HAP.out.row.lt g rfl).2
        have h := Ry.mk (w := wf) (A := fun b => w.heap.size ≤ b ∧ b < wf.heap.size) k c (some ⟨g, 0, none⟩) c2 kids (fun i => v6 (nq i)) HKK.out hkm (Or.inr ⟨g, 0, rfl, ⟨by omega, by rw [hsz]; exact hgl⟩, fun i hi j hj => ?_⟩) (fun i hi => (HAP.out.ry i hi (by rw [← HN.out]; exact hi)).move (fun b' hb' => ⟨by omega, by rw [hsz]; exact hb'.2.1⟩) (fun b' hb' => hoth b' (by omega)))
        · rw [HN.out] at h; exact h
        · rw [World.cell?_of_block (hoth g (by omega)), Nat.zero_add, HAP.out.row.cellAt (i * 6 + j) (by rw [HN.out] at hi; omega), kxs_at _ kk i j (by rw [← HN.out]; exact hi) hj, cells_v6]
          rw [HN.out] at hi
          simp only [hi, if_true]
      clear HZ hoth hsz HAP
      go_wp2_with fail
      rw [HWF.out]
      have v0 := cell_of HR6.out 0
      have v1 := cell_of HR6.out 1
      have v2 := cell_of HR6.out 2
      have v3 := cell_of HR6.out 3
      have v4 := cell_of HR6.out 4
      have v5 := cell_of HR6.out 5
      simp only [List.getElem?_toArray, List.getElem?_cons_zero, List.getElem?_cons_succ] at v0 v1 v2 v3 v4 v5
      exact bodyPost_ret (v := .agg #[.int .i64 k, .int .u64 (c.1.toNat : Int), .int .u64 (c.2.1.toNat : Int), .int .u64 (c.2.2.1.toNat : Int), .int .u64 (c.2.2.2.toNat : Int), .slice (some ⟨g, 0, none⟩) kk c2]) (by simp [results, Try.results27, go_sem, v0, v1, v2, v3, v4, v5]) rfl ⟨(k, c, some ⟨g, 0, none⟩, kk, c2), rfl, HFIN.out, HBL.out⟩
end Go.Proofs.Ythloedfiomfnbaa

namespace Go.Proofs.Ythloedfiomfnbaa
open Go.RowKit
open Cls Rex

set_option maxHeartbeats 1600000 in
set_option maxRecDepth 20000 in
theorem clone_zero (a : Addr) (cap : Nat) (w : World) :
    Calls Try.prog 38 #[.slice (some a) 0 cap] w fun e w' => ∃ a2 c2, e = .returned (.slice a2 0 c2) ∧ Below w.heap.size w w' := by
  obtain ⟨i3, hi3, hz3, hs3, hb3⟩ := info_parts info27
  have H3 : Hid (Try.prog.info? 27 = some i3 ∧ i3.zero = some (.agg #[.int .i64 0, .int .u64 0, .int .u64 0, .int .u64 0, .int .u64 0, .slice none 0 0]) ∧ i3.size = 6 ∧ i3.bytes = 64) := ⟨hi3, hz3, hs3, hb3⟩
  clear hi3 hz3 hs3 hb3
  have q25 : ∀ (w : World) (a : Option Addr) (n c n' c' : Nat), (binOp .eql 25 (.slice a n c) (.slice none n' c')).run Try.prog w = .ok (.bool a.isNone) w := fun w a n c n' c' => Go.Lib.run_eql_slice_nil w _ _ a n c n' c' Try.underlying25
  go_enter Try.func38, Try.ntmps38
  go_wp2_with (at_builtin; refine wpList_append_own _ rfl _ _ 25 rfl w.heap.size 27 i3 (.agg #[.int .i64 0, .int .u64 0, .int .u64 0, .int .u64 0, .int .u64 0, .slice none 0 0]) 6 64 Try.underlying25 H3.out.1 H3.out.2.1 H3.out.2.2.1 H3.out.2.2.2 rfl (by omega) _ _ _ rfl (World.ownsRow_made w #[] 0 (Nat.le_refl _) (Nat.zero_le _) (by simp)) a 0 cap [] rfl ?qc1 ?qc2 ?qc3 ?qc4 ?qc5 ?qc6 ?_)
  case qc1 => rfl
  case qc2 =>
    intro j u hj
    simp at hj
  case qc3 => intro u hu; simp at hu
  case qc4 => simp [maxLen]
  case qc5 => omega
  case qc6 => simp
  intro v' w1 hown hgrow hnil
  have HO : Hid (w1.ownsRow w.heap.size 27 6 v' 0 []) := by
    show World.ownsRow _ _ _ _ _ _ _
    simpa using hown
  have HB : Hid (Below w.heap.size w w1) := ((Below.refl _ w).alloc (Nat.le_refl _) _).grown hgrow (by simp) (by intro k hk; simp [Value.ownBlock] at hk; omega)
  obtain ⟨a2, c2, rfl⟩ : ∃ a2 c2, v' = .slice a2 0 c2 := by
    obtain ⟨_, ⟨e1, e2⟩ | ⟨g, cp, cur, hv, _⟩⟩ := HO.out
    · exact ⟨none, 0, by rw [e1, e2]⟩
    · exact ⟨_, cp, hv⟩
  clear hown hgrow hnil
  go_wp2_with fail
  go_ret
  exact ⟨a2, c2, rfl, HB.out⟩

theorem clone_empty (ao : Option Addr) (cap : Nat) (w : World) : Calls Try.prog 38 #[.slice ao 0 cap] w fun e w' => ∃ a2 c2, e = .returned (.slice a2 0 c2) ∧ Below w.heap.size w w' := by
  cases ao with
  | none => exact (clone_none 0 cap w).mono fun _ _ ⟨h1, h2⟩ => ⟨none, 0, h1, by rw [h2]; exact Below.refl _ _⟩
  | some a => exact clone_zero a cap w
set_option maxHeartbeats 6400000 in
set_option maxRecDepth 20000 in
theorem apart_leaf (k : Int) (c : Cl) (hk : -9223372036854775808 ≤ k ∧ k ≤ 9223372036854775807) (ao : Option Addr) (cap : Nat) (w : World) :
    Calls Try.prog 27 #[.agg #[.int .i64 k, .int .u64 (c.1.toNat : Int), .int .u64 (c.2.1.toNat : Int), .int .u64 (c.2.2.1.toNat : Int), .int .u64 (c.2.2.2.toNat : Int), .slice ao 0 cap]] w fun e w' => ∃ q : R6, e = .returned (v6 q) ∧ Ry w' (fun b => w.heap.size ≤ b ∧ b < w'.heap.size) (v6 q) (.mk k c []) ∧ Below w.heap.size w w' := by
  have HK : Hid (-9223372036854775808 ≤ k ∧ k ≤ 9223372036854775807) := hk
  obtain ⟨e0, e1, e2, e3⟩ := two_blks w (Obj.cells #[.int .i64 k, .int .u64 (c.1.toNat : Int), .int .u64 (c.2.1.toNat : Int), .int .u64 (c.2.2.1.toNat : Int), .int .u64 (c.2.2.2.toNat : Int), .slice ao 0 cap] 27) (Obj.cells #[.int .i64 0, .int .u64 0, .int .u64 0, .int .u64 0, .int .u64 0, .slice none 0 0] 27)
  have HE : Hid (((w.alloc (Obj.cells #[.int .i64 k, .int .u64 (c.1.toNat : Int), .int .u64 (c.2.1.toNat : Int), .int .u64 (c.2.2.1.toNat : Int), .int .u64 (c.2.2.2.toNat : Int), .slice ao 0 cap] 27)).alloc (Obj.cells #[.int .i64 0, .int .u64 0, .int .u64 0, .int .u64 0, .int .u64 0, .slice none 0 0] 27)).heap[w.heap.size]? = some (Obj.cells #[.int .i64 k, .int .u64 (c.1.toNat : Int), .int .u64 (c.2.1.toNat : Int), .int .u64 (c.2.2.1.toNat : Int), .int .u64 (c.2.2.2.toNat : Int), .slice ao 0 cap] 27) ∧ ((w.alloc (Obj.cells #[.int .i64 k, .int .u64 (c.1.toNat : Int), .int .u64 (c.2.1.toNat : Int), .int .u64 (c.2.2.1.toNat : Int), .int .u64 (c.2.2.2.toNat : Int), .slice ao 0 cap] 27)).alloc (Obj.cells #[.int .i64 0, .int .u64 0, .int .u64 0, .int .u64 0, .int .u64 0, .slice none 0 0] 27)).heap[w.heap.size + 1]? = some (Obj.cells #[.int .i64 0, .int .u64 0, .int .u64 0, .int .u64 0, .int .u64 0, .slice none 0 0] 27) ∧ Below w.heap.size w ((w.alloc (Obj.cells #[.int .i64 k, .int .u64 (c.1.toNat : Int), .int .u64 (c.2.1.toNat : Int), .int .u64 (c.2.2.1.toNat : Int), .int .u64 (c.2.2.2.toNat : Int), .slice ao 0 cap] 27)).alloc (Obj.cells #[.int .i64 0, .int .u64 0, .int .u64 0, .int .u64 0, .int .u64 0, .slice none 0 0] 27)) ∧ ((w.alloc (Obj.cells #[.int .i64 k, .int .u64 (c.1.toNat : Int), .int .u64 (c.2.1.toNat : Int), .int .u64 (c.2.2.1.toNat : Int), .int .u64 (c.2.2.2.toNat : Int), .slice ao 0 cap] 27)).alloc (Obj.cells #[.int .i64 0, .int .u64 0, .int .u64 0, .int .u64 0, .int .u64 0, .slice none 0 0] 27)).heap.size = w.heap.size + 2) := ⟨e0, e1, e2, e3⟩
  have x5 := cell_of e0 5
  simp only [List.getElem?_toArray, List.getElem?_cons_zero, List.getElem?_cons_succ] at x5
  clear e0 e1 e2 e3 hk
  go_enter Try.func27, Try.ntmps27
  go_wp2_with fail
  refine (clone_empty ao cap _).mono ?_
  rintro _ w3 ⟨a2, c2, rfl, hb3⟩
  have hbx : w3.heap[w.heap.size]? = some (Obj.cells #[.int .i64 k, .int .u64 (c.1.toNat : Int), .int .u64 (c.2.1.toNat : Int), .int .u64 (c.2.2.1.toNat : Int), .int .u64 (c.2.2.2.toNat : Int), .slice ao 0 cap] 27) := blk_on HE.out.1 hb3
  have hbz : w3.heap[w.heap.size + 1]? = some (Obj.cells #[.int .i64 0, .int .u64 0, .int .u64 0, .int .u64 0, .int .u64 0, .slice none 0 0] 27) := blk_on HE.out.2.1 hb3
  have y5 := cell_of hbx 5
  have f5 := free_of hbx 5
  have hst := blk_store (i := 5) hbx (.slice a2 0 c2)
  simp only [List.setIfInBounds_toArray, List.set_cons_zero, List.set_cons_succ, List.getElem?_toArray, List.getElem?_cons_zero, List.getElem?_cons_succ] at y5 hst
  obtain ⟨w4, HW4⟩ : ∃ w4, Hid ((w3.setCell ⟨w.heap.size, 5, none⟩ (.slice a2 0 c2)) = w4) := ⟨_, (rfl : _ = _)⟩
  have HZ : Hid (w4.heap[w.heap.size + 1]? = some (Obj.cells #[.int .i64 0, .int .u64 0, .int .u64 0, .int .u64 0, .int .u64 0, .slice none 0 0] 27)) := by
    show _ = _
    rw [← HW4.out, Below.heap_setCell _ _ _ _ (by simp)]; exact hbz
  have HB4 : Hid (Below w.heap.size w w4) := by
    show Below _ _ _
    rw [← HW4.out]
    exact (HE.out.2.2.1.trans (hb3.mono HE.out.2.2.1.size)).setCell (p := ⟨w.heap.size, 5, none⟩) (Nat.le_refl _) _
  rw [HW4.out] at hst
  have c0' := cell_of hst 0
  have z0 := cell_of HZ.out 0
  have g0 := free_of HZ.out 0
  have c1' := cell_of hst 1
  have z1 := cell_of HZ.out 1
  have g1 := free_of HZ.out 1
  have c2' := cell_of hst 2
  have z2 := cell_of HZ.out 2
  have g2 := free_of HZ.out 2
  have c3' := cell_of hst 3
  have z3 := cell_of HZ.out 3
  have g3 := free_of HZ.out 3
  have c4' := cell_of hst 4
  have z4 := cell_of HZ.out 4
  have g4 := free_of HZ.out 4
  have c5' := cell_of hst 5
  have z5 := cell_of HZ.out 5
  have g5 := free_of HZ.out 5
  simp only [List.getElem?_toArray, List.getElem?_cons_zero, List.getElem?_cons_succ] at c0' z0 c1' z1 c2' z2 c3' z3 c4' z4 c5' z5
  have u5 := c5'
  rw [← HW4.out] at u5
  clear hb3 hbx hbz hst x5
  go_upto_region 2 with (fail)
  rw [HW4.out]
  go_wp2_with fail
  clear u5 y5 f5
  refine wp_loop_rounds 1 ?_
  rw [rounds_succ]
  go_wp2_with fail
  obtain ⟨wf, HWF⟩ : ∃ wf, Hid (((((((w4.setCell ⟨w.heap.size + 1, 0, none⟩ (.int .i64 k)).setCell ⟨w.heap.size + 1, 1, none⟩ (.int .u64 (c.1.toNat : Int))).setCell ⟨w.heap.size + 1, 2, none⟩ (.int .u64 (c.2.1.toNat : Int))).setCell ⟨w.heap.size + 1, 3, none⟩ (.int .u64 (c.2.2.1.toNat : Int))).setCell ⟨w.heap.size + 1, 4, none⟩ (.int .u64 (c.2.2.2.toNat : Int))).setCell ⟨w.heap.size + 1, 5, none⟩ (.slice a2 0 c2)) = wf) := ⟨_, (rfl : _ = _)⟩
  have HR6 : Hid (wf.heap[w.heap.size + 1]? = some (Obj.cells #[.int .i64 k, .int .u64 (c.1.toNat : Int), .int .u64 (c.2.1.toNat : Int), .int .u64 (c.2.2.1.toNat : Int), .int .u64 (c.2.2.2.toNat : Int), .slice a2 0 c2] 27)) := by
    show _ = _
    rw [← HWF.out]
    have r6 := blk_store (i := 5) (blk_store (i := 4) (blk_store (i := 3) (blk_store (i := 2) (blk_store (i := 1) (blk_store (i := 0) HZ.out (.int .i64 k)) (.int .u64 (c.1.toNat : Int))) (.int .u64 (c.2.1.toNat : Int))) (.int .u64 (c.2.2.1.toNat : Int))) (.int .u64 (c.2.2.2.toNat : Int))) (.slice a2 0 c2)
    simpa only [List.setIfInBounds_toArray, List.set_cons_zero, List.set_cons_succ] using r6
  have HBL : Hid (Below w.heap.size w wf) := by
    show Below _ _ _
    rw [← HWF.out]
    have h1 : w.heap.size ≤ w.heap.size + 1 := by omega
    exact ((((((HB4.out).setCell (p := ⟨w.heap.size + 1, 0, none⟩) h1 _).setCell (p := ⟨w.heap.size + 1, 1, none⟩) h1 _).setCell (p := ⟨w.heap.size + 1, 2, none⟩) h1 _).setCell (p := ⟨w.heap.size + 1, 3, none⟩) h1 _).setCell (p := ⟨w.heap.size + 1, 4, none⟩) h1 _).setCell (p := ⟨w.heap.size + 1, 5, none⟩) h1 _
  rw [HWF.out]
  have v0 := cell_of HR6.out 0
  have v1 := cell_of HR6.out 1
  have v2 := cell_of HR6.out 2
  have v3 := cell_of HR6.out 3
  have v4 := cell_of HR6.out 4
  have v5 := cell_of HR6.out 5
  simp only [List.getElem?_toArray, List.getElem?_cons_zero, List.getElem?_cons_succ] at v0 v1 v2 v3 v4 v5
  exact bodyPost_ret (v := .agg #[.int .i64 k, .int .u64 (c.1.toNat : Int), .int .u64 (c.2.1.toNat : Int), .int .u64 (c.2.2.1.toNat : Int), .int .u64 (c.2.2.2.toNat : Int), .slice a2 0 c2]) (by simp [results, Try.results27, go_sem, v0, v1, v2, v3, v4, v5]) rfl ⟨(k, c, a2, 0, c2), rfl, Ry.mk k c a2 c2 [] (fun _ => undef) HK.out (by simp) (Or.inl rfl) (fun i hi => absurd hi (by simp)), HBL.out⟩
/-- apart, of every tree that is not too large. -/
theorem apart_any (t : T) (h200 : t.sz ≤ 200) (v : Value) (w : World) (hx : Rx w w.heap.size v t) : Calls Try.prog 27 #[v] w fun e w' => ∃ q : R6, e = .returned (v6 q) ∧ Ry w' (fun b => w.heap.size ≤ b ∧ b < w'.heap.size) (v6 q) t ∧ Below w.heap.size w w' := by
  suffices H : ∀ (m : Nat) (t : T), t.sz ≤ m → t.sz ≤ 200 → ∀ (v : Value) (w : World), Rx w w.heap.size v t → Calls Try.prog 27 #[v] w fun e w' => ∃ q : R6, e = .returned (v6 q) ∧ Ry w' (fun b => w.heap.size ≤ b ∧ b < w'.heap.size) (v6 q) t ∧ Below w.heap.size w w' from H t.sz t (Nat.le_refl _) h200 v w hx
  intro m
  induction m with
  | zero => intro t hm; have := t.sz_pos; omega
  | succ m ih =>
    intro t hm h2 v w hx
    by_cases hne : t.kids = []
    · obtain ⟨k, c, ao, cap, kids, vals, rfl, rfl, hk, hkm, hc, hr⟩ := hx.shape
      simp only [T.kids] at hne
      subst hne
      exact apart_leaf k c hk ao cap w
    · exact apart_all (m + 1) t hm h2 hne (fun s hs v w hx => ih s (by omega) (by omega) v w hx) v w hx
end Go.Proofs.Ythloedfiomfnbaa
