/-
  What items.All has in memory: its box, the items that states are Closed of, the states, the rows. No function is walked here.
-/
import Derived.Test.YtpbnnmfjahckmaaGrD
import Derived.Test.YtpbnnmfjahckmaaGrE
namespace Go.Proofs.Ytpbnnmfjahckmaa
open Go.RowKit
open Cg

theorem info103 : (Try.prog.info? 103).map (fun i => (i.zero, i.size, i.bytes)) = some (some (.slice none 0 0), 1, 24) := by kernel_rfl
theorem info29 : (Try.prog.info? 29).map (fun i => (i.zero, i.size, i.bytes)) = some (some (.slice none 0 0), 1, 24) := by kernel_rfl
theorem minfo_parts {t : TypeId} {z : Value} {s b : Nat} (h : (Try.prog.info? t).map (fun i => (i.zero, i.size, i.bytes)) = some (some z, s, b)) : ∃ i, Try.prog.info? t = some i ∧ i.zero = some z ∧ i.size = s ∧ i.bytes = b := by
  cases e : Try.prog.info? t with
  | none => rw [e] at h; cases h
  | some i =>
    rw [e] at h
    simp only [Option.map_some, Option.some.injEq, Prod.mk.injEq] at h
    exact ⟨i, rfl, h.1, h.2.1, h.2.2⟩
theorem mcell_blk {w : World} {g : Nat} {cs : Array Value} {t : TypeId} {fr : Nat × Nat} (h : w.heap[g]? = some (.cells cs t fr)) (i : Nat) : w.cell? ⟨g, i, none⟩ = cs[i]? := by
  unfold World.cell?
  simp only [h]
  rfl
theorem mfrozen_blk {w : World} {g : Nat} {cs : Array Value} {t : TypeId} (h : w.heap[g]? = some (.cells cs t)) (i : Nat) : w.frozen? ⟨g, i, none⟩ = false := by
  simp [World.frozen?, h]
theorem mheap_lt {w : World} {k : Nat} {o : Obj} (h : w.heap[k]? = some o) : k < w.heap.size := by
  rcases Nat.lt_or_ge k w.heap.size with h' | h'
  · exact h'
  · rw [Array.getElem?_eq_none h'] at h; cases h
theorem mbox_next {w w' : World} {k : Nat} {o : Obj} (h : w.heap[k]? = some o) (hb : Below w.heap.size w w') : w'.heap[k]? = some o := (hb.block k (mheap_lt h)).trans h
theorem mblock_store {w : World} {g i : Nat} {cs : Array Value} {t : TypeId} {fr : Nat × Nat} (h : w.heap[g]? = some (.cells cs t fr)) (v : Value) : (w.setCell ⟨g, i, none⟩ v).heap[g]? = some (.cells (cs.setIfInBounds i v) t fr) := by
  simp [World.setCell, Array.getElem?_modify, h]
theorem mgb_refl (W : World) (q : Option Nat) : W.grownBy W q := ⟨rfl, rfl, rfl, Nat.le_refl _, fun _ _ _ => rfl⟩
theorem mgb_below {w w' w'' : World} {r : Option Nat} (h : w.grownBy w' r) (k : Below w'.heap.size w' w'') : w.grownBy w'' r :=
  ⟨k.os.trans h.os, k.tape.trans h.tape, k.output.trans h.output, Nat.le_trans h.size k.size, fun i hi hn => (k.block i (Nat.lt_of_lt_of_le hi h.size)).trans (h.block i hi hn)⟩
theorem mgb_then {w w' w'' : World} {r : Option Nat} (h : w.grownBy w' r) (k : w'.grownBy w'' r) : w.grownBy w'' r :=
  ⟨k.os.trans h.os, k.tape.trans h.tape, k.output.trans h.output, Nat.le_trans h.size k.size, fun i hi hn => (k.block i (Nat.lt_of_lt_of_le hi h.size) hn).trans (h.block i hi hn)⟩
theorem mgb_alloc {w w' : World} {r : Option Nat} (h : w.grownBy w' r) (o : Obj) : w.grownBy (w'.alloc o) r := mgb_below h (below_alloc w' o)
theorem mgb_old {w w' : World} {r : Option Nat} (h : w.grownBy w' r) {p : Addr} (hp : p.block < w.heap.size) (hn : some p.block ≠ r) : w'.cell? p = w.cell? p := World.cell?_of_block (h.block _ hp hn)
theorem mgb_drew {w w' : World} {r : Option Nat} (h : w.grownBy w' r) : w.grownBy w'.drew r := ⟨h.os, h.tape, h.output, h.size, h.block⟩
theorem mown_blk {w : World} {B : Nat} {e : TypeId} {size : Nat} {v : Value} {n : Nat} {xs : List Value} (h : w.ownsRow B e size v n xs) {b : Nat} (hb : v.ownBlock = some b) : ∃ cur, w.heap[b]? = some (.cells cur e (0, 0)) := by
  rcases h.2 with ⟨rfl, _⟩ | ⟨g, cap, cur, rfl, h1, h2, h3⟩
  · simp [Value.ownBlock] at hb
  · simp [Value.ownBlock] at hb; subst hb; exact ⟨cur, h2⟩
theorem mown_le {w : World} {B : Nat} {e : TypeId} {size : Nat} {v : Value} {n : Nat} {xs : List Value} (h : w.ownsRow B e size v n xs) : n ≤ 9223372036854775807 := by
  rcases h.2 with ⟨-, h0⟩ | ⟨g, cap, cur, -, -, -, h2, h3, -⟩
  · omega
  · unfold maxLen at h3; omega
/-- Two rows of other types lie in other blocks. -/
theorem mown_ne {W : World} {b1 b2 e1 e2 s1 s2 n1 n2 : Nat} {v1 v2 : Value} {xs1 xs2 : List Value} (h : W.ownsRow b1 e1 s1 v1 n1 xs1) (k : W.ownsRow b2 e2 s2 v2 n2 xs2) (hne : e1 ≠ e2) {q : Nat} (h1 : v1.ownBlock = some q) : v2.ownBlock ≠ some q := fun h2 => by
  obtain ⟨c1, p1⟩ := mown_blk h h1
  obtain ⟨c2, p2⟩ := mown_blk k h2
  rw [p1] at p2; cases p2; exact hne rfl
theorem mown_box {W : World} {b1 e1 s1 n1 g : Nat} {v1 : Value} {xs1 : List Value} {cs : Array Value} {t : TypeId} {fr : Nat × Nat} (h : W.ownsRow b1 e1 s1 v1 n1 xs1) (k : W.heap[g]? = some (.cells cs t fr)) (hne : e1 ≠ t) : v1.ownBlock ≠ some g := fun h2 => by
  obtain ⟨c1, p1⟩ := mown_blk h h2
  rw [k] at p1; cases p1; exact hne rfl
/-- Rows of items, of numbers, that lie one beside the other. -/
def ItR (B : Nat) (us : List Value) (ls : List (List It)) (W : World) : Prop := ∀ (i : Nat) l, ls[i]? = some l → ∃ u, us[i]? = some u ∧ W.ownsRow B 145 3 u l.length (ics l)
def InR (B : Nat) (us : List Value) (ls : List (List Int)) (W : World) : Prop := ∀ (i : Nat) l, ls[i]? = some l → ∃ u, us[i]? = some u ∧ W.ownsRow B 3 1 u l.length (l.map (Value.int .i64))
theorem ItR.keep {B : Nat} {us : List Value} {ls : List (List It)} {W W' : World} (h : ItR B us ls W) (e : ∀ (q : Nat) cur, W.heap[q]? = some (Obj.cells cur 145 (0, 0)) → W'.heap[q]? = W.heap[q]?) : ItR B us ls W' := fun i l hl => by
  obtain ⟨u, h1, h2⟩ := h i l hl
  exact ⟨u, h1, row_keep h2 fun q hq => by obtain ⟨cur, hc⟩ := mown_blk h2 hq; exact e q cur hc⟩
theorem InR.keep {B : Nat} {us : List Value} {ls : List (List Int)} {W W' : World} (h : InR B us ls W) (e : ∀ (q : Nat) cur, W.heap[q]? = some (Obj.cells cur 3 (0, 0)) → W'.heap[q]? = W.heap[q]?) : InR B us ls W' := fun i l hl => by
  obtain ⟨u, h1, h2⟩ := h i l hl
  exact ⟨u, h1, row_keep h2 fun q hq => by obtain ⟨cur, hc⟩ := mown_blk h2 hq; exact e q cur hc⟩
theorem ItR.put {B : Nat} {us : List Value} {ls : List (List It)} {W : World} (h : ItR B us ls W) (hl : us.length = ls.length) {u : Value} {l : List It} (hu : W.ownsRow B 145 3 u l.length (ics l)) : ItR B (us ++ [u]) (ls ++ [l]) W := fun i m hm => by
  rcases Nat.lt_or_ge i ls.length with h3 | h3
  · rw [List.getElem?_append_left h3] at hm
    rw [List.getElem?_append_left (by omega)]
    exact h i m hm
  · have h4 := (List.getElem?_eq_some_iff.1 hm).1
    simp at h4
    obtain rfl : i = ls.length := by omega
    simp at hm
    subst hm
    exact ⟨u, by rw [← hl]; simp, hu⟩
theorem InR.put {B : Nat} {us : List Value} {ls : List (List Int)} {W : World} (h : InR B us ls W) (hl : us.length = ls.length) {u : Value} {l : List Int} (hu : W.ownsRow B 3 1 u l.length (l.map (Value.int .i64))) : InR B (us ++ [u]) (ls ++ [l]) W := fun i m hm => by
  rcases Nat.lt_or_ge i ls.length with h3 | h3
  · rw [List.getElem?_append_left h3] at hm
    rw [List.getElem?_append_left (by omega)]
    exact h i m hm
  · have h4 := (List.getElem?_eq_some_iff.1 hm).1
    simp at h4
    obtain rfl : i = ls.length := by omega
    simp at hm
    subst hm
    exact ⟨u, by rw [← hl]; simp, hu⟩
structure Mk (w0 : World) (mb : Nat) (T n : Int) (pv v0 v1 v2 v3 v4 kv sv nv : Value) (us vs ws : List Value) (ks ss : List (List It)) (nx : List (List Int)) (W : World) : Prop where
  bw : Below w0.heap.size w0 W
  ge : w0.heap.size ≤ mb
  bx : W.heap[mb]? = some (.cells #[.int .i64 T, .int .i64 n, pv, v0, v1, v2, v3, v4, kv, sv, nv] 141)
  kr : W.ownsRow w0.heap.size 103 1 kv ks.length us
  sr : W.ownsRow w0.heap.size 103 1 sv ss.length vs
  nr : W.ownsRow w0.heap.size 29 1 nv nx.length ws
  ne : ∀ q, kv.ownBlock = some q → sv.ownBlock ≠ some q
  ki : ItR w0.heap.size us ks W
  si : ItR w0.heap.size vs ss W
  ni : InR w0.heap.size ws nx W
section
variable {w0 : World} {mb : Nat} {T n : Int} {pv v0 v1 v2 v3 v4 kv sv nv : Value} {us vs ws : List Value} {ks ss : List (List It)} {nx : List (List Int)} {W W' : World}
theorem Mk.next (h : Mk w0 mb T n pv v0 v1 v2 v3 v4 kv sv nv us vs ws ks ss nx W) (hb : Below W.heap.size W W') : Mk w0 mb T n pv v0 v1 v2 v3 v4 kv sv nv us vs ws ks ss nx W' :=
  ⟨h.bw.trans (hb.mono h.bw.size), h.ge, mbox_next h.bx hb, own_below h.kr hb, own_below h.sr hb, own_below h.nr hb, h.ne, h.ki.keep fun q _ hq => hb.block q (mheap_lt hq), h.si.keep fun q _ hq => hb.block q (mheap_lt hq), h.ni.keep fun q _ hq => hb.block q (mheap_lt hq)⟩
theorem mset_ne (W : World) {mb q : Nat} (i : Nat) (v : Value) (h : q ≠ mb) : (W.setCell ⟨mb, i, none⟩ v).heap[q]? = W.heap[q]? := Below.heap_setCell _ _ _ _ h
/-- One more list of items that a state is Closed of. -/
theorem Mk.pushK (h : Mk w0 mb T n pv v0 v1 v2 v3 v4 kv sv nv us vs ws ks ss nx W) {g cp : Nat} {u : Value} {k : List It} (hg : W.grownBy W' kv.ownBlock) (ho : W'.ownsRow w0.heap.size 103 1 (.slice (some ⟨g, 0, none⟩) (ks.length + 1) cp) (ks.length + 1) (us ++ [u])) (hn : kv.ownBlock = some g ∨ W.heap.size ≤ g) (hu : W'.ownsRow w0.heap.size 145 3 u k.length (ics k)) :
    Mk w0 mb T n pv v0 v1 v2 v3 v4 (.slice (some ⟨g, 0, none⟩) (ks.length + 1) cp) sv nv (us ++ [u]) vs ws (ks ++ [k]) ss nx (W'.setCell ⟨mb, 8, none⟩ (.slice (some ⟨g, 0, none⟩) (ks.length + 1) cp)) := by
  have hlen : us.length = ks.length := by have := h.kr.1; omega
  have kb : kv.ownBlock ≠ some mb := mown_box h.kr h.bx (by decide)
  have e0 : ∀ q, q < W.heap.size → kv.ownBlock ≠ some q → W'.heap[q]? = W.heap[q]? := fun q hq hne => hg.block q hq (fun e => hne e.symm)
  have hbx : W'.heap[mb]? = some (.cells #[.int .i64 T, .int .i64 n, pv, v0, v1, v2, v3, v4, kv, sv, nv] 141) := (e0 mb (mheap_lt h.bx) kb).trans h.bx
  have e1 : ∀ q, q < W.heap.size → kv.ownBlock ≠ some q → q ≠ mb → (W'.setCell ⟨mb, 8, none⟩ (.slice (some ⟨g, 0, none⟩) (ks.length + 1) cp)).heap[q]? = W.heap[q]? := fun q hq hne hm => (mset_ne W' 8 _ hm).trans (e0 q hq hne)
  have eT : ∀ (q : Nat) cur t, t ≠ 103 → t ≠ 141 → W.heap[q]? = some (Obj.cells cur t (0, 0)) → (W'.setCell ⟨mb, 8, none⟩ (.slice (some ⟨g, 0, none⟩) (ks.length + 1) cp)).heap[q]? = W.heap[q]? := fun q cur t t1 t2 hq => e1 q (mheap_lt hq) (fun e => by
      obtain ⟨c1, p1⟩ := mown_blk h.kr e
      rw [hq] at p1; cases p1; exact t1 rfl) (fun e => by subst e; rw [h.bx] at hq; cases hq; exact t2 rfl)
  have eM : ∀ {B e s m : Nat} {v : Value} {xs : List Value}, W'.ownsRow B e s v m xs → e ≠ 141 → (W'.setCell ⟨mb, 8, none⟩ (.slice (some ⟨g, 0, none⟩) (ks.length + 1) cp)).ownsRow B e s v m xs := fun hr he => row_keep hr fun q hq => mset_ne W' 8 _ (fun e => by subst e; exact mown_box hr hbx he hq)
  refine ⟨(Below.grown h.bw hg h.bw.size (fun q hq => (h.kr.lt q hq).1)).setCell h.ge _, h.ge, ?_, ?_, ?_, ?_, fun q hq e => ?_, ?_, ?_, ?_⟩
  · have := mblock_store (i := 8) hbx (.slice (some ⟨g, 0, none⟩) (ks.length + 1) cp)
    simpa using this
  · rw [List.length_append]; exact eM ho (by decide)
  · exact row_keep h.sr fun q hq => e1 q (h.sr.lt q hq).2 (fun e => h.ne q e hq) (fun e => by subst e; exact mown_box h.sr h.bx (by decide) hq)
  · exact row_keep h.nr fun q hq => by obtain ⟨cur, hc⟩ := mown_blk h.nr hq; exact eT q cur 29 (by decide) (by decide) hc
  · have hqg : q = g := by simpa [Value.ownBlock, eq_comm] using hq
    subst hqg
    rcases hn with hn | hn
    · exact h.ne q hn e
    · have := (h.sr.lt q e).2; omega
  · have h1 : ItR w0.heap.size us ks (W'.setCell ⟨mb, 8, none⟩ (.slice (some ⟨g, 0, none⟩) (ks.length + 1) cp)) := h.ki.keep fun q cur hq => eT q cur 145 (by decide) (by decide) hq
    exact h1.put hlen (eM hu (by decide))
  · exact h.si.keep fun q cur hq => eT q cur 145 (by decide) (by decide) hq
  · exact h.ni.keep fun q cur hq => eT q cur 3 (by decide) (by decide) hq
/-- One more state. -/
theorem Mk.pushS (h : Mk w0 mb T n pv v0 v1 v2 v3 v4 kv sv nv us vs ws ks ss nx W) {g cp : Nat} {u : Value} {k : List It} (hg : W.grownBy W' sv.ownBlock) (ho : W'.ownsRow w0.heap.size 103 1 (.slice (some ⟨g, 0, none⟩) (ss.length + 1) cp) (ss.length + 1) (vs ++ [u])) (hn : sv.ownBlock = some g ∨ W.heap.size ≤ g) (hu : W'.ownsRow w0.heap.size 145 3 u k.length (ics k)) :
    Mk w0 mb T n pv v0 v1 v2 v3 v4 kv (.slice (some ⟨g, 0, none⟩) (ss.length + 1) cp) nv us (vs ++ [u]) ws ks (ss ++ [k]) nx (W'.setCell ⟨mb, 9, none⟩ (.slice (some ⟨g, 0, none⟩) (ss.length + 1) cp)) := by
  have hlen : vs.length = ss.length := by have := h.sr.1; omega
  have kb : sv.ownBlock ≠ some mb := mown_box h.sr h.bx (by decide)
  have e0 : ∀ q, q < W.heap.size → sv.ownBlock ≠ some q → W'.heap[q]? = W.heap[q]? := fun q hq hne => hg.block q hq (fun e => hne e.symm)
  have hbx : W'.heap[mb]? = some (.cells #[.int .i64 T, .int .i64 n, pv, v0, v1, v2, v3, v4, kv, sv, nv] 141) := (e0 mb (mheap_lt h.bx) kb).trans h.bx
  have e1 : ∀ q, q < W.heap.size → sv.ownBlock ≠ some q → q ≠ mb → (W'.setCell ⟨mb, 9, none⟩ (.slice (some ⟨g, 0, none⟩) (ss.length + 1) cp)).heap[q]? = W.heap[q]? := fun q hq hne hm => (mset_ne W' 9 _ hm).trans (e0 q hq hne)
  have eT : ∀ (q : Nat) cur t, t ≠ 103 → t ≠ 141 → W.heap[q]? = some (Obj.cells cur t (0, 0)) → (W'.setCell ⟨mb, 9, none⟩ (.slice (some ⟨g, 0, none⟩) (ss.length + 1) cp)).heap[q]? = W.heap[q]? := fun q cur t t1 t2 hq => e1 q (mheap_lt hq) (fun e => by
      obtain ⟨c1, p1⟩ := mown_blk h.sr e
      rw [hq] at p1; cases p1; exact t1 rfl) (fun e => by subst e; rw [h.bx] at hq; cases hq; exact t2 rfl)
  have eM : ∀ {B e s m : Nat} {v : Value} {xs : List Value}, W'.ownsRow B e s v m xs → e ≠ 141 → (W'.setCell ⟨mb, 9, none⟩ (.slice (some ⟨g, 0, none⟩) (ss.length + 1) cp)).ownsRow B e s v m xs := fun hr he => row_keep hr fun q hq => mset_ne W' 9 _ (fun e => by subst e; exact mown_box hr hbx he hq)
  refine ⟨(Below.grown h.bw hg h.bw.size (fun q hq => (h.sr.lt q hq).1)).setCell h.ge _, h.ge, ?_, ?_, ?_, ?_, fun q hq e => ?_, ?_, ?_, ?_⟩
  · have := mblock_store (i := 9) hbx (.slice (some ⟨g, 0, none⟩) (ss.length + 1) cp)
    simpa using this
  · exact row_keep h.kr fun q hq => e1 q (h.kr.lt q hq).2 (fun e => h.ne q hq e) (fun e => by subst e; exact mown_box h.kr h.bx (by decide) hq)
  · rw [List.length_append]; exact eM ho (by decide)
  · exact row_keep h.nr fun q hq => by obtain ⟨cur, hc⟩ := mown_blk h.nr hq; exact eT q cur 29 (by decide) (by decide) hc
  · have hqg : q = g := by simpa [Value.ownBlock, eq_comm] using e
    subst hqg
    rcases hn with hn | hn
    · exact h.ne q hq hn
    · have := (h.kr.lt q hq).2; omega
  · exact h.ki.keep fun q cur hq => eT q cur 145 (by decide) (by decide) hq
  · have h1 : ItR w0.heap.size vs ss (W'.setCell ⟨mb, 9, none⟩ (.slice (some ⟨g, 0, none⟩) (ss.length + 1) cp)) := h.si.keep fun q cur hq => eT q cur 145 (by decide) (by decide) hq
    exact h1.put hlen (eM hu (by decide))
  · exact h.ni.keep fun q cur hq => eT q cur 3 (by decide) (by decide) hq
/-- One more row. -/
theorem Mk.pushN (h : Mk w0 mb T n pv v0 v1 v2 v3 v4 kv sv nv us vs ws ks ss nx W) {g cp : Nat} {u : Value} {k : List Int} (hg : W.grownBy W' nv.ownBlock) (ho : W'.ownsRow w0.heap.size 29 1 (.slice (some ⟨g, 0, none⟩) (nx.length + 1) cp) (nx.length + 1) (ws ++ [u])) (hu : W'.ownsRow w0.heap.size 3 1 u k.length (k.map (Value.int .i64))) :
    Mk w0 mb T n pv v0 v1 v2 v3 v4 kv sv (.slice (some ⟨g, 0, none⟩) (nx.length + 1) cp) us vs (ws ++ [u]) ks ss (nx ++ [k]) (W'.setCell ⟨mb, 10, none⟩ (.slice (some ⟨g, 0, none⟩) (nx.length + 1) cp)) := by
  have hlen : ws.length = nx.length := by have := h.nr.1; omega
  have kb : nv.ownBlock ≠ some mb := mown_box h.nr h.bx (by decide)
  have e0 : ∀ q, q < W.heap.size → nv.ownBlock ≠ some q → W'.heap[q]? = W.heap[q]? := fun q hq hne => hg.block q hq (fun e => hne e.symm)
  have hbx : W'.heap[mb]? = some (.cells #[.int .i64 T, .int .i64 n, pv, v0, v1, v2, v3, v4, kv, sv, nv] 141) := (e0 mb (mheap_lt h.bx) kb).trans h.bx
  have e1 : ∀ q, q < W.heap.size → nv.ownBlock ≠ some q → q ≠ mb → (W'.setCell ⟨mb, 10, none⟩ (.slice (some ⟨g, 0, none⟩) (nx.length + 1) cp)).heap[q]? = W.heap[q]? := fun q hq hne hm => (mset_ne W' 10 _ hm).trans (e0 q hq hne)
  have eT : ∀ (q : Nat) cur t, t ≠ 29 → t ≠ 141 → W.heap[q]? = some (Obj.cells cur t (0, 0)) → (W'.setCell ⟨mb, 10, none⟩ (.slice (some ⟨g, 0, none⟩) (nx.length + 1) cp)).heap[q]? = W.heap[q]? := fun q cur t t1 t2 hq => e1 q (mheap_lt hq) (fun e => by
      obtain ⟨c1, p1⟩ := mown_blk h.nr e
      rw [hq] at p1; cases p1; exact t1 rfl) (fun e => by subst e; rw [h.bx] at hq; cases hq; exact t2 rfl)
  have eM : ∀ {B e s m : Nat} {v : Value} {xs : List Value}, W'.ownsRow B e s v m xs → e ≠ 141 → (W'.setCell ⟨mb, 10, none⟩ (.slice (some ⟨g, 0, none⟩) (nx.length + 1) cp)).ownsRow B e s v m xs := fun hr he => row_keep hr fun q hq => mset_ne W' 10 _ (fun e => by subst e; exact mown_box hr hbx he hq)
  refine ⟨(Below.grown h.bw hg h.bw.size (fun q hq => (h.nr.lt q hq).1)).setCell h.ge _, h.ge, ?_, ?_, ?_, ?_, h.ne, ?_, ?_, ?_⟩
  · have := mblock_store (i := 10) hbx (.slice (some ⟨g, 0, none⟩) (nx.length + 1) cp)
    simpa using this
  · exact row_keep h.kr fun q hq => by obtain ⟨cur, hc⟩ := mown_blk h.kr hq; exact eT q cur 103 (by decide) (by decide) hc
  · exact row_keep h.sr fun q hq => by obtain ⟨cur, hc⟩ := mown_blk h.sr hq; exact eT q cur 103 (by decide) (by decide) hc
  · rw [List.length_append]; exact eM ho (by decide)
  · exact h.ki.keep fun q cur hq => eT q cur 145 (by decide) (by decide) hq
  · exact h.si.keep fun q cur hq => eT q cur 145 (by decide) (by decide) hq
  · have h1 : InR w0.heap.size ws nx (W'.setCell ⟨mb, 10, none⟩ (.slice (some ⟨g, 0, none⟩) (nx.length + 1) cp)) := h.ni.keep fun q cur hq => eT q cur 3 (by decide) (by decide) hq
    exact h1.put hlen (eM hu (by decide))
end
/-- The blocks that number writes into. -/
def Mx (mb : Nat) (kv sv : Value) (q : Nat) : Prop := q = mb ∨ kv.ownBlock = some q ∨ sv.ownBlock = some q
end Go.Proofs.Ytpbnnmfjahckmaa
