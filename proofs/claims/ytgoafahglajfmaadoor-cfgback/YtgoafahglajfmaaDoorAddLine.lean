/-
  What a grammar in the making holds in memory, and the contract of cfg.addLine.
-/
import Derived.Test.YtgoafahglajfmaaDoorRdProd
import Derived.Deep.AppendLies
namespace Go.Proofs.YtgoafahglajfmaaDoor
open Go.RowKit
open Cg

/-- The cells of productions in a row. -/
def pcs (ps : List Pd) (U : Nat → Value) (q : Nat) : List Value := (List.range q).flatMap fun i => [.int .i64 (ps.getD i (0, [])).1, U i]
theorem pcs_step (ps : List Pd) (U : Nat → Value) (q : Nat) : pcs ps U (q + 1) = pcs ps U q ++ [.int .i64 (ps.getD q (0, [])).1, U q] := by
  unfold pcs; rw [List.range_succ, List.flatMap_append]; simp
theorem pcs_len (ps : List Pd) (U : Nat → Value) (q : Nat) : (pcs ps U q).length = q * 2 := by
  induction q with
  | zero => rfl
  | succ q ih => rw [pcs_step, List.length_append, ih]; simp; omega
theorem pcs_congr (ps ps' : List Pd) (U U' : Nat → Value) (q : Nat) (h : ∀ i, i < q → U i = U' i ∧ ps.getD i (0, []) = ps'.getD i (0, [])) : pcs ps U q = pcs ps' U' q := by
  induction q with
  | zero => rfl
  | succ q ih => rw [pcs_step, pcs_step, ih fun i hi => h i (by omega), (h q (by omega)).1, (h q (by omega)).2]
theorem pcs_at (ps : List Pd) (U : Nat → Value) (q i : Nat) (hi : i < q) : (pcs ps U q)[i * 2]? = some (.int .i64 (ps.getD i (0, [])).1) ∧ (pcs ps U q)[i * 2 + 1]? = some (U i) := by
  induction q with
  | zero => omega
  | succ q ih =>
    rw [pcs_step]
    have hl := pcs_len ps U q
    by_cases e : i = q
    · subst e
      rw [List.getElem?_append_right (by omega), List.getElem?_append_right (by omega), hl]
      simp
    · rw [List.getElem?_append_left (by omega), List.getElem?_append_left (by omega)]
      exact ih (by omega)
/-- Rows of productions of one's own: the row's blocks and the Bodies' from B on. -/
def Rw (B : Nat) (W : World) (v : Value) (ps : List Pd) : Prop :=
  ∃ U : Nat → Value, W.ownsRow B 39 2 v ps.length (pcs ps U ps.length) ∧ ∀ i (hi : i < ps.length), Syms W (U i) ps[i].2 ∧ ∀ k, (U i).ownBlock = some k → B ≤ k ∧ k < W.heap.size ∧ v.ownBlock ≠ some k
theorem Rw.pds {B : Nat} {W : World} {v : Value} {ps : List Pd} (h : Rw B W v ps) (hm : ps.length ≤ 9223372036854775807) : Pds W v ps := by
  obtain ⟨U, hrow, hU⟩ := h
  obtain ⟨hl, ⟨h1, h2⟩ | ⟨g, cap, cur, hv, hg, hh, hn, hc, hs, ht⟩⟩ := hrow
  · have e : ps = [] := List.length_eq_zero_iff.1 h2
    subst e; rw [h1]; exact pds_nil _
  · refine ⟨some ⟨g, 0, none⟩, cap, hv, hm, Or.inr ⟨g, 0, rfl, heap_lt hh, fun i hi => ?_⟩⟩
    obtain ⟨f0, f1⟩ := pcs_at ps U ps.length i hi
    have e : ∀ j, j < 2 → W.cell? ⟨g, 0 + i * 2 + j, none⟩ = (pcs ps U ps.length)[i * 2 + j]? := fun j hj => by
      have e1 : W.cell? ⟨g, 0 + i * 2 + j, none⟩ = cur[i * 2 + j]? := by simp [World.cell?, hh]
      rw [e1, ← ht, List.getElem?_take_of_lt (by omega)]; simp
    have g0 : ps.getD i (0, []) = ps[i] := by rw [List.getD_eq_getElem?_getD, List.getElem?_eq_getElem hi]; rfl
    rw [g0] at f0
    exact ⟨(e 0 (by omega)).trans f0, U i, (e 1 (by omega)).trans f1, (hU i hi).1⟩
theorem Rw.same {B : Nat} {W W' : World} {v : Value} {ps : List Pd} (h : Rw B W v ps) (hb : ∀ k, B ≤ k → k < W.heap.size → W'.heap[k]? = W.heap[k]?) (hz : W.heap.size ≤ W'.heap.size) : Rw B W' v ps := by
  obtain ⟨U, hrow, hU⟩ := h
  refine ⟨U, own_keep hrow fun k hk => hb k (own_ge hrow k hk) (hrow.lt k hk).2, fun i hi => ⟨(hU i hi).1.same (fun k hk => ?_) hz, fun k hk => ?_⟩⟩
  · obtain ⟨k1, k2, k3⟩ := (hU i hi).2 k hk
    exact hb k k1 k2
  · obtain ⟨k1, k2, k3⟩ := (hU i hi).2 k hk
    exact ⟨k1, by omega, k3⟩
theorem Rw.nil (B : Nat) (W : World) : Rw B W (.slice none 0 0) [] := ⟨fun _ => .slice none 0 0, World.ownsRow_nil _ _ _ _, fun _ hi => absurd hi (Nat.not_lt_zero _)⟩
theorem Rw.form {B : Nat} {W : World} {v : Value} {ps : List Pd} (h : Rw B W v ps) : ∃ a c, v = .slice a ps.length c := own_row h.choose_spec.1
/-- All blocks below B but one are as they were. -/
structure Kb (B gb : Nat) (w w' : World) : Prop where
  os : w'.os = w.os
  tape : w'.tape = w.tape
  output : w'.output = w.output
  size : w.heap.size ≤ w'.heap.size
  block : ∀ k, k < B → k ≠ gb → w'.heap[k]? = w.heap[k]?
theorem Kb.trans {B gb : Nat} {w w' w'' : World} (h : Kb B gb w w') (k : Kb B gb w' w'') : Kb B gb w w'' :=
  ⟨k.os.trans h.os, k.tape.trans h.tape, k.output.trans h.output, Nat.le_trans h.size k.size, fun i hi hn => (k.block i hi hn).trans (h.block i hi hn)⟩
theorem Kb.refl (B gb : Nat) (w : World) : Kb B gb w w := ⟨rfl, rfl, rfl, Nat.le_refl _, fun _ _ _ => rfl⟩
theorem Kb.of_below {B gb : Nat} {w w' : World} (h : Below w.heap.size w w') (hB : B ≤ w.heap.size) : Kb B gb w w' := ⟨h.os, h.tape, h.output, h.size, fun k hk _ => h.block k (by omega)⟩
/-- What is held behind a line. -/
def Fin2 (B gb : Nat) (t n : Int) (ps : List Pd) (w w' : World) : Prop := ∃ v, w'.heap[gb]? = some (.cells #[.int .i64 t, .int .i64 n, v] 24) ∧ Rw B w' v ps ∧ Kb B gb w w'
theorem rw_step {B gb : Nat} {t n : Int} {ps : List Pd} {v : Value} {wr wa V : World} {U : Nat → Value} (hgB : gb < B) (hBw : B ≤ wr.heap.size) (hbox : wr.heap[gb]? = some (.cells #[.int .i64 t, .int .i64 n, v] 24))
    (hrow : wr.ownsRow B 39 2 v ps.length (pcs ps U ps.length)) (hU : ∀ i (hi : i < ps.length), Syms wr (U i) ps[i].2 ∧ ∀ k, (U i).ownBlock = some k → B ≤ k ∧ k < wr.heap.size ∧ v.ownBlock ≠ some k)
    (x : Int) (body : List Sy) (bv : Value) (ha : Below wr.heap.size wr wa) (hs : Syms wa bv body) (hbk : ∀ k, bv.ownBlock = some k → wr.heap.size ≤ k ∧ k < wa.heap.size) {gr cr : Nat}
    (hg : wa.grownBy V v.ownBlock) (hown : V.ownsRow B 39 2 (.slice (some ⟨gr, 0, none⟩) (ps.length + 1) cr) (ps.length + 1) (pcs ps U ps.length ++ [.int .i64 x, bv])) (hor : v.ownBlock = some gr ∨ wa.heap.size ≤ gr) :
    Fin2 B gb t n (ps ++ [(x, body)]) wr (V.setCell ⟨gb, 2, none⟩ (.slice (some ⟨gr, 0, none⟩) (ps.length + 1) cr)) := by
  have hasz := ha.size
  have hvz := hg.size
  have hoth : ∀ k, k ≠ gb → (V.setCell ⟨gb, 2, none⟩ (.slice (some ⟨gr, 0, none⟩) (ps.length + 1) cr)).heap[k]? = V.heap[k]? := fun k hk => Below.heap_setCell _ _ _ _ (by simpa using hk)
  have hsz : (V.setCell ⟨gb, 2, none⟩ (.slice (some ⟨gr, 0, none⟩) (ps.length + 1) cr)).heap.size = V.heap.size := by simp [World.setCell]
  have hold : ∀ k, k < wr.heap.size → v.ownBlock ≠ some k → V.heap[k]? = wr.heap[k]? := fun k hk hn => (hg.block k (by omega) (fun e => hn e.symm)).trans (ha.block k hk)
  have hno : ∀ k, k < B → v.ownBlock ≠ some k := fun k hk e => by have := own_ge hrow k e; omega
  have hvl : ∀ k, v.ownBlock = some k → k < wr.heap.size := fun k hk => (hrow.lt k hk).2
  have hmove : ∀ (u : Value) (m : List Sy), Syms wa u m → (∀ k, u.ownBlock = some k → B ≤ k ∧ k < wa.heap.size ∧ v.ownBlock ≠ some k) → Syms (V.setCell ⟨gb, 2, none⟩ (.slice (some ⟨gr, 0, none⟩) (ps.length + 1) cr)) u m ∧ ∀ k, u.ownBlock = some k → B ≤ k ∧ k < (V.setCell ⟨gb, 2, none⟩ (.slice (some ⟨gr, 0, none⟩) (ps.length + 1) cr)).heap.size ∧ (Value.slice (some ⟨gr, 0, none⟩) (ps.length + 1) cr).ownBlock ≠ some k := fun u m hu hk => by
    refine ⟨hu.same (fun k e => ?_) (by rw [hsz]; omega), fun k e => ?_⟩
    · obtain ⟨k1, k2, k3⟩ := hk k e
      rw [hoth k (by omega)]
      exact hg.block k k2 (fun e => k3 e.symm)
    · obtain ⟨k1, k2, k3⟩ := hk k e
      refine ⟨k1, by rw [hsz]; omega, fun e2 => ?_⟩
      simp [Value.ownBlock] at e2
      subst e2
      rcases hor with h' | h'
      · exact k3 h'
      · omega
  refine ⟨.slice (some ⟨gr, 0, none⟩) (ps.length + 1) cr, ?_, ⟨fun i => if i = ps.length then bv else U i, ?_, fun i hi => ?_⟩, ?_⟩
  · have := block_store (i := 2) ((hold gb (by omega) (hno gb hgB)).trans hbox) (.slice (some ⟨gr, 0, none⟩) (ps.length + 1) cr)
    simpa using this
  · rw [List.length_append, List.length_singleton]
    refine own_keep (xs := pcs (ps ++ [(x, body)]) (fun i => if i = ps.length then bv else U i) (ps.length + 1)) ?_ fun k hk => hoth k (by have := own_ge hown k hk; omega)
    rw [pcs_step, pcs_congr (ps ++ [(x, body)]) ps (fun i => if i = ps.length then bv else U i) U ps.length (fun i hi => ⟨if_neg (by omega), by
      rw [List.getD_eq_getElem?_getD, List.getD_eq_getElem?_getD, List.getElem?_append_left hi]⟩)]
    have e : (ps ++ [(x, body)]).getD ps.length (0, []) = (x, body) := by rw [List.getD_eq_getElem?_getD, List.getElem?_append_right (Nat.le_refl _)]; simp
    rw [e]
    simp only [if_true]
    exact hown
  · by_cases e : i = ps.length
    · subst e
      simp only [if_true, List.getElem_append_right (Nat.le_refl _), Nat.sub_self, List.getElem_singleton]
      exact hmove bv _ hs fun k hk => ⟨Nat.le_trans hBw (hbk k hk).1, (hbk k hk).2, fun e => by have := hvl k e; have := (hbk k hk).1; omega⟩
    · have hi' : i < ps.length := by rw [List.length_append, List.length_singleton] at hi; omega
      simp only [if_neg e, List.getElem_append_left hi']
      obtain ⟨k1, k2⟩ := hU i hi'
      exact hmove (U i) _ (k1.below ha) fun k hk => ⟨(k2 k hk).1, Nat.lt_of_lt_of_le (k2 k hk).2.1 hasz, (k2 k hk).2.2⟩
  · exact ⟨hg.os.trans ha.os, hg.tape.trans ha.tape, hg.output.trans ha.output, by rw [hsz]; omega, fun k hk hn => by rw [hoth k hn]; exact hold k (by omega) (hno k hk)⟩
structure RAd (w9 : World) (B gb pb vn vc bn bc : Nat) (va ba : Option Addr) (x : Int) (xs : List Value) (gb2 : Nat) (gr : Nat) (cr : Nat) (d : Nat → Bool) (x29 x30 x31 x32 x33 x34 x35 x36 x37 x38 : Value) (W : World) : Prop where
  f0 : d 0 = true → x29 = (.pointer (some ⟨gb, 0, none⟩))
  f1 : d 1 = true → x30 = (.pointer (some ⟨gb, 0, none⟩))
  f2 : d 2 = true → x31 = (.pointer (some ⟨gb, 0, none⟩))
  f3 : d 3 = true → x32 = (.pointer (some ⟨gb, 2, none⟩))
  f4 : d 4 = true → x33 = (.slice va vn vc)
  f5 : d 5 = true → x34 = (.agg #[.int .i64 x, (.slice ba bn bc)])
  f6 : d 6 = true → x35 = (.slice (some ⟨gb2, 0, none⟩) 1 1)
  f7 : d 7 = true → x36 = (.slice (some ⟨gr, 0, none⟩) (vn + 1) cr)
  f8 : d 8 = true → x37 = (.pointer (some ⟨gb, 0, none⟩))
  f9 : d 9 = true → x38 = (.pointer (some ⟨gb, 2, none⟩))
  f10 : d 10 = true → True
  ol : ∀ i, i < 10 → d 10 = true → d i = true
  c7 : d 7 = true → d 6 = true
  c9 : d 9 = true → d 8 = true
  kp : d 10 = false → w9.grownBy W (Value.ownBlock (.slice va vn vc))
  r0 : d 7 = false → W.ownsRow B 39 2 (.slice va vn vc) vn xs
  b0 : d 6 = true → d 7 = false → W.heap[gb2]? = some (.cells #[.int .i64 x, (.slice ba bn bc)] 39)
  r1 : d 7 = true → d 10 = false → W.ownsRow B 39 2 (.slice (some ⟨gr, 0, none⟩) (vn + 1) cr) (vn + 1) (xs ++ [.int .i64 x, (.slice ba bn bc)]) ∧ (Value.ownBlock (.slice va vn vc) = some gr ∨ w9.heap.size ≤ gr)
  fin : d 10 = true → ∃ V, w9.grownBy V (Value.ownBlock (.slice va vn vc)) ∧ V.ownsRow B 39 2 (.slice (some ⟨gr, 0, none⟩) (vn + 1) cr) (vn + 1) (xs ++ [.int .i64 x, (.slice ba bn bc)]) ∧ (Value.ownBlock (.slice va vn vc) = some gr ∨ w9.heap.size ≤ gr) ∧ W = V.setCell ⟨gb, 2, none⟩ (.slice (some ⟨gr, 0, none⟩) (vn + 1) cr)

set_option maxHeartbeats 8000000 in
set_option maxRecDepth 20000 in
theorem addLine_any (B gb : Nat) (g : St) (v : Value) (k : Nat) (s : ByteArray) (w : World) (hk : k ≤ 5000) (hgB : gb < B) (hBw : B ≤ w.heap.size) (hbox : w.heap[gb]? = some (.cells #[.int .i64 g.t, .int .i64 g.n, v] 24)) (hrw : Rw B w v g.ps) (hln : g.ps.length ≤ 5000) (hs : s.size ≤ 4096) (hm : Mx w) :
    Calls Tryd.prog 20 #[.pointer (some ⟨gb, 0, none⟩), .int .i64 (k : Int), .string s] w fun e w' => e = .returned (.bool (addR k g s.data.toList).2) ∧ Fin2 B gb (addR k g s.data.toList).1.t (addR k g s.data.toList).1.n (addR k g s.data.toList).1.ps w w' := by
  obtain ⟨i1, hi1, hy0, hy1, hy2⟩ := info_parts info39
  have HBX0 : Hid (w.heap[gb]? = some (.cells #[.int .i64 g.t, .int .i64 g.n, v] 24)) := hbox
  have HRW : Hid (Rw B w v g.ps) := hrw
  have HGB : Hid (gb < B ∧ B ≤ w.heap.size) := ⟨hgB, hBw⟩
  by_cases hk1 : k = 1
  · subst hk1
    obtain ⟨t, n, ok, HC⟩ : ∃ t n ok, Hid (countsR s.data.toList = ((t, n), ok)) := ⟨_, _, _, (rfl : countsR s.data.toList = countsR s.data.toList)⟩
    have HA : Hid (addR 1 g s.data.toList = (⟨t, n, g.ps⟩, ok)) := by show _ = _; unfold addR; rw [if_pos rfl, HC.out]
    rw [HA.out]
    have hc := readCounts_any s w hs hm
    rw [HC.out] at hc
    clear hs hm hbox hrw hgB hBw
    go_enter Tryd.func20, Tryd.ntmps20
    go_wp2_with fail
    refine hc.mono ?_
    rintro _ w1 ⟨rfl, hb⟩
    have hb1 : w1.heap[gb]? = some (.cells #[.int .i64 g.t, .int .i64 g.n, v] 24) := (hb.block gb (by have := HGB.out; omega)).trans HBX0.out
    have r1 := block_store (i := 0) hb1 (.int .i64 t)
    have r2 := block_store (i := 1) r1 (.int .i64 n)
    simp only [List.setIfInBounds_toArray, List.set_cons_zero, List.set_cons_succ] at r1 r2
    have y0 := cell_blk hb1 0
    have y1 := cell_blk r1 1
    have f0 := frozen_blk hb1 0
    have f1 := frozen_blk r1 1
    simp only [List.getElem?_toArray, List.getElem?_cons_zero, List.getElem?_cons_succ] at y0 y1
    have HFIN : Hid (Fin2 B gb t n g.ps w ((w1.setCell ⟨gb, 0, none⟩ (.int .i64 t)).setCell ⟨gb, 1, none⟩ (.int .i64 n))) := by
      have hoth : ∀ j, j ≠ gb → ((w1.setCell ⟨gb, 0, none⟩ (.int .i64 t)).setCell ⟨gb, 1, none⟩ (.int .i64 n)).heap[j]? = w1.heap[j]? := fun j hj => by
        rw [Below.heap_setCell _ _ _ _ (by simpa using hj), Below.heap_setCell _ _ _ _ (by simpa using hj)]
      have hsz : ((w1.setCell ⟨gb, 0, none⟩ (.int .i64 t)).setCell ⟨gb, 1, none⟩ (.int .i64 n)).heap.size = w1.heap.size := by simp [World.setCell]
      have h0 := HGB.out
      have h1 := hb.size
      exact ⟨v, r2, HRW.out.same (fun j h2 h3 => (hoth j (by omega)).trans (hb.block j h3)) (by rw [hsz]; exact h1), ⟨hb.os, hb.tape, hb.output, by rw [hsz]; exact h1, fun j h2 h3 => (hoth j h3).trans (hb.block j (by omega))⟩⟩
    clear hc hb hb1 r1 r2 HBX0 HRW
    go_wp2_with fail
    go_ret
    exact ⟨by simp, HFIN.out⟩
  · have hkb : ((k : Int) == 1) = false := by simp; omega
    obtain ⟨x, body, ok, HC⟩ : ∃ x body ok, Hid (prodR s.data.toList = ((x, body), ok)) := ⟨_, _, _, (rfl : prodR s.data.toList = prodR s.data.toList)⟩
    have HA : Hid (addR k g s.data.toList = (⟨g.t, g.n, g.ps ++ [(x, body)]⟩, ok)) := by show _ = _; unfold addR; rw [if_neg hk1, HC.out]
    rw [HA.out]
    have hc := readProd_any s w hs hm
    rw [HC.out] at hc
    clear hs hm hbox hrw hgB hBw hk1
    go_enter Tryd.func20, Tryd.ntmps20
    go_wp2_with fail
    refine hc.mono ?_
    rintro _ w1 ⟨ba, bc, rfl, hsy, hnw, hb⟩
    obtain ⟨bn, HBN⟩ : ∃ bn, Hid (body.length = bn) := ⟨_, (rfl : body.length = body.length)⟩
    rw [HBN.out] at hsy hnw ⊢
    obtain ⟨U, hrow, hU⟩ := HRW.out
    obtain ⟨va, vc, rfl⟩ := own_row hrow
    obtain ⟨vn, HVN⟩ : ∃ vn, Hid (g.ps.length = vn) := ⟨_, (rfl : g.ps.length = g.ps.length)⟩
    have HST : Hid (∀ (gr cr : Nat) (V : World), (w1.alloc (Obj.cells #[.int .i64 x, (.slice ba bn bc)] 39)).grownBy V (Value.ownBlock (.slice va g.ps.length vc)) → V.ownsRow B 39 2 (.slice (some ⟨gr, 0, none⟩) (g.ps.length + 1) cr) (g.ps.length + 1) (pcs g.ps U g.ps.length ++ [.int .i64 x, (.slice ba bn bc)]) → (Value.ownBlock (.slice va g.ps.length vc) = some gr ∨ (w1.alloc (Obj.cells #[.int .i64 x, (.slice ba bn bc)] 39)).heap.size ≤ gr) →
        Fin2 B gb g.t g.n (g.ps ++ [(x, body)]) w (V.setCell ⟨gb, 2, none⟩ (.slice (some ⟨gr, 0, none⟩) (g.ps.length + 1) cr))) := fun gr cr V k1 k2 k3 =>
      rw_step HGB.out.1 HGB.out.2 HBX0.out hrow hU x body (.slice ba bn bc) (hb.trans ((below_alloc w1 _).mono hb.size)) (hsy.below (below_alloc _ _)) (fun j hj => ⟨(hnw j hj).1, Nat.lt_of_lt_of_le (hnw j hj).2 (below_alloc w1 _).size⟩) k1 k2 k3
    have HOWN : Hid ((w1.alloc (Obj.cells #[.int .i64 x, (.slice ba bn bc)] 39)).ownsRow B 39 2 (.slice va g.ps.length vc) g.ps.length (pcs g.ps U g.ps.length)) := (own_below hrow hb).alloc _
    have HBX : Hid ((w1.alloc (Obj.cells #[.int .i64 x, (.slice ba bn bc)] 39)).heap[gb]? = some (.cells #[.int .i64 g.t, .int .i64 g.n, .slice va g.ps.length vc] 24)) := box_next (box_next HBX0.out hb) (below_alloc _ _)
    have HBW : Hid (B ≤ (w1.alloc (Obj.cells #[.int .i64 x, (.slice ba bn bc)] 39)).heap.size) := Nat.le_trans HGB.out.2 (Nat.le_trans hb.size (below_alloc w1 _).size)
    have HKB : Hid ((gb < (w1.alloc (Obj.cells #[.int .i64 x, (.slice ba bn bc)] 39)).heap.size ∧ some gb ≠ Value.ownBlock (.slice va g.ps.length vc)) ∧ (w1.heap.size < (w1.alloc (Obj.cells #[.int .i64 x, (.slice ba bn bc)] 39)).heap.size ∧ some w1.heap.size ≠ Value.ownBlock (.slice va g.ps.length vc))) :=
      ⟨⟨by have := HGB.out; have := HBW.out; omega, fun e => by have := own_ge hrow _ e.symm; have := HGB.out; omega⟩, ⟨by simp, fun e => by have := (hrow.lt _ e.symm).2; have := hb.size; omega⟩⟩
    have HC2 : Hid ((w1.alloc (Obj.cells #[.int .i64 x, (.slice ba bn bc)] 39)).cell? ⟨gb, 2, none⟩ = some (.slice va g.ps.length vc) ∧ (w1.alloc (Obj.cells #[.int .i64 x, (.slice ba bn bc)] 39)).cell? ⟨w1.heap.size, 0, none⟩ = some (.int .i64 x) ∧ (w1.alloc (Obj.cells #[.int .i64 x, (.slice ba bn bc)] 39)).cell? ⟨w1.heap.size, 1, none⟩ = some (.slice ba bn bc)) :=
      ⟨cell_blk HBX.out 2, cell_new w1 _ 39 0, cell_new w1 _ 39 1⟩
    have HK1 : Hid (vn ≤ 5000) := by show _ ≤ _; rw [← HVN.out]; exact hln
    rw [HVN.out] at HST HOWN HBX HKB HC2
    clear hc hb hsy hnw hrow hU HRW HBX0 HGB
    go_upto_region 6 with (fail)
    generalize w1.alloc (Obj.cells #[.int .i64 x, (.slice ba bn bc)] 39) = wa at HST HOWN HBX HBW HKB HC2 ⊢
    generalize w1.heap.size = pb at HKB HC2 ⊢
    obtain ⟨xs, HXS⟩ : ∃ xs, Hid (pcs g.ps U vn = xs) := ⟨_, (rfl : pcs g.ps U vn = pcs g.ps U vn)⟩
    rw [HXS.out] at HST HOWN
    have HC : Hid _ := HC2
    clear HC2
    refine wp_region_free mixed (fun a0 d a W => ∃ (gb2 : Nat) (gr : Nat) (cr : Nat) (x29 x30 x31 x32 x33 x34 x35 x36 x37 x38 : Value), a = ((((((((((a0.put (some 29) x29).put (some 30) x30).put (some 31) x31).put (some 32) x32).put (some 33) x33).put (some 34) x34).put (some 35) x35).put (some 36) x36).put (some 37) x37).put (some 38) x38) ∧ Hid (RAd wa B gb pb vn vc bn bc va ba x xs gb2 gr cr d x29 x30 x31 x32 x33 x34 x35 x36 x37 x38 W)) (by kernel_rfl) ⟨0, 0, 0, undef, undef, undef, undef, undef, undef, undef, undef, undef, undef, by simp only [Act.put, List.setIfInBounds_toArray, List.set_cons_zero, List.set_cons_succ], ?_⟩ ?_ ?_
    · exact ⟨fun h => no_way h, fun h => no_way h, fun h => no_way h, fun h => no_way h, fun h => no_way h, fun h => no_way h, fun h => no_way h, fun h => no_way h, fun h => no_way h, fun h => no_way h, fun _ => trivial, fun _ _ h => no_way h, fun h => no_way h, fun h => no_way h, fun _ => gb_drew (World.grownBy.refl _ _), fun _ => HOWN.out, fun h => no_way h, fun h => no_way h, fun h => no_way h⟩
    · simp only [StepAll, and_true]
      refine ⟨?_, ?_, ?_, ?_, ?_, ?_, ?_, ?_, ?_, ?_, ?_⟩
      · intro d a W hI hd hdep
        obtain ⟨gb2, gr, cr, x29, x30, x31, x32, x33, x34, x35, x36, x37, x38, rfl, hF⟩ := hI
        clear hdep hd
        intro K hK
        simp only [Act.put, List.setIfInBounds_toArray, List.set_cons_zero, List.set_cons_succ]
        go_simp
        refine hK.out _ _ ⟨gb2, gr, cr, (.pointer (some ⟨gb, 0, none⟩)), x30, x31, x32, x33, x34, x35, x36, x37, x38, by simp only [Act.put, List.setIfInBounds_toArray, List.set_cons_zero, List.set_cons_succ], ?_⟩
        exact ⟨fun _ => rfl, fun h => hF.out.f1 (by simpa using h), fun h => hF.out.f2 (by simpa using h), fun h => hF.out.f3 (by simpa using h), fun h => hF.out.f4 (by simpa using h), fun h => hF.out.f5 (by simpa using h), fun h => hF.out.f6 (by simpa using h), fun h => hF.out.f7 (by simpa using h), fun h => hF.out.f8 (by simpa using h), fun h => hF.out.f9 (by simpa using h), fun h => hF.out.f10 (by simpa using h), fun i hi h => by have := hF.out.ol i hi (by simpa using h); simp [this], fun h => by have := hF.out.c7 (by simpa using h); simpa using this, fun h => by have := hF.out.c9 (by simpa using h); simpa using this, fun h => hF.out.kp (by simpa using h), fun h => hF.out.r0 (by simpa using h), fun h h2 => hF.out.b0 (by simpa using h) (by simpa using h2), fun h h2 => hF.out.r1 (by simpa using h) (by simpa using h2), fun h => hF.out.fin (by simpa using h)⟩
      · intro d a W hI hd hdep
        obtain ⟨gb2, gr, cr, x29, x30, x31, x32, x33, x34, x35, x36, x37, x38, rfl, hF⟩ := hI
        clear hdep hd
        intro K hK
        simp only [Act.put, List.setIfInBounds_toArray, List.set_cons_zero, List.set_cons_succ]
        go_simp
        refine hK.out _ _ ⟨gb2, gr, cr, x29, (.pointer (some ⟨gb, 0, none⟩)), x31, x32, x33, x34, x35, x36, x37, x38, by simp only [Act.put, List.setIfInBounds_toArray, List.set_cons_zero, List.set_cons_succ], ?_⟩
        exact ⟨fun h => hF.out.f0 (by simpa using h), fun _ => rfl, fun h => hF.out.f2 (by simpa using h), fun h => hF.out.f3 (by simpa using h), fun h => hF.out.f4 (by simpa using h), fun h => hF.out.f5 (by simpa using h), fun h => hF.out.f6 (by simpa using h), fun h => hF.out.f7 (by simpa using h), fun h => hF.out.f8 (by simpa using h), fun h => hF.out.f9 (by simpa using h), fun h => hF.out.f10 (by simpa using h), fun i hi h => by have := hF.out.ol i hi (by simpa using h); simp [this], fun h => by have := hF.out.c7 (by simpa using h); simpa using this, fun h => by have := hF.out.c9 (by simpa using h); simpa using this, fun h => hF.out.kp (by simpa using h), fun h => hF.out.r0 (by simpa using h), fun h h2 => hF.out.b0 (by simpa using h) (by simpa using h2), fun h h2 => hF.out.r1 (by simpa using h) (by simpa using h2), fun h => hF.out.fin (by simpa using h)⟩
      · intro d a W hI hd hdep
        obtain ⟨gb2, gr, cr, x29, x30, x31, x32, x33, x34, x35, x36, x37, x38, rfl, hF⟩ := hI
        have hd1 : d 1 = true := dep_of hdep 1 (by kernel_rfl)
        obtain rfl := hF.out.f1 hd1
        clear hdep hd hd1
        intro K hK
        simp only [Act.put, List.setIfInBounds_toArray, List.set_cons_zero, List.set_cons_succ]
        go_simp
        refine hK.out _ _ ⟨gb2, gr, cr, x29, (.pointer (some ⟨gb, 0, none⟩)), (.pointer (some ⟨gb, 0, none⟩)), x32, x33, x34, x35, x36, x37, x38, by simp only [Act.put, List.setIfInBounds_toArray, List.set_cons_zero, List.set_cons_succ], ?_⟩
        exact ⟨fun h => hF.out.f0 (by simpa using h), fun h => hF.out.f1 (by simpa using h), fun _ => rfl, fun h => hF.out.f3 (by simpa using h), fun h => hF.out.f4 (by simpa using h), fun h => hF.out.f5 (by simpa using h), fun h => hF.out.f6 (by simpa using h), fun h => hF.out.f7 (by simpa using h), fun h => hF.out.f8 (by simpa using h), fun h => hF.out.f9 (by simpa using h), fun h => hF.out.f10 (by simpa using h), fun i hi h => by have := hF.out.ol i hi (by simpa using h); simp [this], fun h => by have := hF.out.c7 (by simpa using h); simpa using this, fun h => by have := hF.out.c9 (by simpa using h); simpa using this, fun h => hF.out.kp (by simpa using h), fun h => hF.out.r0 (by simpa using h), fun h h2 => hF.out.b0 (by simpa using h) (by simpa using h2), fun h h2 => hF.out.r1 (by simpa using h) (by simpa using h2), fun h => hF.out.fin (by simpa using h)⟩
      · intro d a W hI hd hdep
        obtain ⟨gb2, gr, cr, x29, x30, x31, x32, x33, x34, x35, x36, x37, x38, rfl, hF⟩ := hI
        have hd2 : d 2 = true := dep_of hdep 2 (by kernel_rfl)
        obtain rfl := hF.out.f2 hd2
        clear hdep hd hd2
        intro K hK
        simp only [Act.put, List.setIfInBounds_toArray, List.set_cons_zero, List.set_cons_succ]
        go_simp
        refine hK.out _ _ ⟨gb2, gr, cr, x29, x30, (.pointer (some ⟨gb, 0, none⟩)), (.pointer (some ⟨gb, 2, none⟩)), x33, x34, x35, x36, x37, x38, by simp only [Act.put, List.setIfInBounds_toArray, List.set_cons_zero, List.set_cons_succ], ?_⟩
        exact ⟨fun h => hF.out.f0 (by simpa using h), fun h => hF.out.f1 (by simpa using h), fun h => hF.out.f2 (by simpa using h), fun _ => rfl, fun h => hF.out.f4 (by simpa using h), fun h => hF.out.f5 (by simpa using h), fun h => hF.out.f6 (by simpa using h), fun h => hF.out.f7 (by simpa using h), fun h => hF.out.f8 (by simpa using h), fun h => hF.out.f9 (by simpa using h), fun h => hF.out.f10 (by simpa using h), fun i hi h => by have := hF.out.ol i hi (by simpa using h); simp [this], fun h => by have := hF.out.c7 (by simpa using h); simpa using this, fun h => by have := hF.out.c9 (by simpa using h); simpa using this, fun h => hF.out.kp (by simpa using h), fun h => hF.out.r0 (by simpa using h), fun h h2 => hF.out.b0 (by simpa using h) (by simpa using h2), fun h h2 => hF.out.r1 (by simpa using h) (by simpa using h2), fun h => hF.out.fin (by simpa using h)⟩
      · intro d a W hI hd hdep
        obtain ⟨gb2, gr, cr, x29, x30, x31, x32, x33, x34, x35, x36, x37, x38, rfl, hF⟩ := hI
        have hd3 : d 3 = true := dep_of hdep 3 (by kernel_rfl)
        obtain rfl := hF.out.f3 hd3
        have HNL : Hid (d 10 = false) := no_later (hF.out.ol 4 (by omega)) hd
        have ya : W.cell? ⟨gb, 2, none⟩ = some (.slice va vn vc) := (gb_old (hF.out.kp HNL.out) (p := ⟨gb, 2, none⟩) HKB.out.1.1 HKB.out.1.2).trans HC.out.1
        clear hdep hd hd3
        intro K hK
        simp only [Act.put, List.setIfInBounds_toArray, List.set_cons_zero, List.set_cons_succ]
        go_simp
        refine hK.out _ _ ⟨gb2, gr, cr, x29, x30, x31, (.pointer (some ⟨gb, 2, none⟩)), (.slice va vn vc), x34, x35, x36, x37, x38, by simp only [Act.put, List.setIfInBounds_toArray, List.set_cons_zero, List.set_cons_succ], ?_⟩
        exact ⟨fun h => hF.out.f0 (by simpa using h), fun h => hF.out.f1 (by simpa using h), fun h => hF.out.f2 (by simpa using h), fun h => hF.out.f3 (by simpa using h), fun _ => rfl, fun h => hF.out.f5 (by simpa using h), fun h => hF.out.f6 (by simpa using h), fun h => hF.out.f7 (by simpa using h), fun h => hF.out.f8 (by simpa using h), fun h => hF.out.f9 (by simpa using h), fun h => hF.out.f10 (by simpa using h), fun i hi h => by have := hF.out.ol i hi (by simpa using h); simp [this], fun h => by have := hF.out.c7 (by simpa using h); simpa using this, fun h => by have := hF.out.c9 (by simpa using h); simpa using this, fun h => hF.out.kp (by simpa using h), fun h => hF.out.r0 (by simpa using h), fun h h2 => hF.out.b0 (by simpa using h) (by simpa using h2), fun h h2 => hF.out.r1 (by simpa using h) (by simpa using h2), fun h => hF.out.fin (by simpa using h)⟩
      · intro d a W hI hd hdep
        obtain ⟨gb2, gr, cr, x29, x30, x31, x32, x33, x34, x35, x36, x37, x38, rfl, hF⟩ := hI
        have HNL : Hid (d 10 = false) := no_later (hF.out.ol 5 (by omega)) hd
        have ya : W.cell? ⟨pb, 0, none⟩ = some (.int .i64 x) := (gb_old (hF.out.kp HNL.out) (p := ⟨pb, 0, none⟩) HKB.out.2.1 HKB.out.2.2).trans HC.out.2.1
        have yb : W.cell? ⟨pb, 1, none⟩ = some (.slice ba bn bc) := (gb_old (hF.out.kp HNL.out) (p := ⟨pb, 1, none⟩) HKB.out.2.1 HKB.out.2.2).trans HC.out.2.2
        clear hdep hd
        intro K hK
        simp only [Act.put, List.setIfInBounds_toArray, List.set_cons_zero, List.set_cons_succ]
        go_simp
        refine hK.out _ _ ⟨gb2, gr, cr, x29, x30, x31, x32, x33, (.agg #[.int .i64 x, (.slice ba bn bc)]), x35, x36, x37, x38, by simp only [Act.put, List.setIfInBounds_toArray, List.set_cons_zero, List.set_cons_succ], ?_⟩
        exact ⟨fun h => hF.out.f0 (by simpa using h), fun h => hF.out.f1 (by simpa using h), fun h => hF.out.f2 (by simpa using h), fun h => hF.out.f3 (by simpa using h), fun h => hF.out.f4 (by simpa using h), fun _ => rfl, fun h => hF.out.f6 (by simpa using h), fun h => hF.out.f7 (by simpa using h), fun h => hF.out.f8 (by simpa using h), fun h => hF.out.f9 (by simpa using h), fun h => hF.out.f10 (by simpa using h), fun i hi h => by have := hF.out.ol i hi (by simpa using h); simp [this], fun h => by have := hF.out.c7 (by simpa using h); simpa using this, fun h => by have := hF.out.c9 (by simpa using h); simpa using this, fun h => hF.out.kp (by simpa using h), fun h => hF.out.r0 (by simpa using h), fun h h2 => hF.out.b0 (by simpa using h) (by simpa using h2), fun h h2 => hF.out.r1 (by simpa using h) (by simpa using h2), fun h => hF.out.fin (by simpa using h)⟩
      · intro d a W hI hd hdep
        obtain ⟨gb2, gr, cr, x29, x30, x31, x32, x33, x34, x35, x36, x37, x38, rfl, hF⟩ := hI
        have hd5 : d 5 = true := dep_of hdep 5 (by kernel_rfl)
        obtain rfl := hF.out.f5 hd5
        have HNL : Hid (d 10 = false) := no_later (hF.out.ol 6 (by omega)) hd
        have HN7 : Hid (d 7 = false) := no_later hF.out.c7 hd
        clear hdep hd hd5
        intro K hK
        simp only [Act.put, List.setIfInBounds_toArray, List.set_cons_zero, List.set_cons_succ]
        go_simp
        refine hK.out _ _ ⟨W.heap.size, gr, cr, x29, x30, x31, x32, x33, (.agg #[.int .i64 x, (.slice ba bn bc)]), (.slice (some ⟨W.heap.size, 0, none⟩) 1 1), x36, x37, x38, by simp only [Act.put, List.setIfInBounds_toArray, List.set_cons_zero, List.set_cons_succ], ?_⟩
        exact ⟨fun h => hF.out.f0 (by simpa using h), fun h => hF.out.f1 (by simpa using h), fun h => hF.out.f2 (by simpa using h), fun h => hF.out.f3 (by simpa using h), fun h => hF.out.f4 (by simpa using h), fun h => hF.out.f5 (by simpa using h), fun _ => rfl, fun h => by have := HN7.out; simp [this] at h, fun h => hF.out.f8 (by simpa using h), fun h => hF.out.f9 (by simpa using h), fun h => hF.out.f10 (by simpa using h), fun i hi h => by have := hF.out.ol i hi (by simpa using h); simp [this], fun _ => by simp, fun h => by have := hF.out.c9 (by simpa using h); simpa using this, fun _ => gb_alloc (hF.out.kp HNL.out) _, fun _ => (hF.out.r0 HN7.out).alloc _, fun _ _ => heap_alloc_new _ _, fun h => by have := HN7.out; simp [this] at h, fun h => by have := HNL.out; simp [this] at h⟩
      · intro d a W hI hd hdep
        obtain ⟨gb2, gr, cr, x29, x30, x31, x32, x33, x34, x35, x36, x37, x38, rfl, hF⟩ := hI
        have hd4 : d 4 = true := dep_of hdep 4 (by kernel_rfl)
        have hd6 : d 6 = true := dep_of hdep 6 (by kernel_rfl)
        obtain rfl := hF.out.f4 hd4
        obtain rfl := hF.out.f6 hd6
        have HNL : Hid (d 10 = false) := no_later (hF.out.ol 7 (by omega)) hd
        have HD6 : Hid (d 6 = true) := hd6
        have hm := run_append_lies (P := Tryd.prog) W 22 22 B 39 i1 _ 2 32 Tryd.underlying22 hi1 hy0 hy1 hy2 rfl (by omega) (.slice va vn vc) vn xs (hF.out.r0 hd) ⟨gb2, 0, none⟩ 1 1 [.int .i64 x, (.slice ba bn bc)] rfl (World.news_of_block (t := 39) (fr := (0, 0)) (hF.out.b0 hd6 hd)) (by simp [Value.oneCell']) (by omega) (by unfold maxLen; have := HK1.out; omega) (by have := HK1.out; omega) (Nat.le_trans HBW.out (hF.out.kp HNL.out).size) W.heap.size rfl
        have hmm := hm.choose_spec.choose_spec.choose_spec
        generalize hm.choose_spec.choose_spec.choose = W1 at hmm
        generalize hm.choose_spec.choose = cr1 at hmm
        generalize hm.choose = gr1 at hmm
        have hrun := hmm.1
        have HM : Hid (W1.ownsRow B 39 2 (.slice (some ⟨gr1, 0, none⟩) (vn + 1) cr1) (vn + 1) (xs ++ [.int .i64 x, (.slice ba bn bc)]) ∧ W.grownBy W1 (Value.ownBlock (.slice va vn vc)) ∧ (Value.ownBlock (.slice va vn vc) = some gr1 ∨ gr1 = W.heap.size)) := ⟨hmm.2.1, hmm.2.2.1, hmm.2.2.2.1⟩
        have HSZ7 : Hid (wa.heap.size ≤ W.heap.size) := (hF.out.kp HNL.out).size
        clear hmm hm
        clear hdep hd hd4 hd6
        intro K hK
        refine step_call_append (sv := (.slice va vn vc)) (xv := (.slice (some ⟨gb2, 0, none⟩) 1 1)) (v := .slice (some ⟨gr1, 0, none⟩) (vn + 1) cr1) (W1 := W1) (by rfl) _ _ 22 (by rfl) (by simp only [Act.put, List.setIfInBounds_toArray, List.set_cons_zero, List.set_cons_succ]; rfl) (by simp only [Act.put, List.setIfInBounds_toArray, List.set_cons_zero, List.set_cons_succ]; rfl) (by exact hrun) ?_
        simp only [Act.put, List.setIfInBounds_toArray, List.set_cons_zero, List.set_cons_succ]
        refine hK.out _ _ ⟨gb2, gr1, cr1, x29, x30, x31, x32, (.slice va vn vc), x34, (.slice (some ⟨gb2, 0, none⟩) 1 1), (.slice (some ⟨gr1, 0, none⟩) (vn + 1) cr1), x37, x38, by simp only [Act.put, List.setIfInBounds_toArray, List.set_cons_zero, List.set_cons_succ], ?_⟩
        exact ⟨fun h => hF.out.f0 (by simpa using h), fun h => hF.out.f1 (by simpa using h), fun h => hF.out.f2 (by simpa using h), fun h => hF.out.f3 (by simpa using h), fun h => hF.out.f4 (by simpa using h), fun h => hF.out.f5 (by simpa using h), fun h => hF.out.f6 (by simpa using h), fun _ => rfl, fun h => hF.out.f8 (by simpa using h), fun h => hF.out.f9 (by simpa using h), fun h => hF.out.f10 (by simpa using h), fun i hi h => by have := hF.out.ol i hi (by simpa using h); simp [this], fun _ => by simpa using HD6.out, fun h => by have := hF.out.c9 (by simpa using h); simpa using this, fun _ => gb_then (hF.out.kp HNL.out) HM.out.2.1, fun h => by simp at h, fun _ h => by simp at h, fun _ _ => ⟨HM.out.1, HM.out.2.2.imp id (fun e => by rw [e]; exact HSZ7.out)⟩, fun h => by have := HNL.out; simp [this] at h⟩
      · intro d a W hI hd hdep
        obtain ⟨gb2, gr, cr, x29, x30, x31, x32, x33, x34, x35, x36, x37, x38, rfl, hF⟩ := hI
        have hd0 : d 0 = true := dep_of hdep 0 (by kernel_rfl)
        obtain rfl := hF.out.f0 hd0
        clear hdep hd hd0
        intro K hK
        simp only [Act.put, List.setIfInBounds_toArray, List.set_cons_zero, List.set_cons_succ]
        go_simp
        refine hK.out _ _ ⟨gb2, gr, cr, (.pointer (some ⟨gb, 0, none⟩)), x30, x31, x32, x33, x34, x35, x36, (.pointer (some ⟨gb, 0, none⟩)), x38, by simp only [Act.put, List.setIfInBounds_toArray, List.set_cons_zero, List.set_cons_succ], ?_⟩
        exact ⟨fun h => hF.out.f0 (by simpa using h), fun h => hF.out.f1 (by simpa using h), fun h => hF.out.f2 (by simpa using h), fun h => hF.out.f3 (by simpa using h), fun h => hF.out.f4 (by simpa using h), fun h => hF.out.f5 (by simpa using h), fun h => hF.out.f6 (by simpa using h), fun h => hF.out.f7 (by simpa using h), fun _ => rfl, fun h => hF.out.f9 (by simpa using h), fun h => hF.out.f10 (by simpa using h), fun i hi h => by have := hF.out.ol i hi (by simpa using h); simp [this], fun h => by have := hF.out.c7 (by simpa using h); simpa using this, fun _ => by simp, fun h => hF.out.kp (by simpa using h), fun h => hF.out.r0 (by simpa using h), fun h h2 => hF.out.b0 (by simpa using h) (by simpa using h2), fun h h2 => hF.out.r1 (by simpa using h) (by simpa using h2), fun h => hF.out.fin (by simpa using h)⟩
      · intro d a W hI hd hdep
        obtain ⟨gb2, gr, cr, x29, x30, x31, x32, x33, x34, x35, x36, x37, x38, rfl, hF⟩ := hI
        have hd8 : d 8 = true := dep_of hdep 8 (by kernel_rfl)
        obtain rfl := hF.out.f8 hd8
        have HD8 : Hid (d 8 = true) := hd8
        clear hdep hd hd8
        intro K hK
        simp only [Act.put, List.setIfInBounds_toArray, List.set_cons_zero, List.set_cons_succ]
        go_simp
        refine hK.out _ _ ⟨gb2, gr, cr, x29, x30, x31, x32, x33, x34, x35, x36, (.pointer (some ⟨gb, 0, none⟩)), (.pointer (some ⟨gb, 2, none⟩)), by simp only [Act.put, List.setIfInBounds_toArray, List.set_cons_zero, List.set_cons_succ], ?_⟩
        exact ⟨fun h => hF.out.f0 (by simpa using h), fun h => hF.out.f1 (by simpa using h), fun h => hF.out.f2 (by simpa using h), fun h => hF.out.f3 (by simpa using h), fun h => hF.out.f4 (by simpa using h), fun h => hF.out.f5 (by simpa using h), fun h => hF.out.f6 (by simpa using h), fun h => hF.out.f7 (by simpa using h), fun h => hF.out.f8 (by simpa using h), fun _ => rfl, fun h => hF.out.f10 (by simpa using h), fun i hi h => by have := hF.out.ol i hi (by simpa using h); simp [this], fun h => by have := hF.out.c7 (by simpa using h); simpa using this, fun _ => by simpa using HD8.out, fun h => hF.out.kp (by simpa using h), fun h => hF.out.r0 (by simpa using h), fun h h2 => hF.out.b0 (by simpa using h) (by simpa using h2), fun h h2 => hF.out.r1 (by simpa using h) (by simpa using h2), fun h => hF.out.fin (by simpa using h)⟩
      · intro d a W hI hd hdep
        obtain ⟨gb2, gr, cr, x29, x30, x31, x32, x33, x34, x35, x36, x37, x38, rfl, hF⟩ := hI
        have hd0 : d 0 = true := dep_of hdep 0 (by kernel_rfl)
        have hd1 : d 1 = true := dep_of hdep 1 (by kernel_rfl)
        have hd2 : d 2 = true := dep_of hdep 2 (by kernel_rfl)
        have hd3 : d 3 = true := dep_of hdep 3 (by kernel_rfl)
        have hd4 : d 4 = true := dep_of hdep 4 (by kernel_rfl)
        have hd5 : d 5 = true := dep_of hdep 5 (by kernel_rfl)
        have hd6 : d 6 = true := dep_of hdep 6 (by kernel_rfl)
        have hd7 : d 7 = true := dep_of hdep 7 (by kernel_rfl)
        have hd9 : d 9 = true := dep_of hdep 9 (by kernel_rfl)
        obtain rfl := hF.out.f0 hd0
        obtain rfl := hF.out.f1 hd1
        obtain rfl := hF.out.f2 hd2
        obtain rfl := hF.out.f3 hd3
        obtain rfl := hF.out.f4 hd4
        obtain rfl := hF.out.f5 hd5
        obtain rfl := hF.out.f6 hd6
        obtain rfl := hF.out.f7 hd7
        obtain rfl := hF.out.f9 hd9
        have hd8 : d 8 = true := hF.out.c9 hd9
        obtain rfl := hF.out.f8 hd8
        have HD : Hid (∀ i, i < 10 → d i = true) := fun i hi => by
          have : i = 0 ∨ i = 1 ∨ i = 2 ∨ i = 3 ∨ i = 4 ∨ i = 5 ∨ i = 6 ∨ i = 7 ∨ i = 8 ∨ i = 9 := by omega
          rcases this with rfl | rfl | rfl | rfl | rfl | rfl | rfl | rfl | rfl | rfl <;> assumption
        have HKP : Hid (wa.grownBy W (Value.ownBlock (.slice va vn vc))) := hF.out.kp hd
        have HR1 : Hid (W.ownsRow B 39 2 (.slice (some ⟨gr, 0, none⟩) (vn + 1) cr) (vn + 1) (xs ++ [.int .i64 x, (.slice ba bn bc)]) ∧ (Value.ownBlock (.slice va vn vc) = some gr ∨ wa.heap.size ≤ gr)) := hF.out.r1 hd7 hd
        have hblk := (HKP.out.block gb HKB.out.1.1 HKB.out.1.2).trans HBX.out
        have ya := cell_blk hblk 2
        have yb := frozen_blk hblk 2
        clear hblk
        simp only [List.getElem?_toArray, List.getElem?_cons_zero, List.getElem?_cons_succ] at ya
        clear hdep hd hd0 hd1 hd2 hd3 hd4 hd5 hd6 hd7 hd9
        intro K hK
        simp only [Act.put, List.setIfInBounds_toArray, List.set_cons_zero, List.set_cons_succ]
        go_simp
        refine hK.out _ _ ⟨gb2, gr, cr, (.pointer (some ⟨gb, 0, none⟩)), (.pointer (some ⟨gb, 0, none⟩)), (.pointer (some ⟨gb, 0, none⟩)), (.pointer (some ⟨gb, 2, none⟩)), (.slice va vn vc), (.agg #[.int .i64 x, (.slice ba bn bc)]), (.slice (some ⟨gb2, 0, none⟩) 1 1), (.slice (some ⟨gr, 0, none⟩) (vn + 1) cr), (.pointer (some ⟨gb, 0, none⟩)), (.pointer (some ⟨gb, 2, none⟩)), by simp only [Act.put, List.setIfInBounds_toArray, List.set_cons_zero, List.set_cons_succ], ?_⟩
        exact ⟨fun h => hF.out.f0 (by simpa using h), fun h => hF.out.f1 (by simpa using h), fun h => hF.out.f2 (by simpa using h), fun h => hF.out.f3 (by simpa using h), fun h => hF.out.f4 (by simpa using h), fun h => hF.out.f5 (by simpa using h), fun h => hF.out.f6 (by simpa using h), fun h => hF.out.f7 (by simpa using h), fun h => hF.out.f8 (by simpa using h), fun h => hF.out.f9 (by simpa using h), fun _ => trivial, fun i hi _ => by have := HD.out i hi; simp [this], fun h => by have := hF.out.c7 (by simpa using h); simpa using this, fun h => by have := hF.out.c9 (by simpa using h); simpa using this, fun h => by simp at h, fun h => by have := HD.out 7 (by omega); simp [this] at h, fun _ h => by have := HD.out 7 (by omega); simp [this] at h, fun _ h => by simp at h, fun _ => ⟨W, HKP.out, HR1.out.1, HR1.out.2, rfl⟩⟩
    · intro d a W hI hall
      obtain ⟨gb2, gr, cr, x29, x30, x31, x32, x33, x34, x35, x36, x37, x38, rfl, hF⟩ := hI
      simp only [List.length_cons, List.length_nil] at hall
      obtain rfl := hF.out.f0 (hall 0 (by omega))
      obtain rfl := hF.out.f1 (hall 1 (by omega))
      obtain rfl := hF.out.f2 (hall 2 (by omega))
      obtain rfl := hF.out.f3 (hall 3 (by omega))
      obtain rfl := hF.out.f4 (hall 4 (by omega))
      obtain rfl := hF.out.f5 (hall 5 (by omega))
      obtain rfl := hF.out.f6 (hall 6 (by omega))
      obtain rfl := hF.out.f7 (hall 7 (by omega))
      obtain rfl := hF.out.f8 (hall 8 (by omega))
      obtain rfl := hF.out.f9 (hall 9 (by omega))
      obtain ⟨V, v1, v2, v3, rfl⟩ := hF.out.fin (hall 10 (by omega))
      have HV : Hid (wa.grownBy V (Value.ownBlock (.slice va vn vc)) ∧ V.ownsRow B 39 2 (.slice (some ⟨gr, 0, none⟩) (vn + 1) cr) (vn + 1) (xs ++ [.int .i64 x, (.slice ba bn bc)]) ∧ (Value.ownBlock (.slice va vn vc) = some gr ∨ wa.heap.size ≤ gr)) := ⟨v1, v2, v3⟩
      clear hF hall v1 v2 v3
      simp only [Act.put, List.setIfInBounds_toArray, List.set_cons_zero, List.set_cons_succ]
      have HFIN := HST.out gr cr V HV.out.1 HV.out.2.1 HV.out.2.2
      replace HFIN : Hid (Fin2 B gb g.t g.n (g.ps ++ [(x, body)]) w (V.setCell ⟨gb, 2, none⟩ (.slice (some ⟨gr, 0, none⟩) (vn + 1) cr))) := HFIN
      clear HST HV
      generalize V.setCell ⟨gb, 2, none⟩ (.slice (some ⟨gr, 0, none⟩) (vn + 1) cr) = WN at HFIN ⊢
      go_wp2_with fail
      go_ret
      exact ⟨by simp, HFIN.out⟩

end Go.Proofs.YtgoafahglajfmaaDoor
